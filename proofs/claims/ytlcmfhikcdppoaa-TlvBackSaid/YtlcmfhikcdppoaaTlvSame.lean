/-
  What the document's Same and SameAll do, of things that are one.
-/
import Derived.Test.YtlcmfhikcdppoaaTlvRef
namespace Go.Proofs.Ytlcmfhikcdppoaa
open Go.RowKit Wire Tlv

set_option maxRecDepth 100000 in
set_option maxHeartbeats 1000000 in
theorem same_any (x : Tv) (A : Option Addr) (n c : Nat) (A' : Option Addr) (n' c' : Nat) (w : World) (hl : x.v.length = n) (hl' : x.v.length = n') (hr : Row w A (bs x.v)) (hr' : Row w A' (bs x.v)) :
    Calls Try.prog 12 #[.agg #[.int .u16 (x.k : Int), .int .u8 (x.f : Int), .slice A n c], .agg #[.int .u16 (x.k : Int), .int .u8 (x.f : Int), .slice A' n' c']] w fun e w' => e = .returned (.bool true) ∧ Below w.heap.size w w' := by
  have h1 := (hr.alloc (.cells #[.int .u16 (x.k : Int), .int .u8 (x.f : Int), .slice A n c] 25)).alloc (.cells #[.int .u16 (x.k : Int), .int .u8 (x.f : Int), .slice A' n' c'] 25)
  have h2 := (hr'.alloc (.cells #[.int .u16 (x.k : Int), .int .u8 (x.f : Int), .slice A n c] 25)).alloc (.cells #[.int .u16 (x.k : Int), .int .u8 (x.f : Int), .slice A' n' c'] 25)
  have cv1 := run_strOf (P := Try.prog) (src := 23) (dst := 9) (c := c) Try.underlying23 Try.underlying5 Try.underlying9 hl h1
  have cv2 := run_strOf (P := Try.prog) (src := 23) (dst := 9) (c := c') Try.underlying23 Try.underlying5 Try.underlying9 hl' h2
  have HB := Lib.hid (((Below.refl w.heap.size w).alloc (Nat.le_refl _) (.cells #[.int .u16 (x.k : Int), .int .u8 (x.f : Int), .slice A n c] 25)).alloc (by simp) (.cells #[.int .u16 (x.k : Int), .int .u8 (x.f : Int), .slice A' n' c'] 25))
  generalize strOf x.v = s at cv1 cv2
  clear hl hl' hr hr' h1 h2
  generalize x.k = k at *
  generalize x.f = f at *
  go_enter Try.func12, Try.ntmps12
  go_wp2_with fail
  go_ret
  exact ⟨rfl, HB.out⟩

/-- A thing as it lies in a slice: what it says, and its value's slice. -/
abbrev Q := Tv × Value
def tc (q : Q) : List Value := [.int .u16 (q.1.k : Int), .int .u8 (q.1.f : Int), q.2]
def tf (qs : List Q) : List Value := qs.flatMap tc
theorem tf_len (qs : List Q) : (tf qs).length = 3 * qs.length := by
  induction qs with
  | nil => rfl
  | cons q qs ih => simp [tf, tc] at ih ⊢; omega
theorem tf_snoc (qs : List Q) (q : Q) : tf (qs ++ [q]) = tf qs ++ tc q := by simp [tf]
theorem tf_get : ∀ {qs : List Q} {i : Nat} (h : i < qs.length), (tf qs)[i * 3]? = some (.int .u16 (qs[i].1.k : Int)) ∧ (tf qs)[i * 3 + 1]? = some (.int .u8 (qs[i].1.f : Int)) ∧ (tf qs)[i * 3 + 2]? = some qs[i].2
  | q :: qs, 0, _ => by simp [tf, tc]
  | q :: qs, i + 1, h => by
    have ih := tf_get (qs := qs) (i := i) (by simpa using h)
    have e : tf (q :: qs) = tc q ++ tf qs := by simp [tf]
    have hl : (tc q).length = 3 := rfl
    rw [e, List.getElem?_append_right (by omega), List.getElem?_append_right (by omega), List.getElem?_append_right (by omega), hl]
    rw [show (i + 1) * 3 - 3 = i * 3 by omega, show (i + 1) * 3 + 1 - 3 = i * 3 + 1 by omega, show (i + 1) * 3 + 2 - 3 = i * 3 + 2 by omega]
    exact ih
/-- The thing's value lies in the world. -/
def Vl (W : World) (q : Q) : Prop := ∃ A n c, q.2 = .slice A n c ∧ q.1.v.length = n ∧ n ≤ c ∧ c ≤ maxLen ∧ n ≤ 140737488351232 ∧ q.1.ok ∧ Row W A (bs q.1.v) ∧ (A = none → n = 0 ∧ c = 0)
theorem Vl.next {W W' : World} {q : Q} (h : Vl W q) (hb : Below W.heap.size W W') : Vl W' q := by
  obtain ⟨A, n, c, h1, h2, h3, h4, h8, h5, h6, h7⟩ := h
  exact ⟨A, n, c, h1, h2, h3, h4, h8, h5, h6.below hb, h7⟩
/-- Things in a slice. -/
def Ths (W : World) (A : Option Addr) (qs : List Q) : Prop := Row W A (tf qs) ∧ ∀ q ∈ qs, Vl W q
theorem Ths.next {W W' : World} {A : Option Addr} {qs : List Q} (h : Ths W A qs) (hb : Below W.heap.size W W') : Ths W' A qs := ⟨h.1.below hb, fun q hq => (h.2 q hq).next hb⟩
theorem Ths.at {W : World} {A : Option Addr} {qs : List Q} (h : Ths W A qs) {i : Nat} (hi : i < qs.length) :
    ∃ a B n c, A = some a ∧ W.cell? (a.add (i * 3)) = some (.int .u16 (qs[i].1.k : Int)) ∧ W.cell? { block := (a.add (i * 3)).block, off := (a.add (i * 3)).off + 1 } = some (.int .u8 (qs[i].1.f : Int)) ∧
      W.cell? { block := (a.add (i * 3)).block, off := (a.add (i * 3)).off + 2 } = some (.slice B n c) ∧ qs[i].2 = .slice B n c ∧ qs[i].1.v.length = n ∧ n ≤ c ∧ c ≤ maxLen ∧ n ≤ 140737488351232 ∧ qs[i].1.ok ∧ Row W B (bs qs[i].1.v) ∧ (B = none → n = 0 ∧ c = 0) := by
  obtain ⟨g0, g1, g2⟩ := tf_get hi
  obtain ⟨a, hA, k0⟩ := h.1 _ _ g0
  obtain ⟨a1, e1, k1⟩ := h.1 _ _ g1
  obtain ⟨a2, e2, k2⟩ := h.1 _ _ g2
  rw [hA] at e1 e2
  injection e1 with e1
  injection e2 with e2
  subst e1; subst e2
  obtain ⟨B, n, c, h1, h2, h3, h4, h8, h5, h6, h7⟩ := h.2 qs[i] (List.getElem_mem hi)
  rw [h1] at k2
  rw [← add_add] at k1 k2
  exact ⟨a, B, n, c, hA, k0, (by rw [← k1]; rfl), (by rw [← k2]; rfl), h1, h2, h3, h4, h8, h5, h6, h7⟩
set_option maxRecDepth 100000 in
set_option maxHeartbeats 1000000 in
theorem sameAll_any (A : Option Addr) (n c : Nat) (qs : List Q) (A' : Option Addr) (n' c' : Nat) (rs : List Q) (w : World) (hn : n ≤ 100000) (hl : qs.length = n) (hl' : rs.length = n') (he : qs.map (·.1) = rs.map (·.1)) (hq : Ths w A qs) (hr : Ths w A' rs) :
    Calls Try.prog 14 #[.slice A n c, .slice A' n' c'] w fun e w' => e = .returned (.bool true) ∧ Below w.heap.size w w' := by
  have hnn : n = n' := by rw [← hl, ← hl']; have := congrArg List.length he; simpa using this
  subst hnn
  have HL := Lib.hid hl
  have HL' := Lib.hid hl'
  have HE := Lib.hid he
  have HQ := Lib.hid hq
  have HR := Lib.hid hr
  clear hl hl' he hq hr
  go_enter Try.func14, Try.ntmps14
  go_wp2_with fail
  go_loopw [5] (fun i wr => ∃ k : Nat, k ≤ n ∧ i = .int .i64 k ∧ Below w.heap.size w wr) (fun i _ => n - (intOf i).toNat)
  case atStart => exact ⟨0, by omega, rfl, Below.refl _ _⟩
  case round =>
    obtain ⟨k, hk, rfl, hb⟩ := hrel
    by_cases hlt : k < n
    · have hkq : k < qs.length := by rw [HL.out]; exact hlt
      have hkr : k < rs.length := by rw [HL'.out]; exact hlt
      have hxy : rs[k].1 = qs[k].1 := by
        have e := congrArg (fun l : List Tv => l[k]?) HE.out
        simp [List.getElem?_map, List.getElem?_eq_getElem hkq, List.getElem?_eq_getElem hkr] at e
        exact e.symm
      have hX := fun W hW => (HQ.out.next (W' := W) hW).at hkq
      have hY := fun W hW => (HR.out.next (W' := W) hW).at hkr
      obtain ⟨a, B, m, d, rfl, x0, x1, x2, xe, xl, xc, xm, xn, xo, xr, xz⟩ := hX wr hb
      obtain ⟨a', B', m', d', rfl, y0, y1, y2, ye, yl, yc, ym, yn, yo, yr, yz⟩ := hY wr hb
      rw [hxy] at y0 y1 yl yr
      have hb' : Below w.heap.size w wr.drew := hb.drew
      have CS : Hid (∀ W, Below w.heap.size w W → Calls Try.prog 12 #[.agg #[.int .u16 (qs[k].1.k : Int), .int .u8 (qs[k].1.f : Int), .slice B m d], .agg #[.int .u16 (qs[k].1.k : Int), .int .u8 (qs[k].1.f : Int), .slice B' m' d']] W fun e w' => e = .returned (.bool true) ∧ Below w.heap.size w w') := fun W hW => by
        obtain ⟨_, B1, m1, d1, _, _, _, _, e1, l1, _, _, _, _, r1, _⟩ := hX W hW
        obtain ⟨_, B2, m2, d2, _, _, _, _, e2, l2, _, _, _, _, r2, _⟩ := hY W hW
        rw [xe] at e1
        rw [ye] at e2
        injection e1 with e1 e3 e4
        injection e2 with e2 e5 e6
        subst e1; subst e2; subst e3; subst e4; subst e5; subst e6
        rw [hxy] at l2 r2
        exact (same_any qs[k].1 _ _ _ _ _ _ W l1 l2 r1 r2).mono fun _ _ ⟨h1, h2⟩ => ⟨h1, bnext' hW h2⟩
      clear hX hY
      clear hxy xe ye xl yl xr yr xo yo xz yz xc yc xm ym xn yn
      generalize qs[k].1.k = kk1 at *
      generalize qs[k].1.f = ff1 at *
      go_wp2_with fail
      go_region_with (first
        | (go_at_call 12; (with_reducible refine (CS.out _ ?_).mono ?_); assumption; rintro e w3 ⟨rfl, hg3⟩))
      all_goals
        go_wp2_with fail
        go_roundw
        case rel => exact ⟨k + 1, by omega, by go_num, hg3⟩
        case measure => simp [intOf]; omega
    · go_wp2_with fail
      go_ret
      exact ⟨rfl, hb⟩
end Go.Proofs.Ytlcmfhikcdppoaa
