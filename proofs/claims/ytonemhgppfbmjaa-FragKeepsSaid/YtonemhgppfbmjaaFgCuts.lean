/-
  FragCuts: the walk.
-/
import Derived.Test.YtonemhgppfbmjaaFgKnown
import Derived.Deep.RegionHeld3
namespace Go.Proofs.Ytonemhgppfbmjaa
open Go.RowKit Go.Maps
open Fg
set_option linter.unusedVariables false
set_option linter.unusedSimpArgs false

structure MIn (W : World) (s p : Nat) (A : Option Addr) (n c : Nat) (l : List Int) : Prop where
  len : l.length = n
  cap : n ≤ c
  row : Row W A (bs l)
  byt : Byt l
theorem ps_row {B : Nat} {W : World} {A : Option Addr} {n c : Nat} {qs : List Pq} (h : Ps B W (.slice A n c) qs) (hn : qs.length = n) : Row W A (pf qs) := by
  subst hn
  intro i v hv
  have hi := (List.getElem?_eq_some_iff.1 hv).1
  rcases h.own.2 with ⟨e, h0⟩ | ⟨g, cap, cur, e, _⟩
  · have : qs = [] := List.eq_nil_of_length_eq_zero h0
    subst this
    simp [pf] at hv
  · injection e with e1 e2 e3
    subst e1
    refine ⟨_, rfl, ?_⟩
    rw [addr0, World.ownsRow.cellAt h.own i (by rw [pf_len] at hi; exact hi), hv]
theorem sameP {w : World} {x : Pc} {q r : Pq} (hq : q.1 = x) (hr : r.1 = x) (lq : q.1.d.length = q.2.2.1) (lr : r.1.d.length = r.2.2.1) (rq : Row w q.2.1 (bs q.1.d)) (rr : Row w r.2.1 (bs r.1.d)) :
    Calls Try.prog 9 #[.agg #[.int .u32 (q.1.t : Int), .int .u8 (q.1.f : Int), .int .u16 (q.1.s : Int), .int .u16 (q.1.n : Int), .int .u32 (q.1.p : Int), .slice q.2.1 q.2.2.1 q.2.2.2], .agg #[.int .u32 (r.1.t : Int), .int .u8 (r.1.f : Int), .int .u16 (r.1.s : Int), .int .u16 (r.1.n : Int), .int .u32 (r.1.p : Int), .slice r.2.1 r.2.2.1 r.2.2.2]] w fun e w' => e = .returned (.bool true) ∧ Below w.heap.size w w' := by
  rcases q with ⟨q, A, n, c⟩
  rcases r with ⟨r, A', n', c'⟩
  obtain rfl : q = x := hq
  obtain rfl : r = q := hr
  exact samePiece_any r A n c A' n' c' w lq lr rq rr
def cutR (u : Bool) (s p : Nat) (l : List Int) (z : Int) : List Pc × Nat := if l.length = 0 ∨ z < 1 then ([], 2) else (cutL u s p l z.toNat, 0)
theorem cutN_le {l : List Int} {sz : Nat} (h : 0 < l.length) (hs : 1 ≤ sz) : cutN l sz ≤ l.length := by
  unfold cutN
  generalize l.length = n at h
  obtain ⟨a, rfl⟩ : ∃ a, n = a + 1 := ⟨n - 1, by omega⟩
  obtain ⟨b, rfl⟩ : ∃ b, sz = b + 1 := ⟨sz - 1, by omega⟩
  refine Nat.div_le_of_le_mul ?_
  rw [Nat.add_mul, Nat.mul_add]
  have := Nat.zero_le (b * a)
  omega
theorem cutR_len {u : Bool} {s p : Nat} {l : List Int} {z : Int} : (cutR u s p l z).1.length ≤ l.length := by
  unfold cutR
  split
  · simp
  · simp [cutL]
    exact cutN_le (by omega) (by omega)
theorem cutR_two {u : Bool} {s p : Nat} {l : List Int} {z : Int} : (cutR u s p l z).2 ≤ 2 := by
  unfold cutR
  split <;> simp
def Cutted (b : World) (R : List Pc × Nat) (e : Ending) (w' : World) : Prop :=
  ∃ A N c qs, e = .returned (.tuple #[.slice A N c, .int .i64 (R.2 : Int)]) ∧ qs.length = N ∧ qs.map (·.1) = R.1 ∧ Ps b.heap.size w' (.slice A N c) qs ∧ Below b.heap.size b w'
theorem cut_both {W w : World} {s p : Nat} {u : Bool} {A : Option Addr} {n c : Nat} {l : List Int} {z : Int} (hm : MIn W s p A n c l) (hn : n ≤ 5000) (hz : (Lit.int .i64 z).wf = true) (hb : Below W.heap.size W w) :
    Calls Try.prog 7 #[.agg #[.int .u16 (s : Int), .bool u, .int .u32 (p : Int), .slice A n c], .int .i64 z] w fun e w' => Cutted w (cutR u s p l z) e w' := by
  have h2 := wf_i64 hz
  by_cases h : n = 0 ∨ z < 1
  · refine (cut_err s u p A n c z w h).mono ?_
    rintro e w' ⟨rfl, hb'⟩
    have hR : cutR u s p l z = ([], 2) := by unfold cutR; rw [if_pos (by rw [hm.len]; exact h)]
    rw [hR]
    exact ⟨none, 0, 0, [], rfl, rfl, rfl, ⟨World.ownsRow_nil _ _ _ _, fun q hq => by cases hq⟩, hb'⟩
  · obtain ⟨y, rfl⟩ : ∃ y : Nat, z = y := ⟨z.toNat, by omega⟩
    refine (cut_any s u p A n c l y w hm.len (by omega) (by omega) hm.cap (by omega) (by omega) (hm.row.below hb)).mono ?_
    rintro e w' ⟨A', N, c', qs, rfl, h3, h4, h5, h6⟩
    have hR : cutR u s p l y = (cutL u s p l y, 0) := by unfold cutR; rw [if_neg (by rw [hm.len]; exact h)]; rfl
    rw [hR]
    exact ⟨A', N, c', qs, rfl, h3, h4, h5, h6⟩
theorem rcut_both {W w : World} {s p : Nat} {u : Bool} {A : Option Addr} {n c : Nat} {l : List Int} {z : Int} (hm : MIn W s p A n c l) (hn : n ≤ 5000) (hz : (Lit.int .i64 z).wf = true) (hb : Below W.heap.size W w) :
    Calls Try.prog 8 #[.agg #[.int .u16 (s : Int), .bool u, .int .u32 (p : Int), .slice A n c], .int .i64 z] w fun e w' => Cutted w (cutR u s p l z) e w' := by
  have h2 := wf_i64 hz
  by_cases h : n = 0 ∨ z < 1
  · refine (rcut_err s u p A n c z w h).mono ?_
    rintro e w' ⟨rfl, hb'⟩
    have hR : cutR u s p l z = ([], 2) := by unfold cutR; rw [if_pos (by rw [hm.len]; exact h)]
    rw [hR]
    exact ⟨none, 0, 0, [], rfl, rfl, rfl, ⟨World.ownsRow_nil _ _ _ _, fun q hq => by cases hq⟩, hb'⟩
  · obtain ⟨y, rfl⟩ : ∃ y : Nat, z = y := ⟨z.toNat, by omega⟩
    refine (rcut_any s u p A n c l y w hm.len (by omega) (by omega) hm.cap (by omega) (by omega) (hm.row.below hb) hm.byt).mono ?_
    rintro e w' ⟨A', N, c', qs, rfl, h3, h4, h5, h6⟩
    have hR : cutR u s p l y = (cutL u s p l y, 0) := by unfold cutR; rw [if_neg (by rw [hm.len]; exact h)]; rfl
    rw [hR]
    exact ⟨A', N, c', qs, rfl, h3, h4, h5, h6⟩
set_option maxHeartbeats 4000000 in
theorem fragCuts_main (s : Nat) (u : Bool) (p : Nat) (A : Option Addr) (n c : Nat) (l : List Int) (a1 : Int) (W : World) (hm : MIn W s p A n c l) (w1 : (Lit.int .i64 a1).wf = true) :
    Calls Try.prog 3 #[.agg #[.int .u16 (s : Int), .bool u, .int .u32 (p : Int), .slice A n c], .int .i64 a1] W fun e w' => e = .returned (.bool true) ∧ Below W.heap.size W w' := by
  have HMI := Lib.hid hm
  have HW1 := Lib.hid w1
  clear hm w1
  go_enter Try.func3, Try.ntmps3
  go_wp2_with fail
  have HM0 : Hid (Bk (W.alloc (.cells #[.int .u16 (s : Int), .bool u, .int .u32 (p : Int), .slice A n c] 26)) W.heap.size (mv s u p A n c) 26) := Lib.hid (Bk.new _ _ _)
  have HB0 := Lib.hid (Fg.bAlloc W (.cells #[.int .u16 (s : Int), .bool u, .int .u32 (p : Int), .slice A n c] 26))
  generalize W.alloc (.cells #[.int .u16 (s : Int), .bool u, .int .u32 (p : Int), .slice A n c] 26) = w0 at HM0 HB0 ⊢
  obtain ⟨g, hg⟩ : ∃ g, W.heap.size = g := ⟨_, rfl⟩
  rw [hg] at HM0 ⊢
  refine (Fg.known_any w0).mono ?_
  rintro e w1 ⟨rfl, hb1⟩
  have HB1 := Lib.hid (bnext HB0.out hb1)
  have HM1 := Lib.hid (HM0.out.next hb1)
  clear HM0 HB0 hb1 hg
  have g3 := HM1.out.cell 3
  simp [mv] at g3
  have g0 := HM1.out.cell 0
  have g1 := HM1.out.cell 1
  have g2 := HM1.out.cell 2
  simp [mv] at g0 g1 g2
  by_cases hn : 5000 < n
  · have hz : decide ((5000 : Int) < (n : Int)) = true := decide_eq_true (by omega)
    clear hn
    go_wp2_with fail
    go_ret
    exact ⟨rfl, HB1.out⟩
  · have hz : decide ((5000 : Int) < (n : Int)) = false := decide_eq_false (by omega)
    have hn5 : n ≤ 5000 := by omega
    clear hn
    go_wp2_with fail
    refine (cut_both HMI.out hn5 HW1.out HB1.out).mono ?_
    have HRL := Lib.hid (Nat.le_trans (cutR_len (u := u) (s := s) (p := p) (l := l) (z := a1)) (by have := HMI.out.len; omega : l.length ≤ 5000))
    have HRC := Lib.hid (fun w hb => rcut_both (w := w) (u := u) HMI.out hn5 HW1.out hb)
    have hE := cutR_two (u := u) (s := s) (p := p) (l := l) (z := a1)
    generalize cutR u s p l a1 = R at HRL HRC hE ⊢
    obtain ⟨ps, E⟩ := R
    rintro e w2 ⟨A2, N, c2, qs, rfl, hl2, hm2, hp2, hb2⟩
    simp only at HRL HRC hE hm2 ⊢
    have HN : Hid (qs.length = N ∧ qs.map (·.1) = ps) := Lib.hid ⟨hl2, hm2⟩
    have hN5 : N ≤ 5000 := by have := HRL.out; rw [← hl2]; have : qs.length = ps.length := by rw [← hm2]; simp
                              omega
    have HP2 := Lib.hid hp2
    have HB2 := Lib.hid (bnext HB1.out hb2)
    have HM2 := Lib.hid (HM1.out.next hb2)
    clear hl2 hm2 hp2 hb2 g0 g1 g2 g3 HM1 hz hn5
    have g0 := HM2.out.cell 0
    have g1 := HM2.out.cell 1
    have g2 := HM2.out.cell 2
    have g3 := HM2.out.cell 3
    simp [mv] at g0 g1 g2 g3
    go_wp2_with fail
    refine (HRC.out w2 HB2.out).mono ?_
    rintro e w3 ⟨A3, N3, c3, rs, rfl, hl3, hm3, hp3, hb3⟩
    obtain rfl : N = N3 := by
      have h1 := congrArg List.length hm3
      have h2 := congrArg List.length HN.out.2
      simp only [List.length_map] at h1 h2
      have := HN.out.1
      omega
    have HN3 : Hid (rs.length = N ∧ rs.map (·.1) = ps) := Lib.hid ⟨hl3, hm3⟩
    have HP3 : Hid (Row w3 A2 (pf qs) ∧ Row w3 A3 (pf rs) ∧ (∀ q ∈ qs, q.1.d.length = q.2.2.1 ∧ Row w3 q.2.1 (bs q.1.d)) ∧ ∀ q ∈ rs, q.1.d.length = q.2.2.1 ∧ Row w3 q.2.1 (bs q.1.d)) := Lib.hid
      ⟨(ps_row HP2.out HN.out.1).below hb3, ps_row hp3 hl3, fun q hq => ⟨(HP2.out.dat q hq).1, (row_of_own (HP2.out.dat q hq).2).below hb3⟩, fun q hq => ⟨(hp3.dat q hq).1, row_of_own (hp3.dat q hq).2⟩⟩
    have HB3 := Lib.hid (bnext HB2.out hb3)
    clear hl3 hm3 hp3 hb3 g0 g1 g2 g3 HM2 HP2 HB2 HRC HRL HB1 HMI HW1
    have hd : decide ((E : Int) = (E : Int)) = true := decide_eq_true rfl
    go_wp2_with fail
    go_loopw [41] (fun v wr => ∃ k : Nat, v = .int .i64 k ∧ k ≤ N ∧ Hid (Below w3.heap.size w3 wr)) (fun v _ => N - (intOf v).toNat)
    case atStart => exact ⟨0, rfl, Nat.zero_le _, Lib.hid (Below.refl _ _)⟩
    case round =>
      obtain ⟨k, rfl, hk, HW⟩ := hrel
      by_cases hlt : k < N
      · have hkq : k < qs.length := by rw [HN.out.1]; exact hlt
        have hkr : k < rs.length := by rw [HN3.out.1]; exact hlt
        obtain ⟨a, rfl, f0, f1, f2, f3, f4, f5⟩ := pf_at (HP3.out.1.below HW.out) hkq
        obtain ⟨b, hb9, hb8⟩ := pf_at HP3.out.2.1 hkr
        subst hb9
        clear hb8
        have HR3 := Lib.hid fun (W' : World) (hW' : Below w3.heap.size w3 W') => pf_at (HP3.out.2.1.below hW') hkr
        have hx : qs[k].1 = rs[k].1 := by
          have h1 := HN.out.2.trans HN3.out.2.symm
          have h2 := congrArg (fun l => l[k]?) h1
          simp only [List.getElem?_map, List.getElem?_eq_getElem hkq, List.getElem?_eq_getElem hkr, Option.map_some, Option.some.injEq] at h2
          exact h2
        have HQ := Lib.hid (HP3.out.2.2.1 _ (List.getElem_mem hkq))
        have HR := Lib.hid (HP3.out.2.2.2 _ (List.getElem_mem hkr))
        generalize qs[k] = q at f0 f1 f2 f3 f4 f5 hx HQ
        generalize rs[k] = r at hx HR HR3
        obtain ⟨⟨t, f, s2, n2, p2, d⟩, B, m, cc⟩ := q
        obtain ⟨x', B', m', cc'⟩ := r
        obtain rfl : ⟨t, f, s2, n2, p2, d⟩ = x' := hx
        simp only at f0 f1 f2 f3 f4 f5 HQ HR HR3
        clear hkq hkr
        go_upto_region 12 with fail
        have HB5 := Lib.hid (bnext' HW.out (Fg.bAlloc wr (.cells #[.int .u32 (t : Int), .int .u8 (f : Int), .int .u16 (s2 : Int), .int .u16 (n2 : Int), .int .u32 (p2 : Int), .slice B m cc] 33)))
        have HN5 : Hid (Bk (wr.alloc (.cells #[.int .u32 (t : Int), .int .u8 (f : Int), .int .u16 (s2 : Int), .int .u16 (n2 : Int), .int .u32 (p2 : Int), .slice B m cc] 33)) wr.heap.size #[.int .u32 (t : Int), .int .u8 (f : Int), .int .u16 (s2 : Int), .int .u16 (n2 : Int), .int .u32 (p2 : Int), .slice B m cc] 33) := Lib.hid (Bk.new _ _ _)
        clear HW f0 f1 f2 f3 f4 f5
        generalize wr.alloc (.cells #[.int .u32 (t : Int), .int .u8 (f : Int), .int .u16 (s2 : Int), .int .u16 (n2 : Int), .int .u32 (p2 : Int), .slice B m cc] 33) = w5 at HB5 HN5 ⊢
        generalize wr.heap.size = gr at HN5 ⊢
        have hS : ∀ W', Below w5.heap.size w5 W' → (W'.cell? ⟨gr, 0, none⟩ = some (.int .u32 (t : Int)) ∧ W'.cell? ⟨gr, 1, none⟩ = some (.int .u8 (f : Int)) ∧ W'.cell? ⟨gr, 2, none⟩ = some (.int .u16 (s2 : Int)) ∧ W'.cell? ⟨gr, 3, none⟩ = some (.int .u16 (n2 : Int)) ∧ W'.cell? ⟨gr, 4, none⟩ = some (.int .u32 (p2 : Int)) ∧ W'.cell? ⟨gr, 5, none⟩ = some (.slice B m cc) ∧ W'.cell? (b.add (k * 6)) = some (.int .u32 (t : Int)) ∧ W'.cell? { block := (b.add (k * 6)).block, off := (b.add (k * 6)).off + 1 } = some (.int .u8 (f : Int)) ∧ W'.cell? { block := (b.add (k * 6)).block, off := (b.add (k * 6)).off + 2 } = some (.int .u16 (s2 : Int)) ∧ W'.cell? { block := (b.add (k * 6)).block, off := (b.add (k * 6)).off + 3 } = some (.int .u16 (n2 : Int)) ∧ W'.cell? { block := (b.add (k * 6)).block, off := (b.add (k * 6)).off + 4 } = some (.int .u32 (p2 : Int)) ∧ W'.cell? { block := (b.add (k * 6)).block, off := (b.add (k * 6)).off + 5 } = some (.slice B' m' cc')) := fun W' hW => by
          have hV := HN5.out.next hW
          obtain ⟨b', hb', e0, e1, e2, e3, e4, e5⟩ := HR3.out W' (bnext' HB5.out hW)
          injection hb' with hb'
          subst hb'
          exact ⟨hV.cell 0, hV.cell 1, hV.cell 2, hV.cell 3, hV.cell 4, hV.cell 5, e0, e1, e2, e3, e4, e5⟩
        have HS := Lib.hid hS
        have hud : Below w5.heap.size w5 w5.drew := (Below.refl _ _).drew
        have hs := hS _ hud
        have HC := Lib.hid fun (W' : World) (hW : Below w5.heap.size w5 W') => samePiece_any ⟨t, f, s2, n2, p2, d⟩ B m cc B' m' cc' W' HQ.out.1 HR.out.1 (HQ.out.2.below (bnext' HB5.out hW)) (HR.out.2.below (bnext' HB5.out hW))
        unfold pv at HC
        clear hS HR3 HN5 HQ HR
        first | go_region_held3 (fun W => W.cell? ⟨gr, 0, none⟩ = some (.int .u32 (t : Int)) ∧ W.cell? ⟨gr, 1, none⟩ = some (.int .u8 (f : Int)) ∧ W.cell? ⟨gr, 2, none⟩ = some (.int .u16 (s2 : Int)) ∧ W.cell? ⟨gr, 3, none⟩ = some (.int .u16 (n2 : Int)) ∧ W.cell? ⟨gr, 4, none⟩ = some (.int .u32 (p2 : Int)) ∧ W.cell? ⟨gr, 5, none⟩ = some (.slice B m cc) ∧ W.cell? (b.add (k * 6)) = some (.int .u32 (t : Int)) ∧ W.cell? { block := (b.add (k * 6)).block, off := (b.add (k * 6)).off + 1 } = some (.int .u8 (f : Int)) ∧ W.cell? { block := (b.add (k * 6)).block, off := (b.add (k * 6)).off + 2 } = some (.int .u16 (s2 : Int)) ∧ W.cell? { block := (b.add (k * 6)).block, off := (b.add (k * 6)).off + 3 } = some (.int .u16 (n2 : Int)) ∧ W.cell? { block := (b.add (k * 6)).block, off := (b.add (k * 6)).off + 4 } = some (.int .u32 (p2 : Int)) ∧ W.cell? { block := (b.add (k * 6)).block, off := (b.add (k * 6)).off + 5 } = some (.slice B' m' cc')) (first | exact hs | exact HS.out _ (by assumption)) ((go_at_call 9; (with_reducible refine (HC.out _ ?_).mono ?_); assumption; rintro e w6 ⟨rfl, hg6⟩; have hd6 := bnext' (w := w5) (by assumption) hg6; clear hg6)) | fail
        all_goals
          clear hs hud
          go_wp2_with fail
          go_roundw
          case rel => exact ⟨k + 1, by go_num, by omega, Lib.hid (bnext' HB5.out hd6)⟩
          case measure => simp [intOf] <;> omega
      · go_wp2_with fail
        go_ret
        exact ⟨rfl, bnext HB3.out HW.out⟩
theorem fragCuts_walk (x0 : Int) (b1 : Bool) (x2 : Int) (A : Option Addr) (n c : Nat) (z : List Int) (a1 : Int) (W : World) (h0 : (Lit.int .u16 x0).wf = true) (h2 : (Lit.int .u32 x2).wf = true) (hz : IsRow .u8 W A n c z) (w1 : (Lit.int .i64 a1).wf = true) :
    Calls Try.prog 3 #[.agg #[.int .u16 x0, .bool b1, .int .u32 x2, .slice A n c], .int .i64 a1] W fun e w' => e = .returned (.bool true) ∧ Below W.heap.size W w' := by
  have k0 := wf_u16 h0
  have k2 := wf_u32 h2
  obtain ⟨s, rfl⟩ : ∃ s : Nat, x0 = s := ⟨x0.toNat, by omega⟩
  obtain ⟨p, rfl⟩ : ∃ p : Nat, x2 = p := ⟨x2.toNat, by omega⟩
  obtain ⟨l, hl, h3, h4, hb, hr⟩ := hz.bytes
  exact fragCuts_main s b1 p A n c l a1 W ⟨hl, h3, hr, hb⟩ w1
end Go.Proofs.Ytonemhgppfbmjaa
