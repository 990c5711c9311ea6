/-
  CwndCalls: the walk.
-/
import Derived.Test.YthdhkjbfhbkdjaaCwHead
namespace Go.Proofs.Ythdhkjbfhbkdjaa
set_option maxRecDepth 4000
open Go.RowKit Cw
set_option linter.unusedVariables false
set_option linter.unusedSimpArgs false

namespace Cw
/-- A window, and the document's beside it. -/
def Cm (w0 : World) (d : Nat) (u : T) (g : Nat) (t : T) (w : World) : Prop := Tk w g t ∧ Bk w d (dc u) 82 ∧ (g ≠ d ∧ w0.heap.size ≤ g ∧ w0.heap.size ≤ d) ∧ Below w0.heap.size w0 w
/-- .. and the call of the round. -/
def Cl (w0 : World) (d : Nat) (u : T) (g : Nat) (t : T) (x : Nat) (k n : Int) (f : Bool) (w : World) : Prop :=
  Cm w0 d u g t w ∧ Bk w x (xc k n f) 79 ∧ x ≠ g ∧ x ≠ d
section
variable {w0 w w' : World} {d g x : Nat} {u u' t t' : T} {k n : Int} {f : Bool} {b : Nat}
theorem Cm.next (h : Cm w0 d u g t w) (hb : Below w.heap.size w w') : Cm w0 d u g t w' := ⟨h.1.next hb, h.2.1.next hb, h.2.2.1, bnext h.2.2.2 hb⟩
theorem Cm.drewN (h : Cm w0 d u g t w) (q : Nat) : Cm w0 d u g t (w.drewN q) := ⟨h.1.drewN q, h.2.1.drewN q, h.2.2.1, ⟨h.2.2.2.os, h.2.2.2.tape, h.2.2.2.output, h.2.2.2.size, h.2.2.2.block⟩⟩
theorem Cl.new (h : Cm w0 d u g t w) (k n : Int) (f : Bool) : Cl w0 d u g t w.heap.size k n f (w.alloc (.cells (xc k n f) 79)) :=
  ⟨h.next ((Below.refl _ _).alloc (Nat.le_refl _) _), Bk.new _ _ _, fun e => by have := h.1.lt; omega, fun e => by have := h.2.1.lt; omega⟩
theorem Cl.cells (h : Cl w0 d u g t x k n f w) : w.cell? ⟨x, 0, none⟩ = some (.int .i64 k) ∧ w.cell? ⟨x, 1, none⟩ = some (.int .i64 n) ∧ w.cell? ⟨x, 2, none⟩ = some (.bool f) := ⟨h.2.1.cell 0, h.2.1.cell 1, h.2.1.cell 2⟩
theorem Cm.own (h : Cm w0 d u g t w) (hg : w.grownBy w' (some g)) (ht : Tk w' g t') : Cm w0 d u g t' w' :=
  ⟨ht, h.2.1.kept hg (by have := h.2.2.1.1; simp; omega), h.2.2.1, h.2.2.2.grown hg h.2.2.2.size (fun k hk => by cases hk; exact h.2.2.1.2.1)⟩
theorem Cm.row (h : Cm w0 d u g t w) (u' : T) : Cm w0 d u' g t (w.setRow d (dc u')) :=
  ⟨(setRow_other w d g (dc u') (by have := h.2.2.1.1; omega)).trans h.1, setRow_heap _ _ _ _ _ _ h.2.1, h.2.2.1, below_setRow h.2.2.2 h.2.2.1.2.2 _⟩
theorem Cl.tell (h : Cl w0 d u g t x k n f w) (ok : t.Ok b) (hb : b ≤ 4398046511104) (oku : u.Ok b) : Calls Try.prog 31 #[.pointer (some ⟨g, 0, none⟩), .agg (dc u), .agg (xc k n f)] w fun e w' => e = .returned (.agg (dc (u.tell k n f))) ∧ Cm w0 d u g (t.tell k n f) w' :=
  (tell_any h.1.1 ok hb u oku k n f).mono fun e w' ⟨h1, h2, h3⟩ => ⟨h1, h.1.own h3 h2⟩
theorem Cm.dcells (h : Cm w0 d u g t w) : w.cell? ⟨d, 1, none⟩ = some (.int .i64 (u.sz : Int)) ∧ w.cell? ⟨d, 2, none⟩ = some (.int .i64 (u.th : Int)) := ⟨h.2.1.cell 1, h.2.1.cell 2⟩
/-- A copy takes its place. -/
theorem Cm.copy (h : Cm w0 d u g t w) : Calls Try.prog 38 #[.pointer (some ⟨g, 0, none⟩)] w fun e w' => ∃ g2, e = .returned (.pointer (some ⟨g2, 0, none⟩)) ∧ Cm w0 d u g t w' ∧ Cm w0 d u g2 t w' ∧ g < g2 :=
  (copy_any h.1).mono fun e w' ⟨h1, h2, h3⟩ => ⟨_, h1, h.next h3, ⟨h2, (h.next h3).2.1, ⟨fun e => by have := h.2.1.lt; omega, h.2.2.2.size, h.2.2.1.2.2⟩, (h.next h3).2.2.2⟩, h.1.lt⟩
theorem Cm.far (h : Cm w0 d u g t w) {c : Nat} (hg : w.grownBy w' (some c)) (h1 : g ≠ c) (h2 : d ≠ c) (h3 : w0.heap.size ≤ c) : Cm w0 d u g t w' :=
  ⟨h.1.kept hg (by simp; omega), h.2.1.kept hg (by simp; omega), h.2.2.1, h.2.2.2.grown hg h.2.2.2.size (fun k hk => by cases hk; exact h3)⟩
end
end Cw
set_option maxHeartbeats 4000000 in
theorem cwndCalls_walk (m : Int) (A : Option Addr) (n cap : Nat) (qs : List Q3) (w0 : World) (hm : (Lit.int .i64 m).wf = true) (hq : DosIn w0 A n cap qs) : Calls Try.prog 6 #[.int .i64 m, .slice A n cap] w0 fun e w' => e = .returned (.bool true) ∧ Below w0.heap.size w0 w' := by
  obtain ⟨hl, hcap, hcm, hr, hw⟩ := hq
  have HL := Lib.hid hl
  have HR := Lib.hid hr
  clear hl hr hw hm
  by_cases hn : 3000 < n
  · have hz : decide ((3000 : Int) < (n : Int)) = true := decide_eq_true (by omega)
    clear hn hcap hcm
    go_enter Try.func6, Try.ntmps6
    go_wp2_with fail
    refine (works_any _).mono ?_
    rintro e w4 ⟨rfl, h4⟩
    have H4 := Lib.hid h4
    clear h4
    go_wp2_with fail
    go_ret
    exact ⟨rfl, H4.out⟩
  have hz : decide ((3000 : Int) < (n : Int)) = false := decide_eq_false (by omega)
  have hn2 : n ≤ 3000 := by omega
  clear hn hcap hcm
  by_cases hm : ¬ (64 ≤ m ∧ m ≤ 1500)
  · have CN := Lib.hid (new_bad m w0 hm)
    have hd : (decide (m < 64) = true) ∨ (decide (m < 64) = false ∧ decide (1500 < m) = true) := by
      by_cases h : m < 64
      · exact .inl (decide_eq_true h)
      · exact .inr ⟨decide_eq_false h, decide_eq_true (by omega)⟩
    clear hm
    rcases hd with hd | ⟨hd, hd2⟩
    all_goals
      go_enter Try.func6, Try.ntmps6
      go_wp2_with fail
      refine CN.out.mono ?_
      rintro e w1 ⟨rfl, rfl⟩
      go_wp2_with fail
      refine (works_any _).mono ?_
      rintro e w4 ⟨rfl, h4⟩
      have H4 := Lib.hid h4
      clear h4 CN
      go_wp2_with fail
      go_ret
      exact ⟨rfl, H4.out⟩
  have hm1 : 64 ≤ m ∧ m ≤ 1500 := Decidable.not_not.1 hm
  clear hm
  obtain ⟨mtu, rfl⟩ : ∃ k : Nat, m = k := ⟨m.toNat, by omega⟩
  have CN := Lib.hid (new_ok mtu w0 hm1.1 hm1.2)
  have CR := Lib.hid fun W => rnew_any mtu W hm1.1 hm1.2
  have hmt : mtu ≤ 1500 := by omega
  have d1 : decide ((mtu : Int) < 64) = false := decide_eq_false (by omega)
  have d2 : decide ((1500 : Int) < (mtu : Int)) = false := decide_eq_false (by omega)
  rw [Int.toNat_natCast] at CN CR
  have HO1 := Lib.hid (t0_ok hmt)
  clear hm1 hmt
  generalize t0 mtu = tt at CN CR HO1
  go_enter Try.func6, Try.ntmps6
  go_wp2_with fail
  refine CN.out.mono ?_
  rintro e w1 ⟨g, rfl, hg, ht, hb⟩
  have H1 : Hid (Tn w0 g tt w1) := Lib.hid ⟨ht, hg, hb⟩
  clear ht hg hb CN
  unfold dc at CR
  go_wp2_with fail
  refine (CR.out _).mono ?_
  rintro e w3 ⟨rfl, h3⟩
  have H3 : Hid (Cm w0 w3.heap.size tt g tt (w3.alloc (.cells (dc tt) 82))) := Lib.hid ⟨(H1.out.next h3).1.next ((Below.refl _ _).alloc (Nat.le_refl _) _), Bk.new _ _ _, ⟨fun e => by have := (H1.out.next h3).1.lt; omega, H1.out.2.1, (H1.out.next h3).2.2.size⟩, bnext (H1.out.next h3).2.2 ((Below.refl _ _).alloc (Nat.le_refl _) _)⟩
  clear H1 h3 CR
  unfold dc at H3
  go_upto_region 9 with fail
  generalize hd : w3.heap.size = d at H3 ⊢
  generalize hW : World.alloc w3 _ = W3 at H3 ⊢
  clear hd hW
  go_wp2_with fail
  go_loopw [5, 45] (fun v5 v45 wr => ∃ (k g : Nat) (t : T), v45 = .int .i64 k ∧ v5 = .pointer (some ⟨g, 0, none⟩) ∧ k ≤ n ∧ Hid (t.Ok (bnd k)) ∧ Hid (Cm w0 d t g t wr)) (fun _ v45 _ => n - (intOf v45).toNat)
  case atStart => exact ⟨0, g, tt, rfl, rfl, Nat.zero_le _, HO1, H3⟩
  case round =>
    obtain ⟨k, g, t, rfl, rfl, hk, HT, HC⟩ := hrel
    clear H3 HO1
    by_cases hlt : k < n
    · have hkl : k < qs.length := by rw [HL.out]; exact hlt
      obtain ⟨a, rfl, hd0, hd1, hd2⟩ := dos_at (HR.out.below HC.out.2.2.2) hkl
      obtain ⟨⟨q0, q1, q2⟩, hqq⟩ : ∃ q, qs[k] = q := ⟨_, rfl⟩
      rw [hqq] at hd0 hd1 hd2
      simp only at hd0 hd1 hd2
      clear hqq hkl
      have HX1 := Lib.hid (Cl.new HC.out q0 q1 q2)
      go_upto_region 12 with fail
      unfold xc at HX1
      generalize hx : wr.heap.size = x at HX1 ⊢
      generalize hW : World.alloc wr _ = W1 at HX1 ⊢
      clear hx hW hd0 hd1 hd2 HC
      obtain ⟨x0, x1, x2⟩ := HX1.out.cells
      have CT : Hid (Calls Try.prog 31 #[.pointer (some ⟨g, 0, none⟩), .agg (dc t), .agg #[.int .i64 q0, .int .i64 q1, .bool q2]] W1 fun e w' => e = .returned (.agg (dc (t.tell q0 q1 q2))) ∧ Cm w0 d t g (t.tell q0 q1 q2) w') := Lib.hid (HX1.out.tell HT.out (bnd_most (by omega)) HT.out)
      have HOK2 := Lib.hid (ok_step HT.out q0 q1 q2)
      have HB := Lib.hid HX1.out.1.2.1
      generalize t.tell q0 q1 q2 = t2 at CT HOK2
      have HI := Lib.hid (dc_info t)
      have HI2 := Lib.hid (dc_info t2)
      have HO2 := Lib.hid (dc_one t2)
      have HS2 : Hid ((dc t).size = (dc t2).size) := Lib.hid rfl
      generalize hdt : dc t = D at CT HB HI HS2
      generalize hd2 : dc t2 = D2 at CT HI2 HO2 HS2
      have HDT := Lib.hid hdt
      have HD2 := Lib.hid hd2
      clear hdt hd2 HX1
      go_wp2_with (refine wpList_load_row rfl 82 (.tmp 7) rfl d rfl 82 D (0, 0) _ HB.out Try.underlying82 rfl HI.out ?_)
      refine CT.out.mono ?_
      rintro e W2 ⟨rfl, h2⟩
      have HX2 := Lib.hid h2
      clear h2 CT HB HI x0 x1 x2
      have HB := Lib.hid HX2.out.2.1
      rw [HDT.out] at HB
      go_upto_region 13 with (refine wpList_store_row rfl 82 (.tmp 7) (.tmp 53) rfl d D2 rfl rfl 82 D HB.out HI2.out HS2.out HO2.out ?_)
      have HX4 := Lib.hid (HX2.out.row t2)
      rw [HD2.out] at HX4
      clear HX2 HB HI2 HO2 HS2 HDT HD2
      generalize World.setRow W2 _ _ = W4 at HX4 ⊢
      obtain ⟨y1, y2⟩ := HX4.out.dcells
      have HV2 := Lib.hid fun q => size_any (HX4.out.drewN q).1
      have HTH := Lib.hid fun q => thr_any (HX4.out.drewN q).1
      go_quiet (first
        | (go_at_call 32; exact Calls.quiet_of_same ((HV2.out _).mono fun _ _ ⟨h1, h2⟩ => ⟨h1, h2.symm⟩))
        | (go_at_call 37; exact Calls.quiet_of_same ((HTH.out _).mono fun _ _ ⟨h1, h2⟩ => ⟨h1, h2.symm⟩)))
      clear y1 y2 HV2 HTH
      have ht5 : (k : Int).tmod 5 = ((k % 5 : Nat) : Int) := rfl
      by_cases h5 : k % 5 = 4
      · have hz5 : decide ((k : Int).tmod 5 = 4) = true := decide_eq_true (by omega)
        clear ht5
        go_wp2_with fail
        refine ((HX4.out.drewN _).copy).mono ?_
        rintro e W6 ⟨g2, rfl, h6, hm6, hlt6⟩
        have HB6 := Lib.hid (tout_any h6.1 HOK2.out)
        have HM6 := Lib.hid hm6
        have HGD := Lib.hid h6.2.2.1
        clear h6 hm6 HX4
        go_wp2_with fail
        refine HB6.out.mono ?_
        rintro e W7 ⟨rfl, h7, hg7⟩
        have HM7 := Lib.hid (HM6.out.far hg7 (by omega) (fun e => HGD.out.1 e.symm) HGD.out.2.1)
        clear h7 hg7 HM6 HB6
        go_wp2_with fail
        go_roundw
        case rel => exact ⟨k + 1, g2, t2, by go_num, rfl, by omega, HOK2, HM7⟩
        case measure => simp [intOf] <;> omega
      · have hz5 : decide ((k : Int).tmod 5 = 4) = false := decide_eq_false (by omega)
        clear ht5
        go_wp2_with fail
        go_roundw
        case rel => exact ⟨k + 1, g, t2, by go_num, rfl, by omega, HOK2, Lib.hid (HX4.out.drewN _)⟩
        case measure => simp [intOf] <;> omega
    · clear HT
      go_wp2_with fail
      refine (works_any _).mono ?_
      rintro e w4 ⟨rfl, h4⟩
      have H4 := Lib.hid (bnext HC.out.2.2.2 h4)
      clear HC h4
      go_wp2_with fail
      go_ret
      exact ⟨rfl, H4.out⟩
end Go.Proofs.Ythdhkjbfhbkdjaa
