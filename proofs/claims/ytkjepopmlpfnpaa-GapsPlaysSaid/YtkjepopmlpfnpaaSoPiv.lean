/-
  The library's sort at 16 bits: choosePivot: an index in the range, some hint; the row as it was.
-/
import Derived.Test.YtkjepopmlpfnpaaSoMed
import Derived.Deep.CutBlock
namespace Go.Proofs.Ytkjepopmlpfnpaa
open Go.RowKit Go.Sort
set_option linter.unusedVariables false

/-- Behind a block of the call's own that has come since. -/
theorem CT.back {w W W' : World} {g off sb c : Nat} {d : Array Int} (h : SW w g off d W) (k : CT W g off d sb c W') (hsb : w.heap.size ≤ sb) (hne : sb ≠ g) : SW w g off d W' :=
  ⟨k.1, ⟨k.2.1.os.trans h.2.os, k.2.1.tape.trans h.2.tape, k.2.1.output.trans h.2.output, Nat.le_trans h.2.size k.2.1.size, fun i hi hg => (k.2.1.block i (Nat.lt_of_lt_of_le hi h.2.size) (fun e => by injection e with e; omega)).trans (h.2.block i hi hg)⟩⟩
set_option maxHeartbeats 1000000 in
theorem pivot_any (g off cap a b : Nat) (d : Array Int) (w : World) (hH : Holds u16 w g off d) (hg : g < w.heap.size) (hab : a < b) (hb : b ≤ d.size) (hsz : d.size < 4611686018427387904) :
    Calls Try.prog 43 #[.slice (some ⟨g, off, none⟩) d.size cap, .int .i64 a, .int .i64 b] w fun e w' =>
      ∃ x h : Nat, e = .returned (.tuple #[.int .i64 x, .int .i64 h]) ∧ a ≤ x ∧ x < b ∧ h ≤ 2 ∧ SW w g off d w' := by
  obtain ⟨len, hlen⟩ : ∃ len, len = d.size := ⟨_, rfl⟩
  rw [← hlen] at hb hsz ⊢
  have HL := Lib.hid hlen.symm
  clear hlen
  have hS1 : SW w g off d (w.alloc (.cells #[.int .i64 0] 3)) := (SW.refl hH).alloc hg _
  have HS1 := Lib.hid hS1
  have HC1 : Hid (CT (w.alloc (.cells #[.int .i64 0] 3)) g off d w.heap.size 0 (w.alloc (.cells #[.int .i64 0] 3))) := Lib.hid (CT.refl hS1.1 (by simp) (by simp))
  have HNE : Hid (w.heap.size ≠ g) := Lib.hid (by omega)
  clear hS1 hH hg
  obtain ⟨i, j, k, e1, e2, e3, hi, hj, hk⟩ : ∃ i j k : Nat, (a : Int) + ((b : Int) - a) / 4 = i ∧ (a : Int) + ((b : Int) - a) / 4 * 2 = j ∧ (a : Int) + ((b : Int) - a) / 4 * 3 = k ∧
      (a ≤ i ∧ i < b ∧ (50 ≤ b - a → a + 1 ≤ i ∧ i + 1 < b)) ∧ (a ≤ j ∧ j < b ∧ (50 ≤ b - a → a + 1 ≤ j ∧ j + 1 < b)) ∧ (a ≤ k ∧ k < b ∧ (50 ≤ b - a → a + 1 ≤ k ∧ k + 1 < b)) :=
    ⟨a + (b - a) / 4, a + (b - a) / 4 * 2, a + (b - a) / 4 * 3, by omega, by omega, by omega, by omega, by omega, by omega⟩
  go_enter Try.func43, Try.ntmps43
  by_cases h8 : 8 ≤ b - a
  · have h8z : decide ((8 : Int) ≤ (b : Int) - (a : Int)) = true := decide_eq_true (by omega)
    go_upto_if 32 with fail
    go_cut [10, 11, 12] from 33 to 48 (fun _ vj _ wx => ∃ x n : Nat, vj = .int .i64 x ∧ a ≤ x ∧ x < b ∧ n ≤ 12 ∧ Hid (CT (w.alloc (.cells #[.int .i64 0] 3)) g off d w.heap.size n wx))
    case first =>
      by_cases h50 : 50 ≤ b - a
      · go_wp2_with fail
        refine (medianAdj_any g off len cap i w.heap.size 0 d _ HC1.out HL.out HNE.out (by omega) (by omega) hsz (by omega)).mono ?_
        rintro e w1 ⟨i1, n1, rfl, hi1, hi2, hn1, hw1⟩
        have H1 := Lib.hid hw1
        clear hw1
        go_wp2_with fail
        refine (medianAdj_any g off len cap j w.heap.size n1 d _ (CT.refl H1.out.1 H1.out.2.2.1 H1.out.2.2.2) HL.out HNE.out (by omega) (by omega) hsz (by omega)).mono ?_
        rintro e w2 ⟨j1, n2, rfl, hj1, hj2, hn2, hw2⟩
        have H2 := Lib.hid (CT.trans H1.out hw2)
        clear hw2
        go_wp2_with fail
        refine (medianAdj_any g off len cap k w.heap.size n2 d _ (CT.refl H2.out.1 H2.out.2.2.1 H2.out.2.2.2) HL.out HNE.out (by omega) (by omega) hsz (by omega)).mono ?_
        rintro e w3 ⟨k1, n3, rfl, hk1, hk2, hn3, hw3⟩
        have H3 := Lib.hid (CT.trans H2.out hw3)
        clear hw3
        go_wp2_with fail
        refine (median_any g off len cap i1 j1 k1 w.heap.size n3 d _ (CT.refl H3.out.1 H3.out.2.2.1 H3.out.2.2.2) HL.out HNE.out (by omega) (by omega) (by omega) hsz (by omega)).mono ?_
        rintro e w4 ⟨x, n4, rfl, hx, hn4, hw4⟩
        have H4 := Lib.hid (CT.trans H3.out hw4)
        clear hw4
        go_wp2_with fail
        go_meet
        case rel => exact ⟨x, n4, rfl, by omega, by omega, by omega, H4⟩
      · go_wp2_with fail
        refine (median_any g off len cap i j k w.heap.size 0 d _ HC1.out HL.out HNE.out (by omega) (by omega) (by omega) hsz (by omega)).mono ?_
        rintro e w4 ⟨x, n4, rfl, hx, hn4, hw4⟩
        have H4 := Lib.hid hw4
        clear hw4
        go_wp2_with fail
        go_meet
        case rel => exact ⟨x, n4, rfl, by omega, by omega, by omega, H4⟩
    case rest =>
    obtain ⟨x, n, rfl, hx1, hx2, hn, HC⟩ := hcut
    have FIN := Lib.hid (CT.back HS1.out HC.out (Nat.le_refl _) HNE.out)
    have hcc := HC.out.2.2.1
    clear HC HC1 HS1 e1 e2 e3
    by_cases hn0 : n = 0
    · subst hn0
      go_wp2_with fail
      all_goals go_ret2
      exact ⟨x, 1, rfl, hx1, hx2, by omega, FIN.out⟩
    · by_cases hn12 : n = 12
      · subst hn12
        go_wp2_with fail
        all_goals go_ret2
        exact ⟨x, 2, rfl, hx1, hx2, by omega, FIN.out⟩
      · have q0 : ((n : Int) == 0) = false := by simpa using hn0
        have q12 : ((n : Int) == 12) = false := by simp; omega
        go_wp2_with fail
        all_goals go_ret2
        exact ⟨x, 0, rfl, hx1, hx2, by omega, FIN.out⟩
  · have FIN := Lib.hid (CT.back HS1.out HC1.out (Nat.le_refl _) HNE.out)
    go_wp2_with fail
    all_goals go_ret2
    exact ⟨j, 1, rfl, by omega, by omega, by omega, FIN.out⟩
end Go.Proofs.Ytkjepopmlpfnpaa
