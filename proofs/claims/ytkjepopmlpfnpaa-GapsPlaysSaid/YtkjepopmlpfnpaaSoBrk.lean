/-
  The library's sort at 16 bits: breakPatterns: some permutation of the part.
-/
import Derived.Test.YtkjepopmlpfnpaaSoMed
import Derived.Deep.CutBlock
import Derived.Deep.RegionHeld
import Derived.Laws.Bits64
import Derived.Laws.Bits64b
namespace Go.Proofs.Ytkjepopmlpfnpaa
open Go.RowKit Go.Sort
set_option linter.unusedVariables false

/-- The row reads as d; the generator's cell in block r, which is new, holds X. -/
def RB (w : World) (g off : Nat) (d : Array Int) (r X : Nat) (W : World) : Prop :=
  SW w g off d W ∧ W.cell? ⟨r, 0, none⟩ = some (.int .u64 (X : Int)) ∧ W.frozen? ⟨r, 0, none⟩ = false
theorem RB.set {w W : World} {g off r X : Nat} {d : Array Int} (h : RB w g off d r X W) (hr : w.heap.size ≤ r) (hne : r ≠ g) (X' q : Nat) : RB w g off d r X' ((W.setCell ⟨r, 0, none⟩ (.int .u64 (X' : Int))).drewN q) := by
  have hg := grown_setCell W r 0 (.int .u64 (X' : Int))
  refine ⟨SW.drewN ⟨holds_far h.1.1 hg hne, ⟨hg.os.trans h.1.2.os, hg.tape.trans h.1.2.tape, hg.output.trans h.1.2.output, Nat.le_trans h.1.2.size hg.size, fun i hi hig => (hg.block i (Nat.lt_of_lt_of_le hi h.1.2.size) (fun e => by injection e with e; omega)).trans (h.1.2.block i hi hig)⟩⟩ q, ?_, ?_⟩
  · exact World.cell?_setCell_same' W _ _ (by rw [h.2.1]; rfl)
  · show (W.setCell _ _).frozen? _ = false
    rw [World.frozen?_setCell]; exact h.2.2
theorem RB.swap {w W : World} {g off r X : Nat} {d : Array Int} (h : RB w g off d r X W) (hne : r ≠ g) {i j : Nat} (hi : i < d.size) (hj : j < d.size) (q q' : Nat) :
    RB w g off (swp d i j) r X ((((W.drewN q).setCell ⟨g, off + i, none⟩ (u16 d[j]!)).setCell ⟨g, off + j, none⟩ (u16 d[i]!)).drewN q') := by
  refine ⟨h.1.swap hi hj q q', ?_, ?_⟩
  · show ((((W.drewN q).setCell _ _)).setCell _ _).cell? _ = _
    rw [World.cell?_setCell_far _ _ _ _ (by simpa using hne.symm), World.cell?_setCell_far _ _ _ _ (by simpa using hne.symm)]
    exact h.2.1
  · show ((((W.drewN q).setCell _ _)).setCell _ _).frozen? _ = _
    rw [World.frozen?_setCell, World.frozen?_setCell]
    exact h.2.2
theorem land_lt {x m : Nat} (hm : 0 < m) : x &&& (m - 1) < m := Nat.lt_of_le_of_lt Nat.and_le_right (by omega)
theorem swp_keep {d d' : Array Int} {a b i j : Nat} (h : PermIn a b d d') (hi : a ≤ i) (hi2 : i < b) (hj : a ≤ j) (hj2 : j < b) (hb : b ≤ d'.size) : PermIn a b d (swp d' i j) :=
  permIn_trans _ _ _ _ _ h (swp_permIn d' a b i j hi hi2 hj hj2 hb)
set_option maxHeartbeats 1000000 in
theorem break_any (g off cap a b : Nat) (d : Array Int) (w : World) (hH : Holds u16 w g off d) (hg : g < w.heap.size) (hab : a ≤ b) (hb : b ≤ d.size) (hsz : d.size < 4611686018427387904) :
    Calls Try.prog 42 #[.slice (some ⟨g, off, none⟩) d.size cap, .int .i64 a, .int .i64 b] w fun e w' => ∃ d', e = .returned (.tuple #[]) ∧ PermIn a b d d' ∧ SW w g off d' w' := by
  obtain ⟨len, hlen⟩ : ∃ len, len = d.size := ⟨_, rfl⟩
  rw [← hlen] at hb hsz ⊢
  have HL := Lib.hid hlen.symm
  clear hlen
  have HS := Lib.hid (SW.refl hH)
  have HNE : Hid (w.heap.size ≠ g) := Lib.hid (by omega)
  have HG := Lib.hid hg
  clear hH hg
  obtain ⟨l, hl⟩ : ∃ l : Nat, l = b - a := ⟨_, rfl⟩
  have e0 : (b : Int) - (a : Int) = l := by omega
  have hbl : b = a + l := by omega
  have HB := Lib.hid hbl
  clear hl hbl
  go_enter Try.func42, Try.ntmps42
  by_cases h8 : 8 ≤ l
  · have hp := Try.nextPowerOfTwo l (by have := HB.out; omega)
    obtain ⟨M, hM1, hM2, hM3⟩ : ∃ M : Nat, M = 1 <<< bitsLen l ∧ 1 ≤ M ∧ M ≤ 2 * l := ⟨_, rfl, by rw [Nat.one_shiftLeft]; exact Nat.one_le_two_pow, by rw [Nat.one_shiftLeft]; exact two_pow_bitsLen_le (by omega)⟩
    rw [← hM1] at hp
    have HP := Lib.hid hp
    clear hp hM1
    obtain ⟨i0, e1, e2, hi1, hi2⟩ : ∃ i0 : Nat, (a : Int) + (l : Int) / 4 * 2 - 1 = i0 ∧ (a : Int) + (l : Int) / 4 * 2 + 1 = (i0 : Int) + 2 ∧ a ≤ i0 ∧ i0 + 2 < b :=
      ⟨a + l / 4 * 2 - 1, by omega, by omega, by omega, by have := HB.out; omega⟩
    have hlsz : l < 4611686018427387904 := by have := HB.out; omega
    go_wp2_with fail
    refine (HP.out _).mono ?_
    rintro e w1 ⟨rfl, hw1⟩
    have HR : Hid (RB w g off d w.heap.size l w1) := Lib.hid (by rw [hw1]; exact ⟨HS.out.alloc HG.out _, by simp, by simp⟩)
    clear hw1 HP HG
    go_wp2_with fail
    go_loopw [9, 10] (fun vi _ wr => ∃ (i X : Nat) (dk : Array Int), vi = .int .i64 i ∧ i0 ≤ i ∧ i ≤ i0 + 3 ∧ X < 18446744073709551616 ∧ Hid (dk.size = len) ∧ Hid (PermIn a b d dk) ∧ Hid (RB w g off dk w.heap.size X wr)) (fun vi _ _ => (i0 + 3 - (iof vi).toNat))
    case atStart => exact ⟨i0, l, d, rfl, Nat.le_refl _, by omega, by omega, HL, Lib.hid (permIn_refl _ _ _), HR⟩
    case round =>
      obtain ⟨i, X, dk, rfl, hi, hi3, hX, hz, hP, HRk⟩ := hrel
      clear HR HS HL
      by_cases hle : i ≤ i0 + 2
      · have hX' := xorNextN_lt X hX
        have HN := Lib.hid (fun W (h : RB w g off dk w.heap.size X W) => Try.xorshift_Next w.heap.size 0 X hX W h.2.1 h.2.2)
        obtain ⟨X', hXX⟩ : ∃ X', X' = xorNextN X := ⟨_, rfl⟩
        rw [← hXX] at HN hX'
        clear hXX hX
        obtain ⟨o, ho1, ho2⟩ : ∃ o : Nat, o = X' &&& (M - 1) ∧ o < M := ⟨_, rfl, land_lt (by omega)⟩
        have hand : bits .and .u64 (X' : Int) ((M : Int) - 1) = (o : Int) := by
          rw [show ((M : Int) - 1) = ((M - 1 : Nat) : Int) by omega, bits_and_u64_nat _ _ hX' (by omega), ho1]
        clear ho1
        go_wp2_with fail
        refine (HN.out _ HRk.out).mono ?_
        rintro e w2 ⟨rfl, hw2⟩
        have HR2 : Hid (RB w g off dk w.heap.size X' w2) := Lib.hid (by rw [hw2]; exact HRk.out.set (Nat.le_refl _) HNE.out X' 3)
        have HX := Lib.hid hX'
        clear hw2 HN HRk hX'
        obtain ⟨G, HG, hc, hf⟩ := HR2.out.1.fam hz.out
        by_cases hol : l ≤ o
        · obtain ⟨p, ep, hp1⟩ : ∃ p : Nat, (o : Int) - (l : Int) = p ∧ a + p < b := ⟨o - l, by omega, by have := HB.out; omega⟩
          have hsw := fun q q' => HR2.out.swap HNE.out (i := i) (j := a + p) (by rw [hz.out]; omega) (by rw [hz.out]; omega) q q'
          rw [← HG.out, ← HG.out] at hsw
          have HSW := Lib.hid hsw
          have HPP := Lib.hid (swp_keep (i := i) (j := a + p) hP.out (by omega) (by omega) (by omega) (by omega) (by rw [hz.out]; exact hb))
          clear hsw
          obtain ⟨v', hy'⟩ := cell?_setCell_some (w := w2) (p := ⟨g, off + i, none⟩) (x := .int .u16 (G (a + p))) (q := ⟨g, off + (a + p), none⟩) (hc (a + p) (by omega))
          go_wp2_with fail
          go_region
          go_wp2_with fail
          go_roundw
          case rel => exact ⟨i + 1, X', swp dk i (a + p), by go_num, by omega, by omega, HX.out, Lib.hid (by rw [size_swp]; exact hz.out), HPP, Lib.hid (HSW.out 0 1)⟩
          case measure => simp [iof] <;> omega
        · have hp1 : a + o < b := by have := HB.out; omega
          have hsw := fun q q' => HR2.out.swap HNE.out (i := i) (j := a + o) (by rw [hz.out]; omega) (by rw [hz.out]; omega) q q'
          rw [← HG.out, ← HG.out] at hsw
          have HSW := Lib.hid hsw
          have HPP := Lib.hid (swp_keep (i := i) (j := a + o) hP.out (by omega) (by omega) (by omega) (by omega) (by rw [hz.out]; exact hb))
          clear hsw
          obtain ⟨v', hy'⟩ := cell?_setCell_some (w := w2) (p := ⟨g, off + i, none⟩) (x := .int .u16 (G (a + o))) (q := ⟨g, off + (a + o), none⟩) (hc (a + o) (by omega))
          go_wp2_with fail
          go_region
          go_wp2_with fail
          go_roundw
          case rel => exact ⟨i + 1, X', swp dk i (a + o), by go_num, by omega, by omega, HX.out, Lib.hid (by rw [size_swp]; exact hz.out), HPP, Lib.hid (HSW.out 0 1)⟩
          case measure => simp [iof] <;> omega
      · go_wp2_with fail
        go_end0
        exact ⟨dk, rfl, hP.out, HRk.out.1⟩
  · go_wp2_with fail
    go_end0
    exact ⟨d, rfl, permIn_refl _ _ _, HS.out⟩
end Go.Proofs.Ytkjepopmlpfnpaa
