/-
  The library's sort at 16 bits: reverseRange.
-/
import Derived.Test.YtkjepopmlpfnpaaSo
namespace Go.Proofs.Ytkjepopmlpfnpaa
open Go.RowKit Go.Sort

theorem reverse_any (g off cap a b : Nat) (d : Array Int) (w : World) (hH : Holds u16 w g off d) (hab : a ≤ b) (hb : b ≤ d.size) (hsz : d.size < 4611686018427387904) :
    Calls Try.prog 44 #[.slice (some ⟨g, off, none⟩) d.size cap, .int .i64 a, .int .i64 b] w fun e w' => e = .returned (.tuple #[]) ∧ SW w g off (reverseRange d a b) w' := by
  have hS0 := SW.refl hH
  clear hH
  go_enter Try.func44, Try.ntmps44
  go_wp2
  go_loopw [6, 7] (fun vi vj wr => ∃ (i j : Nat) (dk : Array Int), vi = .int .i64 i ∧ vj = .int .i64 ((j : Int) - 1) ∧ a ≤ i ∧ i ≤ b ∧ j ≤ b ∧ dk.size = d.size ∧ SW w g off dk wr ∧ Hid (reverseLoop i (j - 1) dk = reverseLoop a (b - 1) d)) (fun _ vj _ => (iof vj + 1).toNat)
  case atStart => exact ⟨a, b, d, rfl, rfl, Nat.le_refl _, hab, Nat.le_refl _, rfl, hS0, rfl⟩
  case round =>
    obtain ⟨i, j, dk, rfl, rfl, hai, hib, hjb, hs, hS, hR⟩ := hrel
    obtain ⟨G, HG, hc, hf⟩ := hS.fam hs
    have HS := Lib.hid hS
    clear hS hS0
    by_cases hlt : i + 1 < j
    · obtain ⟨p, rfl⟩ : ∃ p, j = p + 1 := ⟨j - 1, by omega⟩
      have e1 : ((p + 1 : Nat) : Int) - 1 = p := by omega
      rw [e1]
      clear e1
      go_wp2
      go_region
      all_goals go_wp2
      go_roundw
      case rel =>
        refine ⟨i + 1, p, swp dk i p, by go_num, by go_num, by omega, by omega, by omega, by rw [size_swp]; exact hs, ?_, ?_⟩
        · have := HS.out.swap (i := i) (j := p) (by omega) (by omega) 0 1
          rw [← HG.out, ← HG.out] at this
          exact this
        · refine Lib.hid ?_
          rw [← hR.out, show p + 1 - 1 = p by omega]
          conv => rhs; rw [reverseLoop, if_pos (by omega)]
      case measure => simp [iof] <;> omega
    · go_wp2
      go_end0
      refine ⟨rfl, ?_⟩
      have e : reverseRange d a b = dk := by unfold reverseRange; rw [← hR.out, reverseLoop, if_neg (by omega)]
      rw [e]
      exact HS.out
end Go.Proofs.Ytkjepopmlpfnpaa
