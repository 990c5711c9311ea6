/-
  The library's sort at 16 bits: insertionSort.
-/
import Derived.Test.YtkjepopmlpfnpaaSo
import Derived.Sort.WalkA
namespace Go.Proofs.Ytkjepopmlpfnpaa
open Go.RowKit Go.Sort

theorem insertion_any (g off cap a b : Nat) (d : Array Int) (w : World) (hH : Holds u16 w g off d) (hab : a ≤ b) (hb : b ≤ d.size) (hsz : d.size < 4611686018427387904) :
    Calls Try.prog 40 #[.slice (some ⟨g, off, none⟩) d.size cap, .int .i64 a, .int .i64 b] w fun e w' => e = .returned (.tuple #[]) ∧ SW w g off (insertionSort ltInt d a b) w' := by
  have hS0 := SW.refl hH
  clear hH
  go_enter Try.func40, Try.ntmps40
  go_wp2
  go_loopw [6] (fun vi wr => ∃ (i : Nat) (dk : Array Int), vi = .int .i64 i ∧ a < i ∧ i ≤ b + 1 ∧ dk.size = d.size ∧ SW w g off dk wr ∧ Hid (insOuter ltInt a b i dk = insOuter ltInt a b (a + 1) d)) (fun vi _ => b + 1 - (iof vi).toNat)
  case atStart => exact ⟨a + 1, d, by go_num, by omega, by omega, rfl, hS0, rfl⟩
  case round =>
    obtain ⟨i, dk, rfl, hai, hib, hs, hS, hO⟩ := hrel
    have HS := Lib.hid hS
    clear hS hS0
    by_cases hlt : i < b
    · go_wp2
      go_loopw [7] (fun vj wr2 => ∃ (j : Nat) (dj : Array Int), vj = .int .i64 j ∧ a ≤ j ∧ j ≤ i ∧ dj.size = d.size ∧ SW w g off dj wr2 ∧ Hid (insInner ltInt a j dj = insInner ltInt a i dk)) (fun vj _ => (iof vj).toNat)
      case atStart => exact ⟨i, dk, rfl, by omega, Nat.le_refl _, hs, HS.out, rfl⟩
      case round =>
        obtain ⟨j, dj, rfl, haj, hji, hsj, hSj, hI⟩ := hrel
        obtain ⟨G, HG, hc, hf⟩ := hSj.fam hsj
        have HSj := Lib.hid hSj
        clear hSj HS
        have OUT : Hid ((j ≤ a ∨ ltInt dj[j]! dj[j - 1]! = false) → insOuter ltInt a b (i + 1) dj = insOuter ltInt a b (a + 1) d) := Lib.hid fun hst => by
          rw [← hO.out, insOuter_go _ _ _ _ _ hlt, ← hI.out, insInner_stop _ _ _ _ hst]
        by_cases hja : a < j
        · go_wp2
          go_quiet ((go_at_call 46; exact Calls.quiet_of_same (less_q _ _ _)))
          cases hl : ltInt (G j) (G (j - 1))
          · have HL := Lib.hid hl
            clear hl
            go_wp2
            all_goals go_roundw
            case rel => exact ⟨i + 1, dj, by go_num, by omega, by omega, hsj, HSj.out.drewN _, Lib.hid (OUT.out (Or.inr (by rw [← HG.out, ← HG.out]; exact HL.out)))⟩
            case measure => simp [iof] <;> omega
          · have HL := Lib.hid hl
            clear hl
            go_wp2
            go_region
            all_goals go_wp2
            go_roundw
            case rel =>
              refine ⟨j - 1, swp dj j (j - 1), by go_num, by omega, by omega, by rw [size_swp]; exact hsj, ?_, Lib.hid ?_⟩
              · have := HSj.out.swap (i := j) (j := j - 1) (by omega) (by omega) (nq + 1) 0
                rw [← HG.out, ← HG.out] at this
                exact this
              · rw [← hI.out, insInner_go ltInt a j dj hja (by rw [← HG.out, ← HG.out]; exact HL.out)]
            case measure => simp [iof] <;> omega
        · go_wp2
          go_quiet ((go_at_call 46; exact Calls.quiet_of_same (less_q _ _ _)))
          go_wp2
          all_goals go_roundw
          case rel => exact ⟨i + 1, dj, by go_num, by omega, by omega, hsj, HSj.out.drewN _, Lib.hid (OUT.out (Or.inl (by omega)))⟩
          case measure => simp [iof] <;> omega
    · go_wp2
      go_end0
      exact ⟨rfl, by unfold insertionSort; rw [← hO.out, insOuter_stop _ _ _ _ _ hlt]; exact HS.out⟩
end Go.Proofs.Ytkjepopmlpfnpaa
