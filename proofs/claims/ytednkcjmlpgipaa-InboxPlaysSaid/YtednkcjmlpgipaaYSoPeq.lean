/-
  The library's sort at 16 bits: partitionEqual.
-/
import Derived.Test.YtednkcjmlpgipaaYP1a
import Derived.Sort.WalkC4
import Derived.Deep.CutBlock
namespace Go.Proofs.Ytednkcjmlpgipaa
open Go.RowKit Go.Sort

set_option maxHeartbeats 1000000 in
theorem peq_any (g off cap a b p : Nat) (d : Array Int) (w : World) (hH : Holds u16 w g off d) (hap : a ≤ p) (hpb : p < b) (hb : b ≤ d.size) (hsz : d.size < 4611686018427387904) :
    Calls Try.prog 131 #[.slice (some ⟨g, off, none⟩) d.size cap, .int .i64 a, .int .i64 b, .int .i64 p] w fun e w' => e = .returned (.int .i64 (partitionEqual ltInt d a b p).1) ∧ SW w g off (partitionEqual ltInt d a b p).2 w' := by
  have HS0 := Lib.hid (SW.refl hH)
  clear hH
  obtain ⟨len, hlen⟩ : ∃ len, len = d.size := ⟨_, rfl⟩
  rw [← hlen] at hb hsz ⊢
  have HL := Lib.hid hlen.symm
  clear hlen
  obtain ⟨G, HG, hc, hf⟩ := HS0.out.fam HL.out
  have hsw := fun q q' => HS0.out.swap (i := a) (j := p) (by rw [HL.out]; omega) (by rw [HL.out]; omega) q q'
  rw [← HG.out, ← HG.out] at hsw
  have HSW := Lib.hid hsw
  clear hsw
  obtain ⟨v', hy'⟩ := cell?_setCell_some (w := w) (p := ⟨g, off + a, none⟩) (x := .int .u16 (G p)) (q := ⟨g, off + p, none⟩) (hc p (by omega))
  go_enter Try.func131, Try.ntmps131
  go_wp2
  go_region
  go_wp2
  clear hc hf HG v' hy'
  go_loopw [9, 10] (fun vi vj wr => ∃ (i j : Nat) (dk : Array Int), vi = .int .i64 i ∧ vj = .int .i64 j ∧ a < i ∧ i ≤ j + 1 ∧ j < b ∧ Hid (dk.size = len) ∧ Hid (SW w g off dk wr) ∧ Hid (partEqLoop ltInt a i j dk = partEqLoop ltInt a (a + 1) (b - 1) (swp d a p))) (fun vi vj _ => (iof vj + 1 - iof vi).toNat)
  case atStart => exact ⟨a + 1, b - 1, swp d a p, by go_num, by go_num, by omega, by omega, by omega, Lib.hid (by rw [size_swp]; exact HL.out), Lib.hid (HSW.out 0 1), rfl⟩
  case round =>
    obtain ⟨i, j, dk, rfl, rfl, hai, hij, hjb, hs, HS, hR⟩ := hrel
    clear HS0 HL HSW
    go_upto_block 2 with fail
    go_cut [9] from 29 to 45 (fun vi wx => ∃ i2 : Nat, vi = .int .i64 i2 ∧ i ≤ i2 ∧ i2 ≤ j + 1 ∧ Hid (i2 = scanUp (fun x => !ltInt dk[a]! x) dk j i) ∧ Hid (SW w g off dk wx))
    case first =>
      go_wp2_with fail
      go_loopw [9] (fun vi wx => ∃ i2 : Nat, vi = .int .i64 i2 ∧ i ≤ i2 ∧ i2 ≤ j + 1 ∧ Hid (scanUp (fun x => !ltInt dk[a]! x) dk j i2 = scanUp (fun x => !ltInt dk[a]! x) dk j i) ∧ Hid (SW w g off dk wx)) (fun vi _ => (j + 1 - (iof vi).toNat))
      case atStart => exact ⟨i, rfl, Nat.le_refl _, hij, rfl, HS⟩
      case round =>
        obtain ⟨i2, rfl, hi2, hij2, hU, HS2⟩ := hrel
        clear HS
        obtain ⟨G, HG, hc, hf⟩ := HS2.out.fam hs.out
        by_cases hle : i2 ≤ j
        · go_wp2_with fail
          go_quiet ((go_at_call 130; exact Calls.quiet_of_same (less_q _ _ _)))
          cases hl : ltInt (G a) (G i2)
          · have HL := Lib.hid hl
            clear hl
            go_wp2_with fail
            go_roundw
            case rel => exact ⟨i2 + 1, by go_num, by omega, by omega, Lib.hid (by rw [← hU.out, scanUp_go _ _ _ _ hle (by rw [← HG.out, ← HG.out, HL.out]; rfl)]), Lib.hid (HS2.out.drewN _)⟩
            case measure => simp [iof] <;> omega
          · have HL := Lib.hid hl
            clear hl
            go_wp2_with fail
            go_meet
            case rel => exact ⟨i2, rfl, hi2, hij2, Lib.hid (by rw [← hU.out, scanUp_end _ _ _ _ (Or.inr (by rw [← HG.out, ← HG.out, HL.out]; rfl))]), Lib.hid (HS2.out.drewN _)⟩
        · go_wp2_with fail
          go_quiet ((go_at_call 130; exact Calls.quiet_of_same (less_q _ _ _)))
          go_wp2_with fail
          go_meet
          case rel => exact ⟨i2, rfl, hi2, hij2, Lib.hid (by rw [← hU.out, scanUp_end _ _ _ _ (Or.inl hle)]), Lib.hid (HS2.out.drewN _)⟩
    case rest =>
    obtain ⟨i2, rfl, hi2, hij2, hU, HS2⟩ := hcut
    clear HS
    go_upto_block 4 with fail
    go_cut [10] from 46 to 61 (fun vj wx => ∃ j2 : Nat, vj = .int .i64 j2 ∧ j2 ≤ j ∧ i2 ≤ j2 + 1 ∧ Hid (j2 = scanDown (fun x => ltInt dk[a]! x) dk i2 j) ∧ Hid (SW w g off dk wx))
    case first =>
      go_wp2_with fail
      go_loopw [10] (fun vj wx => ∃ j2 : Nat, vj = .int .i64 j2 ∧ j2 ≤ j ∧ i2 ≤ j2 + 1 ∧ Hid (scanDown (fun x => ltInt dk[a]! x) dk i2 j2 = scanDown (fun x => ltInt dk[a]! x) dk i2 j) ∧ Hid (SW w g off dk wx)) (fun vj _ => (iof vj).toNat)
      case atStart => exact ⟨j, rfl, Nat.le_refl _, hij2, rfl, HS2⟩
      case round =>
        obtain ⟨j2, rfl, hj2, hij3, hD, HS3⟩ := hrel
        clear HS2
        obtain ⟨G, HG, hc, hf⟩ := HS3.out.fam hs.out
        by_cases hle : i2 ≤ j2
        · go_wp2_with fail
          go_quiet ((go_at_call 130; exact Calls.quiet_of_same (less_q _ _ _)))
          cases hl : ltInt (G a) (G j2)
          · have HL := Lib.hid hl
            clear hl
            go_wp2_with fail
            go_meet
            case rel => exact ⟨j2, rfl, hj2, hij3, Lib.hid (by rw [← hD.out, scanDown_end _ _ _ _ (Or.inr (by rw [← HG.out, ← HG.out, HL.out]))]), Lib.hid (HS3.out.drewN _)⟩
          · have HL := Lib.hid hl
            clear hl
            go_wp2_with fail
            go_roundw
            case rel => exact ⟨j2 - 1, by go_num, by omega, by omega, Lib.hid (by rw [← hD.out, scanDown_go _ _ _ _ hle (by omega) (by rw [← HG.out, ← HG.out, HL.out])]), Lib.hid (HS3.out.drewN _)⟩
            case measure => simp [iof] <;> omega
        · go_wp2_with fail
          go_quiet ((go_at_call 130; exact Calls.quiet_of_same (less_q _ _ _)))
          go_wp2_with fail
          go_meet
          case rel => exact ⟨j2, rfl, hj2, hij3, Lib.hid (by rw [← hD.out, scanDown_end _ _ _ _ (Or.inl hle)]), Lib.hid (HS3.out.drewN _)⟩
    case rest =>
    obtain ⟨j2, rfl, hj2, hij3, hD, HS3⟩ := hcut
    clear HS2
    obtain ⟨G, HG, hc, hf⟩ := HS3.out.fam hs.out
    by_cases hgt : j2 < i2
    · have e : partitionEqual ltInt d a b p = (i2, dk) := by
        unfold partitionEqual
        rw [← hR.out, partEq_break ltInt a i j dk hU.out hD.out hgt]
      have HE := Lib.hid e
      clear e
      go_wp2_with fail
      go_ret
      exact ⟨by rw [HE.out]; rfl, by rw [HE.out]; exact HS3.out⟩
    · have hne : i2 < j2 := scans_lt ltInt a i j dk (by omega) hU.out hD.out (by omega)
      have hsw := fun q q' => HS3.out.swap (i := i2) (j := j2) (by rw [hs.out]; omega) (by rw [hs.out]; omega) q q'
      rw [← HG.out, ← HG.out] at hsw
      have HSW := Lib.hid hsw
      clear hsw
      go_wp2_with fail
      go_region
      go_wp2_with fail
      go_roundw
      case rel => exact ⟨i2 + 1, j2 - 1, swp dk i2 j2, by go_num, by go_num, by omega, by omega, by omega, Lib.hid (by rw [size_swp]; exact hs.out), Lib.hid (HSW.out 0 1), Lib.hid (by rw [← hR.out, partEq_go ltInt a i j dk hU.out hD.out (by omega)])⟩
      case measure => simp [iof] <;> omega
end Go.Proofs.Ytednkcjmlpgipaa
