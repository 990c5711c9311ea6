/-
  The library's sort at 16 bits: partition. (The two scans stand twice in the text: their walks are laid by a small program.)
-/
import Derived.Test.YtednkcjmlpgipaaYP1a
import Derived.Sort.WalkC4
import Derived.Deep.CutBlock
namespace Go.Proofs.Ytednkcjmlpgipaa
open Go.RowKit Go.Sort

set_option maxRecDepth 100000 in
set_option maxHeartbeats 2000000 in
theorem part_any (g off cap a b p : Nat) (d : Array Int) (w : World) (hH : Holds u16 w g off d) (hap : a ≤ p) (hpb : p < b) (hb : b ≤ d.size) (hsz : d.size < 4611686018427387904) :
    Calls Try.prog 132 #[.slice (some ⟨g, off, none⟩) d.size cap, .int .i64 a, .int .i64 b, .int .i64 p] w fun e w' => e = .returned (.tuple #[.int .i64 (partition ltInt d a b p).1, .bool (partition ltInt d a b p).2.1]) ∧ SW w g off (partition ltInt d a b p).2.2 w' := by
  have HS0 := Lib.hid (SW.refl hH)
  clear hH
  obtain ⟨len, hlen⟩ : ∃ len, len = d.size := ⟨_, rfl⟩
  rw [← hlen] at hb hsz ⊢
  have HL := Lib.hid hlen.symm
  clear hlen
  obtain ⟨G, HG, hc, hf⟩ := HS0.out.fam HL.out
  have hsw := fun q q' => HS0.out.swap (i := a) (j := p) (by rw [HL.out]; omega) (by rw [HL.out]; omega) q q'
  rw [← HG.out, ← HG.out] at hsw
  have HSW := Lib.hid hsw
  clear hsw
  obtain ⟨v', hy'⟩ := cell?_setCell_some (w := w) (p := ⟨g, off + a, none⟩) (x := .int .u16 (G p)) (q := ⟨g, off + p, none⟩) (hc p (by omega))
  go_enter Try.func132, Try.ntmps132
  go_upto_region 1 with fail
  go_cut [] from 12 to 25 (fun wx => Hid (SW w g off (swp d a p) wx))
  case first =>
    go_wp2_with fail
    go_region
    go_wp2_with fail
    go_meet
    case rel => exact Lib.hid (HSW.out 0 1)
  case rest =>
  clear hc hf HG v' hy' HSW HS0
  have HS1 := hcut
  clear hcut
  obtain ⟨dk, HDK⟩ : ∃ dk, Hid (dk = swp d a p) := ⟨_, rfl⟩
  rw [← HDK.out] at HS1
  have hs : Hid (dk.size = len) := Lib.hid (by rw [HDK.out, size_swp]; exact HL.out)
  clear HL
  go_upto_region 2 with fail
  go_cut [10, 11] from 26 to 28 (fun vi vj wx => ∃ i j : Nat, vi = .int .i64 i ∧ vj = .int .i64 j ∧ Hid (i = a + 1) ∧ Hid (j = b - 1) ∧ a < i ∧ i ≤ j + 1 ∧ j < b ∧ Hid (SW w g off dk wx))
  case first =>
    go_wp2_with fail
    go_meet
    case rel => exact ⟨a + 1, b - 1, by go_num, by go_num, rfl, rfl, by omega, by omega, by omega, HS1⟩
  case rest =>
  clear HS1
  obtain ⟨i, j, rfl, rfl, hi, hj, hai, hij, hjb, HS⟩ := hcut
  go_upto_block 0 with fail
  go_cut [10] from 30 to 45 (fun vi wx => ∃ i2 : Nat, vi = .int .i64 i2 ∧ i ≤ i2 ∧ i2 ≤ j + 1 ∧ Hid (i2 = scanUp (fun x => ltInt x dk[a]!) dk j i) ∧ Hid (SW w g off dk wx))
  case first =>
    go_wp2_with fail
    go_loopw [10] (fun vi wx => ∃ i3 : Nat, vi = .int .i64 i3 ∧ i ≤ i3 ∧ i3 ≤ j + 1 ∧ Hid (scanUp (fun x => ltInt x dk[a]!) dk j i3 = scanUp (fun x => ltInt x dk[a]!) dk j i) ∧ Hid (SW w g off dk wx)) (fun vi _ => (j + 1 - (iof vi).toNat))
    case atStart => exact ⟨i, rfl, Nat.le_refl _, hij, rfl, HS⟩
    case round =>
      obtain ⟨i3, rfl, hi3, hij3, hU, HS3⟩ := hrel
      clear HS
      obtain ⟨G, HG, hc, hf⟩ := HS3.out.fam hs.out
      by_cases hle : i3 ≤ j
      · go_wp2_with fail
        go_quiet ((go_at_call 130; exact Calls.quiet_of_same (less_q _ _ _)))
        cases hl : ltInt (G i3) (G a)
        · have HL := Lib.hid hl
          clear hl
          go_wp2_with fail
          go_meet
          case rel => exact ⟨i3, rfl, hi3, hij3, Lib.hid (by rw [← hU.out, scanUp_end _ _ _ _ (Or.inr (by rw [← HG.out, ← HG.out, HL.out]))]), Lib.hid (HS3.out.drewN _)⟩
        · have HL := Lib.hid hl
          clear hl
          go_wp2_with fail
          go_roundw
          case rel => exact ⟨i3 + 1, by go_num, by omega, by omega, Lib.hid (by rw [← hU.out, scanUp_go _ _ _ _ hle (by rw [← HG.out, ← HG.out, HL.out])]), Lib.hid (HS3.out.drewN _)⟩
          case measure => simp [iof] <;> omega
      · go_wp2_with fail
        go_quiet ((go_at_call 130; exact Calls.quiet_of_same (less_q _ _ _)))
        go_wp2_with fail
        go_meet
        case rel => exact ⟨i3, rfl, hi3, hij3, Lib.hid (by rw [← hU.out, scanUp_end _ _ _ _ (Or.inl hle)]), Lib.hid (HS3.out.drewN _)⟩
  case rest =>
  obtain ⟨i2, rfl, hi2, hij2, hU, HS2⟩ := hcut
  clear HS
  go_upto_block 2 with fail
  go_cut [11] from 46 to 62 (fun vj wx => ∃ j2 : Nat, vj = .int .i64 j2 ∧ j2 ≤ j ∧ i2 ≤ j2 + 1 ∧ Hid (j2 = scanDown (fun x => !ltInt x dk[a]!) dk i2 j) ∧ Hid (SW w g off dk wx))
  case first =>
    go_wp2_with fail
    go_loopw [11] (fun vj wx => ∃ j3 : Nat, vj = .int .i64 j3 ∧ j3 ≤ j ∧ i2 ≤ j3 + 1 ∧ Hid (scanDown (fun x => !ltInt x dk[a]!) dk i2 j3 = scanDown (fun x => !ltInt x dk[a]!) dk i2 j) ∧ Hid (SW w g off dk wx)) (fun vj _ => (iof vj).toNat)
    case atStart => exact ⟨j, rfl, Nat.le_refl _, hij2, rfl, HS2⟩
    case round =>
      obtain ⟨j3, rfl, hj3, hij3, hD, HS3⟩ := hrel
      clear HS2
      obtain ⟨G, HG, hc, hf⟩ := HS3.out.fam hs.out
      by_cases hle : i2 ≤ j3
      · go_wp2_with fail
        go_quiet ((go_at_call 130; exact Calls.quiet_of_same (less_q _ _ _)))
        cases hl : ltInt (G j3) (G a)
        · have HL := Lib.hid hl
          clear hl
          go_wp2_with fail
          go_roundw
          case rel => exact ⟨j3 - 1, by go_num, by omega, by omega, Lib.hid (by rw [← hD.out, scanDown_go _ _ _ _ hle (by omega) (by rw [← HG.out, ← HG.out, HL.out]; rfl)]), Lib.hid (HS3.out.drewN _)⟩
          case measure => simp [iof] <;> omega
        · have HL := Lib.hid hl
          clear hl
          go_wp2_with fail
          go_meet
          case rel => exact ⟨j3, rfl, hj3, hij3, Lib.hid (by rw [← hD.out, scanDown_end _ _ _ _ (Or.inr (by rw [← HG.out, ← HG.out, HL.out]; rfl))]), Lib.hid (HS3.out.drewN _)⟩
      · go_wp2_with fail
        go_quiet ((go_at_call 130; exact Calls.quiet_of_same (less_q _ _ _)))
        go_wp2_with fail
        go_meet
        case rel => exact ⟨j3, rfl, hj3, hij3, Lib.hid (by rw [← hD.out, scanDown_end _ _ _ _ (Or.inl hle)]), Lib.hid (HS3.out.drewN _)⟩
  case rest =>
  obtain ⟨j2, rfl, hj2, hij4, hD, HS3⟩ := hcut
  clear HS2
  obtain ⟨G, HG, hc, hf⟩ := HS3.out.fam hs.out
  by_cases hgt : j2 < i2
  · have HE := Lib.hid (part_first_break ltInt d a b p hi.out hj.out HDK.out hU.out hD.out hgt)
    clear hi hj HDK hU hD
    have hsw := fun q q' => HS3.out.swap (i := j2) (j := a) (by rw [hs.out]; omega) (by rw [hs.out]; omega) q q'
    rw [← HG.out, ← HG.out] at hsw
    have HSW := Lib.hid hsw
    clear hsw
    obtain ⟨v', hy'⟩ := cell?_setCell_some (w := wc) (p := ⟨g, off + j2, none⟩) (x := .int .u16 (G a)) (q := ⟨g, off + a, none⟩) (hc a (by omega))
    go_wp2_with fail
    go_region
    go_wp2_with fail
    all_goals go_ret2
    all_goals exact ⟨by rw [HE.out]; rfl, by rw [HE.out]; exact HSW.out 0 1⟩
  · have hne : i2 < j2 := part_scans_lt ltInt a i j dk (by omega) hU.out hD.out (by omega)
    have HE := Lib.hid (part_first_go ltInt d a b p hi.out hj.out HDK.out hU.out hD.out (by omega))
    clear hi hj HDK hU hD
    have hsw := fun q q' => HS3.out.swap (i := i2) (j := j2) (by rw [hs.out]; omega) (by rw [hs.out]; omega) q q'
    rw [← HG.out, ← HG.out] at hsw
    have HSW := Lib.hid hsw
    clear hsw
    go_upto_region 10 with fail
    go_cut [] from 81 to 94 (fun wx => Hid (SW w g off (swp dk i2 j2) wx))
    case first =>
      go_wp2_with fail
      go_region
      go_wp2_with fail
      go_meet
      case rel => exact Lib.hid (HSW.out 0 1)
    case rest =>
    have HS4 := hcut
    clear hcut hc hf HG HSW HS3
    obtain ⟨d0, HD0⟩ : ∃ d0, Hid (d0 = swp dk i2 j2) := ⟨_, rfl⟩
    rw [← HD0.out] at HS4 HE
    have hs0 : Hid (d0.size = len) := Lib.hid (by rw [HD0.out, size_swp]; exact hs.out)
    clear HD0 hs
    go_wp2_with fail
    go_loopw [10, 11] (fun vi vj wr => ∃ (k m : Nat) (dm : Array Int), vi = .int .i64 k ∧ vj = .int .i64 m ∧ a < k ∧ k ≤ m + 1 ∧ m < b ∧ Hid (dm.size = len) ∧ Hid (SW w g off dm wr) ∧ Hid (partLoop ltInt a k m dm = partLoop ltInt a (i2 + 1) (j2 - 1) d0)) (fun vi vj _ => (iof vj + 1 - iof vi).toNat)
    case atStart => exact ⟨i2 + 1, j2 - 1, d0, by go_num, by go_num, by omega, by omega, by omega, hs0, HS4, rfl⟩
    case round =>
      obtain ⟨k, m, dm, rfl, rfl, hak, hkm, hmb, hsm, HS, hR⟩ := hrel
      clear HS4 hs0
      go_upto_block 6 with fail
      go_cut [10] from 99 to 114 (fun vi wx => ∃ k2 : Nat, vi = .int .i64 k2 ∧ k ≤ k2 ∧ k2 ≤ m + 1 ∧ Hid (k2 = scanUp (fun x => ltInt x dm[a]!) dm m k) ∧ Hid (SW w g off dm wx))
      case first =>
        go_wp2_with fail
        go_loopw [10] (fun vi wx => ∃ i3 : Nat, vi = .int .i64 i3 ∧ k ≤ i3 ∧ i3 ≤ m + 1 ∧ Hid (scanUp (fun x => ltInt x dm[a]!) dm m i3 = scanUp (fun x => ltInt x dm[a]!) dm m k) ∧ Hid (SW w g off dm wx)) (fun vi _ => (m + 1 - (iof vi).toNat))
        case atStart => exact ⟨k, rfl, Nat.le_refl _, hkm, rfl, HS⟩
        case round =>
          obtain ⟨i3, rfl, hi3, hij3, hU, HS3⟩ := hrel
          clear HS
          obtain ⟨G, HG, hc, hf⟩ := HS3.out.fam hsm.out
          by_cases hle : i3 ≤ m
          · go_wp2_with fail
            go_quiet ((go_at_call 130; exact Calls.quiet_of_same (less_q _ _ _)))
            cases hl : ltInt (G i3) (G a)
            · have HL := Lib.hid hl
              clear hl
              go_wp2_with fail
              go_meet
              case rel => exact ⟨i3, rfl, hi3, hij3, Lib.hid (by rw [← hU.out, scanUp_end _ _ _ _ (Or.inr (by rw [← HG.out, ← HG.out, HL.out]))]), Lib.hid (HS3.out.drewN _)⟩
            · have HL := Lib.hid hl
              clear hl
              go_wp2_with fail
              go_roundw
              case rel => exact ⟨i3 + 1, by go_num, by omega, by omega, Lib.hid (by rw [← hU.out, scanUp_go _ _ _ _ hle (by rw [← HG.out, ← HG.out, HL.out])]), Lib.hid (HS3.out.drewN _)⟩
              case measure => simp [iof] <;> omega
          · go_wp2_with fail
            go_quiet ((go_at_call 130; exact Calls.quiet_of_same (less_q _ _ _)))
            go_wp2_with fail
            go_meet
            case rel => exact ⟨i3, rfl, hi3, hij3, Lib.hid (by rw [← hU.out, scanUp_end _ _ _ _ (Or.inl hle)]), Lib.hid (HS3.out.drewN _)⟩
      case rest =>
      obtain ⟨k2, rfl, hi2, hij2, hU, HS2⟩ := hcut
      clear HS
      go_upto_block 8 with fail
      go_cut [11] from 115 to 131 (fun vj wx => ∃ m2 : Nat, vj = .int .i64 m2 ∧ m2 ≤ m ∧ k2 ≤ m2 + 1 ∧ Hid (m2 = scanDown (fun x => !ltInt x dm[a]!) dm k2 m) ∧ Hid (SW w g off dm wx))
      case first =>
        go_wp2_with fail
        go_loopw [11] (fun vj wx => ∃ j3 : Nat, vj = .int .i64 j3 ∧ j3 ≤ m ∧ k2 ≤ j3 + 1 ∧ Hid (scanDown (fun x => !ltInt x dm[a]!) dm k2 j3 = scanDown (fun x => !ltInt x dm[a]!) dm k2 m) ∧ Hid (SW w g off dm wx)) (fun vj _ => (iof vj).toNat)
        case atStart => exact ⟨m, rfl, Nat.le_refl _, hij2, rfl, HS2⟩
        case round =>
          obtain ⟨j3, rfl, hj3, hij3, hD, HS3⟩ := hrel
          clear HS2
          obtain ⟨G, HG, hc, hf⟩ := HS3.out.fam hsm.out
          by_cases hle : k2 ≤ j3
          · go_wp2_with fail
            go_quiet ((go_at_call 130; exact Calls.quiet_of_same (less_q _ _ _)))
            cases hl : ltInt (G j3) (G a)
            · have HL := Lib.hid hl
              clear hl
              go_wp2_with fail
              go_roundw
              case rel => exact ⟨j3 - 1, by go_num, by omega, by omega, Lib.hid (by rw [← hD.out, scanDown_go _ _ _ _ hle (by omega) (by rw [← HG.out, ← HG.out, HL.out]; rfl)]), Lib.hid (HS3.out.drewN _)⟩
              case measure => simp [iof] <;> omega
            · have HL := Lib.hid hl
              clear hl
              go_wp2_with fail
              go_meet
              case rel => exact ⟨j3, rfl, hj3, hij3, Lib.hid (by rw [← hD.out, scanDown_end _ _ _ _ (Or.inr (by rw [← HG.out, ← HG.out, HL.out]; rfl))]), Lib.hid (HS3.out.drewN _)⟩
          · go_wp2_with fail
            go_quiet ((go_at_call 130; exact Calls.quiet_of_same (less_q _ _ _)))
            go_wp2_with fail
            go_meet
            case rel => exact ⟨j3, rfl, hj3, hij3, Lib.hid (by rw [← hD.out, scanDown_end _ _ _ _ (Or.inl hle)]), Lib.hid (HS3.out.drewN _)⟩
      case rest =>
      obtain ⟨m2, rfl, hj2, hij4, hD, HS3⟩ := hcut
      clear HS2
      obtain ⟨G, HG, hc, hf⟩ := HS3.out.fam hsm.out
      by_cases hgt : m2 < k2
      · have e : partLoop ltInt a (i2 + 1) (j2 - 1) d0 = (m2, dm) := by rw [← hR.out, part_break ltInt a k m dm hU.out hD.out hgt]
        have HE2 : Hid (partition ltInt d a b p = (m2, false, swp dm m2 a)) := Lib.hid (by rw [HE.out, e])
        clear hR hU hD e HE
        have hsw := fun q q' => HS3.out.swap (i := m2) (j := a) (by rw [hsm.out]; omega) (by rw [hsm.out]; omega) q q'
        rw [← HG.out, ← HG.out] at hsw
        have HSW := Lib.hid hsw
        clear hsw
        obtain ⟨v', hy'⟩ := cell?_setCell_some (w := wc) (p := ⟨g, off + m2, none⟩) (x := .int .u16 (G a)) (q := ⟨g, off + a, none⟩) (hc a (by omega))
        go_wp2_with fail
        go_region
        go_wp2_with fail
        all_goals go_ret2
        all_goals exact ⟨by rw [HE2.out]; rfl, by rw [HE2.out]; exact HSW.out 0 1⟩
      · have hne2 : k2 < m2 := part_scans_lt ltInt a k m dm (by omega) hU.out hD.out (by omega)
        have hsw := fun q q' => HS3.out.swap (i := k2) (j := m2) (by rw [hsm.out]; omega) (by rw [hsm.out]; omega) q q'
        rw [← HG.out, ← HG.out] at hsw
        have HSW := Lib.hid hsw
        clear hsw
        go_wp2_with fail
        go_region
        go_wp2_with fail
        go_roundw
        case rel => exact ⟨k2 + 1, m2 - 1, swp dm k2 m2, by go_num, by go_num, by omega, by omega, by omega, Lib.hid (by rw [size_swp]; exact hsm.out), Lib.hid (HSW.out 0 1), Lib.hid (by rw [← hR.out, part_go ltInt a k m dm hU.out hD.out (by omega)])⟩
        case measure => simp [iof] <;> omega
end Go.Proofs.Ytednkcjmlpgipaa
