/-
  The library's sort at 16 bits: partialInsertionSort.
-/
import Derived.Test.YtednkcjmlpgipaaYP1a
import Derived.Sort.WalkA6
import Derived.Deep.CutBlock
namespace Go.Proofs.Ytednkcjmlpgipaa
open Go.RowKit Go.Sort

set_option maxRecDepth 100000 in
set_option maxHeartbeats 2000000 in
theorem pins_any (g off cap a b : Nat) (d : Array Int) (w : World) (hH : Holds u16 w g off d) (hab : a < b) (hb : b ≤ d.size) (hsz : d.size < 4611686018427387904) :
    Calls Try.prog 129 #[.slice (some ⟨g, off, none⟩) d.size cap, .int .i64 a, .int .i64 b] w fun e w' => e = .returned (.bool (partialInsertionSort ltInt d a b).2) ∧ SW w g off (partialInsertionSort ltInt d a b).1 w' := by
  have HS0 := Lib.hid (SW.refl hH)
  clear hH
  obtain ⟨len, hlen⟩ : ∃ len, len = d.size := ⟨_, rfl⟩
  rw [← hlen] at hb hsz ⊢
  have HL := Lib.hid hlen.symm
  clear hlen
  go_enter Try.func129, Try.ntmps129
  go_wp2
  go_loopw [7, 8] (fun vi vs wr => ∃ (i s : Nat) (dk : Array Int), vi = .int .i64 i ∧ vs = .int .i64 s ∧ a < i ∧ i ≤ b ∧ s ≤ 5 ∧ Hid (dk.size = len) ∧ Hid (SW w g off dk wr) ∧ Hid (partialIns ltInt a b (5 - s) i dk = partialInsertionSort ltInt d a b)) (fun _ vs _ => (5 - (iof vs).toNat))
  case atStart => exact ⟨a + 1, 0, d, by go_num, rfl, by omega, by omega, by omega, HL, HS0, rfl⟩
  case round =>
    obtain ⟨i, s, dk, rfl, rfl, hai, hib, hs5, hz, HS, hR⟩ := hrel
    clear HS0 HL
    by_cases hs : s < 5
    · go_upto_block 2 with fail
      go_cut [7] from 17 to 34 (fun vi wx => ∃ k : Nat, vi = .int .i64 k ∧ a < k ∧ k ≤ b ∧ Hid (scanSorted ltInt dk b i = k) ∧ Hid (SW w g off dk wx))
      case first =>
        go_wp2_with fail
        go_loopw [7] (fun vi wx => ∃ k : Nat, vi = .int .i64 k ∧ a < k ∧ k ≤ b ∧ Hid (scanSorted ltInt dk b i = scanSorted ltInt dk b k) ∧ Hid (SW w g off dk wx)) (fun vi _ => (b - (iof vi).toNat))
        case atStart => exact ⟨i, rfl, hai, hib, rfl, HS⟩
        case round =>
          obtain ⟨k, rfl, hak, hkb, hU, HS3⟩ := hrel
          clear HS
          obtain ⟨G, HG, hc, hf⟩ := HS3.out.fam hz.out
          by_cases hle : k < b
          · go_wp2_with fail
            go_quiet ((go_at_call 130; exact Calls.quiet_of_same (less_q _ _ _)))
            cases hl : ltInt (G k) (G (k - 1))
            · have HL := Lib.hid hl
              clear hl
              go_wp2_with fail
              go_roundw
              case rel => exact ⟨k + 1, by go_num, by omega, by omega, Lib.hid (by rw [hU.out, scanSorted_go _ _ _ _ hle (by rw [← HG.out, ← HG.out, HL.out])]), Lib.hid (HS3.out.drewN _)⟩
              case measure => simp [iof] <;> omega
            · have HL := Lib.hid hl
              clear hl
              go_wp2_with fail
              go_meet
              case rel => exact ⟨k, rfl, hak, hkb, Lib.hid (by rw [hU.out, scanSorted_stop _ _ _ _ (Or.inr (by rw [← HG.out, ← HG.out, HL.out]))]), Lib.hid (HS3.out.drewN _)⟩
          · go_wp2_with fail
            go_quiet ((go_at_call 130; exact Calls.quiet_of_same (less_q _ _ _)))
            go_wp2_with fail
            go_meet
            case rel => exact ⟨k, rfl, hak, hkb, Lib.hid (by rw [hU.out, scanSorted_stop _ _ _ _ (Or.inl hle)]), Lib.hid (HS3.out.drewN _)⟩
      case rest =>
      obtain ⟨k, rfl, hak, hkb, hK, HS2⟩ := hcut
      clear HS
      by_cases hkb2 : k = b
      · subst hkb2
        have HE : Hid (partialInsertionSort ltInt d a k = (dk, true)) := Lib.hid (by rw [← hR.out, pi_true ltInt a k s i dk hs hK.out])
        clear hR hK
        go_wp2_with fail
        go_ret
        exact ⟨by rw [HE.out]; rfl, by rw [HE.out]; exact HS2.out⟩
      · by_cases h50 : b - a < 50
        · have HE : Hid (partialInsertionSort ltInt d a b = (dk, false)) := Lib.hid (by rw [← hR.out, pi_short ltInt a b s i dk hs (by rw [hK.out]; exact hkb2) h50])
          clear hR hK
          go_wp2_with fail
          go_ret
          exact ⟨by rw [HE.out]; rfl, by rw [HE.out]; exact HS2.out⟩
        · have HE : Hid (partialIns ltInt a b (5 - (s + 1)) k (fixUp ltInt b k (fixDown ltInt a k (swp dk k (k - 1)))) = partialInsertionSort ltInt d a b) := Lib.hid (by rw [← hR.out, pi_go ltInt a b s i k dk hs hK.out hkb2 h50])
          clear hR hK
          obtain ⟨G, HG, hc, hf⟩ := HS2.out.fam hz.out
          have hsw := fun q q' => HS2.out.swap (i := k) (j := k - 1) (by rw [hz.out]; omega) (by rw [hz.out]; omega) q q'
          rw [← HG.out, ← HG.out] at hsw
          have HSW := Lib.hid hsw
          clear hsw HS2
          go_upto_region 11 with fail
          go_cut [] from 42 to 57 (fun wx => Hid (SW w g off (swp dk k (k - 1)) wx))
          case first =>
            go_wp2_with fail
            go_region
            go_wp2_with fail
            go_meet
            case rel => exact Lib.hid (HSW.out 0 1)
          case rest =>
          have HS3 := hcut
          clear hcut hc hf HG HSW
          obtain ⟨d1, HD1⟩ : ∃ d1, Hid (d1 = swp dk k (k - 1)) := ⟨_, rfl⟩
          rw [← HD1.out] at HS3 HE
          have hz1 : Hid (d1.size = len) := Lib.hid (by rw [HD1.out, size_swp]; exact hz.out)
          clear HD1 hz
          go_upto_if 61 with fail
          go_cut [] from 62 to 94 (fun wx => ∃ d2, Hid (d2.size = len) ∧ Hid (d2 = fixDown ltInt a k d1) ∧ Hid (SW w g off d2 wx))
          case first =>
            by_cases h2 : 2 ≤ k - a
            · go_wp2_with fail
              go_loopw [9] (fun vj wx => ∃ (j : Nat) (dj : Array Int), vj = .int .i64 j ∧ j < k ∧ Hid (dj.size = len) ∧ Hid (SW w g off dj wx) ∧ Hid (shiftDown ltInt j dj = shiftDown ltInt (k - 1) d1)) (fun vj _ => (iof vj).toNat)
              case atStart => exact ⟨k - 1, d1, by go_num, by omega, hz1, HS3, rfl⟩
              case round =>
                obtain ⟨j, dj, rfl, hjk, hzj, HSj, hJ⟩ := hrel
                clear HS3
                obtain ⟨G, HG, hc, hf⟩ := HSj.out.fam hzj.out
                by_cases h1 : 1 ≤ j
                · go_wp2_with fail
                  go_quiet ((go_at_call 130; exact Calls.quiet_of_same (less_q _ _ _)))
                  cases hl : ltInt (G j) (G (j - 1))
                  · have HL := Lib.hid hl
                    clear hl
                    go_wp2_with fail
                    go_meet
                    case rel => exact ⟨dj, hzj, Lib.hid (by unfold fixDown; rw [if_pos h2, ← hJ.out, shiftDown_stop _ _ _ (Or.inr (by rw [← HG.out, ← HG.out, HL.out]))]), Lib.hid (HSj.out.drewN _)⟩
                  · have HL := Lib.hid hl
                    clear hl
                    go_wp2_with fail
                    go_region
                    go_wp2_with fail
                    go_roundw
                    case rel =>
                      refine ⟨j - 1, swp dj j (j - 1), by go_num, by omega, Lib.hid (by rw [size_swp]; exact hzj.out), Lib.hid ?_, Lib.hid ?_⟩
                      · have := HSj.out.swap (i := j) (j := j - 1) (by rw [hzj.out]; omega) (by rw [hzj.out]; omega) (nq + 1) 0
                        rw [← HG.out, ← HG.out] at this
                        exact this
                      · rw [← hJ.out, shiftDown_go ltInt j dj h1 (by rw [← HG.out, ← HG.out, HL.out])]
                    case measure => simp [iof] <;> omega
                · go_wp2_with fail
                  go_meet
                  case rel => exact ⟨dj, hzj, Lib.hid (by unfold fixDown; rw [if_pos h2, ← hJ.out, shiftDown_stop _ _ _ (Or.inl (by omega))]), HSj⟩
            · go_wp2_with fail
              go_meet
              case rel => exact ⟨d1, hz1, Lib.hid (by unfold fixDown; rw [if_neg (by omega)]), HS3⟩
          case rest =>
          obtain ⟨d2, hz2, HD2, HS4⟩ := hcut
          rw [← HD2.out] at HE
          clear HS3 HD2 hz1 d1
          have FIN : Hid (∀ d3, Hid (d3 = fixUp ltInt b k d2) → Hid (partialIns ltInt a b (5 - (s + 1)) k d3 = partialInsertionSort ltInt d a b)) := Lib.hid fun d3 h => Lib.hid (by rw [h.out]; exact HE.out)
          clear HE
          by_cases h2 : 2 ≤ b - k
          · go_wp2_with fail
            go_loopw [10] (fun vj wx => ∃ (j : Nat) (dj : Array Int), vj = .int .i64 j ∧ k < j ∧ j ≤ b ∧ Hid (dj.size = len) ∧ Hid (SW w g off dj wx) ∧ Hid (shiftUp ltInt b j dj = shiftUp ltInt b (k + 1) d2)) (fun vj _ => (b - (iof vj).toNat))
            case atStart => exact ⟨k + 1, d2, by go_num, by omega, by omega, hz2, HS4, rfl⟩
            case round =>
              obtain ⟨j, dj, rfl, hjk, hjb, hzj, HSj, hJ⟩ := hrel
              clear HS4
              obtain ⟨G, HG, hc, hf⟩ := HSj.out.fam hzj.out
              by_cases h1 : j < b
              · go_wp2_with fail
                go_quiet ((go_at_call 130; exact Calls.quiet_of_same (less_q _ _ _)))
                cases hl : ltInt (G j) (G (j - 1))
                · have HL := Lib.hid hl
                  clear hl
                  go_wp2_with fail
                  go_roundw
                  case rel => exact ⟨k, s + 1, dj, rfl, by go_num, hak, hkb, by omega, hzj, Lib.hid (HSj.out.drewN _), FIN.out dj (Lib.hid (by unfold fixUp; rw [if_pos h2, ← hJ.out, shiftUp_stop _ _ _ _ (Or.inr (by rw [← HG.out, ← HG.out, HL.out]))]))⟩
                  case measure => simp [iof] <;> omega
                · have HL := Lib.hid hl
                  clear hl
                  go_wp2_with fail
                  go_region
                  go_wp2_with fail
                  go_roundw
                  case rel =>
                    refine ⟨j + 1, swp dj j (j - 1), by go_num, by omega, by omega, Lib.hid (by rw [size_swp]; exact hzj.out), Lib.hid ?_, Lib.hid ?_⟩
                    · have := HSj.out.swap (i := j) (j := j - 1) (by rw [hzj.out]; omega) (by rw [hzj.out]; omega) (nq + 1) 0
                      rw [← HG.out, ← HG.out] at this
                      exact this
                    · rw [← hJ.out, shiftUp_go ltInt b j dj h1 (by rw [← HG.out, ← HG.out, HL.out])]
                  case measure => simp [iof] <;> omega
              · go_wp2_with fail
                go_roundw
                case rel => exact ⟨k, s + 1, dj, rfl, by go_num, hak, hkb, by omega, hzj, HSj, FIN.out dj (Lib.hid (by unfold fixUp; rw [if_pos h2, ← hJ.out, shiftUp_stop _ _ _ _ (Or.inl h1)]))⟩
                case measure => simp [iof] <;> omega
          · go_wp2_with fail
            go_roundw
            case rel => exact ⟨k, s + 1, d2, rfl, by go_num, hak, hkb, by omega, hz2, HS4, FIN.out d2 (Lib.hid (by unfold fixUp; rw [if_neg (by omega)]))⟩
            case measure => simp [iof] <;> omega
    · obtain rfl : s = 5 := by omega
      have HE : Hid (partialInsertionSort ltInt d a b = (dk, false)) := Lib.hid (by rw [← hR.out, pi_end])
      clear hR
      go_wp2_with fail
      go_ret
      exact ⟨by rw [HE.out]; rfl, by rw [HE.out]; exact HS.out⟩
end Go.Proofs.Ytednkcjmlpgipaa
