/-
  The library's sort at 16 bits: siftDown.
-/
import Derived.Test.YtednkcjmlpgipaaYP1a
import Derived.Sort.WalkB3
namespace Go.Proofs.Ytednkcjmlpgipaa
open Go.RowKit Go.Sort

theorem siz_sift (hi F root : Nat) (d : Array Int) : (siftDown ltInt hi F root d).size = d.size := size_siftDown ltInt hi F (hi - root) root d (Nat.le_refl _)
set_option maxHeartbeats 1000000 in
theorem sift_any (g off len cap : Nat) (d : Array Int) (hlen : d.size = len) (lo hi F : Nat) (w : World) (hH : Holds u16 w g off d) (hlo : lo ≤ hi) (hb : F + hi ≤ len) (hsz : len < 4611686018427387904) :
    Calls Try.prog 135 #[.slice (some ⟨g, off, none⟩) len cap, .int .i64 lo, .int .i64 hi, .int .i64 F] w fun e w' => e = .returned (.tuple #[]) ∧ SW w g off (siftDown ltInt hi F lo d) w' := by
  have HS0 := Lib.hid (SW.refl hH)
  have HL := Lib.hid hlen
  clear hH hlen
  go_enter Try.func135, Try.ntmps135
  go_wp2
  go_loopw [8] (fun vr wr => ∃ (r : Nat) (dk : Array Int), vr = .int .i64 r ∧ r ≤ hi ∧ Hid (dk.size = len) ∧ Hid (SW w g off dk wr) ∧ Hid (siftDown ltInt hi F r dk = siftDown ltInt hi F lo d)) (fun vr _ => (hi - (iof vr).toNat))
  case atStart => exact ⟨lo, d, rfl, hlo, HL, HS0, rfl⟩
  case round =>
    obtain ⟨r, dk, rfl, hr, hs, HS, hR⟩ := hrel
    obtain ⟨G, HG, hc, hf⟩ := HS.out.fam hs.out
    clear HS0 HL
    have FIN : Hid (∀ (W : World), Hid (SW w g off dk W) → ∀ p c, p < len → c < len → ∀ q q', SW w g off (swp dk p c) ((((W.drewN q).setCell ⟨g, off + p, none⟩ (.int .u16 (G c))).setCell ⟨g, off + c, none⟩ (.int .u16 (G p))).drewN q')) :=
      Lib.hid fun W hW p c hpl hcl q q' => by
        have := hW.out.swap (i := p) (j := c) (by rw [hs.out]; exact hpl) (by rw [hs.out]; exact hcl) q q'
        rw [← HG.out, ← HG.out] at this
        exact this
    by_cases h1 : 2 * r + 1 < hi
    · by_cases h2 : 2 * r + 2 < hi
      · have h2z : 2 * (r : Int) + 1 + 1 < (hi : Int) := by omega
        go_wp2_with fail
        go_big_quiet (first | (go_at_call 130; refine Calls.quiet_of_same (less_q _ _ _)))
        cases hl : ltInt (G (F + 2 * r + 1)) (G (F + 2 * r + 2))
        · have HL := Lib.hid hl
          clear hl
          go_wp2_with fail
          generalize hW3 : wr.drewN nq = W3
          have HS3 : Hid (SW w g off dk W3) := Lib.hid (by rw [← hW3]; exact HS.out.drewN nq)
          obtain ⟨G', HG', hc3, hf3⟩ := HS3.out.fam hs.out
          obtain rfl : G' = G := funext fun t => by rw [HG'.out, HG.out]
          clear hc hf HG' hW3 nq
          go_big_quiet (first | (go_at_call 130; refine Calls.quiet_of_same (less_q _ _ _)))
          cases hl2 : ltInt (G' (F + r)) (G' (F + 2 * r + 1))
          · have HL2 := Lib.hid hl2
            clear hl2
            go_wp2_with fail
            all_goals (try simp only [Exit.inBlock, Exit.then])
            all_goals refine bodyPost_ret (results_none rfl _ _ _) rfl ?_
            all_goals exact ⟨rfl, by rw [← hR.out, sd_left_stop ltInt dk h1 (fun _ => (by rw [← HG.out, ← HG.out]; exact HL.out)) (by rw [← HG.out, ← HG.out]; exact HL2.out)]; exact HS3.out.drewN _⟩
          · have HL2 := Lib.hid hl2
            clear hl2
            go_wp2_with fail
            all_goals go_region
            all_goals go_wp2
            all_goals go_roundw
            case rel =>
              refine ⟨2 * r + 1, swp dk (F + r) (F + (2 * r + 1)), by go_num, by omega, Lib.hid (by rw [size_swp]; exact hs.out), Lib.hid (FIN.out W3 HS3 _ _ (by omega) (by omega) _ 0), Lib.hid ?_⟩
              rw [← hR.out, sd_left_go ltInt dk h1 (fun _ => (by rw [← HG.out, ← HG.out]; exact HL.out)) (by rw [← HG.out, ← HG.out]; exact HL2.out)]
            case measure => simp [iof] <;> omega
        · have HL := Lib.hid hl
          clear hl
          go_wp2_with fail
          generalize hW3 : wr.drewN nq = W3
          have HS3 : Hid (SW w g off dk W3) := Lib.hid (by rw [← hW3]; exact HS.out.drewN nq)
          obtain ⟨G', HG', hc3, hf3⟩ := HS3.out.fam hs.out
          obtain rfl : G' = G := funext fun t => by rw [HG'.out, HG.out]
          clear hc hf HG' hW3 nq
          go_big_quiet (first | (go_at_call 130; refine Calls.quiet_of_same (less_q _ _ _)))
          cases hl2 : ltInt (G' (F + r)) (G' (F + 2 * r + 2))
          · have HL2 := Lib.hid hl2
            clear hl2
            go_wp2_with fail
            all_goals (try simp only [Exit.inBlock, Exit.then])
            all_goals refine bodyPost_ret (results_none rfl _ _ _) rfl ?_
            all_goals exact ⟨rfl, by rw [← hR.out, sd_right_stop ltInt dk h2 (by rw [← HG.out, ← HG.out]; exact HL.out) (by rw [← HG.out, ← HG.out]; exact HL2.out)]; exact HS3.out.drewN _⟩
          · have HL2 := Lib.hid hl2
            clear hl2
            go_wp2_with fail
            all_goals go_region
            all_goals go_wp2
            all_goals go_roundw
            case rel =>
              refine ⟨2 * r + 2, swp dk (F + r) (F + (2 * r + 2)), by go_num, by omega, Lib.hid (by rw [size_swp]; exact hs.out), Lib.hid (FIN.out W3 HS3 _ _ (by omega) (by omega) _ 0), Lib.hid ?_⟩
              rw [← hR.out, sd_right_go ltInt dk h2 (by rw [← HG.out, ← HG.out]; exact HL.out) (by rw [← HG.out, ← HG.out]; exact HL2.out)]
            case measure => simp [iof] <;> omega
      · have h2z : decide (2 * (r : Int) + 1 + 1 < (hi : Int)) = false := decide_eq_false (by omega)
        go_wp2_with fail
        go_big_quiet (first | (go_at_call 130; refine Calls.quiet_of_same (less_q _ _ _)))
        go_wp2_with fail
        generalize hW3 : wr.drewN nq = W3
        have HS3 : Hid (SW w g off dk W3) := Lib.hid (by rw [← hW3]; exact HS.out.drewN nq)
        obtain ⟨G', HG', hc3, hf3⟩ := HS3.out.fam hs.out
        obtain rfl : G' = G := funext fun t => by rw [HG'.out, HG.out]
        clear hc hf HG' hW3 nq
        go_big_quiet (first | (go_at_call 130; refine Calls.quiet_of_same (less_q _ _ _)))
        cases hl2 : ltInt (G' (F + r)) (G' (F + 2 * r + 1))
        · have HL2 := Lib.hid hl2
          clear hl2
          go_wp2_with fail
          all_goals (try simp only [Exit.inBlock, Exit.then])
          all_goals refine bodyPost_ret (results_none rfl _ _ _) rfl ?_
          all_goals exact ⟨rfl, by rw [← hR.out, sd_left_stop ltInt dk h1 (fun h => absurd h h2) (by rw [← HG.out, ← HG.out]; exact HL2.out)]; exact HS3.out.drewN _⟩
        · have HL2 := Lib.hid hl2
          clear hl2
          go_wp2_with fail
          all_goals go_region
          all_goals go_wp2
          all_goals go_roundw
          case rel =>
            refine ⟨2 * r + 1, swp dk (F + r) (F + (2 * r + 1)), by go_num, by omega, Lib.hid (by rw [size_swp]; exact hs.out), Lib.hid (FIN.out W3 HS3 _ _ (by omega) (by omega) _ 0), Lib.hid ?_⟩
            rw [← hR.out, sd_left_go ltInt dk h1 (fun h => absurd h h2) (by rw [← HG.out, ← HG.out]; exact HL2.out)]
          case measure => simp [iof] <;> omega
    · go_wp2
      go_end0
      exact ⟨rfl, by rw [← hR.out, sd_end ltInt dk (by omega)]; exact HS.out⟩
end Go.Proofs.Ytednkcjmlpgipaa
