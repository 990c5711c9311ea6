/-
  The library's sort at 16 bits: heapSort.
-/
import Derived.Test.YtednkcjmlpgipaaYSoSift
namespace Go.Proofs.Ytednkcjmlpgipaa
open Go.RowKit Go.Sort

set_option maxHeartbeats 1000000 in
theorem heap_any (g off cap a b : Nat) (d : Array Int) (w : World) (hH : Holds u16 w g off d) (hab : a ≤ b) (hb : b ≤ d.size) (hsz : d.size < 4611686018427387904) :
    Calls Try.prog 125 #[.slice (some ⟨g, off, none⟩) d.size cap, .int .i64 a, .int .i64 b] w fun e w' => e = .returned (.tuple #[]) ∧ SW w g off (heapSort ltInt d a b) w' := by
  have HS0 := Lib.hid (SW.refl hH)
  clear hH
  have EC : Hid (((b - a : Nat) : Int) = (b : Int) - (a : Int)) := Lib.hid (by omega)
  obtain ⟨len, hlen⟩ : ∃ len, len = d.size := ⟨_, rfl⟩
  rw [← hlen] at hb hsz ⊢
  have HL := Lib.hid hlen.symm
  clear hlen
  have SIFT : Hid (∀ (W : World) (dk : Array Int) (lo hi : Nat) (x : Int), Hid (SW w g off dk W) → Hid (dk.size = len) → (hi : Int) = x → lo ≤ hi → a + hi ≤ len →
      Calls Try.prog 135 #[.slice (some ⟨g, off, none⟩) len cap, .int .i64 lo, .int .i64 x, .int .i64 a] W fun e w' => e = .returned (.tuple #[]) ∧ Hid (SW w g off (siftDown ltInt hi a lo dk) w') ∧ Hid ((siftDown ltInt hi a lo dk).size = len)) :=
    Lib.hid fun W dk lo hi x hS hs hx hlo hF => by
      rw [← hx]
      exact (sift_any g off len cap dk hs.out lo hi a W hS.out.1 hlo hF hsz).mono fun e w' ⟨he, hw⟩ => ⟨he, Lib.hid (hS.out.trans hw), Lib.hid (by rw [siz_sift]; exact hs.out)⟩
  go_enter Try.func125, Try.ntmps125
  go_wp2
  go_loopw [9] (fun vi wr => ∃ (k : Nat) (dk : Array Int), vi = .int .i64 ((k : Int) - 1) ∧ k ≤ (b - a - 1) / 2 + 1 ∧ Hid (dk.size = len) ∧ Hid (SW w g off dk wr) ∧ Hid (heapBuild ltInt (b - a) a k dk = heapBuild ltInt (b - a) a ((b - a - 1) / 2 + 1) d)) (fun vi _ => (iof vi + 1).toNat)
  case atStart => exact ⟨(b - a - 1) / 2 + 1, d, by rw [half_start hab], Nat.le_refl _, HL, HS0, rfl⟩
  case round =>
    obtain ⟨k, dk, rfl, hk, hs, HS, hR⟩ := hrel
    clear HS0 HL
    rcases k with _ | k
    · rw [show (((0 : Nat) : Int) - 1) = -1 from rfl]
      have HB : Hid (dk = heapBuild ltInt (b - a) a ((b - a - 1) / 2 + 1) d) := Lib.hid hR.out
      clear hR hk
      go_wp2
      go_loopw [10] (fun vi wr => ∃ (k : Nat) (dj : Array Int), vi = .int .i64 ((k : Int) - 1) ∧ k ≤ b - a ∧ Hid (dj.size = len) ∧ Hid (SW w g off dj wr) ∧ Hid (heapPop ltInt a k dj = heapPop ltInt a (b - a) dk)) (fun vi _ => (iof vi + 1).toNat)
      case atStart => exact ⟨b - a, dk, by rw [EC.out], Nat.le_refl _, hs, HS, rfl⟩
      case round =>
        obtain ⟨k, dj, rfl, hk, hsj, HSj, hRj⟩ := hrel
        clear HS
        rcases k with _ | k
        · go_wp2
          go_end0
          refine ⟨rfl, ?_⟩
          have e : heapSort ltInt d a b = dj := by rw [heapSort, ← HB.out, ← hRj.out]; rfl
          rw [e]
          exact HSj.out
        · obtain ⟨G, HG, hc, hf⟩ := HSj.out.fam hsj.out
          have e1 : ((k + 1 : Nat) : Int) - 1 = k := by omega
          rw [e1]
          clear e1
          have hsw := fun q q' => HSj.out.swap (i := a) (j := a + k) (by rw [hsj.out]; omega) (by rw [hsj.out]; omega) q q'
          rw [← HG.out, ← HG.out] at hsw
          have HSW := Lib.hid hsw
          have HRJ : Hid (heapPop ltInt a k (siftDown ltInt k a 0 (swp dj a (a + k))) = heapPop ltInt a (b - a) dk) := Lib.hid hRj.out
          clear hsw
          rcases Nat.eq_zero_or_pos k with rfl | hkp
          · rw [show ((0 : Nat) : Int) = 0 from rfl]
            go_wp2_with fail
            go_region
            go_wp2_with fail
            refine (SIFT.out _ (swp dj a (a + 0)) 0 0 _ (Lib.hid (HSW.out 0 1)) (Lib.hid (by rw [size_swp]; exact hsj.out)) (by simp) (by omega) (by omega)).mono ?_
            rintro e w1 ⟨rfl, hw1, hz1⟩
            go_wp2
            go_roundw
            case rel => exact ⟨0, _, by simp, by omega, hz1, hw1, HRJ⟩
            case measure => simp [iof] <;> omega
          · go_wp2_with fail
            go_region
            go_wp2_with fail
            refine (SIFT.out _ (swp dj a (a + k)) 0 k _ (Lib.hid (HSW.out 0 1)) (Lib.hid (by rw [size_swp]; exact hsj.out)) (by simp) (by omega) (by omega)).mono ?_
            rintro e w1 ⟨rfl, hw1, hz1⟩
            go_wp2
            go_roundw
            case rel => exact ⟨k, _, by simp, by omega, hz1, hw1, HRJ⟩
            case measure => simp [iof] <;> omega
    · have e1 : ((k + 1 : Nat) : Int) - 1 = k := by omega
      rw [e1]
      clear e1
      go_wp2_with (go_at_call 135; (with_reducible refine (SIFT.out _ dk k (b - a) _ HS hs EC.out (by omega) (by omega)).mono ?_); rintro e w1 ⟨rfl, hw1, hz1⟩)
      go_roundw
      case rel => exact ⟨k, _, by simp, by omega, hz1, hw1, Lib.hid hR.out⟩
      case measure => simp [iof] <;> omega
end Go.Proofs.Ytednkcjmlpgipaa
