/-
  ChunkKinds: the walk of the law.
-/
import Derived.Test.YtjlemghkaodkkaaChunkKnown
namespace Go.Proofs.Ytjlemghkaodkkaa
open Go.RowKit Wire Tlv Chunk

set_option maxRecDepth 100000 in
set_option maxHeartbeats 1000000 in
theorem chunkKinds_walk (x : Int) (w : World) (h : (Lit.int .u8 x).wf = true) :
    Calls Try.prog 5 #[.int .u8 x] w fun e w' => e = .returned (.bool true) ∧ Below w.heap.size w w' := by
  have b0 := wf_u8 h
  obtain ⟨k, rfl⟩ := Int.eq_ofNat_of_zero_le b0.1
  have hk : k < 256 := by omega
  have HK := Lib.hid known_any
  have H1 := Lib.hid fun W => rfKnown_any k W
  have H2 := Lib.hid fun W => ckKnown_any k W
  have H3 := Lib.hid fun W => ckSkips_any k W hk
  have H4 := Lib.hid fun W => ckReports_any k W hk
  have d1 : decide ((128 : Int) ≤ (k : Int)) = decide (128 ≤ k) := by rw [Bool.eq_iff_iff]; simp; omega
  have d2 : decide ((64 : Int) ≤ (k : Int) % 128) = decide (64 ≤ k % 128) := by rw [Bool.eq_iff_iff]; simp; omega
  generalize hb : decide (128 ≤ k) = b at *
  generalize hc : decide (64 ≤ k % 128) = c at *
  generalize kn k = a at *
  clear hb hc h b0
  cases a <;> cases b <;> cases c
  all_goals
    go_enter Try.func5, Try.ntmps5
    go_wp2_with fail
    (with_reducible refine (HK.out _).mono ?_)
    rintro e w1 ⟨rfl, hb1⟩
    have HB := Lib.hid hb1
    clear hb1
    go_wp2_with (first
      | (go_at_call 17; (with_reducible refine (H1.out _).mono ?_); rintro e w' ⟨rfl, rfl⟩)
      | (go_at_call 18; (with_reducible refine (H2.out _).mono ?_); rintro e w' ⟨rfl, rfl⟩)
      | (go_at_call 19; (with_reducible refine (H3.out _).mono ?_); rintro e w' ⟨rfl, rfl⟩)
      | (go_at_call 20; (with_reducible refine (H4.out _).mono ?_); rintro e w' ⟨rfl, rfl⟩))
    go_ret
    exact ⟨rfl, HB.out⟩
end Go.Proofs.Ytjlemghkaodkkaa
