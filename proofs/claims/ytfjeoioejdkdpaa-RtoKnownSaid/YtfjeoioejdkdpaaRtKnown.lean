/-
  RtoKnown: the walk.
-/
import Derived.Test.YtfjeoioejdkdpaaRtWorks
namespace Go.Proofs.Ytfjeoioejdkdpaa
set_option maxRecDepth 4000
open Go.RowKit Rt
set_option linter.unusedVariables false
set_option linter.unusedSimpArgs false

namespace Rt
def bd : Cf := ⟨256, 4, 4000, 4000, 1000, 99, 100, 6000, 8, 3, 20, 3000, 6000⟩
theorem bd_wf : bd.Wf := by constructor <;> (constructor <;> decide)
theorem bd_chk : chk bd = 2 := by decide +kernel
def h1 : T := ⟨100, 6000, 100, true, 80, 20⟩
theorem g0_h : g0.sample 10 = h1 := by rfl
end Rt
set_option maxHeartbeats 1000000 in
theorem rtoKnown_walk (w0 : World) : Calls Try.prog 6 #[] w0 fun e w' => e = .returned (.bool true) ∧ Below w0.heap.size w0 w' := by
  go_enter Try.func6, Try.ntmps6
  go_wp2_with fail
  refine (good_any w0).mono ?_
  rintro e w1 ⟨rfl, hb1⟩
  have HB1 := Lib.hid hb1
  clear hb1
  rw [show (cv ⟨256, 4, 4000, 4000, 1000, 300, 100, 6000, 8, 3, 20, 3000, 6000⟩) = cv gd from rfl]
  go_wp2_with fail
  refine (new_ok gd gd_wf w1 gd_chk).mono ?_
  rintro e w2 ⟨g, rfl, hg, ht, hb2⟩
  rw [g0_is] at ht
  have H : Hid (Tn w0 g g0 w2) := Lib.hid ⟨ht, by have := HB1.out.size; omega, bnext HB1.out hb2⟩
  clear hg ht hb2 HB1
  go_wp2_with fail
  refine (H.out.samp g0_ok 10).mono ?_
  rintro e w3 ⟨rfl, h⟩
  rw [g0_h] at h
  clear H
  have H := Lib.hid h
  clear h
  go_wp2_with fail
  refine (good_any w3).mono ?_
  rintro e w4 ⟨rfl, hb4⟩
  have H4 := Lib.hid (H.out.next hb4)
  clear H hb4
  unfold cv
  go_wp2_with fail
  generalize hW : World.alloc _ _ = W5
  have H5' : Hid (Tn w0 g h1 W5) := Lib.hid (by rw [← hW]; exact H4.out.next ((Below.refl _ _).alloc (Nat.le_refl _) _))
  clear H4 hW
  rw [show (#[.int .i64 256, .int .u16 4, .int .i64 4000, .int .i64 4000, .int .i64 1000, .int .u32 99, .int .u32 100, .int .u32 6000, .int .u8 8, .int .u8 3, .int .u8 20, .int .u32 3000, .int .u32 6000] : Array Value) = cv bd from rfl]
  refine (new_bad bd bd_wf W5 2 bd_chk (by decide)).mono ?_
  rintro e w5 ⟨rfl, hb5⟩
  have H5 := Lib.hid (H5'.out.next hb5)
  clear H5' hb5
  go_wp2_with fail
  refine (sample_nil _ _).mono ?_
  rintro e w ⟨rfl, rfl⟩
  go_wp2_with fail
  refine (back_nil _).mono ?_
  rintro e w ⟨rfl, rfl⟩
  go_wp2_with fail
  refine (works_any _).mono ?_
  rintro e w6 ⟨rfl, hb6⟩
  have H6 := Lib.hid (H5.out.next hb6)
  clear H5 hb6
  have CS : Hid (Calls Try.prog 38 #[.pointer (some ⟨g, 0, none⟩)] w6 fun e w' => e = .returned (.int .u64 10) ∧ w6 = w') := Lib.hid (smooth_any H6.out.1 (by decide))
  have CV : Hid (Calls Try.prog 37 #[.pointer (some ⟨g, 0, none⟩)] w6 fun e w' => e = .returned (.int .u64 100) ∧ w6 = w') := Lib.hid (value_any H6.out.1)
  go_wp2_with (first
    | (go_at_call 37; (with_reducible refine CV.out.mono ?_); rintro e w ⟨rfl, rfl⟩)
    | (go_at_call 38; (with_reducible refine CS.out.mono ?_); rintro e w ⟨rfl, rfl⟩)
    | (go_at_call 37; refine (value_nil _).mono ?_; rintro e w ⟨rfl, rfl⟩)
    | (go_at_call 38; refine (smooth_nil _).mono ?_; rintro e w ⟨rfl, rfl⟩)
    | (go_at_call 39; refine (copy_nil _).mono ?_; rintro e w ⟨rfl, rfl⟩))
  go_ret
  exact ⟨rfl, H6.out.2.2⟩
end Go.Proofs.Ytfjeoioejdkdpaa
