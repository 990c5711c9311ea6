/-
  The statements' 'works' answers true.
-/
import Derived.Test.YtfjeoioejdkdpaaRtNew
namespace Go.Proofs.Ytfjeoioejdkdpaa
set_option maxRecDepth 4000
open Go.RowKit
namespace Rt
set_option linter.unusedVariables false
set_option linter.unusedSimpArgs false

def gd : Cf := ⟨256, 4, 4000, 4000, 1000, 300, 100, 6000, 8, 3, 20, 3000, 6000⟩
theorem gd_wf : gd.Wf := by constructor <;> (constructor <;> decide)
theorem gd_chk : chk gd = 0 := by decide +kernel
def g0 : T := ⟨100, 6000, 300, false, 0, 0⟩
def g1 : T := ⟨100, 6000, 600, true, 1600, 400⟩
def g2 : T := ⟨100, 6000, 500, true, 1600, 300⟩
def g3 : T := ⟨100, 6000, 1000, true, 1600, 300⟩
theorem g0_is : t0 gd = g0 := rfl
theorem g0_s : g0.sample 200 = g1 := by rfl
theorem g1_s : g1.sample 200 = g2 := by rfl
theorem g2_b : g2.back = g3 := by rfl
theorem g0_ok : g0.Ok := by unfold T.Ok g0; decide
theorem g1_ok : g1.Ok := by unfold T.Ok g1; decide
theorem g2_ok : g2.Ok := by unfold T.Ok g2; decide
theorem below_own {w0 w w' : World} {g : Nat} (h : Below w0.heap.size w0 w) (hg : w.grownBy w' (some g)) (hl : w0.heap.size ≤ g) : Below w0.heap.size w0 w' := h.grown hg h.size (fun k hk => by cases hk; exact hl)
/-- A timer of the call's own. -/
def Tn (w0 : World) (g : Nat) (t : T) (w : World) : Prop := Tk w g t ∧ w0.heap.size ≤ g ∧ Below w0.heap.size w0 w
theorem Tn.samp {w0 w : World} {g : Nat} {t : T} (h : Tn w0 g t w) (ok : t.Ok) (r : Nat) : Calls Try.prog 34 #[.pointer (some ⟨g, 0, none⟩), .int .u64 (r : Int)] w fun e w' => e = .returned (.tuple #[]) ∧ Tn w0 g (t.sample r) w' :=
  (sample_any h.1 ok r).mono fun e w' ⟨h1, h2, h3⟩ => ⟨h1, h2, h.2.1, below_own h.2.2 h3 h.2.1⟩
theorem Tn.bk {w0 w : World} {g : Nat} {t : T} (h : Tn w0 g t w) (ok : t.Ok) : Calls Try.prog 35 #[.pointer (some ⟨g, 0, none⟩)] w fun e w' => e = .returned (.tuple #[]) ∧ Tn w0 g t.back w' :=
  (back_any h.1 ok).mono fun e w' ⟨h1, h2, h3⟩ => ⟨h1, h2, h.2.1, below_own h.2.2 h3 h.2.1⟩
theorem Tn.next {w0 w w' : World} {g : Nat} {t : T} (h : Tn w0 g t w) (hb : Below w.heap.size w w') : Tn w0 g t w' := ⟨h.1.next hb, h.2.1, bnext h.2.2 hb⟩
set_option maxHeartbeats 1000000 in
theorem works_any (w0 : World) : Calls Try.prog 36 #[] w0 fun e w' => e = .returned (.bool true) ∧ Below w0.heap.size w0 w' := by
  go_enter Try.func36, Try.ntmps36
  go_wp2_with fail
  refine (good_any w0).mono ?_
  rintro e w1 ⟨rfl, hb1⟩
  have HB1 := Lib.hid hb1
  clear hb1
  rw [show (cv ⟨256, 4, 4000, 4000, 1000, 300, 100, 6000, 8, 3, 20, 3000, 6000⟩) = cv gd from rfl]
  go_wp2_with fail
  refine (new_ok gd gd_wf w1 gd_chk).mono ?_
  rintro e w2 ⟨g, rfl, hg, ht, hb2⟩
  rw [g0_is] at ht
  have H : Hid (Tn w0 g g0 w2) := Lib.hid ⟨ht, by have := HB1.out.size; omega, bnext HB1.out hb2⟩
  clear hg ht hb2 HB1
  go_wp2_with (go_at_call 37; refine (value_any H.out.1).mono ?_; rintro e w ⟨rfl, rfl⟩; rw [show g0.v = 300 from rfl])
  refine (H.out.samp g0_ok 200).mono ?_
  rintro e w3 ⟨rfl, h⟩
  rw [g0_s] at h
  clear H
  have H := Lib.hid h
  clear h
  go_wp2_with (go_at_call 37; refine (value_any H.out.1).mono ?_; rintro e w ⟨rfl, rfl⟩; rw [show g1.v = 600 from rfl])
  refine (H.out.samp g1_ok 200).mono ?_
  rintro e w4 ⟨rfl, h⟩
  rw [g1_s] at h
  clear H
  have H := Lib.hid h
  clear h
  go_wp2_with (go_at_call 37; refine (value_any H.out.1).mono ?_; rintro e w ⟨rfl, rfl⟩; rw [show g2.v = 500 from rfl])
  refine (H.out.bk g2_ok).mono ?_
  rintro e w5 ⟨rfl, h⟩
  rw [g2_b] at h
  clear H
  have H := Lib.hid h
  clear h
  go_wp2_with (go_at_call 37; refine (value_any H.out.1).mono ?_; rintro e w ⟨rfl, rfl⟩; rw [show g3.v = 1000 from rfl])
  go_ret
  exact ⟨rfl, H.out.2.2⟩
end Rt
end Go.Proofs.Ytfjeoioejdkdpaa
