/-
  The statements' 'works' answers true.
-/
import Derived.Test.YthdhkjbfhbkdjaaCwAck
namespace Go.Proofs.Ythdhkjbfhbkdjaa
set_option maxRecDepth 4000
open Go.RowKit
namespace Cw
set_option linter.unusedVariables false
set_option linter.unusedSimpArgs false

def k0 : T := ⟨100, 200, 65536, 0⟩
def k1 : T := ⟨100, 270, 65536, 0⟩
def k2 : T := ⟨100, 370, 65536, 0⟩
def k3 : T := ⟨100, 100, 400, 0⟩
theorem k0_is : t0 (100 : Int).toNat = k0 := rfl
theorem k0_a : k0.ack 70 true = k1 := by rfl
theorem k1_a : k1.ack 300 true = k2 := by rfl
theorem k2_t : k2.tout = k3 := by rfl
theorem k0_ok : k0.Ok 0 := by unfold T.Ok k0; decide
theorem k1_ok : k1.Ok 0 := by unfold T.Ok k1; decide
theorem k2_ok : k2.Ok 0 := by unfold T.Ok k2; decide
theorem below_own {w0 w w' : World} {g : Nat} (h : Below w0.heap.size w0 w) (hg : w.grownBy w' (some g)) (hl : w0.heap.size ≤ g) : Below w0.heap.size w0 w' := h.grown hg h.size (fun k hk => by cases hk; exact hl)
/-- A window of the call's own. -/
def Tn (w0 : World) (g : Nat) (t : T) (w : World) : Prop := Tk w g t ∧ w0.heap.size ≤ g ∧ Below w0.heap.size w0 w
theorem Tn.ack {w0 w : World} {g b : Nat} {t : T} (h : Tn w0 g t w) (ok : t.Ok b) (hb : b ≤ 4398046511104) (n : Int) (f : Bool) : Calls Try.prog 33 #[.pointer (some ⟨g, 0, none⟩), .int .i64 n, .bool f] w fun e w' => e = .returned (.tuple #[]) ∧ Tn w0 g (t.ack n f) w' :=
  (ack_any h.1 ok hb n f).mono fun e w' ⟨h1, h2, h3⟩ => ⟨h1, h2, h.2.1, below_own h.2.2 h3 h.2.1⟩
theorem Tn.tout {w0 w : World} {g b : Nat} {t : T} (h : Tn w0 g t w) (ok : t.Ok b) : Calls Try.prog 35 #[.pointer (some ⟨g, 0, none⟩)] w fun e w' => e = .returned (.tuple #[]) ∧ Tn w0 g t.tout w' :=
  (tout_any h.1 ok).mono fun e w' ⟨h1, h2, h3⟩ => ⟨h1, h2, h.2.1, below_own h.2.2 h3 h.2.1⟩
theorem Tn.loss {w0 w : World} {g b : Nat} {t : T} (h : Tn w0 g t w) (ok : t.Ok b) : Calls Try.prog 34 #[.pointer (some ⟨g, 0, none⟩)] w fun e w' => e = .returned (.tuple #[]) ∧ Tn w0 g t.loss w' :=
  (loss_any h.1 ok).mono fun e w' ⟨h1, h2, h3⟩ => ⟨h1, h2, h.2.1, below_own h.2.2 h3 h.2.1⟩
theorem Tn.next {w0 w w' : World} {g : Nat} {t : T} (h : Tn w0 g t w) (hb : Below w.heap.size w w') : Tn w0 g t w' := ⟨h.1.next hb, h.2.1, bnext h.2.2 hb⟩
theorem Tn.drew {w0 w : World} {g : Nat} {t : T} (h : Tn w0 g t w) : Tn w0 g t w.drew := h.next (Below.refl _ _).drew
theorem Tn.drewN {w0 w : World} {g : Nat} {t : T} (h : Tn w0 g t w) (q : Nat) : Tn w0 g t (w.drewN q) := ⟨h.1.drewN q, h.2.1, ⟨h.2.2.os, h.2.2.tape, h.2.2.output, h.2.2.size, h.2.2.block⟩⟩
set_option maxHeartbeats 1000000 in
theorem works_any (w0 : World) : Calls Try.prog 36 #[] w0 fun e w' => e = .returned (.bool true) ∧ Below w0.heap.size w0 w' := by
  go_enter Try.func36, Try.ntmps36
  go_wp2_with fail
  refine (new_ok 100 w0 (by decide) (by decide)).mono ?_
  rintro e w2 ⟨g, rfl, hg, ht, hb2⟩
  rw [k0_is] at ht
  have H : Hid (Tn w0 g k0 w2) := Lib.hid ⟨ht, hg, hb2⟩
  clear hg ht hb2
  go_wp2_with (go_at_call 32; refine (size_any H.out.1).mono ?_; rintro e w ⟨rfl, rfl⟩; rw [show k0.sz = 200 from rfl])
  refine (H.out.ack k0_ok (by decide) 70 true).mono ?_
  rintro e w3 ⟨rfl, h⟩
  rw [k0_a] at h
  clear H
  have H := Lib.hid h
  clear h
  go_wp2_with (go_at_call 32; refine (size_any H.out.1).mono ?_; rintro e w ⟨rfl, rfl⟩; rw [show k1.sz = 270 from rfl])
  refine (H.out.ack k1_ok (by decide) 300 true).mono ?_
  rintro e w4 ⟨rfl, h⟩
  rw [k1_a] at h
  clear H
  have H := Lib.hid h
  clear h
  go_wp2_with (go_at_call 32; refine (size_any H.out.1).mono ?_; rintro e w ⟨rfl, rfl⟩; rw [show k2.sz = 370 from rfl])
  refine (H.out.tout k2_ok).mono ?_
  rintro e w5 ⟨rfl, h⟩
  rw [k2_t] at h
  clear H
  have H := Lib.hid h
  clear h
  go_wp2_with (first
    | (go_at_call 32; refine (size_any H.out.1).mono ?_; rintro e w ⟨rfl, rfl⟩; rw [show k3.sz = 100 from rfl])
    | (go_at_call 37; refine (thr_any H.out.1).mono ?_; rintro e w ⟨rfl, rfl⟩; rw [show k3.th = 400 from rfl]))
  go_ret
  exact ⟨rfl, H.out.2.2⟩
end Cw
end Go.Proofs.Ythdhkjbfhbkdjaa
