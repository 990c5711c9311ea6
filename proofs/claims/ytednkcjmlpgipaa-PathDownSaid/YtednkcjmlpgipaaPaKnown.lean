/-
  PathKnown: the walk.
-/
import Derived.Test.YtednkcjmlpgipaaPaWorks
namespace Go.Proofs.Ytednkcjmlpgipaa
set_option maxRecDepth 4000
open Go.RowKit Pa
set_option linter.unusedVariables false
set_option linter.unusedSimpArgs false

namespace Pa
def g0 : Rt.T := ⟨100, 6000, 300, false, 0, 0⟩
def k0 (gt gw : Nat) : Pt := p0 Rt.gd 1 2 gt gw
def k1 (gt gw : Nat) : Pt := { k0 gt gw with on := true, nb := 5 }
def k2 (gt gw : Nat) : Pt := { k0 gt gw with on := true, nb := 6 }
def k3 (gt gw : Nat) : Pt := { k0 gt gw with on := false, nb := 6 }
def k4 (gt gw : Nat) : Pt := { k3 gt gw with t := g0.back, v := (k3 gt gw).v.tout }
def zc : Rt.Cf := ⟨0, 0, 0, 0, 0, 0, 0, 0, 0, 0, 0, 0, 0⟩
theorem zc_wf : zc.Wf := by constructor <;> (constructor <;> decide)
theorem zc_chk : Rt.chk zc = 2 := by decide +kernel
theorem k0_t (gt gw : Nat) : (k3 gt gw).t = g0 := rfl
theorem k0_v (gt gw : Nat) : (k3 gt gw).v.Ok 0 := by
  show (⟨256, 512, 65536, 0⟩ : Cw.T).Ok 0
  unfold Cw.T.Ok
  decide
section
variable {w0 w : World} {x : Nat} {p : Pt}
theorem Pn.beat (h : Pn w0 x p w) (n : Int) {p' : Pt} (e : { p with on := true, nb := n } = p') {b : Bool} (hb : p.on = b) : Calls Try.prog 30 #[.pointer (some ⟨x, 0, none⟩), .int .u32 n] w fun e w' => e = .returned (.bool b) ∧ Pn w0 x p' w' := by
  subst e; subst hb
  exact (beat_any h.1 n).mono fun e w' ⟨h1, h2, h3⟩ => ⟨h1, h.step h2 h3 ⟨rfl, rfl⟩⟩
theorem ans_gt (p : Pt) (n : Int) : (p.ans n).gt = p.gt ∧ (p.ans n).gw = p.gw ∧ (p.ans n).t = p.t ∧ (p.ans n).v = p.v ∧ (p.ans n).tr = p.tr ∧ (p.ans n).mi = p.mi := by
  unfold Pt.ans
  split <;> exact ⟨rfl, rfl, rfl, rfl, rfl, rfl⟩
theorem Pn.answer (h : Pn w0 x p w) (n : Int) {p' : Pt} (e : p.ans n = p') {b : Bool} (hb : (p.on && decide (p.nb = n)) = b) : Calls Try.prog 31 #[.pointer (some ⟨x, 0, none⟩), .int .u32 n] w fun e w' => e = .returned (.bool b) ∧ Pn w0 x p' w' := by
  subst e; subst hb
  exact (answer_any h.1 n).mono fun e w' ⟨h1, h2, h3⟩ => ⟨h1, h.step h2 h3 ⟨(ans_gt p n).1, (ans_gt p n).2.1⟩⟩
theorem Pn.wait (h : Pn w0 x p w) {v : Nat} (hv : p.t.v = v) : Calls Try.prog 32 #[.pointer (some ⟨x, 0, none⟩)] w fun e w' => e = .returned (.int .u64 (v : Int)) ∧ Pn w0 x p w' := by
  subst hv
  exact (wait_any h.1).mono fun e w' ⟨h1, h2⟩ => ⟨h1, h.next h2⟩
end
end Pa
set_option maxHeartbeats 2000000 in
theorem pathKnown_walk (w0 : World) : Calls Try.prog 5 #[] w0 fun e w' => e = .returned (.bool true) ∧ Below w0.heap.size w0 w' := by
  go_enter Try.func5, Try.ntmps5
  go_wp2_with fail
  refine (Rt.good_any w0).mono ?_
  rintro e w1 ⟨rfl, hb1⟩
  have CN := Lib.hid (new_ok Rt.gd Rt.gd_wf 1 2 w1 Rt.gd_chk)
  unfold Rt.gd at CN
  have HB1 := Lib.hid hb1
  clear hb1
  unfold Rt.cv at CN ⊢
  go_wp2_with fail
  refine CN.out.mono ?_
  rintro e w2 ⟨g, gt, gw, rfl, h1, h2, h3, h4, h5⟩
  have H : Hid (Pn w0 g (k0 gt gw) w2) := Lib.hid ⟨h4, ⟨Nat.le_trans HB1.out.size h1, Nat.le_trans HB1.out.size h2, Nat.le_trans HB1.out.size h3⟩, bnext HB1.out h5⟩
  clear h1 h2 h3 h4 h5 CN HB1
  go_wp2_with fail
  refine (H.out.beat 5 (p' := k1 gt gw) rfl (b := false) rfl).mono ?_
  rintro e w3 ⟨rfl, h⟩
  clear H; have H := Lib.hid h; clear h
  go_wp2_with fail
  refine (H.out.beat 6 (p' := k2 gt gw) rfl (b := true) rfl).mono ?_
  rintro e w3 ⟨rfl, h⟩
  clear H; have H := Lib.hid h; clear h
  go_wp2_with fail
  refine (H.out.answer 5 (p' := k2 gt gw) rfl (b := false) rfl).mono ?_
  rintro e w3 ⟨rfl, h⟩
  clear H; have H := Lib.hid h; clear h
  go_wp2_with fail
  refine (H.out.answer 6 (p' := k3 gt gw) rfl (b := true) rfl).mono ?_
  rintro e w3 ⟨rfl, h⟩
  clear H; have H := Lib.hid h; clear h
  go_wp2_with fail
  refine (H.out.answer 6 (p' := k3 gt gw) rfl (b := false) rfl).mono ?_
  rintro e w3 ⟨rfl, h⟩
  clear H; have H := Lib.hid h; clear h
  go_wp2_with fail
  refine (H.out.wait (v := 300) rfl).mono ?_
  rintro e w3 ⟨rfl, h⟩
  clear H; have H := Lib.hid h; clear h
  go_wp2_with fail
  refine (tout_any H.out.1 (by rw [k0_t]; exact (by unfold Rt.T.Ok g0; decide)) (k0_v gt gw)).mono ?_
  rintro e w4 ⟨rfl, h1, h2⟩
  have h : Pn w0 g (k4 gt gw) w4 := H.out.step h1 h2 ⟨rfl, rfl⟩
  clear H; have H := Lib.hid h; clear h h1 h2
  go_wp2_with fail
  refine (ends_any H.out.1.bk).mono ?_
  rintro e w5 ⟨rfl, q, rfl⟩
  have h := H.out.drewN q
  clear H; have H := Lib.hid h; clear h
  generalize World.drewN _ q = w5 at H ⊢
  have ea : (k4 gt gw).a = 1 := rfl
  have eb : (k4 gt gw).b = 2 := rfl
  rw [ea, eb]
  clear ea eb
  go_wp2_with fail
  refine (sample_nil _ _).mono ?_
  rintro e w6 ⟨rfl, hb⟩
  have h := H.out.next hb
  clear H; have H := Lib.hid h; clear h hb
  go_wp2_with fail
  refine (ack_nil _ _ _).mono ?_
  rintro e w7 ⟨rfl, hb⟩
  have h := H.out.next hb
  clear H; have H := Lib.hid h; clear h hb
  go_wp2_with fail
  refine (loss_nil _).mono ?_
  rintro e w8 ⟨rfl, hb⟩
  have h := H.out.next hb
  clear H; have H := Lib.hid h; clear h hb
  go_wp2_with fail
  refine (tout_nil _).mono ?_
  rintro e w9 ⟨rfl, hb⟩
  have h := H.out.next hb
  clear H; have H := Lib.hid h; clear h hb
  go_wp2_with fail
  refine (ends_nil _).mono ?_
  rintro e w10 ⟨rfl, rfl⟩
  have CZ := Lib.hid fun W => new_bad zc zc_wf 1 2 W 2 zc_chk (by decide)
  unfold zc Rt.cv at CZ
  go_wp2_with fail
  refine (CZ.out _).mono ?_
  rintro e w11 ⟨rfl, hb⟩
  have h := H.out.next hb
  clear H CZ; have H := Lib.hid h; clear h hb
  go_wp2_with fail
  refine (works_any _).mono ?_
  rintro e w12 ⟨rfl, hb⟩
  have h := H.out.next hb
  clear H; have H := Lib.hid h; clear h hb
  go_wp2_with fail
  refine (H.out.wait (v := 600) rfl).mono ?_
  rintro e w13 ⟨rfl, h⟩
  clear H; have H := Lib.hid h.2.2; clear h
  go_wp2_with fail
  refine (active_nil _).mono ?_
  rintro e w14 ⟨rfl, q, rfl⟩
  have h : Below w0.heap.size w0 (w13.drewN q) := ⟨H.out.os, H.out.tape, H.out.output, H.out.size, H.out.block⟩
  clear H; have H := Lib.hid h; clear h
  generalize World.drewN _ q = w14 at H ⊢
  go_wp2_with (first
    | (go_at_call 40; refine (misses_nil _).mono ?_; rintro e w9 ⟨rfl, rfl⟩)
    | (go_at_call 41; refine (miss_nil _).mono ?_; rintro e w9 ⟨rfl, rfl⟩)
    | (go_at_call 42; refine (hear_nil _).mono ?_; rintro e w9 ⟨rfl, rfl⟩)
    | (go_at_call 30; refine (beat_nil _ _).mono ?_; rintro e w9 ⟨rfl, rfl⟩)
    | (go_at_call 31; refine (answer_nil _ _).mono ?_; rintro e w9 ⟨rfl, rfl⟩))
  refine (wait_nil _).mono ?_
  rintro e w15 ⟨rfl, hb⟩
  have h := bnext H.out hb
  clear H; have H := Lib.hid h; clear h hb
  go_wp2_with fail
  refine (size_nil _).mono ?_
  rintro e w16 ⟨rfl, hb⟩
  have h := bnext H.out hb
  clear H; have H := Lib.hid h; clear h hb
  go_wp2_with (go_at_call 44; refine (copy_nil _).mono ?_; rintro e w9 ⟨rfl, rfl⟩)
  go_ret
  exact ⟨rfl, H.out⟩
end Go.Proofs.Ytednkcjmlpgipaa
