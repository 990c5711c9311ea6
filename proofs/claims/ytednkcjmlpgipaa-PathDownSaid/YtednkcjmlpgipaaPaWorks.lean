/-
  The statements' 'works' answers true.
-/
import Derived.Test.YtednkcjmlpgipaaPaNew
namespace Go.Proofs.Ytednkcjmlpgipaa
set_option maxRecDepth 4000
open Go.RowKit
namespace Pa
set_option linter.unusedVariables false
set_option linter.unusedSimpArgs false

section
variable {w0 w : World} {x : Nat} {p : Pt}
theorem Pn.miss (h : Pn w0 x p w) (hm : p.mi ≤ 1000000) {p' : Pt} (e : p.to (p.mi + 1) = p') {b : Bool} (hb : (p'.act != p.act) = b) : Calls Try.prog 41 #[.pointer (some ⟨x, 0, none⟩)] w fun e w' => e = .returned (.bool b) ∧ Pn w0 x p' w' := by
  subst e; subst hb
  exact (miss_any h.1 hm).mono fun e w' ⟨h1, h2, h3⟩ => ⟨h1, h.step h2 h3 ⟨rfl, rfl⟩⟩
theorem Pn.hear (h : Pn w0 x p w) {p' : Pt} (e : p.to 0 = p') {b : Bool} (hb : (p'.act != p.act) = b) : Calls Try.prog 42 #[.pointer (some ⟨x, 0, none⟩)] w fun e w' => e = .returned (.bool b) ∧ Pn w0 x p' w' := by
  subst e; subst hb
  exact (hear_any h.1).mono fun e w' ⟨h1, h2, h3⟩ => ⟨h1, h.step h2 h3 ⟨rfl, rfl⟩⟩
theorem Pn.active (h : Pn w0 x p w) {b : Bool} (hb : p.act = b) : Calls Try.prog 39 #[.pointer (some ⟨x, 0, none⟩)] w fun e w' => e = .returned (.bool b) ∧ Pn w0 x p w' := by
  subst hb
  exact (active_any h.1.bk).mono fun e w' ⟨h1, q, h2⟩ => ⟨h1, by rw [h2]; exact h.drewN q⟩
end
def ws (gt gw : Nat) (k : Nat) : Pt := (p0 Rt.gd 1 2 gt gw).to k
theorem ws_z (gt gw : Nat) : p0 Rt.gd 1 2 gt gw = ws gt gw 0 := rfl
theorem ws_act (gt gw k : Nat) : (ws gt gw k).act = decide (k ≤ 3) := rfl
theorem ws_step (gt gw k : Nat) : (ws gt gw k).to ((ws gt gw k).mi + 1) = ws gt gw (k + 1) := rfl
theorem ws_mi (gt gw : Nat) {k : Nat} (h : k ≤ 1000000) : (ws gt gw k).mi ≤ 1000000 := h
theorem ws_hear (gt gw k : Nat) : (ws gt gw k).to 0 = ws gt gw 0 := rfl
set_option maxHeartbeats 1000000 in
theorem works_any (w0 : World) : Calls Try.prog 38 #[] w0 fun e w' => e = .returned (.bool true) ∧ Below w0.heap.size w0 w' := by
  go_enter Try.func38, Try.ntmps38
  go_wp2_with fail
  refine (Rt.good_any w0).mono ?_
  rintro e w1 ⟨rfl, hb1⟩
  have CN := Lib.hid (new_ok Rt.gd Rt.gd_wf 1 2 w1 Rt.gd_chk)
  unfold Rt.gd at CN
  have HB1 := Lib.hid hb1
  clear hb1
  unfold Rt.cv at CN ⊢
  go_wp2_with fail
  refine CN.out.mono ?_
  rintro e w2 ⟨g, gt, gw, rfl, h1, h2, h3, h4, h5⟩
  have H : Hid (Pn w0 g (ws gt gw 0) w2) := Lib.hid ⟨h4, ⟨Nat.le_trans HB1.out.size h1, Nat.le_trans HB1.out.size h2, Nat.le_trans HB1.out.size h3⟩, bnext HB1.out h5⟩
  clear h1 h2 h3 h4 h5 CN HB1
  go_wp2_with fail
  refine (H.out.active (b := true) rfl).mono ?_
  rintro e w3 ⟨rfl, h⟩
  clear H; have H := Lib.hid h; clear h
  go_wp2_with fail
  refine (H.out.miss (ws_mi _ _ (by decide)) (ws_step _ _ _) (b := false) rfl).mono ?_
  rintro e w4 ⟨rfl, h⟩
  clear H; have H := Lib.hid h; clear h
  go_wp2_with fail
  refine (H.out.miss (ws_mi _ _ (by decide)) (ws_step _ _ _) (b := false) rfl).mono ?_
  rintro e w5 ⟨rfl, h⟩
  clear H; have H := Lib.hid h; clear h
  go_wp2_with fail
  refine (H.out.miss (ws_mi _ _ (by decide)) (ws_step _ _ _) (b := false) rfl).mono ?_
  rintro e w6 ⟨rfl, h⟩
  clear H; have H := Lib.hid h; clear h
  go_wp2_with fail
  refine (H.out.miss (ws_mi _ _ (by decide)) (ws_step _ _ _) (b := true) rfl).mono ?_
  rintro e w7 ⟨rfl, h⟩
  clear H; have H := Lib.hid h; clear h
  go_wp2_with fail
  refine (H.out.active (b := false) rfl).mono ?_
  rintro e w8 ⟨rfl, h⟩
  clear H; have H := Lib.hid h; clear h
  go_wp2_with fail
  refine (H.out.hear (ws_hear _ _ _) (b := true) rfl).mono ?_
  rintro e w9 ⟨rfl, h⟩
  clear H; have H := Lib.hid h; clear h
  go_wp2_with fail
  refine (H.out.hear (ws_hear _ _ _) (b := false) rfl).mono ?_
  rintro e w10 ⟨rfl, h⟩
  clear H; have H := Lib.hid h; clear h
  go_wp2_with fail
  refine (H.out.active (b := true) rfl).mono ?_
  rintro e w11 ⟨rfl, h⟩
  clear H; have H := Lib.hid h; clear h
  go_wp2_with fail
  go_ret
  exact ⟨rfl, H.out.2.2⟩
end Pa
end Go.Proofs.Ytednkcjmlpgipaa
