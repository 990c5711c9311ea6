/-
  What is asked of a path's timer and window, by method values.
-/
import Derived.Test.YtednkcjmlpgipaaPaLow
import Derived.Laws.EntriesVeiled
import Derived.Handy
namespace Go.Proofs.Ytednkcjmlpgipaa
set_option maxRecDepth 4000
open Go.RowKit
namespace Pa
set_option linter.unusedVariables false
set_option linter.unusedSimpArgs false

/-- The timer's method values, over a pointer. -/
def tms (q : Option Addr) : Array Value := #[.func (Fn.func 99) #[.pointer q] #[], .func (Fn.func 100) #[.pointer q] #[], .func (Fn.func 101) #[.pointer q] #[]]
def szs (q : Option Addr) : Array Value := #[.func (Fn.func 102) #[.pointer q] #[], .func (Fn.func 103) #[.pointer q] #[], .func (Fn.func 104) #[.pointer q] #[], .func (Fn.func 105) #[.pointer q] #[]]
theorem tm_fields (q : Option Addr) : (∀ W, (Instr.field 128 (.agg #[.func (Fn.func 99) #[.pointer q] #[], .func (Fn.func 100) #[.pointer q] #[], .func (Fn.func 101) #[.pointer q] #[]]) 0).run Try.prog W = .ok (.func (Fn.func 99) #[.pointer q] #[]) W) ∧ (∀ W, (Instr.field 128 (.agg #[.func (Fn.func 99) #[.pointer q] #[], .func (Fn.func 100) #[.pointer q] #[], .func (Fn.func 101) #[.pointer q] #[]]) 1).run Try.prog W = .ok (.func (Fn.func 100) #[.pointer q] #[]) W) ∧ (∀ W, (Instr.field 128 (.agg #[.func (Fn.func 99) #[.pointer q] #[], .func (Fn.func 100) #[.pointer q] #[], .func (Fn.func 101) #[.pointer q] #[]]) 2).run Try.prog W = .ok (.func (Fn.func 101) #[.pointer q] #[]) W) :=
  ⟨fun W => by kernel_rfl, fun W => by kernel_rfl, fun W => by kernel_rfl⟩
theorem sz_fields (q : Option Addr) : (∀ W, (Instr.field 131 (.agg #[.func (Fn.func 102) #[.pointer q] #[], .func (Fn.func 103) #[.pointer q] #[], .func (Fn.func 104) #[.pointer q] #[], .func (Fn.func 105) #[.pointer q] #[]]) 0).run Try.prog W = .ok (.func (Fn.func 102) #[.pointer q] #[]) W) ∧ (∀ W, (Instr.field 131 (.agg #[.func (Fn.func 102) #[.pointer q] #[], .func (Fn.func 103) #[.pointer q] #[], .func (Fn.func 104) #[.pointer q] #[], .func (Fn.func 105) #[.pointer q] #[]]) 1).run Try.prog W = .ok (.func (Fn.func 103) #[.pointer q] #[]) W) ∧ (∀ W, (Instr.field 131 (.agg #[.func (Fn.func 102) #[.pointer q] #[], .func (Fn.func 103) #[.pointer q] #[], .func (Fn.func 104) #[.pointer q] #[], .func (Fn.func 105) #[.pointer q] #[]]) 2).run Try.prog W = .ok (.func (Fn.func 104) #[.pointer q] #[]) W) ∧ (∀ W, (Instr.field 131 (.agg #[.func (Fn.func 102) #[.pointer q] #[], .func (Fn.func 103) #[.pointer q] #[], .func (Fn.func 104) #[.pointer q] #[], .func (Fn.func 105) #[.pointer q] #[]]) 3).run Try.prog W = .ok (.func (Fn.func 105) #[.pointer q] #[]) W) :=
  ⟨fun W => by kernel_rfl, fun W => by kernel_rfl, fun W => by kernel_rfl, fun W => by kernel_rfl⟩
theorem timing_any {w : World} {x : Nat} {p : Pt} (h : Bp w x p) : Calls Try.prog 71 #[.pointer (some ⟨x, 0, none⟩)] w fun e w' => e = .returned (.agg (tms (some ⟨p.gt, 0, none⟩))) ∧ Below w.heap.size w w' := by
  have c2 := fun o => (Bk.alloc h o).cell 2
  clear h
  go_enter Try.func71, Try.ntmps71
  unfold pc at c2
  go_wp2_with fail
  go_returns
  exact ⟨rfl, by go_grown⟩
theorem timing_nil (w : World) : Calls Try.prog 71 #[.pointer none] w fun e w' => e = .returned (.agg (tms none)) ∧ Below w.heap.size w w' := by
  go_enter Try.func71, Try.ntmps71
  go_wp2_with fail
  go_returns
  exact ⟨rfl, by go_grown⟩
theorem sizing_any {w : World} {x : Nat} {p : Pt} (h : Bp w x p) : Calls Try.prog 72 #[.pointer (some ⟨x, 0, none⟩)] w fun e w' => e = .returned (.agg (szs (some ⟨p.gw, 0, none⟩))) ∧ Below w.heap.size w w' := by
  have c2 := fun o => (Bk.alloc h o).cell 3
  clear h
  go_enter Try.func72, Try.ntmps72
  unfold pc at c2
  go_wp2_with fail
  go_returns
  exact ⟨rfl, by go_grown⟩
theorem sizing_nil (w : World) : Calls Try.prog 72 #[.pointer none] w fun e w' => e = .returned (.agg (szs none)) ∧ Below w.heap.size w w' := by
  go_enter Try.func72, Try.ntmps72
  go_wp2_with fail
  go_returns
  exact ⟨rfl, by go_grown⟩
theorem Pk.timer {w w' : World} {x : Nat} {p : Pt} (h : Pk w x p) {t' : Rt.T} (ht : Rt.Tk w' p.gt t') (hg : w.grownBy w' (some p.gt)) : Pk w' x { p with t := t' } ∧ Kp w w' (Fp x p) :=
  ⟨⟨h.bk.kept hg (by have := h.xt; simp; omega), ht, h.ck.kept hg (by have := h.tw; simp; omega), h.xt, h.xw, h.tw⟩, Kp.grown hg (fun g hg => by cases hg; exact .inr (.inl rfl))⟩
theorem Pk.wind {w w' : World} {x : Nat} {p : Pt} (h : Pk w x p) {t' : Cw.T} (ht : Cw.Tk w' p.gw t') (hg : w.grownBy w' (some p.gw)) : Pk w' x { p with v := t' } ∧ Kp w w' (Fp x p) :=
  ⟨⟨h.bk.kept hg (by have := h.xw; simp; omega), h.tk.kept hg (by have := h.tw; simp; omega), ht, h.xt, h.xw, h.tw⟩, Kp.grown hg (fun g hg => by cases hg; exact .inr (.inr rfl))⟩
theorem wait_any {w : World} {x : Nat} {p : Pt} (h : Pk w x p) : Calls Try.prog 32 #[.pointer (some ⟨x, 0, none⟩)] w fun e w' => e = .returned (.int .u64 (p.t.v : Int)) ∧ Below w.heap.size w w' := by
  have CT := Lib.hid (timing_any h.bk)
  have CV := Lib.hid (fun W (hb : Below w.heap.size w W) => Rt.value_any (h.next hb).tk)
  clear h
  go_enter Try.func32, Try.ntmps32
  go_wp2_with fail
  refine CT.out.mono ?_
  rintro e w1 ⟨rfl, hb⟩
  have HB := Lib.hid hb
  clear hb CT
  have ⟨k0, k1, k2⟩ := tm_fields (some ⟨p.gt, 0, none⟩)
  unfold tms
  go_wp2_with fail
  refine (CV.out _ HB.out).mono ?_
  rintro e w2 ⟨rfl, rfl⟩
  go_wp2_with fail
  go_ret
  exact ⟨rfl, HB.out⟩
theorem wait_nil (w : World) : Calls Try.prog 32 #[.pointer none] w fun e w' => e = .returned (.int .u64 0) ∧ Below w.heap.size w w' := by
  go_enter Try.func32, Try.ntmps32
  go_wp2_with fail
  refine (timing_nil w).mono ?_
  rintro e w1 ⟨rfl, hb⟩
  have HB := Lib.hid hb
  clear hb
  have ⟨k0, k1, k2⟩ := tm_fields none
  unfold tms
  go_wp2_with fail
  refine (Rt.value_nil _).mono ?_
  rintro e w2 ⟨rfl, rfl⟩
  go_wp2_with fail
  go_ret
  exact ⟨rfl, HB.out⟩
theorem size_any {w : World} {x : Nat} {p : Pt} (h : Pk w x p) : Calls Try.prog 43 #[.pointer (some ⟨x, 0, none⟩)] w fun e w' => e = .returned (.int .i64 (p.v.sz : Int)) ∧ Below w.heap.size w w' := by
  have CT := Lib.hid (sizing_any h.bk)
  have CV := Lib.hid (fun W (hb : Below w.heap.size w W) => Cw.size_any (h.next hb).ck)
  clear h
  go_enter Try.func43, Try.ntmps43
  go_wp2_with fail
  refine CT.out.mono ?_
  rintro e w1 ⟨rfl, hb⟩
  have HB := Lib.hid hb
  clear hb CT
  have ⟨k0, k1, k2, k3⟩ := sz_fields (some ⟨p.gw, 0, none⟩)
  unfold szs
  go_wp2_with fail
  refine (CV.out _ HB.out).mono ?_
  rintro e w2 ⟨rfl, rfl⟩
  go_wp2_with fail
  go_ret
  exact ⟨rfl, HB.out⟩
theorem size_nil (w : World) : Calls Try.prog 43 #[.pointer none] w fun e w' => e = .returned (.int .i64 0) ∧ Below w.heap.size w w' := by
  go_enter Try.func43, Try.ntmps43
  go_wp2_with fail
  refine (sizing_nil w).mono ?_
  rintro e w1 ⟨rfl, hb⟩
  have HB := Lib.hid hb
  clear hb
  have ⟨k0, k1, k2, k3⟩ := sz_fields none
  unfold szs
  go_wp2_with fail
  refine (Cw.size_nil _).mono ?_
  rintro e w2 ⟨rfl, rfl⟩
  go_wp2_with fail
  go_ret
  exact ⟨rfl, HB.out⟩
theorem sample_any {w : World} {x : Nat} {p : Pt} (h : Pk w x p) (ok : p.t.Ok) (r : Nat) : Calls Try.prog 35 #[.pointer (some ⟨x, 0, none⟩), .int .u64 (r : Int)] w fun e w' => e = .returned (.tuple #[]) ∧ Pk w' x { p with t := p.t.sample r } ∧ Kp w w' (Fp x p) := by
  have CT := Lib.hid (timing_any h.bk)
  have HP := Lib.hid h
  have HO := Lib.hid ok
  clear h ok
  go_enter Try.func35, Try.ntmps35
  go_wp2_with fail
  refine CT.out.mono ?_
  rintro e w1 ⟨rfl, hb⟩
  have HB := Lib.hid hb
  have HP1 := Lib.hid (HP.out.next hb)
  clear hb CT HP
  have ⟨k0, k1, k2⟩ := tm_fields (some ⟨p.gt, 0, none⟩)
  unfold tms
  go_wp2_with fail
  refine (Rt.sample_any HP1.out.tk HO.out r).mono ?_
  rintro e w2 ⟨rfl, h1, h2⟩
  have H2 := Lib.hid (HP1.out.timer h1 h2)
  clear h1 h2
  go_wp2_with fail
  go_end0
  exact ⟨rfl, H2.out.1, (Kp.below HB.out).trans H2.out.2 (fun b h => .inl h)⟩
theorem sample_nil (w : World) (r : Int) : Calls Try.prog 35 #[.pointer none, .int .u64 r] w fun e w' => e = .returned (.tuple #[]) ∧ Below w.heap.size w w' := by
  go_enter Try.func35, Try.ntmps35
  go_wp2_with fail
  refine (timing_nil w).mono ?_
  rintro e w1 ⟨rfl, hb⟩
  have HB := Lib.hid hb
  clear hb
  have ⟨k0, k1, k2⟩ := tm_fields none
  unfold tms
  go_wp2_with fail
  refine (Rt.sample_nil _ _).mono ?_
  rintro e w2 ⟨rfl, rfl⟩
  go_wp2_with fail
  go_end0
  exact ⟨rfl, HB.out⟩
theorem ack_any {w : World} {x : Nat} {p : Pt} {b : Nat} (h : Pk w x p) (ok : p.v.Ok b) (hb : b ≤ 4398046511104) (n : Int) (f : Bool) : Calls Try.prog 36 #[.pointer (some ⟨x, 0, none⟩), .int .i64 n, .bool f] w fun e w' => e = .returned (.tuple #[]) ∧ Pk w' x { p with v := p.v.ack n f } ∧ Kp w w' (Fp x p) := by
  have CT := Lib.hid (sizing_any h.bk)
  have HP := Lib.hid h
  have HO := Lib.hid (⟨ok, hb⟩ : p.v.Ok b ∧ b ≤ 4398046511104)
  clear h ok hb
  go_enter Try.func36, Try.ntmps36
  go_wp2_with fail
  refine CT.out.mono ?_
  rintro e w1 ⟨rfl, hb⟩
  have HB := Lib.hid hb
  have HP1 := Lib.hid (HP.out.next hb)
  clear hb CT HP
  have ⟨k0, k1, k2, k3⟩ := sz_fields (some ⟨p.gw, 0, none⟩)
  unfold szs
  go_wp2_with fail
  refine (Cw.ack_any HP1.out.ck HO.out.1 HO.out.2 n f).mono ?_
  rintro e w2 ⟨rfl, h1, h2⟩
  have H2 := Lib.hid (HP1.out.wind h1 h2)
  clear h1 h2
  go_wp2_with fail
  go_end0
  exact ⟨rfl, H2.out.1, (Kp.below HB.out).trans H2.out.2 (fun b h => .inl h)⟩
theorem ack_nil (w : World) (n : Int) (f : Bool) : Calls Try.prog 36 #[.pointer none, .int .i64 n, .bool f] w fun e w' => e = .returned (.tuple #[]) ∧ Below w.heap.size w w' := by
  go_enter Try.func36, Try.ntmps36
  go_wp2_with fail
  refine (sizing_nil w).mono ?_
  rintro e w1 ⟨rfl, hb⟩
  have HB := Lib.hid hb
  clear hb
  have ⟨k0, k1, k2, k3⟩ := sz_fields none
  unfold szs
  go_wp2_with fail
  refine (Cw.ack_nil _ _ _).mono ?_
  rintro e w2 ⟨rfl, rfl⟩
  go_wp2_with fail
  go_end0
  exact ⟨rfl, HB.out⟩
theorem loss_any {w : World} {x : Nat} {p : Pt} {b : Nat} (h : Pk w x p) (ok : p.v.Ok b) : Calls Try.prog 37 #[.pointer (some ⟨x, 0, none⟩)] w fun e w' => e = .returned (.tuple #[]) ∧ Pk w' x { p with v := p.v.loss } ∧ Kp w w' (Fp x p) := by
  have CT := Lib.hid (sizing_any h.bk)
  have HP := Lib.hid h
  have HO := Lib.hid ok
  clear h ok
  go_enter Try.func37, Try.ntmps37
  go_wp2_with fail
  refine CT.out.mono ?_
  rintro e w1 ⟨rfl, hb⟩
  have HB := Lib.hid hb
  have HP1 := Lib.hid (HP.out.next hb)
  clear hb CT HP
  have ⟨k0, k1, k2, k3⟩ := sz_fields (some ⟨p.gw, 0, none⟩)
  unfold szs
  go_wp2_with fail
  refine (Cw.loss_any HP1.out.ck HO.out).mono ?_
  rintro e w2 ⟨rfl, h1, h2⟩
  have H2 := Lib.hid (HP1.out.wind h1 h2)
  clear h1 h2
  go_wp2_with fail
  go_end0
  exact ⟨rfl, H2.out.1, (Kp.below HB.out).trans H2.out.2 (fun b h => .inl h)⟩
theorem loss_nil (w : World) : Calls Try.prog 37 #[.pointer none] w fun e w' => e = .returned (.tuple #[]) ∧ Below w.heap.size w w' := by
  go_enter Try.func37, Try.ntmps37
  go_wp2_with fail
  refine (sizing_nil w).mono ?_
  rintro e w1 ⟨rfl, hb⟩
  have HB := Lib.hid hb
  clear hb
  have ⟨k0, k1, k2, k3⟩ := sz_fields none
  unfold szs
  go_wp2_with fail
  refine (Cw.loss_nil _).mono ?_
  rintro e w2 ⟨rfl, rfl⟩
  go_wp2_with fail
  go_end0
  exact ⟨rfl, HB.out⟩
theorem tout_any {w : World} {x : Nat} {p : Pt} {b : Nat} (h : Pk w x p) (okt : p.t.Ok) (ok : p.v.Ok b) : Calls Try.prog 33 #[.pointer (some ⟨x, 0, none⟩)] w fun e w' => e = .returned (.tuple #[]) ∧ Pk w' x { p with t := p.t.back, v := p.v.tout } ∧ Kp w w' (Fp x p) := by
  have CT := Lib.hid (timing_any h.bk)
  have HP := Lib.hid h
  have HO := Lib.hid ok
  have HT := Lib.hid okt
  clear h ok okt
  go_enter Try.func33, Try.ntmps33
  go_wp2_with fail
  refine CT.out.mono ?_
  rintro e w1 ⟨rfl, hb⟩
  have HB := Lib.hid hb
  have HP1 := Lib.hid (HP.out.next hb)
  clear hb CT HP
  have ⟨k0, k1, k2⟩ := tm_fields (some ⟨p.gt, 0, none⟩)
  unfold tms
  go_wp2_with fail
  refine (Rt.back_any HP1.out.tk HT.out).mono ?_
  rintro e w2 ⟨rfl, h1, h2⟩
  have H2 := Lib.hid (HP1.out.timer h1 h2)
  clear h1 h2
  go_wp2_with fail
  refine (sizing_any H2.out.1.bk).mono ?_
  rintro e w3 ⟨rfl, hb⟩
  have HB3 := Lib.hid hb
  have HP3 := Lib.hid (H2.out.1.next hb)
  clear hb
  have ⟨k0, k1, k2, k3⟩ := sz_fields (some ⟨p.gw, 0, none⟩)
  unfold szs
  go_wp2_with fail
  refine (Cw.tout_any HP3.out.ck HO.out).mono ?_
  rintro e w4 ⟨rfl, h1, h2⟩
  have H4 := Lib.hid (HP3.out.wind h1 h2)
  clear h1 h2
  go_wp2_with fail
  go_end0
  exact ⟨rfl, H4.out.1, (((Kp.below HB.out).trans H2.out.2 (fun b h => .inl h)).trans (Kp.below (F := Fp x p) HB3.out) (fun b h => .inl h)).trans H4.out.2 (fun b h => .inl h)⟩
theorem tout_nil (w : World) : Calls Try.prog 33 #[.pointer none] w fun e w' => e = .returned (.tuple #[]) ∧ Below w.heap.size w w' := by
  go_enter Try.func33, Try.ntmps33
  go_wp2_with fail
  refine (timing_nil w).mono ?_
  rintro e w1 ⟨rfl, hb⟩
  have HB := Lib.hid hb
  clear hb
  have ⟨k0, k1, k2⟩ := tm_fields none
  unfold tms
  go_wp2_with fail
  refine (Rt.back_nil _).mono ?_
  rintro e w2 ⟨rfl, rfl⟩
  go_wp2_with fail
  refine (sizing_nil _).mono ?_
  rintro e w3 ⟨rfl, hb⟩
  have HB3 := Lib.hid (bnext HB.out hb)
  clear hb
  have ⟨k0, k1, k2, k3⟩ := sz_fields none
  unfold szs
  go_wp2_with fail
  refine (Cw.tout_nil _).mono ?_
  rintro e w4 ⟨rfl, rfl⟩
  go_wp2_with fail
  go_end0
  exact ⟨rfl, HB3.out⟩
theorem copy_nil (w : World) : Calls Try.prog 44 #[.pointer none] w fun e w' => e = .returned (.pointer none) ∧ w = w' := by
  go_enter Try.func44, Try.ntmps44
  go_wp2_with fail
  go_ret
  exact ⟨rfl, rfl⟩
end Pa
end Go.Proofs.Ytednkcjmlpgipaa
