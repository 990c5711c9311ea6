/-
  A path in memory: what its own methods answer and do.
-/
import Derived.Test.YtednkcjmlpgipaaCwAck
import Derived.Test.YtednkcjmlpgipaaRtMayP
import Derived.Deep.CutRange
import Derived.BigQuiet
namespace Go.Proofs.Ytednkcjmlpgipaa
set_option maxRecDepth 4000
open Go.RowKit
namespace Pa
set_option linter.unusedVariables false
set_option linter.unusedSimpArgs false

/-- A path: its ends, where timer and window lie, and how they stand, tries, misses, the heartbeat. -/
structure Pt where
  a : Int
  b : Int
  gt : Nat
  gw : Nat
  t : Rt.T
  v : Cw.T
  tr : Nat
  mi : Nat
  on : Bool
  nb : Int
def pc (p : Pt) : Array Value := #[.int .u32 p.a, .int .u32 p.b, .pointer (some ⟨p.gt, 0, none⟩), .pointer (some ⟨p.gw, 0, none⟩), .int .i64 (p.tr : Int), .int .i64 (p.mi : Int), .bool p.on, .int .u32 p.nb]
def Pt.act (p : Pt) : Bool := decide (p.mi ≤ p.tr)
/-- The blocks that a path's calls write to. -/
def Fp (x : Nat) (p : Pt) (k : Nat) : Prop := k = x ∨ k = p.gt ∨ k = p.gw
abbrev Bp (w : World) (x : Nat) (p : Pt) : Prop := Bk w x (pc p) 126
/-- The path p lies in block x, with its timer and its window. -/
structure Pk (w : World) (x : Nat) (p : Pt) : Prop where
  bk : Bp w x p
  tk : Rt.Tk w p.gt p.t
  ck : Cw.Tk w p.gw p.v
  xt : x ≠ p.gt
  xw : x ≠ p.gw
  tw : p.gt ≠ p.gw
theorem Bp.cells {w : World} {x : Nat} {p : Pt} (h : Bp w x p) : w.cell? ⟨x, 0, none⟩ = some (.int .u32 p.a) ∧ w.cell? ⟨x, 1, none⟩ = some (.int .u32 p.b) ∧ w.cell? ⟨x, 2, none⟩ = some (.pointer (some ⟨p.gt, 0, none⟩)) ∧ w.cell? ⟨x, 3, none⟩ = some (.pointer (some ⟨p.gw, 0, none⟩)) ∧ w.cell? ⟨x, 4, none⟩ = some (.int .i64 (p.tr : Int)) ∧ w.cell? ⟨x, 5, none⟩ = some (.int .i64 (p.mi : Int)) ∧ w.cell? ⟨x, 6, none⟩ = some (.bool p.on) ∧ w.cell? ⟨x, 7, none⟩ = some (.int .u32 p.nb) :=
  ⟨h.cell 0, h.cell 1, h.cell 2, h.cell 3, h.cell 4, h.cell 5, h.cell 6, h.cell 7⟩
theorem Pk.next {w w' : World} {x : Nat} {p : Pt} (h : Pk w x p) (hb : Below w.heap.size w w') : Pk w' x p := ⟨h.bk.next hb, h.tk.next hb, h.ck.next hb, h.xt, h.xw, h.tw⟩
theorem Pk.drewN {w : World} {x : Nat} {p : Pt} (h : Pk w x p) (q : Nat) : Pk (w.drewN q) x p := ⟨h.bk.drewN q, h.tk.drewN q, h.ck.drewN q, h.xt, h.xw, h.tw⟩
/-- The path's own block was written. -/
theorem Pk.own {w w' : World} {x : Nat} {p : Pt} (h : Pk w x p) (hg : w.grownBy w' (some x)) {p' : Pt} (hb : Bp w' x p') (e : p'.gt = p.gt ∧ p'.gw = p.gw ∧ p'.t = p.t ∧ p'.v = p.v) : Pk w' x p' ∧ Kp w w' (Fp x p) := by
  obtain ⟨e1, e2, e3, e4⟩ := e
  refine ⟨⟨hb, ?_, ?_, ?_, ?_, ?_⟩, Kp.grown hg (fun g hg => by cases hg; exact .inl rfl)⟩
  · rw [e1, e3]; exact h.tk.kept hg (by have := h.xt; simp; omega)
  · rw [e2, e4]; exact h.ck.kept hg (by have := h.xw; simp; omega)
  · rw [e1]; exact h.xt
  · rw [e2]; exact h.xw
  · rw [e1, e2]; exact h.tw
theorem active_any {w : World} {x : Nat} {p : Pt} (h : Bp w x p) : Calls Try.prog 39 #[.pointer (some ⟨x, 0, none⟩)] w fun e w' => e = .returned (.bool p.act) ∧ ∃ m, w' = w.drewN m := by
  obtain ⟨c0, c1, c2, c3, c4, c5, c6, c7⟩ := h.cells
  have hd : decide ((p.mi : Int) ≤ (p.tr : Int)) = p.act := by unfold Pt.act; simp
  clear h c0 c1 c2 c3 c6 c7
  go_enter Try.func39, Try.ntmps39
  go_wp2_with fail
  go_quiet (fail)
  go_wp2_with fail
  go_ret
  exact ⟨by first | rw [hd] | rfl | (unfold Pt.act; rfl), _, rfl⟩
theorem active_nil (w : World) : Calls Try.prog 39 #[.pointer none] w fun e w' => e = .returned (.bool false) ∧ ∃ m, w' = w.drewN m := by
  go_enter Try.func39, Try.ntmps39
  go_wp2_with fail
  go_quiet (fail)
  go_wp2_with fail
  go_ret
  exact ⟨rfl, _, rfl⟩
theorem misses_any {w : World} {x : Nat} {p : Pt} (h : Bp w x p) : Calls Try.prog 40 #[.pointer (some ⟨x, 0, none⟩)] w fun e w' => e = .returned (.int .i64 (p.mi : Int)) ∧ w = w' := by
  obtain ⟨c0, c1, c2, c3, c4, c5, c6, c7⟩ := h.cells
  clear h
  go_enter Try.func40, Try.ntmps40
  go_wp2
  go_ret
  exact ⟨rfl, rfl⟩
theorem misses_nil (w : World) : Calls Try.prog 40 #[.pointer none] w fun e w' => e = .returned (.int .i64 0) ∧ w = w' := by
  go_enter Try.func40, Try.ntmps40
  go_wp2
  go_ret
  exact ⟨rfl, rfl⟩
theorem ends_any {w : World} {x : Nat} {p : Pt} (h : Bp w x p) : Calls Try.prog 34 #[.pointer (some ⟨x, 0, none⟩)] w fun e w' => e = .returned (.tuple #[.int .u32 p.a, .int .u32 p.b]) ∧ ∃ m, w' = w.drewN m := by
  obtain ⟨c0, c1, c2, c3, c4, c5, c6, c7⟩ := h.cells
  clear h
  go_enter Try.func34, Try.ntmps34
  go_upto_region 3 with fail
  go_quiet (fail)
  go_wp2_with fail
  go_returns
  exact ⟨rfl, _, rfl⟩
theorem ends_nil (w : World) : Calls Try.prog 34 #[.pointer none] w fun e w' => e = .returned (.tuple #[.int .u32 0, .int .u32 0]) ∧ w = w' := by
  go_enter Try.func34, Try.ntmps34
  go_wp2_with fail
  go_returns
  exact ⟨rfl, rfl⟩
theorem beat_any {w : World} {x : Nat} {p : Pt} (h : Pk w x p) (n : Int) : Calls Try.prog 30 #[.pointer (some ⟨x, 0, none⟩), .int .u32 n] w fun e w' => e = .returned (.bool p.on) ∧ Pk w' x { p with on := true, nb := n } ∧ Kp w w' (Fp x p) := by
  obtain ⟨c0, c1, c2, c3, c4, c5, c6, c7⟩ := h.bk.cells
  have f6 := h.bk.frozen 6
  have j7 : (w.setCell ⟨x, 6, none⟩ (.bool true)).cell? ⟨x, 7, none⟩ = some (.int .u32 p.nb) := (h.bk.set 6 (.bool true)).cell 7
  have g7 := (h.bk.set 6 (.bool true)).frozen 7
  have HP := Lib.hid h
  clear h c0 c1 c2 c3 c4 c5 c7
  go_enter Try.func30, Try.ntmps30
  go_wp2_with fail
  go_ret
  exact ⟨rfl, HP.out.own ((setc_grown _ _ _ _).trans (setc_grown _ _ _ _)) ((HP.out.bk.set 6 _).set 7 _) ⟨rfl, rfl, rfl, rfl⟩⟩
theorem beat_nil (w : World) (n : Int) : Calls Try.prog 30 #[.pointer none, .int .u32 n] w fun e w' => e = .returned (.bool false) ∧ w = w' := by
  go_enter Try.func30, Try.ntmps30
  go_wp2_with fail
  go_ret
  exact ⟨rfl, rfl⟩
def Pt.ans (p : Pt) (n : Int) : Pt := if p.on = true ∧ p.nb = n then { p with on := false } else p
theorem answer_any {w : World} {x : Nat} {p : Pt} (h : Pk w x p) (n : Int) : Calls Try.prog 31 #[.pointer (some ⟨x, 0, none⟩), .int .u32 n] w fun e w' => e = .returned (.bool (p.on && decide (p.nb = n))) ∧ Pk w' x (p.ans n) ∧ Kp w w' (Fp x p) := by
  obtain ⟨c0, c1, c2, c3, c4, c5, c6, c7⟩ := h.bk.cells
  have f6 := h.bk.frozen 6
  have HP := Lib.hid h
  clear h c0 c1 c2 c3 c4 c5
  by_cases ho : p.on = true
  · by_cases hn : p.nb = n
    · have HA : Hid (p.ans n = { p with on := false }) := Lib.hid (by unfold Pt.ans; rw [if_pos ⟨ho, hn⟩])
      have HR : Hid ((p.on && decide (p.nb = n)) = true) := Lib.hid (by simp [ho, hn])
      rw [ho] at c6
      have hq : ((p.nb : Int) == n) = true := by simp [hn]
      rw [hn] at c7
      clear hq ho hn
      go_enter Try.func31, Try.ntmps31
      go_wp2_with fail
      go_ret
      rw [HA.out, HR.out]
      exact ⟨rfl, HP.out.own (setc_grown _ _ _ _) (HP.out.bk.set 6 _) ⟨rfl, rfl, rfl, rfl⟩⟩
    · have HA : Hid (p.ans n = p) := Lib.hid (by unfold Pt.ans; rw [if_neg (fun h => hn h.2)])
      have HR : Hid ((p.on && decide (p.nb = n)) = false) := Lib.hid (by simp [hn])
      rw [ho] at c6
      have hq : ((p.nb : Int) == n) = false := by simp [hn]
      clear ho
      go_enter Try.func31, Try.ntmps31
      go_wp2_with fail
      go_ret
      rw [HA.out, HR.out]
      exact ⟨rfl, HP.out, Kp.refl _ _⟩
  · have HA : Hid (p.ans n = p) := Lib.hid (by unfold Pt.ans; rw [if_neg (fun h => ho h.1)])
    have HR : Hid ((p.on && decide (p.nb = n)) = false) := Lib.hid (by simp [ho])
    have ho2 : p.on = false := by simpa using ho
    rw [ho2] at c6
    clear ho ho2
    go_enter Try.func31, Try.ntmps31
    go_wp2_with fail
    go_ret
    rw [HA.out, HR.out]
    exact ⟨rfl, HP.out, Kp.refl _ _⟩
theorem answer_nil (w : World) (n : Int) : Calls Try.prog 31 #[.pointer none, .int .u32 n] w fun e w' => e = .returned (.bool false) ∧ w = w' := by
  go_enter Try.func31, Try.ntmps31
  go_wp2_with fail
  go_ret
  exact ⟨rfl, rfl⟩
theorem drewN_kp (w : World) (q : Nat) (F : Nat → Prop) : Kp w (w.drewN q) F := ⟨rfl, rfl, rfl, Nat.le_refl _, fun _ _ _ => rfl⟩
def Pt.to (p : Pt) (m : Nat) : Pt := { p with mi := m }
theorem count_any {w : World} {x : Nat} {p : Pt} (h : Pk w x p) (m : Nat) : Calls Try.prog 73 #[.pointer (some ⟨x, 0, none⟩), .int .i64 (m : Int)] w fun e w' => e = .returned (.bool ((p.to m).act != p.act)) ∧ Pk w' x (p.to m) ∧ Kp w w' (Fp x p) := by
  have CA := Lib.hid (active_any h.bk)
  have HP := Lib.hid h
  have HS : Hid (pc (p.to m) = (pc p).setIfInBounds 5 (.int .i64 (m : Int))) := Lib.hid rfl
  clear h
  obtain ⟨b1, hb1⟩ : ∃ b, p.act = b := ⟨_, rfl⟩
  obtain ⟨b2, hb2⟩ : ∃ b, (p.to m).act = b := ⟨_, rfl⟩
  have HB2 := Lib.hid hb2
  rw [hb1] at CA ⊢
  rw [hb2]
  clear hb1 hb2
  go_enter Try.func73, Try.ntmps73
  go_wp2_with fail
  refine CA.out.mono ?_
  rintro e w1 ⟨rfl, q, rfl⟩
  have HP1 := Lib.hid (HP.out.drewN q)
  have HK1 := Lib.hid (drewN_kp w q (Fp x p))
  generalize w.drewN q = w1 at HP1 HK1 ⊢
  clear CA HP
  obtain ⟨c0, c1, c2, c3, c4, c5, c6, c7⟩ := HP1.out.bk.cells
  have f5 := HP1.out.bk.frozen 5
  clear c0 c1 c2 c3 c4 c6 c7
  have H2 : Hid (Pk (w1.setCell ⟨x, 5, none⟩ (.int .i64 (m : Int))) x (p.to m) ∧ Kp w (w1.setCell ⟨x, 5, none⟩ (.int .i64 (m : Int))) (Fp x p)) := Lib.hid (by
    have hb := HP1.out.bk.set 5 (.int .i64 (m : Int))
    rw [← HS.out] at hb
    obtain ⟨k1, k2⟩ := HP1.out.own (p' := p.to m) (setc_grown w1 x 5 (.int .i64 (m : Int))) hb ⟨rfl, rfl, rfl, rfl⟩
    exact ⟨k1, HK1.out.trans k2 (fun b h => .inl h)⟩)
  go_upto_region 5 with fail
  clear c5 f5 HS HP1 HK1
  generalize World.setCell w1 _ _ = w2 at H2 ⊢
  have CA2 := Lib.hid (active_any H2.out.1.bk)
  rw [HB2.out] at CA2
  clear HB2
  cases b1 <;> cases b2
  all_goals
    go_wp2_with fail
    refine CA2.out.mono ?_
    rintro e w1 ⟨rfl, q, rfl⟩
    go_wp2_with fail
    go_ret
    exact ⟨rfl, H2.out.1.drewN q, H2.out.2.trans (drewN_kp _ _ _) (fun b h => .inl h)⟩
theorem count_nil (w : World) (n : Int) : Calls Try.prog 73 #[.pointer none, .int .i64 n] w fun e w' => e = .returned (.bool false) ∧ w = w' := by
  go_enter Try.func73, Try.ntmps73
  go_wp2_with fail
  go_ret
  exact ⟨rfl, rfl⟩
theorem miss_any {w : World} {x : Nat} {p : Pt} (h : Pk w x p) (hm : p.mi ≤ 1000000) : Calls Try.prog 41 #[.pointer (some ⟨x, 0, none⟩)] w fun e w' => e = .returned (.bool ((p.to (p.mi + 1)).act != p.act)) ∧ Pk w' x (p.to (p.mi + 1)) ∧ Kp w w' (Fp x p) := by
  have C := Lib.hid (count_any h (p.mi + 1))
  have CM := Lib.hid (misses_any h.bk)
  have e1 : wrap64 ((p.mi : Int) + 1) = ((p.mi + 1 : Nat) : Int) := by unfold wrap64; omega
  clear h hm
  generalize p.to (p.mi + 1) = p2 at C ⊢
  generalize (p2.act != p.act) = b at C ⊢
  generalize p.mi + 1 = k at C e1
  generalize p.mi = k0 at CM e1
  go_enter Try.func41, Try.ntmps41
  go_wp2_with (first
    | (go_at_call 40; refine CM.out.mono ?_; rintro e w9 ⟨rfl, rfl⟩)
    | (go_at_call 73; refine C.out.mono ?_; rintro e w9 ⟨rfl, h1, h2⟩))
  go_ret
  exact ⟨rfl, h1, h2⟩
theorem miss_nil (w : World) : Calls Try.prog 41 #[.pointer none] w fun e w' => e = .returned (.bool false) ∧ w = w' := by
  go_enter Try.func41, Try.ntmps41
  go_wp2_with (first
    | (go_at_call 40; refine (misses_nil _).mono ?_; rintro e w9 ⟨rfl, rfl⟩)
    | (go_at_call 73; refine (count_nil _ _).mono ?_; rintro e w9 ⟨rfl, rfl⟩))
  go_ret
  exact ⟨rfl, rfl⟩
theorem hear_any {w : World} {x : Nat} {p : Pt} (h : Pk w x p) : Calls Try.prog 42 #[.pointer (some ⟨x, 0, none⟩)] w fun e w' => e = .returned (.bool ((p.to 0).act != p.act)) ∧ Pk w' x (p.to 0) ∧ Kp w w' (Fp x p) := by
  have C : Hid (Calls Try.prog 73 #[.pointer (some ⟨x, 0, none⟩), .int .i64 0] w fun e w' => e = .returned (.bool ((p.to 0).act != p.act)) ∧ Pk w' x (p.to 0) ∧ Kp w w' (Fp x p)) := Lib.hid (count_any h 0)
  clear h
  generalize p.to 0 = p2 at C ⊢
  generalize (p2.act != p.act) = b at C ⊢
  go_enter Try.func42, Try.ntmps42
  go_wp2_with (go_at_call 73; refine C.out.mono ?_; rintro e w9 ⟨rfl, h1, h2⟩)
  go_ret
  exact ⟨rfl, h1, h2⟩
theorem hear_nil (w : World) : Calls Try.prog 42 #[.pointer none] w fun e w' => e = .returned (.bool false) ∧ w = w' := by
  go_enter Try.func42, Try.ntmps42
  go_wp2_with (go_at_call 73; refine (count_nil _ _).mono ?_; rintro e w9 ⟨rfl, rfl⟩)
  go_ret
  exact ⟨rfl, rfl⟩
end Pa
end Go.Proofs.Ytednkcjmlpgipaa
