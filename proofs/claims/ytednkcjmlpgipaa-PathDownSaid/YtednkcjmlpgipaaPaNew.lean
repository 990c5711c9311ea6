/-
  A path is made; the statements' small thing.
-/
import Derived.Test.YtednkcjmlpgipaaPaAsk
namespace Go.Proofs.Ytednkcjmlpgipaa
set_option maxRecDepth 4000
open Go.RowKit
namespace Pa
set_option linter.unusedVariables false
set_option linter.unusedSimpArgs false

def p0 (c : Rt.Cf) (a b : Int) (gt gw : Nat) : Pt := ⟨a, b, gt, gw, Rt.t0 c, Cw.t0 c.mtu.toNat, c.pt.toNat, 0, false, 0⟩
theorem may_mtu {c : Rt.Cf} (h : Rt.may c = true) : 64 ≤ c.mtu ∧ c.mtu ≤ 1500 := by
  simp only [Rt.may, Rt.conds, List.all_cons, List.all_nil, id, Bool.and_eq_true, decide_eq_true_eq, Bool.and_true] at h
  exact h.1
theorem chk_is {c : Rt.Cf} (hc : c.Wf) (h : Rt.chk c = 0) : Rt.may c = true := by
  have := Rt.chk_may c hc
  rw [h] at this
  by_cases hm : Rt.may c = true
  · exact hm
  · rw [if_neg hm] at this
    exact absurd this (by decide)
theorem new_ok (c : Rt.Cf) (hc : c.Wf) (a b : Int) (w : World) (h : Rt.chk c = 0) : Calls Try.prog 28 #[.agg (Rt.cv c), .int .u32 a, .int .u32 b] w fun e w' => ∃ g gt gw, e = .returned (.tuple #[.pointer (some ⟨g, 0, none⟩), .int .i64 0]) ∧ w.heap.size ≤ g ∧ w.heap.size ≤ gt ∧ w.heap.size ≤ gw ∧ Pk w' g (p0 c a b gt gw) ∧ Below w.heap.size w w' := by
  have hm := may_mtu (chk_is hc h)
  have CR := Lib.hid fun W => Rt.new_ok c hc W h
  have CW := Lib.hid fun W => Cw.new_ok c.mtu W hm.1 hm.2
  have HB := Lib.hid (Bk.new w (Rt.cv c) 78)
  have HBB := Lib.hid ((Below.refl w.heap.size w).alloc (Nat.le_refl _) (.cells (Rt.cv c) 78))
  have e1 : wrap64 c.pt = ((c.pt.toNat : Nat) : Int) := by have := hc.pt; unfold wrap64; omega
  have e2 : IntKind.i64.wrap c.pt = ((c.pt.toNat : Nat) : Int) := by have := hc.pt; rw [Rt.w64 (by omega)]; omega
  have HE : Hid (∀ gt gw, pc (p0 c a b gt gw) = #[.int .u32 a, .int .u32 b, .pointer (some ⟨gt, 0, none⟩), .pointer (some ⟨gw, 0, none⟩), .int .i64 ((c.pt.toNat : Nat) : Int), .int .i64 0, .bool false, .int .u32 0]) := Lib.hid fun _ _ => rfl
  generalize c.pt.toNat = k at e1 e2 HE
  clear hm hc h
  unfold Rt.cv at CR HB HBB ⊢
  go_enter Try.func28, Try.ntmps28
  go_upto_region 1 with fail
  generalize World.alloc w _ = w1 at HB HBB ⊢
  obtain ⟨c0, c1, c2, c3, c4, c5, c6, c7, c8, c9, c10, c11, c12⟩ := Rt.Bk.cfg HB.out
  go_wp2_with fail
  refine (CR.out _).mono ?_
  rintro e w2 ⟨gt, rfl, hg, ht, hb⟩
  have HT2 := Lib.hid ht
  have HG2 := Lib.hid (Nat.le_trans HBB.out.size hg)
  have HB2 := Lib.hid (bnext HBB.out hb)
  have HL2 := Lib.hid ht.lt
  have HC2 := Lib.hid (HB.out.next hb)
  clear ht hg hb CR HB HBB c0 c1 c2 c3 c4 c5 c6 c7 c8 c9 c10 c11 c12
  have c0 := (Rt.Bk.cfg HC2.out).1
  go_wp2_with fail
  refine (CW.out _).mono ?_
  rintro e w3 ⟨gw, rfl, hg, ht, hb⟩
  have HT3 := Lib.hid (HT2.out.next hb)
  have HW3 := Lib.hid ht
  have HG3 := Lib.hid (Nat.le_trans HB2.out.size hg)
  have HN3 : Hid (gt ≠ gw) := Lib.hid (by have := HL2.out; omega)
  have HB3 := Lib.hid (bnext HB2.out hb)
  have HC3 := Lib.hid (HC2.out.next hb)
  clear ht hg hb CW HT2 HB2 HL2 HC2 c0
  have c9 := (Rt.Bk.cfg HC3.out).2.2.2.2.2.2.2.2.2.1
  go_wp2_with fail
  go_returns
  rw [← HE.out gt gw]
  have hbk := Bk.new w3 (pc (p0 c a b gt gw)) 126
  have hal := (Below.refl w3.heap.size w3).alloc (Nat.le_refl _) (.cells (pc (p0 c a b gt gw)) 126)
  exact ⟨_, gt, gw, rfl, HB3.out.size, HG2.out, HG3.out, ⟨hbk, HT3.out.next hal, HW3.out.next hal, by have := HT3.out.lt; show w3.heap.size ≠ gt; omega, by have := HW3.out.lt; show w3.heap.size ≠ gw; omega, HN3.out⟩, bnext HB3.out hal⟩
theorem new_bad (c : Rt.Cf) (hc : c.Wf) (a b : Int) (w : World) (z : Int) (h : Rt.chk c = z) (h0 : ¬ z = 0) : Calls Try.prog 28 #[.agg (Rt.cv c), .int .u32 a, .int .u32 b] w fun e w' => e = .returned (.tuple #[.pointer none, .int .i64 z]) ∧ Below w.heap.size w w' := by
  have CR := Lib.hid fun W => Rt.new_bad c hc W z h h0
  have HB := Lib.hid (Bk.new w (Rt.cv c) 78)
  have HBB := Lib.hid ((Below.refl w.heap.size w).alloc (Nat.le_refl _) (.cells (Rt.cv c) 78))
  have hz : ((z : Int) == 0) = false := by simp [h0]
  clear hc h
  unfold Rt.cv at CR HB HBB ⊢
  go_enter Try.func28, Try.ntmps28
  go_upto_region 1 with fail
  generalize World.alloc w _ = w1 at HB HBB ⊢
  obtain ⟨c0, c1, c2, c3, c4, c5, c6, c7, c8, c9, c10, c11, c12⟩ := Rt.Bk.cfg HB.out
  go_wp2_with fail
  refine (CR.out _).mono ?_
  rintro e w2 ⟨rfl, hb⟩
  have HB2 := Lib.hid (bnext HBB.out hb)
  clear hb CR HB HBB c0 c1 c2 c3 c4 c5 c6 c7 c8 c9 c10 c11 c12
  go_wp2_with fail
  go_returns
  exact ⟨rfl, HB2.out⟩
/-- A path in memory, of the call's own. -/
def Pn (w0 : World) (x : Nat) (p : Pt) (w : World) : Prop := Pk w x p ∧ (w0.heap.size ≤ x ∧ w0.heap.size ≤ p.gt ∧ w0.heap.size ≤ p.gw) ∧ Below w0.heap.size w0 w
theorem Pn.step {w0 w w' : World} {x : Nat} {p p' : Pt} (h : Pn w0 x p w) (hp : Pk w' x p') (hk : Kp w w' (Fp x p)) (e : p'.gt = p.gt ∧ p'.gw = p.gw) : Pn w0 x p' w' := by
  refine ⟨hp, ?_, Kp.to_below h.2.2 hk ?_ h.2.2.size⟩
  · rw [e.1, e.2]; exact h.2.1
  · rintro b (rfl | rfl | rfl)
    · exact h.2.1.1
    · exact h.2.1.2.1
    · exact h.2.1.2.2
theorem Pn.next {w0 w w' : World} {x : Nat} {p : Pt} (h : Pn w0 x p w) (hb : Below w.heap.size w w') : Pn w0 x p w' := ⟨h.1.next hb, h.2.1, bnext h.2.2 hb⟩
theorem Pn.drewN {w0 w : World} {x : Nat} {p : Pt} (h : Pn w0 x p w) (q : Nat) : Pn w0 x p (w.drewN q) := ⟨h.1.drewN q, h.2.1, ⟨h.2.2.os, h.2.2.tape, h.2.2.output, h.2.2.size, h.2.2.block⟩⟩
end Pa
end Go.Proofs.Ytednkcjmlpgipaa
