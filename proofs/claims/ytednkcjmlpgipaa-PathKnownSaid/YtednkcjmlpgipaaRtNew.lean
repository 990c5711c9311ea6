/-
  A timer is made; the statements' small thing.
-/
import Derived.Test.YtednkcjmlpgipaaRtCfg
namespace Go.Proofs.Ytednkcjmlpgipaa
set_option maxRecDepth 4000
open Go.RowKit
namespace Rt
set_option linter.unusedVariables false
set_option linter.unusedSimpArgs false

def t0 (c : Cf) : T := ⟨c.rn.toNat, c.rx.toNat, c.ri.toNat, false, 0, 0⟩
theorem new_ok (c : Cf) (hc : c.Wf) (w : World) (h : chk c = 0) : Calls Try.prog 69 #[.agg (cv c)] w fun e w' => ∃ g, e = .returned (.tuple #[.pointer (some ⟨g, 0, none⟩), .int .i64 0]) ∧ w.heap.size ≤ g ∧ Tk w' g (t0 c) ∧ Below w.heap.size w w' := by
  have C := Lib.hid (check_any c hc (w.alloc (.cells (cv c) 78)))
  have e1 : IntKind.u64.wrap c.rn = ((c.rn.toNat : Nat) : Int) := u64e (by have := hc.rn; omega) (by have := hc.rn; omega)
  have e2 : IntKind.u64.wrap c.rx = ((c.rx.toNat : Nat) : Int) := u64e (by have := hc.rx; omega) (by have := hc.rx; omega)
  have e3 : IntKind.u64.wrap c.ri = ((c.ri.toNat : Nat) : Int) := u64e (by have := hc.ri; omega) (by have := hc.ri; omega)
  have HT : Hid (rc (t0 c) = #[.int .u64 ((c.rn.toNat : Nat) : Int), .int .u64 ((c.rx.toNat : Nat) : Int), .int .u64 ((c.ri.toNat : Nat) : Int), .bool false, .int .u64 0, .int .u64 0]) := Lib.hid rfl
  have HB := Lib.hid (Bk.new w (cv c) 78)
  have HBB := Lib.hid ((Below.refl w.heap.size w).alloc (Nat.le_refl _) (.cells (cv c) 78))
  rw [h] at C
  generalize t0 c = t at HT ⊢
  clear hc h
  generalize c.rn.toNat = rn at e1 HT
  generalize c.rx.toNat = rx at e2 HT
  generalize c.ri.toNat = ri at e3 HT
  go_enter Try.func69, Try.ntmps69
  unfold cv at C HB HBB
  unfold cv
  go_wp2_with fail
  refine C.out.mono ?_
  rintro e w1 ⟨rfl, hb⟩
  obtain ⟨c0, c1, c2, c3, c4, c5, c6, c7, c8, c9, c10, c11, c12⟩ := Bk.cfg (HB.out.next hb)
  have HB2 := Lib.hid (bnext HBB.out hb)
  clear hb C HB HBB
  go_wp2_with fail
  go_returns
  refine ⟨_, rfl, HB2.out.size, ?_, HB2.out.alloc HB2.out.size _⟩
  unfold Tk
  rw [HT.out]
  exact Bk.new _ _ _
theorem new_bad (c : Cf) (hc : c.Wf) (w : World) (z : Int) (h : chk c = z) (h0 : ¬ z = 0) : Calls Try.prog 69 #[.agg (cv c)] w fun e w' => e = .returned (.tuple #[.pointer none, .int .i64 z]) ∧ Below w.heap.size w w' := by
  have C := Lib.hid (check_any c hc (w.alloc (.cells (cv c) 78)))
  have HB := Lib.hid (Bk.new w (cv c) 78)
  have HBB := Lib.hid ((Below.refl w.heap.size w).alloc (Nat.le_refl _) (.cells (cv c) 78))
  rw [h] at C
  clear hc h
  go_enter Try.func69, Try.ntmps69
  unfold cv at C HB HBB
  unfold cv
  go_wp2_with fail
  refine C.out.mono ?_
  rintro e w1 ⟨rfl, hb⟩
  have HB2 := Lib.hid (bnext HBB.out hb)
  clear hb C HB HBB
  go_wp2_with fail
  go_returns
  exact ⟨rfl, HB2.out⟩
theorem good_any (w : World) : Calls Try.prog 29 #[] w fun e w' => e = .returned (.agg (cv ⟨256, 4, 4000, 4000, 1000, 300, 100, 6000, 8, 3, 20, 3000, 6000⟩)) ∧ Below w.heap.size w w' := by
  go_enter Try.func29, Try.ntmps29
  go_wp2_with fail
  go_returns
  exact ⟨rfl, (Below.refl _ _).alloc (Nat.le_refl _) _⟩
end Rt
end Go.Proofs.Ytednkcjmlpgipaa
