/-
  Words of the timer's laws: a configuration in memory, a timer beside it.
-/
import Derived.Test.YtfjeoioejdkdpaaRtMay
import Derived.Test.YtfjeoioejdkdpaaRtWorks
import Derived.Test.YtfjeoioejdkdpaaRtArg
import Derived.Test.YtfjeoioejdkdpaaRtRef
import Derived.BigQuiet
import Derived.Deep.CutRange
namespace Go.Proofs.Ytfjeoioejdkdpaa
set_option maxRecDepth 4000
open Go.RowKit
namespace Rt
set_option linter.unusedVariables false
set_option linter.unusedSimpArgs false

/-- The law's world: the configuration lies in its first block. -/
def Cn (w0 : World) (c : Cf) (w : World) : Prop := Bk w w0.heap.size (cv c) 78 ∧ Below w0.heap.size w0 w
theorem Cn.next {w0 w w' : World} {c : Cf} (h : Cn w0 c w) (hb : Below w.heap.size w w') : Cn w0 c w' := ⟨h.1.next hb, bnext h.2 hb⟩
/-- .. and a timer in a later one. -/
def Ct (w0 : World) (c : Cf) (g : Nat) (t : T) (w : World) : Prop := Tk w g t ∧ w0.heap.size < g ∧ Cn w0 c w
theorem Ct.next {w0 w w' : World} {c : Cf} {g : Nat} {t : T} (h : Ct w0 c g t w) (hb : Below w.heap.size w w') : Ct w0 c g t w' := ⟨h.1.next hb, h.2.1, h.2.2.next hb⟩
theorem Ct.drew {w0 w : World} {c : Cf} {g : Nat} {t : T} (h : Ct w0 c g t w) : Ct w0 c g t w.drew := h.next (Below.refl _ _).drew
theorem Ct.drewN {w0 w : World} {c : Cf} {g : Nat} {t : T} (h : Ct w0 c g t w) (q : Nat) : Ct w0 c g t (w.drewN q) := ⟨h.1.drewN q, h.2.1, h.2.2.1.drewN q, ⟨h.2.2.2.os, h.2.2.2.tape, h.2.2.2.output, h.2.2.2.size, h.2.2.2.block⟩⟩
theorem Ct.own {w0 w w' : World} {c : Cf} {g : Nat} {t t' : T} (h : Ct w0 c g t w) (hg : w.grownBy w' (some g)) (ht : Tk w' g t') : Ct w0 c g t' w' :=
  ⟨ht, h.2.1, h.2.2.1.kept hg (by have := h.2.1; simp; omega), h.2.2.2.grown hg h.2.2.2.size (fun k hk => by cases hk; have := h.2.1; omega)⟩
theorem Ct.samp {w0 w : World} {c : Cf} {g : Nat} {t : T} (h : Ct w0 c g t w) (ok : t.Ok) (r : Nat) : Calls Try.prog 34 #[.pointer (some ⟨g, 0, none⟩), .int .u64 (r : Int)] w fun e w' => e = .returned (.tuple #[]) ∧ Ct w0 c g (t.sample r) w' :=
  (sample_any h.1 ok r).mono fun e w' ⟨h1, h2, h3⟩ => ⟨h1, h.own h3 h2⟩
theorem Ct.bk {w0 w : World} {c : Cf} {g : Nat} {t : T} (h : Ct w0 c g t w) (ok : t.Ok) : Calls Try.prog 35 #[.pointer (some ⟨g, 0, none⟩)] w fun e w' => e = .returned (.tuple #[]) ∧ Ct w0 c g t.back w' :=
  (back_any h.1 ok).mono fun e w' ⟨h1, h2, h3⟩ => ⟨h1, h.own h3 h2⟩
/-- .. and the call of the round in one more. -/
def Cx (w0 : World) (c : Cf) (g : Nat) (t : T) (x : Nat) (q0 : Bool) (q1 : Nat) (w : World) : Prop := Ct w0 c g t w ∧ x ≠ g ∧ Bk w x #[.bool q0, .int .u64 (q1 : Int)] 91
section
variable {w0 w w' : World} {c : Cf} {g : Nat} {t t' : T} {x : Nat} {q0 : Bool} {q1 : Nat}
theorem Cx.new (h : Ct w0 c g t w) (q0 : Bool) (q1 : Nat) : Cx w0 c g t w.heap.size q0 q1 (w.alloc (.cells #[.bool q0, .int .u64 (q1 : Int)] 91)) :=
  ⟨h.next ((Below.refl _ _).alloc (Nat.le_refl _) _), fun e => by have := h.1.lt; omega, Bk.new _ _ _⟩
theorem Cx.samp (h : Cx w0 c g t x q0 q1 w) (ok : t.Ok) (r : Nat) : Calls Try.prog 34 #[.pointer (some ⟨g, 0, none⟩), .int .u64 (r : Int)] w fun e w' => e = .returned (.tuple #[]) ∧ Cx w0 c g (t.sample r) x q0 q1 w' :=
  (sample_any h.1.1 ok r).mono fun e w' ⟨h1, h2, h3⟩ => ⟨h1, h.1.own h3 h2, h.2.1, h.2.2.kept h3 (by have := h.2.1; simp; omega)⟩
theorem Cx.bk (h : Cx w0 c g t x q0 q1 w) (ok : t.Ok) : Calls Try.prog 35 #[.pointer (some ⟨g, 0, none⟩)] w fun e w' => e = .returned (.tuple #[]) ∧ Cx w0 c g t.back x q0 q1 w' :=
  (back_any h.1.1 ok).mono fun e w' ⟨h1, h2, h3⟩ => ⟨h1, h.1.own h3 h2, h.2.1, h.2.2.kept h3 (by have := h.2.1; simp; omega)⟩
end
theorem w64u {z : Int} (h : 0 ≤ z ∧ z < 4294967296) : IntKind.u64.wrap z = z := by
  rw [IntKind.wrap_u64]
  omega
theorem may_wf {c : Cf} (h : may c = true) : 1 ≤ c.rn ∧ c.rn ≤ c.ri ∧ c.ri ≤ c.rx ∧ c.rx ≤ 65536 := by
  simp only [may, conds, List.all_cons, List.all_nil, id, Bool.and_eq_true, decide_eq_true_eq, Bool.and_true] at h
  exact ⟨h.2.2.2.2.2.2.1, h.2.2.2.2.2.2.2.1, h.2.2.2.2.2.2.2.2.1, h.2.2.2.2.2.2.2.2.2.1⟩
theorem t0_ok {c : Cf} (h : may c = true) : (t0 c).Ok := by
  have := may_wf h
  unfold T.Ok t0
  simp only
  omega
end Rt
end Go.Proofs.Ytfjeoioejdkdpaa
