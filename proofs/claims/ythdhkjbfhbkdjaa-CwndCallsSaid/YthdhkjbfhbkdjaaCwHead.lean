/-
  Words of the window's laws: a window in memory, the call of the round beside it.
-/
import Derived.Test.YthdhkjbfhbkdjaaCwTell
import Derived.Test.YthdhkjbfhbkdjaaCwWorks
import Derived.BigQuiet
import Derived.Deep.CutRange
namespace Go.Proofs.Ythdhkjbfhbkdjaa
set_option maxRecDepth 4000
open Go.RowKit
namespace Cw
set_option linter.unusedVariables false
set_option linter.unusedSimpArgs false

/-- The law's window, and the call of the round in a block. -/
def Cx (w0 : World) (g : Nat) (t : T) (x : Nat) (k n : Int) (f : Bool) (w : World) : Prop := Tn w0 g t w ∧ x ≠ g ∧ Bk w x (xc k n f) 79
section
variable {w0 w w' : World} {g : Nat} {t t' : T} {x : Nat} {k n : Int} {f : Bool} {b : Nat}
theorem Cx.new (h : Tn w0 g t w) (k n : Int) (f : Bool) : Cx w0 g t w.heap.size k n f (w.alloc (.cells (xc k n f) 79)) :=
  ⟨h.next ((Below.refl _ _).alloc (Nat.le_refl _) _), fun e => by have := h.1.lt; omega, Bk.new _ _ _⟩
theorem Cx.next (h : Cx w0 g t x k n f w) (hb : Below w.heap.size w w') : Cx w0 g t x k n f w' := ⟨h.1.next hb, h.2.1, h.2.2.next hb⟩
theorem Cx.drewN (h : Cx w0 g t x k n f w) (q : Nat) : Cx w0 g t x k n f (w.drewN q) := ⟨h.1.drewN q, h.2.1, h.2.2.drewN q⟩
theorem Cx.cells (h : Cx w0 g t x k n f w) : w.cell? ⟨x, 0, none⟩ = some (.int .i64 k) ∧ w.cell? ⟨x, 1, none⟩ = some (.int .i64 n) ∧ w.cell? ⟨x, 2, none⟩ = some (.bool f) := ⟨h.2.2.cell 0, h.2.2.cell 1, h.2.2.cell 2⟩
def tz : T := ⟨0, 0, 0, 0⟩
theorem tz_ok (b : Nat) : tz.Ok b := ⟨Nat.zero_le _, Nat.zero_le _, Nat.zero_le _, Nat.zero_le _⟩
theorem Cx.tell (h : Cx w0 g t x k n f w) (ok : t.Ok b) (hb : b ≤ 4398046511104) (u : T) (oku : u.Ok b) : Calls Try.prog 31 #[.pointer (some ⟨g, 0, none⟩), .agg (dc u), .agg (xc k n f)] w fun e w' => e = .returned (.agg (dc (u.tell k n f))) ∧ Cx w0 g (t.tell k n f) x k n f w' :=
  (tell_any h.1.1 ok hb u oku k n f).mono fun e w' ⟨h1, h2, h3⟩ => ⟨h1, ⟨h2, h.1.2.1, below_own h.1.2.2 h3 h.1.2.1⟩, h.2.1, h.2.2.kept h3 (by have := h.2.1; simp; omega)⟩
end
theorem t0_ok {m : Nat} (h : m ≤ 1500) : (t0 m).Ok (bnd 0) := by
  refine ⟨h, ?_, ?_, Nat.zero_le _⟩
  · show 2 * m ≤ 1048576
    omega
  · show 65536 ≤ 1048576
    omega
theorem t0_in {m : Nat} (h : m ≤ 1500) : (t0 m).In m := by
  refine ⟨rfl, ?_, ?_⟩
  · show m ≤ 2 * m
    omega
  · show 4 * m ≤ 65536
    omega
theorem ok_step {t : T} {k : Nat} (h : t.Ok (bnd k)) (q n : Int) (f : Bool) : (t.tell q n f).Ok (bnd (k + 1)) := by
  rw [← bnd_step]
  exact tell_ok h q n f
/-- What a call does to the size. -/
theorem tell_goes {t : T} {b mtu : Nat} (h : t.In mtu) (ok : t.Ok b) (k n : Int) (f : Bool) : (t.tell k n f).In mtu ∧
    (k = 0 → t.sz ≤ (t.tell k n f).sz ∧ (t.tell k n f).sz ≤ t.sz + mtu ∧ (f = false → (t.tell k n f).sz = t.sz)) ∧
    (k = 1 → t.sz / 2 ≤ (t.tell k n f).sz ∧ (t.tell k n f).sz ≤ (t.tell k n f).th) ∧
    (k = 2 → (t.tell k n f).sz = mtu ∧ (t.tell k n f).sz ≤ (t.tell k n f).th) ∧
    (¬ k = 0 → ¬ k = 1 → ¬ k = 2 → (t.tell k n f).sz = t.sz) := by
  unfold T.tell
  by_cases h0 : k = 0
  · subst h0
    rw [if_pos rfl]
    obtain ⟨g1, g2, g3, g4⟩ := ack_goes h ok n f
    exact ⟨g1, fun _ => ⟨g2, g3, g4⟩, (fun e => absurd e (by decide)), (fun e => absurd e (by decide)), fun e => absurd rfl e⟩
  rw [if_neg h0]
  by_cases h1 : k = 1
  · subst h1
    rw [if_pos rfl]
    exact ⟨loss_in h, (fun e => absurd e (by decide)), fun _ => loss_goes, (fun e => absurd e (by decide)), fun _ e => absurd rfl e⟩
  rw [if_neg h1]
  by_cases h2 : k = 2
  · subst h2
    rw [if_pos rfl]
    exact ⟨tout_in h, (fun e => absurd e (by decide)), (fun e => absurd e (by decide)), fun _ => tout_goes h, fun _ _ e => absurd rfl e⟩
  rw [if_neg h2]
  exact ⟨h, fun e => absurd e h0, fun e => absurd e h1, fun e => absurd e h2, fun _ _ _ => rfl⟩
end Cw
end Go.Proofs.Ythdhkjbfhbkdjaa
