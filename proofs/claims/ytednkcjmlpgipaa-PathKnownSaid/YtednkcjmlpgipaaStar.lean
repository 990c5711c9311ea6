/-
  What a world holds in blocks apart, and what becomes of it behind a change of one part.
-/
import Derived.Test.YtednkcjmlpgipaaMem
namespace Go.Proofs.Ytednkcjmlpgipaa
open Go.RowKit
set_option linter.unusedVariables false

theorem Mv.trans {W w1 w2 : World} {F F1 F2 : Nat → Prop} (h : Mv W F w1 F1) (k : Mv w1 F1 w2 F2) : Mv W F w2 F2 :=
  ⟨h.1.trans k.1 h.2, fun b hb => by
    rcases k.2 b hb with h1 | h1
    · exact h.2 b h1
    · exact .inr (Nat.le_trans h.1.size h1)⟩
theorem Mv.refl (W : World) (F : Nat → Prop) : Mv W F W F := ⟨Kp.refl _ _, fun _ h => .inl h⟩
theorem grown_undrew {w W : World} {r : Option Nat} (h : w.drew.grownBy W r) : w.grownBy W r := ⟨h.os, h.tape, h.output, h.size, h.block⟩
/-- A row of the call's own lies in no block of another type. -/
theorem own_off {w : World} {B : Nat} {e : TypeId} {s : Nat} {v : Value} {n : Nat} {xs : List Value} (h : w.ownsRow B e s v n xs) {b : Nat} {cs : Array Value} {t : TypeId} (hb : Bk w b cs t) (hne : t ≠ e) : v.ownBlock ≠ some b := by
  rcases h.2 with ⟨rfl, _⟩ | ⟨g, cap, cur, rfl, _, hg, _⟩
  · intro e; cases e
  · intro e
    simp only [Value.ownBlock, Option.some.injEq] at e
    subst e
    rw [show w.heap[g]? = _ from hb] at hg
    simp at hg
    exact hne hg.2
/-- It is kept where its blocks are kept, and its blocks are there. -/
structure Fr (R : World → (Nat → Prop) → Prop) : Prop where
  frame : ∀ (w w' : World) (F G : Nat → Prop), R w G → Kp w w' F → (∀ b, G b → ¬ F b) → R w' G
  bound : ∀ (w : World) (F : Nat → Prop), R w F → ∀ k, F k → k < w.heap.size
def emp (_w : World) (F : Nat → Prop) : Prop := ∀ k, ¬ F k
theorem emp_fr : Fr emp := ⟨fun _ _ _ _ h _ _ => h, fun _ _ h k hk => absurd hk (h k)⟩
def star (R1 R2 : World → (Nat → Prop) → Prop) (w : World) (F : Nat → Prop) : Prop :=
  ∃ F1 F2, R1 w F1 ∧ R2 w F2 ∧ (∀ k, F1 k → ¬ F2 k) ∧ (∀ k, F1 k → F k) ∧ (∀ k, F2 k → F k) ∧ ∀ k, F k → k < w.heap.size
theorem star_fr {R1 R2 : World → (Nat → Prop) → Prop} (h1 : Fr R1) (h2 : Fr R2) : Fr (star R1 R2) :=
  ⟨fun w w' F G ⟨F1, F2, r1, r2, hd, i1, i2, hb⟩ hk hg => ⟨F1, F2, h1.frame w w' F F1 r1 hk (fun b hb => hg b (i1 b hb)), h2.frame w w' F F2 r2 hk (fun b hb => hg b (i2 b hb)), hd, i1, i2, fun k hk2 => Nat.lt_of_lt_of_le (hb k hk2) hk.size⟩,
    fun w F ⟨F1, F2, r1, r2, hd, i1, i2, hb⟩ => hb⟩
/-- In w, since W: R holds of blocks that are new since then; what was there is as it was. -/
def Now (W w : World) (R : World → (Nat → Prop) → Prop) : Prop := ∃ F, R w F ∧ (∀ k, F k → W.heap.size ≤ k) ∧ (∀ k, F k → k < w.heap.size) ∧ Below W.heap.size W w
theorem Now.below {W w : World} {R : World → (Nat → Prop) → Prop} (h : Now W w R) : Below W.heap.size W w := h.choose_spec.2.2.2
theorem Now.emp (W w : World) (h : Below W.heap.size W w) : Now W w emp := ⟨fun _ => False, fun _ h => h, fun _ h => h.elim, fun _ h => h.elim, h⟩
theorem Now.comm {W w : World} {R1 R2 : World → (Nat → Prop) → Prop} (h : Now W w (star R1 R2)) : Now W w (star R2 R1) := by
  obtain ⟨F, ⟨F1, F2, r1, r2, hd, i1, i2, hb⟩, h1, h2, h3⟩ := h
  exact ⟨F, ⟨F2, F1, r2, r1, fun k h2 h1 => hd k h1 h2, i2, i1, hb⟩, h1, h2, h3⟩
theorem Now.rot {W w : World} {R1 R2 R3 : World → (Nat → Prop) → Prop} (h : Now W w (star R1 (star R2 R3))) : Now W w (star R2 (star R3 R1)) := by
  obtain ⟨F, ⟨F1, F2, r1, ⟨F3, F4, r3, r4, hd2, j1, j2, hb2⟩, hd, i1, i2, hb⟩, h1, h2, h3⟩ := h
  refine ⟨F, ⟨F3, fun k => F4 k ∨ F1 k, r3, ⟨F4, F1, r4, r1, fun k h4 h1 => hd k h1 (j2 k h4), fun k h => .inl h, fun k h => .inr h, fun k hk => ?_⟩, fun k h3' hk => ?_, fun k h => i2 k (j1 k h), fun k hk => ?_, hb⟩, h1, h2, h3⟩
  · rcases hk with h | h
    · exact hb2 k (j2 k h)
    · exact hb k (i1 k h)
  · rcases hk with h | h
    · exact hd2 k h3' h
    · exact hd k h (j1 k h3')
  · rcases hk with h | h
    · exact i2 k (j2 k h)
    · exact i1 k h
theorem Now.right {W w : World} {R1 R2 : World → (Nat → Prop) → Prop} (h : Now W w (star R1 R2)) : Now W w R2 := by
  obtain ⟨F, ⟨F1, F2, r1, r2, hd, i1, i2, hb⟩, h1, h2, h3⟩ := h
  exact ⟨F2, r2, fun k hk => h1 k (i2 k hk), fun k hk => hb k (i2 k hk), h3⟩
theorem Now.left {W w : World} {R1 R2 : World → (Nat → Prop) → Prop} (h : Now W w (star R1 R2)) : Now W w R1 := h.comm.right
/-- Reads, and new blocks. -/
theorem Now.next {W w w' : World} {R : World → (Nat → Prop) → Prop} (h : Now W w R) (hR : Fr R) (hb : Below w.heap.size w w') : Now W w' R := by
  obtain ⟨F, r, h1, h2, h3⟩ := h
  exact ⟨F, hR.frame w w' (fun _ => False) F r (Kp.below hb) (fun _ _ e => e), h1, fun k hk => Nat.lt_of_lt_of_le (h2 k hk) hb.size, bnext h3 hb⟩
/-- One part is opened, and turned. -/
theorem Now.part {W w : World} {R1 R2 : World → (Nat → Prop) → Prop} (h : Now W w (star R1 R2)) (hR : Fr R2) :
    ∃ F1, R1 w F1 ∧ ∀ (w' : World) (F1' : Nat → Prop) (R1' : World → (Nat → Prop) → Prop), Mv w F1 w' F1' → R1' w' F1' → (∀ k, F1' k → k < w'.heap.size) → Now W w' (star R1' R2) := by
  obtain ⟨F, ⟨F1, F2, r1, r2, hd, i1, i2, hb⟩, h1, h2, h3⟩ := h
  refine ⟨F1, r1, fun w' F1' R1' hm r1' hb' => ⟨fun k => F1' k ∨ F2 k, ⟨F1', F2, r1', hR.frame w w' F1 F2 r2 hm.1 (fun b hb2 hb1 => hd b hb1 hb2), fun k hk hk2 => ?_, fun k h => .inl h, fun k h => .inr h, fun k hk => ?_⟩, fun k hk => ?_, fun k hk => ?_, ?_⟩⟩
  · rcases hm.2 k hk with h | h
    · exact hd k h hk2
    · have := hb k (i2 k hk2); omega
  · rcases hk with h | h
    · exact hb' k h
    · exact Nat.lt_of_lt_of_le (hb k (i2 k h)) hm.1.size
  · rcases hk with h | h
    · rcases hm.2 k h with h | h
      · exact h1 k (i1 k h)
      · exact Nat.le_trans h3.size h
    · exact h1 k (i2 k h)
  · rcases hk with h | h
    · exact hb' k h
    · exact Nat.lt_of_lt_of_le (hb k (i2 k h)) hm.1.size
  · exact Kp.to_below h3 hm.1 (fun k hk => h1 k (i1 k hk)) h3.size
/-- Something more, in new blocks. -/
theorem Now.more {W w w' : World} {R R1 : World → (Nat → Prop) → Prop} (h : Now W w R) (hR : Fr R) (hb : Below w.heap.size w w') {F1 : Nat → Prop} (r1 : R1 w' F1) (hn : ∀ k, F1 k → w.heap.size ≤ k) (hl : ∀ k, F1 k → k < w'.heap.size) : Now W w' (star R1 R) := by
  obtain ⟨F, r, h1, h2, h3⟩ := h
  refine ⟨fun k => F1 k ∨ F k, ⟨F1, F, r1, hR.frame w w' (fun _ => False) F r (Kp.below hb) (fun _ _ e => e), fun k hk hf => ?_, fun k h => .inl h, fun k h => .inr h, fun k hk => ?_⟩, fun k hk => ?_, fun k hk => ?_, bnext h3 hb⟩
  · have := hn k hk; have := h2 k hf; omega
  · rcases hk with h | h
    · exact hl k h
    · exact Nat.lt_of_lt_of_le (h2 k h) hb.size
  · rcases hk with h | h
    · exact Nat.le_trans h3.size (hn k h)
    · exact h1 k h
  · rcases hk with h | h
    · exact hl k h
    · exact Nat.lt_of_lt_of_le (h2 k h) hb.size

/-- A row that was taken out of a set. -/
def RA (A : Option Addr) (l : List Value) (R : World → (Nat → Prop) → Prop) (w : World) (F : Nat → Prop) : Prop := R w F ∧ Row w A l ∧ ∀ a, A = some a → F a.block
theorem RA_fr {A : Option Addr} {l : List Value} {R : World → (Nat → Prop) → Prop} (hR : Fr R) : Fr (RA A l R) :=
  ⟨fun w w' F G ⟨h, hr, ha⟩ hk hd => ⟨hR.frame w w' F G h hk hd, Row.frame hr hk (fun a e => hd _ (ha a e)), ha⟩, fun w F h => hR.bound w F h.1⟩
theorem Now.unrow {W w : World} {A : Option Addr} {l : List Value} {R R2 : World → (Nat → Prop) → Prop} (h : Now W w (star (RA A l R) R2)) : Now W w (star R R2) := by
  obtain ⟨F, ⟨F1, F2, r1, r2, hd, i1, i2, hb⟩, h1, h2, h3⟩ := h
  exact ⟨F, ⟨F1, F2, r1.1, r2, hd, i1, i2, hb⟩, h1, h2, h3⟩
theorem Now.row {W w : World} {A : Option Addr} {l : List Value} {R R2 : World → (Nat → Prop) → Prop} (h : Now W w (star (RA A l R) R2)) : Row w A l := by
  obtain ⟨F, ⟨F1, F2, r1, r2, hd, i1, i2, hb⟩, h1, h2, h3⟩ := h
  exact r1.2.1

theorem Now.sub {W w : World} {R1 R2 R3 : World → (Nat → Prop) → Prop} (h : Now W w (star R1 R2)) (hs : ∀ F, R2 w F → ∃ F', (∀ k, F' k → F k) ∧ R3 w F') : Now W w (star R1 R3) := by
  obtain ⟨F, ⟨F1, F2, r1, r2, hd, i1, i2, hb⟩, h1, h2, h3⟩ := h
  obtain ⟨F', hi, r3⟩ := hs F2 r2
  exact ⟨F, ⟨F1, F', r1, r3, fun k h1 h2 => hd k h1 (hi k h2), i1, fun k h => i2 k (hi k h), hb⟩, h1, h2, h3⟩
theorem Now.drop2 {W w : World} {R1 R2 R3 : World → (Nat → Prop) → Prop} (h : Now W w (star R1 (star R2 R3))) : Now W w (star R1 R2) :=
  h.sub fun F ⟨F1, F2, r1, r2, hd, i1, i2, hb⟩ => ⟨F1, i1, r1⟩
theorem Now.drop1 {W w : World} {R1 R2 R3 : World → (Nat → Prop) → Prop} (h : Now W w (star R1 (star R2 R3))) : Now W w (star R1 R3) :=
  h.sub fun F ⟨F1, F2, r1, r2, hd, i1, i2, hb⟩ => ⟨F2, i2, r2⟩
theorem Now.assoc {W w : World} {R1 R2 R3 : World → (Nat → Prop) → Prop} (h : Now W w (star (star R1 R2) R3)) : Now W w (star R1 (star R2 R3)) := by
  obtain ⟨F, ⟨F0, F3, ⟨F1, F2, r1, r2, hd, i1, i2, hb⟩, r3, hd2, j1, j2, hb2⟩, h1, h2, h3⟩ := h
  refine ⟨F, ⟨F1, fun k => F2 k ∨ F3 k, r1, ⟨F2, F3, r2, r3, fun k h h' => hd2 k (i2 k h) h', fun k h => .inl h, fun k h => .inr h, fun k hk => ?_⟩, fun k h h' => ?_, fun k h => j1 k (i1 k h), fun k hk => ?_, hb2⟩, h1, h2, h3⟩
  · rcases hk with h | h
    · exact hb k (i2 k h)
    · exact hb2 k (j2 k h)
  · rcases h' with h' | h'
    · exact hd k h h'
    · exact hd2 k (i1 k h) h'
  · rcases hk with h | h
    · exact j1 k (i2 k h)
    · exact j2 k h
end Go.Proofs.Ytednkcjmlpgipaa
