/-
  A range over a function whose iterator hands out what lies in memory: the iterator's contract tells the body what it is handed; one law for the statement.
-/
import Derived.Test.YthgbngnhlgaioaaByt
import Derived.Test.YthgbngnhlgaioaaMem
import Derived.RangeFuncNested
import Derived.RangeFuncBound
import Derived.RangeFuncLeaves
import Derived.RangeFuncCalls
import Derived.Shelf.Abstract
import Derived.Shelf.RegionOpen
import Derived.OwnWalkIn
import Derived.TacticsInMore
import Derived.LoopNIn
import Derived.LoopIn
namespace Go.Proofs.Ythgbngnhlgaioaa
open Go.RowKit Go.Shelf

/-- What an iterator's step and a loop's book-keeping leave alone: cells, and all that lay below B. -/
def Calm (B : Nat) (W W' : World) : Prop := Below B W W' ∧ ∀ (k : Nat) (o : Obj), W.heap[k]? = some o → o.isCells = true → W'.heap[k]? = some o
theorem Calm.of_below {B : Nat} {W W' : World} (h : Below W.heap.size W W') (hB : B ≤ W.heap.size) : Calm B W W' :=
  ⟨h.mono hB, fun k _ hk _ => (h.block k (Array.getElem?_eq_some_iff.1 hk).1).trans hk⟩
theorem Calm.of_put {B : Nat} {W : World} {l : Nat} {o : Obj} (o' : Obj) (hl : W.heap[l]? = some o) (ho : o.isCells = false) (hB : B ≤ l) : Calm B W (W.putObj l o') := by
  have hlt := (Array.getElem?_eq_some_iff.1 hl).1
  refine ⟨(Below.refl B W).grown (grownBy_putObj' W l o') (by omega) (fun k e => by cases e; exact hB), fun k q hk hq => ?_⟩
  by_cases e : k = l
  · subst e
    rw [hl] at hk
    injection hk with hk
    rw [hk, hq] at ho
    cases ho
  · exact (World.putObj_heap_other e).trans hk
/-- The blocks from lo on below hi are as they were. -/
def Kept (lo hi : Nat) (W W' : World) : Prop := W.heap.size ≤ W'.heap.size ∧ ∀ k, lo ≤ k → k < hi → W'.heap[k]? = W.heap[k]?
theorem Kept.refl (lo hi : Nat) (W : World) : Kept lo hi W W := ⟨Nat.le_refl _, fun _ _ _ => rfl⟩
theorem Kept.trans {lo hi : Nat} {A B C : World} (h : Kept lo hi A B) (k : Kept lo hi B C) : Kept lo hi A C := ⟨Nat.le_trans h.1 k.1, fun i h1 h2 => (k.2 i h1 h2).trans (h.2 i h1 h2)⟩
theorem Kept.of_below {lo hi : Nat} {W W' : World} (h : Below W.heap.size W W') (hh : hi ≤ W.heap.size) : Kept lo hi W W' := ⟨h.size, fun k _ h2 => h.block k (by omega)⟩
theorem Kept.of_put {lo hi l : Nat} {W : World} (o : Obj) (h : hi ≤ l) : Kept lo hi W (W.putObj l o) := ⟨by simp, fun k _ h2 => World.putObj_heap_other (by omega)⟩
theorem Kept.of_set {lo hi : Nat} {W : World} {a : Addr} (v : Value) (h : a.block < lo ∨ hi ≤ a.block) : Kept lo hi W (W.setCell a v) := ⟨by simp [World.setCell], fun k _ _ => Below.heap_setCell W a v k (by omega)⟩
theorem Kept.of_grown {lo hi : Nat} {W W' : World} {row : Option Nat} (hg : W.grownBy W' row) (hh : hi ≤ W.heap.size) (h : ∀ k, row = some k → k < lo ∨ hi ≤ k) : Kept lo hi W W' :=
  ⟨hg.size, fun k h1 h2 => hg.block k (by omega) (fun e => by have := h k e.symm; omega)⟩

/-- The contract of an iterator: what it hands out (V) is told to the body; the body keeps the blocks from lo on below hi. -/
def SeqT {α : Type} (P : Program) (gf : Nat) (lb : Array Value) (encs : α → Array Value) (V : List α → α → World → Prop) (lo hi : Nat) (S Sp : List α → Prop) (w : World) : Prop :=
  ∀ (l : Nat) (J Jx : List α → World → Prop) (W : World), Below w.heap.size w W → (∀ pre A B, J pre A → Below A.heap.size A B → J pre B) → (∀ pre A B, Jx pre A → Below A.heap.size A B → Jx pre B) →
    (∀ pre x W1, J pre W1 → V pre x W1 → YieldAt Fence.wide 7 P l (encs x) W1 fun e W' => (e = .returned (.bool true) ∧ J (pre ++ [x]) W' ∧ Kept lo hi W1 W') ∨ (e = .returned (.bool false) ∧ Jx (pre ++ [x]) W')) →
    J [] W → CallsIn Fence.wide 8 P gf (#[.func (.yield l) #[] #[]] ++ lb) W fun e W' => (∃ v, e = .returned v) ∧ ((∃ xs, S xs ∧ J xs W') ∨ (∃ pre, Sp pre ∧ Jx pre W'))

/-- How a round's body may be left. -/
def Left {α : Type} (B lo hi : Nat) (I : List α → World → Prop) (Ix : Code → List α → World → Prop) (xs : List α) (W : World) : Exit → Act → World → Prop
  | .normal, _, W' => KeepsFrom B W W' ∧ Kept lo hi W W' ∧ I xs W'
  | .ret, _, W' => KeepsFrom B W W' ∧ Ix .ret xs W'
  | .exit id, _, W' => KeepsFrom B W W' ∧ Ix (.exit id) xs W'
  | .goto t, _, W' => KeepsFrom B W W' ∧ Ix (.goto t) xs W'
  | .panic _, _, _ => False
  | .outgrown, _, _ => False

section
variable {P : Program}
theorem range_wpIn {α : Type} {g : Operand} {ps : Array Tmp} {assign body : Code} {Q : Exit → Act → World → Prop} {a : Act} {w : World} {gf : Nat} {lb : Array Value}
    (hg : a.eval g = .func (.func gf) #[] lb) (eg : ∀ args w, (callFunc gf args).run P w = .ok (.enter gf args) w)
    {encs : α → Array Value} {V : List α → α → World → Prop} {lo hi : Nat} {S Sp : List α → Prop} (hseq : SeqT P gf lb encs V lo hi S Sp w) (hhi : hi ≤ w.heap.size) (hps : ∀ x, (encs x).size = ps.size)
    (I : List α → World → Prop) (Ix : Code → List α → World → Prop) (hI : ∀ pre A B, I pre A → Calm w.heap.size A B → I pre B) (hIx : ∀ c pre A B, Ix c pre A → Calm w.heap.size A B → Ix c pre B) (h0 : I [] w)
    (Ax : List α → α → Act → World → Prop) (hAx : ∀ pre x a₁ A B, Ax pre x a₁ A → Calm w.heap.size A B → Ax pre x a₁ B)
    (hassign : ∀ (l : Nat) (pre : List α) (x : α) (W : World) (K : Act → World → Prop), I pre W → V pre x W → (∀ a₁ W₁, Below W.heap.size W W₁ → Ax pre x a₁ W₁ → K a₁ W₁) →
      assign.wpIn (Fence.wide.inRound l) 7 P (Exit.then K (fun _ _ _ => False)) { tmps := (ps.zip (encs x)).foldl (fun t (p, v) => t.setIfInBounds p v) a.tmps, defers := [] } W)
    (hbody : ∀ (l : Nat) (pre : List α) (x : α) (a₁ : Act) (W : World), w.heap.size ≤ W.heap.size → Ax pre x a₁ W → body.wpIn (Fence.wide.inRound l) 7 P (Left w.heap.size lo hi I Ix (pre ++ [x]) W) a₁ W)
    (hdone : ∀ (D : Nat) (xs : List α) (W : World), w.heap.size ≤ D → S xs → I xs W → W.heap[D]? = some (.deferred (some [])) → Q .normal { a with defers := { target := .collected D, args := #[] } :: a.defers } W)
    (hstop : ∀ (D : Nat) (c : Code) (pre : List α) (W : World), w.heap.size ≤ D → Sp pre → Ix c pre W → W.heap[D]? = some (.deferred (some [])) → c.wpIn Fence.wide 9 P Q { a with defers := { target := .collected D, args := #[] } :: a.defers } W) :
    (Code.rangeFunc g ps assign body).wpIn Fence.wide 9 P Q a w := by
  refine wpIn_rangeFunc fun fn _ => ?_
  obtain ⟨D, hD⟩ : ∃ D, w.heap.size = D := ⟨_, rfl⟩
  let mk : LoopState → Option Code → Obj := fun st pe => .loop { state := st, pending := pe, fn, tmps := a.tmps, params := ps, assign, body, defers := D }
  let W1 : World := (w.alloc (.deferred (some []))).alloc (mk .ready none)
  have hbw : Below D w W1 := hD ▸ (((Below.refl _ w).alloc (Nat.le_refl _) _).alloc (by simp) _)
  have hD1 : W1.heap[D]? = some (.deferred (some [])) := by
    rw [← hD]
    exact (Below.heap_alloc _ _ _ (by simp)).trans (World.alloc_heap_new w _)
  have hL1 : W1.heap[D + 1]? = some (mk .ready none) := by
    have h := World.alloc_heap_new (w.alloc (.deferred (some []))) (mk .ready none)
    rw [World.size_alloc, hD] at h
    exact h
  -- book-keeping: what turns is no cells, and new
  have nc : ∀ st pe, (mk st pe).isCells = false := fun _ _ => rfl
  have other : ∀ (W : World) (o : Obj), W.heap[D]? = some (.deferred (some [])) → (W.putObj (D + 1) o).heap[D]? = some (.deferred (some [])) := fun W o h => (World.putObj_heap_other (by omega)).trans h
  refine ⟨D + 1, [{ target := .collected D, args := #[] }], W1, { target := .fn (.func gf) lb, args := #[.func (.yield (D + 1)) #[] #[]] }, W1, gf, #[.func (.yield (D + 1)) #[] #[]] ++ lb, W1, ?_, ?_, fun _ _ => trivial, ?_, fun h => by omega, ?_⟩
  · have h := run_enterLoop_outer (P := P) (w := w) fn a.tmps ps assign body
    rw [hD] at h
    exact h
  · simp only [resolve, hg]
    simp [go_sem]
  · simp [invoke, go_sem, eg]
  have step : ∀ pre A B, I pre A → A.heap[D + 1]? = some (mk .ready none) → Below A.heap.size A B → I pre B := fun pre A B h hl hb =>
    hI pre A B h (hD ▸ Calm.of_below hb (by have := (Array.getElem?_eq_some_iff.1 hl).1; omega))
  refine (hseq (D + 1) (fun pre W => I pre W ∧ W.heap[D + 1]? = some (mk .ready none) ∧ W.heap[D]? = some (.deferred (some [])))
    (fun pre W => ∃ c, Ix c pre W ∧ W.heap[D + 1]? = some (mk .done (some c)) ∧ W.heap[D]? = some (.deferred (some []))) W1 (hD ▸ hbw)
    (fun pre A B ⟨h1, h2, h3⟩ hb => ⟨step pre A B h1 h2 hb, (hb.block _ (Array.getElem?_eq_some_iff.1 h2).1).trans h2, (hb.block _ (Array.getElem?_eq_some_iff.1 h3).1).trans h3⟩)
    (fun pre A B ⟨c, h1, h2, h3⟩ hb => ⟨c, hIx c pre A B h1 (hD ▸ Calm.of_below hb (by have := (Array.getElem?_eq_some_iff.1 h2).1; omega)), (hb.block _ (Array.getElem?_eq_some_iff.1 h2).1).trans h2, (hb.block _ (Array.getElem?_eq_some_iff.1 h3).1).trans h3⟩)
    ?round ⟨hI [] w W1 h0 (Calm.of_below (hD ▸ hbw) (Nat.le_refl _)), hL1, hD1⟩).mono ?behind
  case round =>
    rintro pre x W ⟨hin, hl, hd⟩ hv
    refine ⟨fn, _, assign, body, run_yield (P := P) (args := encs x) hl (hps x), roundIn_of_wpIn trivial (hassign _ pre x W _ hin hv ?_)⟩
    intro a₁ Wa hba hax
    have hla : Wa.heap[D + 1]? = some (mk .ready none) := (hba.block _ (Array.getElem?_eq_some_iff.1 hl).1).trans hl
    have hda : Wa.heap[D]? = some (.deferred (some [])) := (hba.block _ (Array.getElem?_eq_some_iff.1 hd).1).trans hd
    have hlt := (Array.getElem?_eq_some_iff.1 hla).1
    refine ⟨_, run_beginRound hla rfl, ?_⟩
    have hlb : (Wa.putObj (D + 1) (mk .busy none)).heap[D + 1]? = some (mk .busy none) := World.putObj_heap_same hlt
    refine wpIn_mono (hbody (D + 1) pre x a₁ (Wa.putObj (D + 1) (mk .busy none)) (by simp; omega) (hAx _ _ _ _ _ hax (Calm.of_put _ hla (nc _ _) (by omega)))) ?_
    have fin : ∀ (j : Option Code) (W3 : World), KeepsFrom w.heap.size (Wa.putObj (D + 1) (mk .busy none)) W3 →
        (Instr.endRound (D + 1) j).run P W3 = .ok (.bool j.isNone) (W3.putObj (D + 1) (mk (if j.isNone then .ready else .done) j)) ∧ W3.heap[D + 1]? = some (mk .busy none) ∧
        (W3.putObj (D + 1) (mk (if j.isNone then .ready else .done) j)).heap[D + 1]? = some (mk (if j.isNone then .ready else .done) j) ∧ (W3.putObj (D + 1) (mk (if j.isNone then .ready else .done) j)).heap[D]? = some (.deferred (some [])) := fun j W3 hk => by
      have h3 := hk.same _ _ (by omega) hlb (nc _ _)
      exact ⟨run_endRound (P := P) j h3, h3, World.putObj_heap_same (Array.getElem?_eq_some_iff.1 h3).1, other W3 _ (hk.same _ _ (by omega) (other Wa _ hda) rfl)⟩
    rintro e a3 W3 hp
    cases e with
    | normal =>
      obtain ⟨hk, hkp, hi3⟩ := hp
      obtain ⟨r1, r2, r3, r4⟩ := fin none W3 hk
      refine ⟨_, _, r1, .inl ⟨rfl, ⟨hI _ _ _ hi3 (Calm.of_put _ r2 (nc _ _) (by omega)), r3, r4⟩, ?_⟩⟩
      have e1 : Kept lo hi W Wa := Kept.of_below hba (by have := (Array.getElem?_eq_some_iff.1 hl).1; omega)
      exact ((e1.trans (Kept.of_put _ (by omega))).trans hkp).trans (Kept.of_put _ (by omega))
    | ret =>
      obtain ⟨hk, hi3⟩ := hp
      obtain ⟨r1, r2, r3, r4⟩ := fin (some .ret) W3 hk
      exact ⟨_, _, r1, .inr ⟨rfl, .ret, hIx _ _ _ _ hi3 (Calm.of_put _ r2 (nc _ _) (by omega)), r3, r4⟩⟩
    | exit id =>
      obtain ⟨hk, hi3⟩ := hp
      obtain ⟨r1, r2, r3, r4⟩ := fin (some (.exit id)) W3 hk
      exact ⟨_, _, r1, .inr ⟨rfl, .exit id, hIx _ _ _ _ hi3 (Calm.of_put _ r2 (nc _ _) (by omega)), r3, r4⟩⟩
    | goto t =>
      obtain ⟨hk, hi3⟩ := hp
      obtain ⟨r1, r2, r3, r4⟩ := fin (some (.goto t)) W3 hk
      exact ⟨_, _, r1, .inr ⟨rfl, .goto t, hIx _ _ _ _ hi3 (Calm.of_put _ r2 (nc _ _) (by omega)), r3, r4⟩⟩
    | panic ch => exact hp.elim
    | outgrown => exact hp.elim
  case behind =>
    rintro e W2 ⟨⟨v, rfl⟩, (⟨xs, hS, hi, hl, hk⟩ | ⟨pre, hSp, c, hi, hl, hk⟩)⟩
    · exact ⟨none, _, run_endLoop (P := P) hl (by simp), hdone D xs _ (by omega) hS (hI _ _ _ hi (Calm.of_put _ hl (nc _ _) (by omega))) (other _ _ hk)⟩
    · exact ⟨some c, _, run_endLoop (P := P) hl (by simp), hstop D c pre _ (by omega) hSp (hIx _ _ _ _ hi (Calm.of_put _ hl (nc _ _) (by omega))) (other _ _ hk)⟩
/-- A function's contract out of its body, marks and all; and the statement within a plain walk. -/
theorem calls_marks {f : FuncId} {fn : Func} {c : Code} {args : Array Value} {w : World} {R : Ending → World → Prop} (hf : P.funcs[f]? = some fn) (hb : fn.body = some c)
    (h : c.wp P (bodyPostM Fence.wide 9 P fn R) { tmps := args ++ Array.replicate (fn.ntmps - args.size) undef, defers := [] } w) : Calls P f args w R :=
  callsIn_wide.1 (callsIn_of_wp_marks hf hb trivial (wpIn_wide.2 h))
end
end Go.Proofs.Ythgbngnhlgaioaa
