/-
  Words on memory for sets of TSNs: rows of numbers of the call's own, what is kept but for some blocks, the program's set and the document's.
-/
import Derived.Test.YtkjepopmlpfnpaaWords
import Derived.Test.YtkjepopmlpfnpaaChecked
import Derived.Test.YtkjepopmlpfnpaaGpPlain
import Derived.Maps.OwnSet
import Derived.Maps.RangeWalk
import Derived.Maps.Ext
import Derived.Deep.AppendLies
import Derived.Deep.RegionHeld
import Derived.Deep.Draws
import Derived.Deep.RegionLaw
import Derived.Handy
import Derived.BigQuiet
import Derived.BigRegion
import Derived.Deep.QuietTactic
import Derived.Outline
import Derived.Lib.Hide
namespace Go.Proofs.Ytkjepopmlpfnpaa
open Go.RowKit
set_option linter.unusedVariables false

/-- Block b holds just these cells. -/
def Bk (W : World) (b : Nat) (cs : Array Value) (t : TypeId) : Prop := W.heap[b]? = some (.cells cs t (0, 0))
theorem Bk.lt {W : World} {b : Nat} {cs : Array Value} {t : TypeId} (h : Bk W b cs t) : b < W.heap.size := (Array.getElem?_eq_some_iff.1 h).1
theorem Bk.new (W : World) (cs : Array Value) (t : TypeId) : Bk (W.alloc (.cells cs t)) W.heap.size cs t := heap_alloc_new _ _
theorem Bk.cell {W : World} {b : Nat} {cs : Array Value} {t : TypeId} (h : Bk W b cs t) (i : Nat) : W.cell? ⟨b, i, none⟩ = cs[i]? := by simp [World.cell?, show W.heap[b]? = _ from h]
theorem Bk.frozen {W : World} {b : Nat} {cs : Array Value} {t : TypeId} (h : Bk W b cs t) (i : Nat) : W.frozen? ⟨b, i, none⟩ = false := by simp [World.frozen?, show W.heap[b]? = _ from h]
theorem Bk.set {W : World} {b : Nat} {cs : Array Value} {t : TypeId} (h : Bk W b cs t) (i : Nat) (v : Value) : Bk (W.setCell ⟨b, i, none⟩ v) b (cs.setIfInBounds i v) t := by
  have h' : W.heap[b]? = some (.cells cs t (0, 0)) := h
  simp [Bk, World.setCell, Array.getElem?_modify, h']
theorem Bk.kept {W W' : World} {b : Nat} {cs : Array Value} {t : TypeId} {row : Option Nat} (h : Bk W b cs t) (hg : W.grownBy W' row) (hne : some b ≠ row) : Bk W' b cs t := (hg.block b h.lt hne).trans h
theorem setc_grown (W : World) (b o : Nat) (v : Value) : W.grownBy (W.setCell ⟨b, o, none⟩ v) (some b) :=
  ⟨rfl, rfl, rfl, by simp [World.setCell], fun k _ hk => by
    have hne : b ≠ k := fun e => hk (by rw [e])
    simp [World.setCell, Array.getElem?_modify, hne]⟩
/-- Numbers as values. -/
def ns (k : IntKind) (l : List Nat) : List Value := l.map fun (x : Nat) => Value.int k (x : Int)
theorem ns_len (k : IntKind) (l : List Nat) : (ns k l).length = l.length := by simp [ns]
theorem ns_app (k : IntKind) (l m : List Nat) : ns k l ++ ns k m = ns k (l ++ m) := by simp [ns]
theorem ns_get {k : IntKind} {l : List Nat} {i : Nat} (h : i < l.length) : (ns k l)[i]? = some (.int k ((l.getD i 0 : Nat) : Int)) := by
  simp [ns, List.getElem?_map, List.getElem?_eq_getElem h, List.getD]
theorem ns_one (k : IntKind) (l : List Nat) : ∀ u ∈ ns k l, u.oneCell' = true := fun u hu => by
  obtain ⟨x, _, rfl⟩ := List.mem_map.1 hu
  rfl
/-- A row of numbers of the call's own. -/
def Ir (k : IntKind) (E : TypeId) (W : World) (v : Value) (l : List Nat) : Prop := W.ownsRow 0 E 1 v l.length (ns k l)
theorem Ir.nil (k : IntKind) (E : TypeId) (W : World) : Ir k E W (.slice none 0 0) [] := World.ownsRow_nil _ _ _ _
theorem Ir.form {k : IntKind} {E : TypeId} {W : World} {v : Value} {l : List Nat} (h : Ir k E W v l) : ∃ A c, v = .slice A l.length c ∧ l.length ≤ c ∧ c ≤ maxLen ∧ (∀ a, A = some a → v.ownBlock = some a.block) := by
  rcases h.2 with ⟨rfl, h0⟩ | ⟨g, cap, cur, rfl, _, _, h1, h2, _⟩
  · exact ⟨none, 0, by rw [h0], by omega, by unfold maxLen; omega, fun a ha => by cases ha⟩
  · exact ⟨_, _, rfl, h1, h2, fun a ha => by cases ha; rfl⟩
theorem Ir.row {k : IntKind} {E : TypeId} {W : World} {A : Option Addr} {n c : Nat} {l : List Nat} (h : Ir k E W (.slice A n c) l) : Row W A (ns k l) := fun i v hv => by
  rcases id h.2 with ⟨_, h0⟩ | ⟨g, cap, cur, hv2, _⟩
  · have := h.1
    have h1 := (List.getElem?_eq_some_iff.1 hv).1
    omega
  · simp only [Value.slice.injEq] at hv2
    obtain ⟨rfl, _, _⟩ := hv2
    exact ⟨_, rfl, h.cells (g := g) rfl i v hv⟩
theorem Ir.kept {k : IntKind} {E : TypeId} {W W' : World} {v : Value} {l : List Nat} {row : Option Nat} (h : Ir k E W v l) (hg : W.grownBy W' row) (hne : v.ownBlock = none ∨ v.ownBlock ≠ row) : Ir k E W' v l := World.ownsRow.kept h hg hne
/-- A row lies in no block of another type. -/
theorem Ir.off {k : IntKind} {E : TypeId} {W : World} {v : Value} {l : List Nat} (h : Ir k E W v l) {b : Nat} {cs : Array Value} {t : TypeId} (hb : Bk W b cs t) (hne : t ≠ E) : v.ownBlock ≠ some b := by
  rcases h.2 with ⟨rfl, _⟩ | ⟨g, cap, cur, rfl, _, hg, _⟩
  · intro e; cases e
  · intro e
    simp only [Value.ownBlock, Option.some.injEq] at e
    subst e
    rw [show W.heap[g]? = _ from hb] at hg
    simp at hg
    exact hne hg.2
theorem Ir.offm {k : IntKind} {E : TypeId} {W : World} {v : Value} {l : List Nat} (h : Ir k E W v l) {b : Nat} {es : Array MapEntry} {clock : Nat} (hb : W.heap[b]? = some (.map es clock)) : v.ownBlock ≠ some b := by
  rcases h.2 with ⟨rfl, _⟩ | ⟨g, cap, cur, rfl, _, hg, _⟩
  · intro e; cases e
  · intro e
    simp only [Value.ownBlock, Option.some.injEq] at e
    subst e
    rw [hb] at hg
    cases hg
theorem Ir.lt {k : IntKind} {E : TypeId} {W : World} {v : Value} {l : List Nat} (h : Ir k E W v l) {g : Nat} (hg : v.ownBlock = some g) : g < W.heap.size := (World.ownsRow.lt h g hg).2
theorem addr0 (g j : Nat) : (⟨g, 0, none⟩ : Addr).add j = ⟨g, j, none⟩ := by unfold Addr.add; split <;> simp_all
/-- An append of one number. -/
theorem ir_app {w : World} {ops : Array Oper} {rest : List Oper} {o : Oper} {a : Act} {Q : Exit → Act → World → Prop} {k : IntKind} {E S : TypeId} {bytes : Nat}
    (hu : Try.prog.underlying S = some (.slice E)) (hinf : (Try.prog.info? E).map (fun i => (i.zero, i.size, i.bytes)) = some (some (.int k 0), 1, bytes)) (hby : bytes ≤ 8) (hgd : o.guard = none) (s x : Operand)
    (ho : o.op = .call { callee := .builtin .append, args := #[s, x], argTypes := #[S, S] }) (v : Value) (l : List Nat) (hs : a.eval s = v) (hown : Ir k E w v l) (y : Nat)
    (B cap : Nat) (t : TypeId) (hx : a.eval x = .slice (some ⟨B, 0, none⟩) 1 cap) (hB : Bk w B #[.int k (y : Int)] t) (hlen : l.length ≤ 100000)
    (h : ∀ g c w', Ir k E w' (.slice (some ⟨g, 0, none⟩) (l.length + 1) c) (l ++ [y]) → w.grownBy w' v.ownBlock → (v.ownBlock = some g ∨ g = w.heap.size) → wpList Try.prog ops Q rest (a.put o.dst (.slice (some ⟨g, 0, none⟩) (l.length + 1) c)) w') :
    wpList Try.prog ops Q (o :: rest) a w := by
  obtain ⟨i0, hi0, hz0, hz1, hz2⟩ := info_parts hinf
  refine wpList_append_lies w hgd s x S ho 0 E i0 (.int k 0) 1 bytes hu hi0 hz0 hz1 hz2 rfl (by omega) v l.length (ns k l) hs hown ⟨B, 0, none⟩ 1 cap (ns k [y]) hx rfl ?_ (ns_one _ _) (by omega) (by unfold maxLen; omega) ?_ (Nat.zero_le _) _ rfl ?_
  · intro j u hj
    have := World.news_of_block (w := w) hB j u
    simpa [ns] using this (by simpa [ns] using hj)
  · have : (l.length + 1) * bytes ≤ (l.length + 1) * 8 := Nat.mul_le_mul_left _ hby
    omega
  · intro g c w' ho2 hg2 hat hlt
    refine h g c w' ?_ hg2 hat
    show w'.ownsRow 0 E 1 _ (l ++ [y]).length (ns k (l ++ [y]))
    rw [← ns_app, List.length_append]
    exact ho2
/-- W' is W but for the blocks of F, and longer. -/
structure Kp (W W' : World) (F : Nat → Prop) : Prop where
  os : W'.os = W.os
  tape : W'.tape = W.tape
  output : W'.output = W.output
  size : W.heap.size ≤ W'.heap.size
  block : ∀ k, k < W.heap.size → ¬ F k → W'.heap[k]? = W.heap[k]?
theorem Kp.refl (W : World) (F : Nat → Prop) : Kp W W F := ⟨rfl, rfl, rfl, Nat.le_refl _, fun _ _ _ => rfl⟩
theorem Kp.grown {W W' : World} {F : Nat → Prop} {row : Option Nat} (h : W.grownBy W' row) (hr : ∀ g, row = some g → F g) : Kp W W' F :=
  ⟨h.os, h.tape, h.output, h.size, fun k hk hF => h.block k hk (fun e => hF (hr k e.symm))⟩
theorem Kp.below {W W' : World} {F : Nat → Prop} (h : Below W.heap.size W W') : Kp W W' F := ⟨h.os, h.tape, h.output, h.size, fun k hk _ => h.block k hk⟩
theorem Kp.trans {W W' W'' : World} {F F' : Nat → Prop} (h : Kp W W' F) (k : Kp W' W'' F') (hF : ∀ b, F' b → F b ∨ W.heap.size ≤ b) : Kp W W'' F :=
  ⟨k.os.trans h.os, k.tape.trans h.tape, k.output.trans h.output, Nat.le_trans h.size k.size, fun b hb hn => (k.block b (Nat.lt_of_lt_of_le hb h.size) (fun e => (hF b e).elim hn (by omega))).trans (h.block b hb hn)⟩
theorem Kp.mono {W W' : World} {F F' : Nat → Prop} (h : Kp W W' F) (hF : ∀ b, F b → F' b) : Kp W W' F' := ⟨h.os, h.tape, h.output, h.size, fun b hb hn => h.block b hb (fun e => hn (hF b e))⟩
theorem Kp.to_below {B : Nat} {w W W' : World} {F : Nat → Prop} (h : Below B w W) (k : Kp W W' F) (hF : ∀ b, F b → B ≤ b) (hB : B ≤ W.heap.size) : Below B w W' :=
  h.trans ⟨k.os, k.tape, k.output, k.size, fun b hb => k.block b (Nat.lt_of_lt_of_le hb hB) (fun e => by have := hF b e; omega)⟩
/-- The map holds just the TSNs whose ways are told. -/
def MapOk (D : DataW Unit) (c : Nat) (ws : List Nat) : Prop := (∀ t : Nat, t < 4294967296 → Maps.has D (.int .u32 (t : Int)) = decide (wy c t ∈ ws)) ∧ Maps.size D = ws.length
def psetT : TypeId := 54
def u32T : TypeId := 22
/-- The program's set, in block s; all its blocks are among F. -/
def PS0 (W : World) (F : Nat → Prop) (s : Nat) (st : St) : Prop :=
  ∃ m v D, Bk W s #[.int .u32 (st.cum : Int), .map (some m), v] 54 ∧ W.ownsMap Try.prog 22 (unitElem (H := Unit)) m st.ws.length D ∧ MapOk D st.cum st.ws ∧ Ir .u32 22 W v st.ds ∧
    F s ∧ F m ∧ (∀ g, v.ownBlock = some g → F g) ∧ (∀ k, F k → k < W.heap.size)
def PSet (W : World) (F : Nat → Prop) (s : Nat) (st : St) : Prop := PS0 W F s st ∧ st.Ok
theorem owns_tight {H : Type} {P : Program} {k : TypeId} {R : Value → Option (DataW H × List MemPlace)} {w : World} {b n : Nat} {D : DataW H} (h : w.ownsMap P k R b n D) : w.ownsMap P k R b (Maps.size D) D := by
  obtain ⟨es, clock, hb, F, hs, rfl⟩ := h
  exact ⟨es, clock, hb, F, by simp [Maps.size, length_sorted], rfl⟩
theorem owns_block {H : Type} {P : Program} {k : TypeId} {R : Value → Option (DataW H × List MemPlace)} {w : World} {b n : Nat} {D : DataW H} (h : w.ownsMap P k R b n D) : ∃ es clock, w.heap[b]? = some (.map es clock) := by
  obtain ⟨es, clock, hb, _⟩ := h
  exact ⟨es, clock, hb⟩
theorem PS0.frame {W W' : World} {F G : Nat → Prop} {s : Nat} {st : St} (h : PS0 W G s st) (hk : Kp W W' F) (hd : ∀ b, G b → ¬ F b) : PS0 W' G s st := by
  obtain ⟨m, v, D, hb, hm, hM, hv, f1, f2, f3, f4⟩ := h
  have hg : ∀ b, G b → W'.heap[b]? = W.heap[b]? := fun b hb => hk.block b (f4 b hb) (hd b hb)
  refine ⟨m, v, D, (hg s f1).trans hb, ?_, hM, ?_, f1, f2, f3, fun k hk2 => Nat.lt_of_lt_of_le (f4 k hk2) hk.size⟩
  · obtain ⟨es, clock, hh, r⟩ := hm
    exact ⟨es, clock, (hg m f2).trans hh, r⟩
  · refine ⟨hv.1, ?_⟩
    rcases hv.2 with hn | ⟨g, cap, cur, rfl, hb2, hgg, rest⟩
    · exact .inl hn
    · exact .inr ⟨g, cap, cur, rfl, hb2, (hg g (f3 g rfl)).trans hgg, rest⟩
theorem PSet.frame {W W' : World} {F G : Nat → Prop} {s : Nat} {st : St} (h : PSet W G s st) (hk : Kp W W' F) (hd : ∀ b, G b → ¬ F b) : PSet W' G s st := ⟨h.1.frame hk hd, h.2⟩
/-- The document's set. -/
def DSet (W : World) (F : Nat → Prop) (s : Nat) (st : St) : Prop :=
  ∃ vw v, Bk W s #[.int .u32 (st.cum : Int), vw, v] 31 ∧ Ir .i64 2 W vw st.ws ∧ Ir .u32 22 W v st.ds ∧
    F s ∧ (∀ g, vw.ownBlock = some g → F g) ∧ (∀ g, v.ownBlock = some g → F g) ∧ (∀ k, F k → k < W.heap.size) ∧ st.Ok
theorem Ir.frame {k : IntKind} {E : TypeId} {W W' : World} {F : Nat → Prop} {v : Value} {l : List Nat} (h : Ir k E W v l) (hk : Kp W W' F) (hd : ∀ g, v.ownBlock = some g → ¬ F g) : Ir k E W' v l := by
  refine ⟨h.1, ?_⟩
  rcases h.2 with hn | ⟨g, cap, cur, rfl, hb2, hgg, rest⟩
  · exact .inl hn
  · exact .inr ⟨g, cap, cur, rfl, hb2, (hk.block g (Ir.lt h rfl) (hd g rfl)).trans hgg, rest⟩
theorem DSet.frame {W W' : World} {F G : Nat → Prop} {s : Nat} {st : St} (h : DSet W G s st) (hk : Kp W W' F) (hd : ∀ b, G b → ¬ F b) : DSet W' G s st := by
  obtain ⟨vw, v, hb, hw, hv, f1, f2, f3, f4, ok⟩ := h
  exact ⟨vw, v, (hk.block s (f4 s f1) (hd s f1)).trans hb, hw.frame hk (fun g hg => hd g (f2 g hg)), hv.frame hk (fun g hg => hd g (f3 g hg)), f1, f2, f3, fun k hk2 => Nat.lt_of_lt_of_le (f4 k hk2) hk.size, ok⟩
theorem Row.frame {W W' : World} {F : Nat → Prop} {A : Option Addr} {l : List Value} (h : Row W A l) (hk : Kp W W' F) (hd : ∀ a, A = some a → ¬ F a.block) : Row W' A l := fun i v hv => by
  obtain ⟨a, rfl, hc⟩ := h i v hv
  refine ⟨a, rfl, ?_⟩
  have hb : (a.add i).block = a.block := by unfold Addr.add; split <;> rfl
  have hlt := block_lt_of_cell hc
  rw [hb] at hlt
  rw [World.cell?_of_block (w := W) (w' := W') (a := a.add i) (by rw [hb]; exact hk.block _ hlt (hd a rfl))]
  exact hc
/-- A change of a set: nothing else has turned; its blocks are the old ones, or new. -/
def Mv (W : World) (F : Nat → Prop) (W' : World) (F' : Nat → Prop) : Prop := Kp W W' F ∧ ∀ k, F' k → F k ∨ W.heap.size ≤ k
end Go.Proofs.Ytkjepopmlpfnpaa
