/-
  Words on memory for all layers: a block that is known whole; rows of numbers of the call's own; what is kept but for some blocks; maps of the call's own.
-/
import Derived.Test.YtednkcjmlpgipaaWords
import Derived.Test.YtednkcjmlpgipaaChecked
import Derived.Maps.OwnSet
import Derived.Maps.RangeWalk
import Derived.Maps.Ext
import Derived.Deep.AppendLies
import Derived.Deep.RegionHeld
import Derived.Deep.Draws
import Derived.Deep.RegionLaw
import Derived.Laws.AppendOwnNone
import Derived.Handy
import Derived.BigQuiet
import Derived.BigRegion
import Derived.Deep.QuietTactic
import Derived.Outline
import Derived.Lib.Hide
namespace Go.Proofs.Ytednkcjmlpgipaa
open Go.RowKit
set_option linter.unusedVariables false

theorem grown_refl (w : World) (r : Option Nat) : w.grownBy w r := ⟨rfl, rfl, rfl, Nat.le_refl _, fun _ _ _ => rfl⟩
theorem grown_drewN {w W : World} {r : Option Nat} (h : w.grownBy W r) (q : Nat) : w.grownBy (W.drewN q) r := ⟨h.os, h.tape, h.output, h.size, h.block⟩
/-- Block b holds just these cells. -/
def Bk (W : World) (b : Nat) (cs : Array Value) (t : TypeId) : Prop := W.heap[b]? = some (.cells cs t (0, 0))
theorem Bk.lt {W : World} {b : Nat} {cs : Array Value} {t : TypeId} (h : Bk W b cs t) : b < W.heap.size := (Array.getElem?_eq_some_iff.1 h).1
theorem Bk.next {W W' : World} {b : Nat} {cs : Array Value} {t : TypeId} (h : Bk W b cs t) (hb : Below W.heap.size W W') : Bk W' b cs t := (hb.block _ h.lt).trans h
theorem Bk.nextB {W W' : World} {B b : Nat} {cs : Array Value} {t : TypeId} (h : Bk W b cs t) (hb : Below B W W') (hlt : b < B) : Bk W' b cs t := (hb.block _ hlt).trans h
theorem Bk.drew {W : World} {b : Nat} {cs : Array Value} {t : TypeId} (h : Bk W b cs t) : Bk W.drew b cs t := h
theorem Bk.drewN {W : World} {b : Nat} {cs : Array Value} {t : TypeId} (h : Bk W b cs t) (q : Nat) : Bk (W.drewN q) b cs t := h
theorem Bk.alloc {W : World} {b : Nat} {cs : Array Value} {t : TypeId} (h : Bk W b cs t) (o : Obj) : Bk (W.alloc o) b cs t := h.next ((Below.refl _ _).alloc (Nat.le_refl _) _)
theorem Bk.new (W : World) (cs : Array Value) (t : TypeId) : Bk (W.alloc (.cells cs t)) W.heap.size cs t := heap_alloc_new _ _
theorem Bk.cell {W : World} {b : Nat} {cs : Array Value} {t : TypeId} (h : Bk W b cs t) (i : Nat) : W.cell? ⟨b, i, none⟩ = cs[i]? := by simp [World.cell?, show W.heap[b]? = _ from h]
theorem Bk.frozen {W : World} {b : Nat} {cs : Array Value} {t : TypeId} (h : Bk W b cs t) (i : Nat) : W.frozen? ⟨b, i, none⟩ = false := by simp [World.frozen?, show W.heap[b]? = _ from h]
theorem Bk.set {W : World} {b : Nat} {cs : Array Value} {t : TypeId} (h : Bk W b cs t) (i : Nat) (v : Value) : Bk (W.setCell ⟨b, i, none⟩ v) b (cs.setIfInBounds i v) t := by
  have h' : W.heap[b]? = some (.cells cs t (0, 0)) := h
  simp [Bk, World.setCell, Array.getElem?_modify, h']
theorem Bk.other {W : World} {b c : Nat} {cs : Array Value} {t : TypeId} (h : Bk W b cs t) (hne : b ≠ c) (i : Nat) (v : Value) : Bk (W.setCell ⟨c, i, none⟩ v) b cs t := by
  have h' : W.heap[b]? = some (.cells cs t (0, 0)) := h
  simp [Bk, World.setCell, Array.getElem?_modify, h', Ne.symm hne]
theorem Bk.row {W : World} {b : Nat} {cs : Array Value} {t : TypeId} (h : Bk W b cs t) : Row W (some ⟨b, 0, none⟩) cs.toList := fun i v hv => by
  refine ⟨_, rfl, ?_⟩
  have e : (⟨b, 0, none⟩ : Addr).add i = ⟨b, i, none⟩ := by unfold Addr.add; split <;> simp_all
  rw [e, h.cell i]
  simpa using hv
theorem Bk.kept {W W' : World} {b : Nat} {cs : Array Value} {t : TypeId} {row : Option Nat} (h : Bk W b cs t) (hg : W.grownBy W' row) (hne : some b ≠ row) : Bk W' b cs t := (hg.block b h.lt hne).trans h
theorem setc_grown (W : World) (b o : Nat) (v : Value) : W.grownBy (W.setCell ⟨b, o, none⟩ v) (some b) :=
  ⟨rfl, rfl, rfl, by simp [World.setCell], fun k _ hk => by
    have hne : b ≠ k := fun e => hk (by rw [e])
    simp [World.setCell, Array.getElem?_modify, hne]⟩
/-- Numbers as values. -/
def ns (k : IntKind) (l : List Nat) : List Value := l.map fun (x : Nat) => Value.int k (x : Int)
theorem ns_len (k : IntKind) (l : List Nat) : (ns k l).length = l.length := by simp [ns]
theorem ns_app (k : IntKind) (l m : List Nat) : ns k l ++ ns k m = ns k (l ++ m) := by simp [ns]
theorem ns_get {k : IntKind} {l : List Nat} {i : Nat} (h : i < l.length) : (ns k l)[i]? = some (.int k ((l.getD i 0 : Nat) : Int)) := by
  simp [ns, List.getElem?_map, List.getElem?_eq_getElem h, List.getD]
theorem ns_one (k : IntKind) (l : List Nat) : ∀ u ∈ ns k l, u.oneCell' = true := fun u hu => by
  obtain ⟨x, _, rfl⟩ := List.mem_map.1 hu
  rfl
/-- A row of numbers of the call's own. -/
def Ir (k : IntKind) (E : TypeId) (W : World) (v : Value) (l : List Nat) : Prop := W.ownsRow 0 E 1 v l.length (ns k l)
theorem Ir.nil (k : IntKind) (E : TypeId) (W : World) : Ir k E W (.slice none 0 0) [] := World.ownsRow_nil _ _ _ _
theorem Ir.form {k : IntKind} {E : TypeId} {W : World} {v : Value} {l : List Nat} (h : Ir k E W v l) : ∃ A c, v = .slice A l.length c ∧ l.length ≤ c ∧ c ≤ maxLen ∧ (∀ a, A = some a → v.ownBlock = some a.block) := by
  rcases h.2 with ⟨rfl, h0⟩ | ⟨g, cap, cur, rfl, _, _, h1, h2, _⟩
  · exact ⟨none, 0, by rw [h0], by omega, by unfold maxLen; omega, fun a ha => by cases ha⟩
  · exact ⟨_, _, rfl, h1, h2, fun a ha => by cases ha; rfl⟩
theorem Ir.row {k : IntKind} {E : TypeId} {W : World} {A : Option Addr} {n c : Nat} {l : List Nat} (h : Ir k E W (.slice A n c) l) : Row W A (ns k l) := fun i v hv => by
  rcases id h.2 with ⟨_, h0⟩ | ⟨g, cap, cur, hv2, _⟩
  · have := h.1
    have h1 := (List.getElem?_eq_some_iff.1 hv).1
    omega
  · simp only [Value.slice.injEq] at hv2
    obtain ⟨rfl, _, _⟩ := hv2
    exact ⟨_, rfl, h.cells (g := g) rfl i v hv⟩
theorem Ir.kept {k : IntKind} {E : TypeId} {W W' : World} {v : Value} {l : List Nat} {row : Option Nat} (h : Ir k E W v l) (hg : W.grownBy W' row) (hne : v.ownBlock = none ∨ v.ownBlock ≠ row) : Ir k E W' v l := World.ownsRow.kept h hg hne
/-- A row lies in no block of another type. -/
theorem Ir.off {k : IntKind} {E : TypeId} {W : World} {v : Value} {l : List Nat} (h : Ir k E W v l) {b : Nat} {cs : Array Value} {t : TypeId} (hb : Bk W b cs t) (hne : t ≠ E) : v.ownBlock ≠ some b := by
  rcases h.2 with ⟨rfl, _⟩ | ⟨g, cap, cur, rfl, _, hg, _⟩
  · intro e; cases e
  · intro e
    simp only [Value.ownBlock, Option.some.injEq] at e
    subst e
    rw [show W.heap[g]? = _ from hb] at hg
    simp at hg
    exact hne hg.2
theorem Ir.offm {k : IntKind} {E : TypeId} {W : World} {v : Value} {l : List Nat} (h : Ir k E W v l) {b : Nat} {es : Array MapEntry} {clock : Nat} (hb : W.heap[b]? = some (.map es clock)) : v.ownBlock ≠ some b := by
  rcases h.2 with ⟨rfl, _⟩ | ⟨g, cap, cur, rfl, _, hg, _⟩
  · intro e; cases e
  · intro e
    simp only [Value.ownBlock, Option.some.injEq] at e
    subst e
    rw [hb] at hg
    cases hg
theorem Ir.lt {k : IntKind} {E : TypeId} {W : World} {v : Value} {l : List Nat} (h : Ir k E W v l) {g : Nat} (hg : v.ownBlock = some g) : g < W.heap.size := (World.ownsRow.lt h g hg).2
theorem addr0 (g j : Nat) : (⟨g, 0, none⟩ : Addr).add j = ⟨g, j, none⟩ := by unfold Addr.add; split <;> simp_all
/-- An append of one number. -/
theorem ir_app {w : World} {ops : Array Oper} {rest : List Oper} {o : Oper} {a : Act} {Q : Exit → Act → World → Prop} {k : IntKind} {E S : TypeId} {bytes : Nat}
    (hu : Try.prog.underlying S = some (.slice E)) (hinf : (Try.prog.info? E).map (fun i => (i.zero, i.size, i.bytes)) = some (some (.int k 0), 1, bytes)) (hby : bytes ≤ 8) (hgd : o.guard = none) (s x : Operand)
    (ho : o.op = .call { callee := .builtin .append, args := #[s, x], argTypes := #[S, S] }) (v : Value) (l : List Nat) (hs : a.eval s = v) (hown : Ir k E w v l) (y : Nat)
    (B cap : Nat) (t : TypeId) (hx : a.eval x = .slice (some ⟨B, 0, none⟩) 1 cap) (hB : Bk w B #[.int k (y : Int)] t) (hlen : l.length ≤ 100000)
    (h : ∀ g c w', Ir k E w' (.slice (some ⟨g, 0, none⟩) (l.length + 1) c) (l ++ [y]) → w.grownBy w' v.ownBlock → (v.ownBlock = some g ∨ g = w.heap.size) → wpList Try.prog ops Q rest (a.put o.dst (.slice (some ⟨g, 0, none⟩) (l.length + 1) c)) w') :
    wpList Try.prog ops Q (o :: rest) a w := by
  obtain ⟨i0, hi0, hz0, hz1, hz2⟩ := info_parts hinf
  refine wpList_append_lies w hgd s x S ho 0 E i0 (.int k 0) 1 bytes hu hi0 hz0 hz1 hz2 rfl (by omega) v l.length (ns k l) hs hown ⟨B, 0, none⟩ 1 cap (ns k [y]) hx rfl ?_ (ns_one _ _) (by omega) (by unfold maxLen; omega) ?_ (Nat.zero_le _) _ rfl ?_
  · intro j u hj
    have := World.news_of_block (w := w) hB j u
    simpa [ns] using this (by simpa [ns] using hj)
  · have : (l.length + 1) * bytes ≤ (l.length + 1) * 8 := Nat.mul_le_mul_left _ hby
    omega
  · intro g c w' ho2 hg2 hat hlt
    refine h g c w' ?_ hg2 hat
    show w'.ownsRow 0 E 1 _ (l ++ [y]).length (ns k (l ++ [y]))
    rw [← ns_app, List.length_append]
    exact ho2
/-- W' is W but for the blocks of F, and longer. -/
structure Kp (W W' : World) (F : Nat → Prop) : Prop where
  os : W'.os = W.os
  tape : W'.tape = W.tape
  output : W'.output = W.output
  size : W.heap.size ≤ W'.heap.size
  block : ∀ k, k < W.heap.size → ¬ F k → W'.heap[k]? = W.heap[k]?
theorem Kp.refl (W : World) (F : Nat → Prop) : Kp W W F := ⟨rfl, rfl, rfl, Nat.le_refl _, fun _ _ _ => rfl⟩
theorem Kp.grown {W W' : World} {F : Nat → Prop} {row : Option Nat} (h : W.grownBy W' row) (hr : ∀ g, row = some g → F g) : Kp W W' F :=
  ⟨h.os, h.tape, h.output, h.size, fun k hk hF => h.block k hk (fun e => hF (hr k e.symm))⟩
theorem Kp.below {W W' : World} {F : Nat → Prop} (h : Below W.heap.size W W') : Kp W W' F := ⟨h.os, h.tape, h.output, h.size, fun k hk _ => h.block k hk⟩
theorem Kp.trans {W W' W'' : World} {F F' : Nat → Prop} (h : Kp W W' F) (k : Kp W' W'' F') (hF : ∀ b, F' b → F b ∨ W.heap.size ≤ b) : Kp W W'' F :=
  ⟨k.os.trans h.os, k.tape.trans h.tape, k.output.trans h.output, Nat.le_trans h.size k.size, fun b hb hn => (k.block b (Nat.lt_of_lt_of_le hb h.size) (fun e => (hF b e).elim hn (by omega))).trans (h.block b hb hn)⟩
theorem Kp.mono {W W' : World} {F F' : Nat → Prop} (h : Kp W W' F) (hF : ∀ b, F b → F' b) : Kp W W' F' := ⟨h.os, h.tape, h.output, h.size, fun b hb hn => h.block b hb (fun e => hn (hF b e))⟩
theorem Kp.to_below {B : Nat} {w W W' : World} {F : Nat → Prop} (h : Below B w W) (k : Kp W W' F) (hF : ∀ b, F b → B ≤ b) (hB : B ≤ W.heap.size) : Below B w W' :=
  h.trans ⟨k.os, k.tape, k.output, k.size, fun b hb => k.block b (Nat.lt_of_lt_of_le hb hB) (fun e => by have := hF b e; omega)⟩
theorem owns_tight {H : Type} {P : Program} {k : TypeId} {R : Value → Option (DataW H × List MemPlace)} {w : World} {b n : Nat} {D : DataW H} (h : w.ownsMap P k R b n D) : w.ownsMap P k R b (Maps.size D) D := by
  obtain ⟨es, clock, hb, F, hs, rfl⟩ := h
  exact ⟨es, clock, hb, F, by simp [Maps.size, length_sorted], rfl⟩
theorem owns_block {H : Type} {P : Program} {k : TypeId} {R : Value → Option (DataW H × List MemPlace)} {w : World} {b n : Nat} {D : DataW H} (h : w.ownsMap P k R b n D) : ∃ es clock, w.heap[b]? = some (.map es clock) := by
  obtain ⟨es, clock, hb, _⟩ := h
  exact ⟨es, clock, hb⟩
theorem Ir.frame {k : IntKind} {E : TypeId} {W W' : World} {F : Nat → Prop} {v : Value} {l : List Nat} (h : Ir k E W v l) (hk : Kp W W' F) (hd : ∀ g, v.ownBlock = some g → ¬ F g) : Ir k E W' v l := by
  refine ⟨h.1, ?_⟩
  rcases h.2 with hn | ⟨g, cap, cur, rfl, hb2, hgg, rest⟩
  · exact .inl hn
  · exact .inr ⟨g, cap, cur, rfl, hb2, (hk.block g (Ir.lt h rfl) (hd g rfl)).trans hgg, rest⟩
theorem Row.frame {W W' : World} {F : Nat → Prop} {A : Option Addr} {l : List Value} (h : Row W A l) (hk : Kp W W' F) (hd : ∀ a, A = some a → ¬ F a.block) : Row W' A l := fun i v hv => by
  obtain ⟨a, rfl, hc⟩ := h i v hv
  refine ⟨a, rfl, ?_⟩
  have hb : (a.add i).block = a.block := by unfold Addr.add; split <;> rfl
  have hlt := block_lt_of_cell hc
  rw [hb] at hlt
  rw [World.cell?_of_block (w := W) (w' := W') (a := a.add i) (by rw [hb]; exact hk.block _ hlt (hd a rfl))]
  exact hc
/-- A change of a set: nothing else has turned; its blocks are the old ones, or new. -/
def Mv (W : World) (F : Nat → Prop) (W' : World) (F' : Nat → Prop) : Prop := Kp W W' F ∧ ∀ k, F' k → F k ∨ W.heap.size ≤ k
/-- An append of numbers, possibly of none, as a step of a region that draws its order. -/
theorem ir_step {w : World} {ops : Array Oper} {o : Oper} {a : Act} {K : Act → World → Prop} {Q : Exit → Act → World → Prop} {E : Prop} {k : IntKind} {el S : TypeId} {bytes : Nat}
    (hu : Try.prog.underlying S = some (.slice el)) (hinf : (Try.prog.info? el).map (fun i => (i.zero, i.size, i.bytes)) = some (some (.int k 0), 1, bytes)) (hby : bytes ≤ 8) (hgd : o.guard = none) (s x : Operand)
    (ho : o.op = .call { callee := .builtin .append, args := #[s, x], argTypes := #[S, S] }) (B : Nat) (A0 : Option Addr) (n c0 : Nat) (l : List Nat) (hs : a.eval s = .slice A0 n c0)
    (hown : w.ownsRow B el 1 (.slice A0 n c0) n (ns k l))
    (A : Option Addr) (m c : Nat) (l2 : List Nat) (hx : a.eval x = .slice A m c) (hl : l2.length = m) (hr : Row w A (ns k l2)) (hz : A = none → m = 0 ∧ c = 0) (N : Nat) (hN : n + m = N) (hb : N ≤ 1000000) (hbase : B ≤ w.heap.size)
    (h : ∀ A' c' w', w'.ownsRow B el 1 (.slice A' N c') N (ns k (l ++ l2)) → w.grownBy w' (Value.slice A0 n c0).ownBlock → K (a.put o.dst (.slice A' N c')) w') :
    if Region.wanted o (yielded ops a.tmps) = true then Oper.wp Try.prog o a w K Q else E := by
  obtain ⟨i0, hi0, hz0, hz1, hz2⟩ := info_parts hinf
  rw [if_pos (by simp [Region.wanted, hgd])]
  subst hN
  cases A with
  | none =>
    obtain ⟨rfl, rfl⟩ := hz rfl
    obtain rfl := List.eq_nil_of_length_eq_zero hl
    have hrun := run_append_owned_none (P := Try.prog) (w := w) B S o.type el i0 1 hu hi0 _ n (ns k l) hown
    unfold Oper.wp
    simp [execOp, ho, resolve, invoke, builtin, hs, hx, hrun, Result.andThen]
    exact h A0 c0 w (by simpa using hown) ⟨rfl, rfl, rfl, Nat.le_refl _, fun _ _ _ => rfl⟩
  | some ad =>
    have hbb : (n + m) * bytes ≤ (n + m) * 8 := Nat.mul_le_mul_left _ hby
    refine wp_append_own w s x S ho B el i0 (.int k 0) 1 bytes hu hi0 hz0 hz1 hz2 rfl (by omega) _ n (ns k l) hs hown ad m c (ns k l2) hx (by rw [ns_len, hl]; omega) (fun j u hu => by obtain ⟨b, hb, hc⟩ := hr j u hu; have hb2 := Option.some.inj hb; rw [hb2]; exact hc) (ns_one _ _) (by unfold maxLen; omega) (by omega) hbase ?_
    intro v' w2 ho2 hg2 _
    rcases id ho2.2 with ⟨rfl, h0⟩ | ⟨g, cap, cur, rfl, _⟩
    · have hn0 : n + m = 0 := h0
      have := h none 0 w2 (by rw [← ns_app, hn0]; rw [hn0] at ho2; exact ho2) hg2
      rw [hn0] at this
      exact this
    · exact h _ _ w2 (by rw [← ns_app]; exact ho2) hg2
/-- .. in a plain list of operations. -/
theorem ir_many {w : World} {ops : Array Oper} {rest : List Oper} {o : Oper} {a : Act} {Q : Exit → Act → World → Prop} {k : IntKind} {el S : TypeId} {bytes : Nat}
    (hu : Try.prog.underlying S = some (.slice el)) (hinf : (Try.prog.info? el).map (fun i => (i.zero, i.size, i.bytes)) = some (some (.int k 0), 1, bytes)) (hby : bytes ≤ 8) (hgd : o.guard = none) (s x : Operand)
    (ho : o.op = .call { callee := .builtin .append, args := #[s, x], argTypes := #[S, S] }) (B : Nat) (A0 : Option Addr) (n c0 : Nat) (l : List Nat) (hs : a.eval s = .slice A0 n c0)
    (hown : w.ownsRow B el 1 (.slice A0 n c0) n (ns k l))
    (A : Option Addr) (m c : Nat) (l2 : List Nat) (hx : a.eval x = .slice A m c) (hl : l2.length = m) (hr : Row w A (ns k l2)) (hz : A = none → m = 0 ∧ c = 0) (N : Nat) (hN : n + m = N) (hb : N ≤ 1000000) (hbase : B ≤ w.heap.size)
    (h : ∀ A' c' w', w'.ownsRow B el 1 (.slice A' N c') N (ns k (l ++ l2)) → w.grownBy w' (Value.slice A0 n c0).ownBlock → wpList Try.prog ops Q rest (a.put o.dst (.slice A' N c')) w') :
    wpList Try.prog ops Q (o :: rest) a w :=
  wpList_plain hgd fun K hK => by
    have := ir_step (E := True) (ops := ops) (K := K) (Q := Q) hu hinf hby hgd s x ho B A0 n c0 l hs hown A m c l2 hx hl hr hz N hN hb hbase (fun A' c' w' h1 h2 => hK _ _ (h A' c' w' h1 h2))
    rw [if_pos (by simp [Region.wanted, hgd])] at this
    exact this
/-- A row that a call owns above a base, as a row of its own. -/
theorem ir_of_own {w : World} {B : Nat} {k : IntKind} {el : TypeId} {A : Option Addr} {n c : Nat} {l : List Nat} (hown : w.ownsRow B el 1 (.slice A n c) n (ns k l)) (hn : l.length = n) : Ir k el w (.slice A n c) l := by
  subst hn
  refine ⟨hown.1, ?_⟩
  rcases hown.2 with h | ⟨g, cap, cur, h1, h2, h3, h4⟩
  · exact .inl h
  · exact .inr ⟨g, cap, cur, h1, Nat.zero_le _, h3, h4⟩
end Go.Proofs.Ytednkcjmlpgipaa
