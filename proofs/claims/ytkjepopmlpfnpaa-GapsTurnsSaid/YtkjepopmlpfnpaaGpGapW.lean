/-
  Rows of gaps of the call's own.
-/
import Derived.Test.YtkjepopmlpfnpaaGpWays
import Derived.Laws.OwnMore
namespace Go.Proofs.Ytkjepopmlpfnpaa
open Go.RowKit Go.Maps
set_option linter.unusedVariables false

/-- Gaps as cells: two each. -/
def gs (l : List (Nat × Nat)) : List Value := l.flatMap fun p => [Value.int .u16 (p.1 : Int), Value.int .u16 (p.2 : Int)]
theorem gs_len (l : List (Nat × Nat)) : (gs l).length = l.length * 2 := by
  induction l with
  | nil => rfl
  | cons p l ih => simp [gs] at ih ⊢; omega
theorem gs_app (l m : List (Nat × Nat)) : gs l ++ gs m = gs (l ++ m) := by simp [gs]
theorem gs_get : ∀ {l : List (Nat × Nat)} {i : Nat} (h : i < l.length), (gs l)[i * 2]? = some (.int .u16 ((l[i].1 : Nat) : Int)) ∧ (gs l)[i * 2 + 1]? = some (.int .u16 ((l[i].2 : Nat) : Int))
  | p :: l, 0, _ => by simp [gs]
  | p :: l, i + 1, h => by
    have e : gs (p :: l) = [Value.int .u16 (p.1 : Int), Value.int .u16 (p.2 : Int)] ++ gs l := by simp [gs]
    have ih := gs_get (l := l) (i := i) (by simpa using h)
    rw [e, List.getElem?_append_right (by simp; omega), List.getElem?_append_right (by simp; omega)]
    simp only [List.length_cons, List.length_nil, List.getElem_cons_succ]
    rw [show (i + 1) * 2 - (0 + 1 + 1) = i * 2 by omega, show (i + 1) * 2 + 1 - (0 + 1 + 1) = i * 2 + 1 by omega]
    exact ih
theorem gs_one (l : List (Nat × Nat)) : ∀ u ∈ gs l, u.oneCell' = true := fun u hu => by
  simp only [gs, List.mem_flatMap] at hu
  obtain ⟨p, _, hp⟩ := hu
  simp at hp
  rcases hp with rfl | rfl <;> rfl
theorem gs_last (l : List (Nat × Nat)) (p : Nat × Nat) (w : Nat) : (gs (l ++ [p])).set (l.length * 2 + 1) (.int .u16 (w : Int)) = gs (l ++ [(p.1, w)]) := by
  rw [← gs_app, ← gs_app, List.set_append_right _ _ (by rw [gs_len]; omega), gs_len, show l.length * 2 + 1 - l.length * 2 = 1 by omega]
  rfl
def Gr (W : World) (v : Value) (l : List (Nat × Nat)) : Prop := W.ownsRow 0 49 2 v l.length (gs l)
theorem Gr.nil (W : World) : Gr W (.slice none 0 0) [] := World.ownsRow_nil _ _ _ _
theorem Gr.kept {W W' : World} {v : Value} {l : List (Nat × Nat)} {row : Option Nat} (h : Gr W v l) (hg : W.grownBy W' row) (hne : v.ownBlock = none ∨ v.ownBlock ≠ row) : Gr W' v l := World.ownsRow.kept h hg hne
theorem Gr.row {W : World} {A : Option Addr} {n c : Nat} {l : List (Nat × Nat)} (h : Gr W (.slice A n c) l) : Row W A (gs l) := fun i v hv => by
  rcases id h.2 with ⟨_, h0⟩ | ⟨g, cap, cur, hv2, _⟩
  · have := h.1
    have h1 := (List.getElem?_eq_some_iff.1 hv).1
    omega
  · simp only [Value.slice.injEq] at hv2
    obtain ⟨rfl, _, _⟩ := hv2
    exact ⟨_, rfl, h.cells (g := g) rfl i v hv⟩
theorem infoG : (Try.prog.info? 49).map (fun i => (i.zero, i.size, i.bytes)) = some (some (.agg #[.int .u16 0, .int .u16 0]), 2, 4) := by kernel_rfl
/-- An append of one gap. -/
theorem gr_app {w : World} {ops : Array Oper} {rest : List Oper} {o : Oper} {a : Act} {Q : Exit → Act → World → Prop} (hgd : o.guard = none) (s x : Operand)
    (ho : o.op = .call { callee := .builtin .append, args := #[s, x], argTypes := #[40, 40] }) (v : Value) (l : List (Nat × Nat)) (hs : a.eval s = v) (hown : Gr w v l) (y1 y2 : Nat)
    (B cap : Nat) (t : TypeId) (hx : a.eval x = .slice (some ⟨B, 0, none⟩) 1 cap) (hB : Bk w B #[.int .u16 (y1 : Int), .int .u16 (y2 : Int)] t) (hlen : l.length ≤ 100000)
    (h : ∀ g c w', Gr w' (.slice (some ⟨g, 0, none⟩) (l.length + 1) c) (l ++ [(y1, y2)]) → w.grownBy w' v.ownBlock → (v.ownBlock = some g ∨ g = w.heap.size) → wpList Try.prog ops Q rest (a.put o.dst (.slice (some ⟨g, 0, none⟩) (l.length + 1) c)) w') :
    wpList Try.prog ops Q (o :: rest) a w := by
  obtain ⟨i0, hi0, hz0, hz1, hz2⟩ := info_parts infoG
  refine wpList_append_lies w hgd s x 40 ho 0 49 i0 (.agg #[.int .u16 0, .int .u16 0]) 2 4 Try.underlying40 hi0 hz0 hz1 hz2 rfl (by omega) v l.length (gs l) hs hown ⟨B, 0, none⟩ 1 cap (gs [(y1, y2)]) hx rfl ?_ (gs_one _) (by omega) (by unfold maxLen; omega) (by omega) (Nat.zero_le _) _ rfl ?_
  · intro j u hj
    have := World.news_of_block (w := w) hB j u
    simpa [gs] using this (by simpa [gs] using hj)
  · intro g c w' ho2 hg2 hat hlt
    refine h g c w' ?_ hg2 hat
    show w'.ownsRow 0 _ 2 _ (l ++ [(y1, y2)]).length (gs (l ++ [(y1, y2)]))
    rw [← gs_app, List.length_append]
    exact ho2
/-- The last gap ends later. -/
theorem Gr.last {W : World} {g n c : Nat} {l : List (Nat × Nat)} {p : Nat × Nat} (h : Gr W (.slice (some ⟨g, 0, none⟩) n c) (l ++ [p])) (w : Nat) :
    Gr (W.setCell ⟨g, l.length * 2 + 1, none⟩ (.int .u16 (w : Int))) (.slice (some ⟨g, 0, none⟩) n c) (l ++ [(p.1, w)]) := by
  have hn : n = (l ++ [p]).length := by
    rcases h.2 with ⟨h1, h2⟩ | ⟨g2, cap, cur, h1, _⟩
    · simp at h1
    · simp only [Value.slice.injEq] at h1; exact h1.2.1
  subst hn
  have := (World.ownsRow.stored h (l.length * 2 + 1) (.int .u16 (w : Int))).1
  rw [gs_last] at this
  have e : (l ++ [(p.1, w)]).length = (l ++ [p]).length := by simp
  show World.ownsRow _ 0 _ 2 _ (l ++ [(p.1, w)]).length _
  rw [e]
  exact this
theorem row_far {W W' : World} {g : Nat} {l : List Value} {row : Option Nat} (h : Row W (some ⟨g, 0, none⟩) l) (hg : W.grownBy W' row) (hne : some g ≠ row) : Row W' (some ⟨g, 0, none⟩) l := fun i v hv => by
  obtain ⟨a, ha, hc⟩ := h i v hv
  injection ha with ha
  subst ha
  refine ⟨_, rfl, ?_⟩
  rw [addr0] at hc ⊢
  exact hg.cell hc hne
/-- Where a row of gaps lies, behind an append. -/
theorem lies_new {W wr w2 : World} {gw g' n c : Nat} {A : Option Addr} {o : Obj} (hA : ∀ a, A = some a → W.heap.size ≤ a.block ∧ a.block ≠ gw) (hb : Below W.heap.size W wr) (hgw : gw < wr.heap.size)
    (hat : (Value.slice A n c).ownBlock = some g' ∨ g' = (wr.alloc o).heap.size) : ∀ a, some (⟨g', 0, none⟩ : Addr) = some a → W.heap.size ≤ a.block ∧ a.block ≠ gw := fun a ha => by
  injection ha with ha
  subst ha
  rcases hat with h | h
  · cases A with
    | none => cases h
    | some a =>
      obtain rfl : a.block = g' := by simpa [Value.ownBlock] using h
      exact hA a rfl
  · have h2 : g' = wr.heap.size + 1 := by simpa using h
    have := hb.size
    exact ⟨by show W.heap.size ≤ g'; omega, by show g' ≠ gw; omega⟩
theorem own_far {W : World} {gw n c : Nat} {A : Option Addr} (hA : ∀ a, A = some a → W.heap.size ≤ a.block ∧ a.block ≠ gw) : some gw ≠ (Value.slice A n c).ownBlock ∧ ∀ k, (Value.slice A n c).ownBlock = some k → W.heap.size ≤ k := by
  cases A with
  | none => exact ⟨by simp [Value.ownBlock], fun k hk => by cases hk⟩
  | some a =>
    obtain ⟨h1, h2⟩ := hA a rfl
    exact ⟨by simp [Value.ownBlock]; exact fun e => h2 e.symm, fun k hk => by
      have : a.block = k := by simpa [Value.ownBlock] using hk
      rw [← this]; exact h1⟩
end Go.Proofs.Ytkjepopmlpfnpaa
