/-
  Memory words for GapsOrder: a map that counts, a row whose places change.
-/
import Derived.Test.YtkjepopmlpfnpaaGpTurns
import Derived.Test.YtkjepopmlpfnpaaGpOrdP
import Derived.Maps.OwnOps
import Derived.RegionTactic
import Derived.BigRegion
import Derived.CellFam
namespace Go.Proofs.Ytkjepopmlpfnpaa
open Go.RowKit Go.Maps
set_option linter.unusedVariables false

/-- Counts, by ways from c. -/
def Count (D : DataW Unit) (c : Nat) (l : List Nat) : Prop := ∀ w, w ≤ 30001 → D.atKey (.int .u32 ((up c w : Nat) : Int)) (.lit (.int .i64 0)) = .lit (.int .i64 (l.count w : Nat)) ∧ Maps.has D (.int .u32 ((up c w : Nat) : Int)) = decide (w ∈ l)
theorem count_start (c : Nat) : Count (.map []) c [] := fun w _ => ⟨rfl, by simp [Maps.has]⟩
theorem up_inj {c x y : Nat} (hx : x ≤ 30001) (hy : y ≤ 30001) (h : up c x = up c y) : x = y := by unfold up at h; omega
theorem count_put {D : DataW Unit} {c w : Nat} {l : List Nat} (h : Count D c l) (hT : Tidy D) (hw : w ≤ 30001) : Count (D.put (.int .u32 ((up c w : Nat) : Int)) (.lit (.int .i64 ((l.count w + 1 : Nat) : Int)))) c (l ++ [w]) := fun x hx => by
  have hk : WideAt.IsKeyLit (.int .u32 ((up c w : Nat) : Int)) := by simp [WideAt.IsKeyLit]
  by_cases e : x = w
  · subst e
    rw [atKey_put_same hT.isMap hk, has_put_same hT.isMap hk, List.count_append]
    simp
  · have hne : (Lit.int .u32 ((up c x : Nat) : Int)) ≠ Lit.int .u32 ((up c w : Nat) : Int) := by
      intro e2
      injection e2 with _ e3
      exact e (up_inj hx hw (by exact_mod_cast e3))
    rw [atKey_put_other hne, has_put_other hne, (h x hx).1, (h x hx).2, List.count_append]
    have h0 : List.count x [w] = 0 := List.count_eq_zero.2 (by simpa using e)
    rw [h0]
    simp [e]
theorem count_size {D : DataW Unit} {c w : Nat} {l : List Nat} (h : Count D c l) (hT : Tidy D) (hw : w ≤ 30001) (d : DataW Unit) : Maps.size (D.put (.int .u32 ((up c w : Nat) : Int)) d) = Maps.size D + (if w ∈ l then 0 else 1) := by
  rw [size_put hT, (h w hw).2]
  by_cases e : w ∈ l <;> simp [e]
/-- The map, in block m. -/
def MA (m : Nat) (D : DataW Unit) (w : World) (F : Nat → Prop) : Prop := w.ownsMap Try.prog 22 (plainElem Try.prog 3) m (Maps.size D) D ∧ F m ∧ ∀ k, F k → k < w.heap.size
theorem MA_fr (m : Nat) (D : DataW Unit) : Fr (MA m D) := ⟨fun w w' F G ⟨h, h2, h3⟩ hk hd => ⟨by
    obtain ⟨es, clock, hh, r⟩ := h
    exact ⟨es, clock, (hk.block m (h3 m h2) (hd m h2)).trans hh, r⟩, h2, fun k hk2 => Nat.lt_of_lt_of_le (h3 k hk2) hk.size⟩, fun w F ⟨h, h2, h3⟩ => h3⟩
theorem zeroI (w : World) : (zeroValue 3).run Try.prog w = .ok (.int .i64 0) w := by kernel_rfl
theorem mnew (w : World) : MA w.heap.size (.map []) (w.alloc (.map #[] 0)) (fun k => k = w.heap.size) := ⟨World.ownsMap_made w _ _ _, rfl, fun k hk => by subst hk; simp⟩
theorem look_ma {w : World} {F : Nat → Prop} {m c x : Nat} {D : DataW Unit} {l : List Nat} (h : MA m D w F) (hc : Count D c l) (hx : x ≤ 30001) :
    (Instr.lookup 47 (.map (some m)) (.int .u32 ((up c x : Nat) : Int)) false).run Try.prog w = .ok (.int .i64 (l.count x : Nat)) w := by
  obtain ⟨v, h1, h2, _⟩ := h.1.lookup_int law32 Try.underlying47 Try.underlying3 (zeroI w) (key32 (up_lt c x))
  rw [(hc x hx).1] at h2
  simp only [DataW.lit.injEq, Lit.int.injEq, true_and] at h2
  rw [h1, ← h2]
theorem look_now {W w : World} {R : World → (Nat → Prop) → Prop} {m c x : Nat} {D : DataW Unit} {l : List Nat} (h : Now W w (star (MA m D) R)) (hc : Count D c l) (hx : x ≤ 30001) :
    (Instr.lookup 47 (.map (some m)) (.int .u32 ((up c x : Nat) : Int)) false).run Try.prog w = .ok (.int .i64 (l.count x : Nat)) w := by
  obtain ⟨F, h, _⟩ := h.left
  exact look_ma h hc hx
/-- An own row of numbers. -/
def OA (v : Value) (l : List Nat) (w : World) (F : Nat → Prop) : Prop := Ir .u16 46 w v l ∧ (∀ g, v.ownBlock = some g → F g) ∧ ∀ k, F k → k < w.heap.size
theorem OA_fr (v : Value) (l : List Nat) : Fr (OA v l) := ⟨fun w w' F G ⟨h, h2, h3⟩ hk hd => ⟨h.frame hk (fun g hg => hd g (h2 g hg)), h2, fun k hk2 => Nat.lt_of_lt_of_le (h3 k hk2) hk.size⟩, fun w F ⟨h, h2, h3⟩ => h3⟩
theorem info16' : (Try.prog.info? 46).map (fun i => (i.zero, i.size, i.bytes)) = some (some (.int .u16 0), 1, 2) := by kernel_rfl
/-- An append of what came in, behind an empty row of the call's own. -/
theorem o_app {w : World} {ops : Array Oper} {rest : List Oper} {o : Oper} {a : Act} {Q : Exit → Act → World → Prop} (hgd : o.guard = none) (s x : Operand)
    (ho : o.op = .call { callee := .builtin .append, args := #[s, x], argTypes := #[45, 45] }) (B : Nat) (A0 : Option Addr) (c0 : Nat) (hs : a.eval s = .slice A0 0 c0)
    (hown : w.ownsRow B 46 1 (.slice A0 0 c0) 0 []) (A : Option Addr) (m c : Nat) (l : List Nat) (hx : a.eval x = .slice A m c) (hl : l.length = m) (hr : Row w A (ns .u16 l)) (hz : A = none → m = 0 ∧ c = 0) (hb : m ≤ 1000000) (hbase : B ≤ w.heap.size)
    (h : ∀ A' c' w', Ir .u16 46 w' (.slice A' m c') l → (∀ g, (Value.slice A' m c').ownBlock = some g → B ≤ g) → Below B w w' → wpList Try.prog ops Q rest (a.put o.dst (.slice A' m c')) w') :
    wpList Try.prog ops Q (o :: rest) a w := by
  obtain ⟨i0, hi0, hz0, hz1, hz2⟩ := info_parts info16'
  have key : ∀ v' w', w'.ownsRow B 46 1 v' m (ns .u16 l) → Below B w w' → wpList Try.prog ops Q rest (a.put o.dst v') w' := fun v' w' ho hbl => by
    have hir : Ir .u16 46 w' v' l := by
      subst hl
      refine ⟨ho.1, ?_⟩
      rcases ho.2 with h | ⟨g, cap, cur, h1, h2, h3, h4⟩
      · exact .inl h
      · exact .inr ⟨g, cap, cur, h1, Nat.zero_le _, h3, h4⟩
    obtain ⟨A', c', rfl, _⟩ := hir.form
    subst hl
    exact h A' c' w' hir (fun g hg => (ho.lt g hg).1) hbl
  cases A with
  | none =>
    obtain ⟨rfl, rfl⟩ := hz rfl
    obtain rfl := List.eq_nil_of_length_eq_zero hl
    refine wpList_append_own_none hgd s x 45 ho B 46 i0 1 Try.underlying45 hi0 _ 0 [] hs hown hx ?_
    exact key _ _ hown (Below.refl _ _)
  | some ad =>
    refine wpList_append_own _ hgd s x 45 ho B 46 i0 (.int .u16 0) 1 2 Try.underlying45 hi0 hz0 hz1 hz2 rfl (by omega) _ 0 [] hs hown ad m c (ns .u16 l) hx (by rw [ns_len, hl]; omega) (fun j u hu => by obtain ⟨b, hb, hc⟩ := hr j u hu; injection hb with hb; subst hb; exact hc) (ns_one _ _) (by unfold maxLen; omega) (by omega) hbase ?_
    intro v' w2 ho2 hg2 _
    have e : 0 + m = m := by omega
    rw [e, List.nil_append] at ho2
    exact key v' w2 ho2 ((Below.refl B w).grown hg2 hbase (fun k hk => (hown.lt k hk).1))
/-- Two places of an own row change. -/
theorem oa_swap {w : World} {F : Nat → Prop} {g n cap : Nat} {l : List Nat} (h : OA (.slice (some ⟨g, 0, none⟩) n cap) l w F) (i k : Nat) (q q' : Nat) :
    OA (.slice (some ⟨g, 0, none⟩) n cap) (swl l i k) ((((w.drewN q).setCell ⟨g, i, none⟩ (.int .u16 (l.getD k 0 : Nat))).setCell ⟨g, k, none⟩ (.int .u16 (l.getD i 0 : Nat))).drewN q') F ∧
      Mv w F ((((w.drewN q).setCell ⟨g, i, none⟩ (.int .u16 (l.getD k 0 : Nat))).setCell ⟨g, k, none⟩ (.int .u16 (l.getD i 0 : Nat))).drewN q') F := by
  obtain ⟨h1, h2, h3⟩ := h
  have hn : n = l.length := by
    rcases h1.2 with ⟨h, _⟩ | ⟨g2, cap2, cur, h, _⟩
    · simp at h
    · simp only [Value.slice.injEq] at h; exact h.2.1
  subst hn
  have a1 := World.ownsRow.stored (w := w.drewN q) (h1 : w.ownsRow 0 46 1 (.slice (some ⟨g, 0, none⟩) l.length cap) l.length (ns .u16 l)) i (.int .u16 (l.getD k 0 : Nat))
  have a2 := World.ownsRow.stored a1.1 k (.int .u16 (l.getD i 0 : Nat))
  have e : ((ns .u16 l).set i (.int .u16 (l.getD k 0 : Nat))).set k (.int .u16 (l.getD i 0 : Nat)) = ns .u16 (swl l i k) := by
    unfold swl ns
    rw [List.map_set, List.map_set]
  rw [e] at a2
  have hgr : w.grownBy ((((w.drewN q).setCell ⟨g, i, none⟩ (.int .u16 (l.getD k 0 : Nat))).setCell ⟨g, k, none⟩ (.int .u16 (l.getD i 0 : Nat))).drewN q') (some g) :=
    grown_drewN ((grown_drewN (grown_refl w (some g)) q).trans (a1.2.trans a2.2)) q'
  refine ⟨⟨?_, h2, fun j hj => Nat.lt_of_lt_of_le (h3 j hj) hgr.size⟩, Kp.grown hgr (fun g2 hg2 => by injection hg2 with e; rw [← e]; exact h2 g rfl), fun j hj => .inl hj⟩
  show World.ownsRow _ 0 _ 1 (.slice (some ⟨g, 0, none⟩) l.length cap) (swl l i k).length (ns .u16 (swl l i k))
  rw [swl_len]
  exact a2.1
theorem Now.assoc {W w : World} {R1 R2 R3 : World → (Nat → Prop) → Prop} (h : Now W w (star (star R1 R2) R3)) : Now W w (star R1 (star R2 R3)) := by
  obtain ⟨F, ⟨F0, F3, ⟨F1, F2, r1, r2, hd, i1, i2, hb⟩, r3, hd2, j1, j2, hb2⟩, h1, h2, h3⟩ := h
  refine ⟨F, ⟨F1, fun k => F2 k ∨ F3 k, r1, ⟨F2, F3, r2, r3, fun k h h' => hd2 k (i2 k h) h', fun k h => .inl h, fun k h => .inr h, fun k hk => ?_⟩, fun k h h' => ?_, fun k h => j1 k (i1 k h), fun k hk => ?_, hb2⟩, h1, h2, h3⟩
  · rcases hk with h | h
    · exact hb k (i2 k h)
    · exact hb2 k (j2 k h)
  · rcases h' with h' | h'
    · exact hd k h h'
    · exact hd2 k (i1 k h) h'
  · rcases hk with h | h
    · exact j1 k (i2 k h)
    · exact j2 k h
theorem Now.orow {W w : World} {R1 R2 : World → (Nat → Prop) → Prop} {v : Value} {l : List Nat} (h : Now W w (star R1 (star (OA v l) R2))) : Ir .u16 46 w v l := by
  obtain ⟨F, ⟨h, _⟩, _⟩ := h.right.left
  exact h
/-- One more is counted. -/
theorem ma_put {W w w' : World} {R : World → (Nat → Prop) → Prop} {m n : Nat} {D D' : DataW Unit} (hR : Fr R) (h : Now W w (star (MA m D) R)) (ho : w'.ownsMap Try.prog 22 (plainElem Try.prog 3) m n D') (hg : w.grownBy w' (some m)) : Now W w' (star (MA m D') R) := by
  obtain ⟨F1, r1, hp⟩ := h.part hR
  exact hp w' F1 (MA m D') ⟨Kp.grown hg (fun g hg2 => by injection hg2 with e; rw [← e]; exact r1.2.1), fun k hk => .inl hk⟩ ⟨owns_tight ho, r1.2.1, fun k hk => Nat.lt_of_lt_of_le (r1.2.2 k hk) hg.size⟩ (fun k hk => Nat.lt_of_lt_of_le (r1.2.2 k hk) hg.size)
theorem Now.mown {W w : World} {R : World → (Nat → Prop) → Prop} {m : Nat} {D : DataW Unit} (h : Now W w (star (MA m D) R)) : w.ownsMap Try.prog 22 (plainElem Try.prog 3) m (Maps.size D) D := by
  obtain ⟨F, ⟨h, _⟩, _⟩ := h.left
  exact h
section
variable {W w : World} {M O B A : World → (Nat → Prop) → Prop}
/-- The map, the row, the one set, the other: which lies in front. -/
theorem Now.toB (h : Now W w (star M (star O (star B A)))) : Now W w (star B (star A (star M O))) := h.rot.rot.comm.assoc.rot.rot.assoc
end
end Go.Proofs.Ytkjepopmlpfnpaa
