/-
  A joiner as it lies in memory.
-/
import Derived.Test.YthgbngnhlgaioaaStar
import Derived.Test.YthgbngnhlgaioaaByt
import Derived.Test.YthgbngnhlgaioaaFgPlain
namespace Go.Proofs.Ythgbngnhlgaioaa
set_option maxRecDepth 4000
open Go.RowKit Go.Maps
namespace Fg
set_option linter.unusedVariables false

theorem law32 : Keyed Try.prog 23 := int_keyed Try.underlying23
theorem wf32 {t : Nat} (h : t < 4294967296) : (Lit.int .u32 (t : Int)).wf = true := by
  simp [Lit.wf, IntKind.min, IntKind.max, IntKind.signed, IntKind.bits]
  omega
theorem key32 {t : Nat} (h : t < 4294967296) : keyOf Try.prog 23 (.int .u32 (t : Int)) = some (.int .u32 (t : Int)) := keyOf_int_mk Try.underlying23 (wf32 h)
/-- An element reads as itself. -/
def tok (v : Value) : Option (DataW Value × List MemPlace) := some (.held v, [])
theorem tok_inj {v v' : Value} {ps : List MemPlace} (h : tok v = some (.held v', ps)) : v = v' := by
  simp [tok] at h
  exact h.1
/-- A piece as a value. -/
def pv (x : Pc) (A : Option Addr) (k c : Nat) : Array Value := #[.int .u32 (x.t : Int), .int .u8 (x.f : Int), .int .u16 (x.s : Int), .int .u16 (x.n : Int), .int .u32 (x.p : Int), .slice A k c]
def zpc : Value := .agg #[.int .u32 0, .int .u8 0, .int .u16 0, .int .u16 0, .int .u32 0, .slice none 0 0]
theorem zeroP (w : World) : (zeroValue 38).run Try.prog w = .ok zpc w := by kernel_rfl
theorem field1 (w : World) (v0 v1 v2 v3 v4 v5 : Value) (h : v1.oneCell' = true) : (Instr.field 38 (.agg #[v0, v1, v2, v3, v4, v5]) 1).run Try.prog w = .ok v1 w := by
  cases v1 <;> first | kernel_rfl | (simp [Value.oneCell'] at h)
theorem field5 (w : World) (v0 v1 v2 v3 v4 v5 : Value) (h : v5.oneCell' = true) : (Instr.field 38 (.agg #[v0, v1, v2, v3, v4, v5]) 5).run Try.prog w = .ok v5 w := by
  cases v5 <;> first | kernel_rfl | (simp [Value.oneCell'] at h)
/-- A slice that reads as bytes, in blocks of F. -/
structure Sl (w : World) (F : Nat → Prop) (A : Option Addr) (k c : Nat) (l : List Int) : Prop where
  len : l.length = k
  row : Row w A (bs l)
  nil : A = none → k = 0 ∧ c = 0
  ins : ∀ a, A = some a → F a.block
theorem Sl.frame {W W' : World} {F G : Nat → Prop} {A : Option Addr} {k c : Nat} {l : List Int} (h : Sl W G A k c l) (hk : Kp W W' F) (hd : ∀ b, G b → ¬ F b) : Sl W' G A k c l :=
  ⟨h.len, Row.frame h.row hk (fun a e => hd _ (h.ins a e)), h.nil, h.ins⟩
theorem Sl.mono {w : World} {F G : Nat → Prop} {A : Option Addr} {k c : Nat} {l : List Int} (h : Sl w F A k c l) (hi : ∀ b, F b → G b) : Sl w G A k c l := ⟨h.len, h.row, h.nil, fun a e => hi _ (h.ins a e)⟩
def kl (t : Nat) : Lit := .int .u32 (t : Int)
theorem kl_is (t : Nat) : WideAt.IsKeyLit (kl t) := by simp [kl, WideAt.IsKeyLit]
theorem kl_ne {t t' : Nat} (h : t' ≠ t) : kl t' ≠ kl t := by
  intro e
  unfold kl at e
  injection e with _ e
  exact h (by exact_mod_cast e)
/-- The map of what is kept. -/
structure View (D : DataW Value) (K : List Pc) (w : World) (F : Nat → Prop) : Prop where
  size : Maps.size D = K.length
  none : ∀ t, look K t = none → Maps.has D (kl t) = false
  some : ∀ t x, look K t = some x → Maps.has D (kl t) = true ∧ ∃ A k c, (∀ z, D.atKey (kl t) z = .held (.agg (pv x A k c))) ∧ Sl w F A k c x.d
theorem View.frame {W W' : World} {D : DataW Value} {K : List Pc} {F G : Nat → Prop} (h : View D K W G) (hk : Kp W W' F) (hd : ∀ b, G b → ¬ F b) : View D K W' G :=
  ⟨h.size, h.none, fun t x hx => by obtain ⟨h1, A, k, c, h2, h3⟩ := h.some t x hx; exact ⟨h1, A, k, c, h2, h3.frame hk hd⟩⟩
theorem View.mono {D : DataW Value} {K : List Pc} {w : World} {F G : Nat → Prop} (h : View D K w F) (hi : ∀ b, F b → G b) : View D K w G :=
  ⟨h.size, h.none, fun t x hx => by obtain ⟨h1, A, k, c, h2, h3⟩ := h.some t x hx; exact ⟨h1, A, k, c, h2, h3.mono hi⟩⟩
theorem view_nil (w : World) (F : Nat → Prop) : View (.map []) [] w F := ⟨rfl, fun t _ => rfl, fun t x h => by cases h⟩
theorem view_put {D : DataW Value} {K : List Pc} {w : World} {F : Nat → Prop} (h : View D K w F) (hT : Tidy D) (x : Pc) (hx : look K x.t = Option.none) {A : Option Addr} {k c : Nat} (hs : Sl w F A k c x.d) :
    View (D.put (kl x.t) (.held (.agg (pv x A k c)))) (K ++ [x]) w F := by
  refine ⟨?_, fun t ht => ?_, fun t y hy => ?_⟩
  · rw [size_put hT, h.none _ hx, h.size]
    simp
  · rw [look_app] at ht
    split at ht
    · rename_i e
      rw [ht] at e
      cases e
    · rename_i e
      split at ht
      · cases ht
      · rename_i e2
        have hn : look K t = Option.none := by simpa using e
        rw [has_put_other (kl_ne (fun e => e2 e.symm))]
        exact h.none t hn
  · rw [look_app] at hy
    split at hy
    · have hne : t ≠ x.t := fun e => by rw [e, hx] at hy; cases hy
      obtain ⟨h1, A', k', c', h2, h3⟩ := h.some t y hy
      exact ⟨by rw [has_put_other (kl_ne hne)]; exact h1, A', k', c', fun z => by rw [atKey_put_other (kl_ne hne)]; exact h2 z, h3⟩
    · split at hy
      · rename_i e2
        injection hy with hy
        subst hy
        rw [← e2]
        exact ⟨has_put_same hT.isMap (kl_is _) _, A, k, c, fun z => atKey_put_same hT.isMap (kl_is _) _ z, hs⟩
      · cases hy
theorem view_del {D : DataW Value} {K : List Pc} {w : World} {F : Nat → Prop} (h : View D K w F) (hT : Tidy D) (ha : Apart K) (t : Nat) : View (D.del (kl t)) (del K t) w F := by
  refine ⟨?_, fun t' ht => ?_, fun t' y hy => ?_⟩
  · cases hl : look K t with
    | none => rw [del_of_not_has (h.none t hl), del_of_none hl, h.size]
    | some x =>
      have h1 := (del_of_some ha hl).2
      have h2 := size_del hT (k := kl t)
      rw [(h.some t x hl).1, h.size] at h2
      simp at h2
      omega
  · by_cases e : t' = t
    · subst e
      exact has_del_same
    · rw [look_del_other e] at ht
      rw [has_del_other (kl_ne e)]
      exact h.none t' ht
  · by_cases e : t' = t
    · subst e
      rw [look_del_same] at hy
      cases hy
    · rw [look_del_other e] at hy
      obtain ⟨h1, A', k', c', h2, h3⟩ := h.some t' y hy
      exact ⟨by rw [has_del_other (kl_ne e)]; exact h1, A', k', c', fun z => by rw [atKey_del_other (kl_ne e)]; exact h2 z, h3⟩
/-- The map, in block m. -/
def MK (m : Nat) (K : List Pc) (w : World) (F : Nat → Prop) : Prop :=
  ∃ D, w.ownsMap Try.prog 23 tok m K.length D ∧ View D K w F ∧ F m ∧ Apart K ∧ ∀ k, F k → k < w.heap.size
theorem MK_fr (m : Nat) (K : List Pc) : Fr (MK m K) := ⟨fun w w' F G ⟨D, h, hv, h2, ha, h3⟩ hk hd => ⟨D, by
    obtain ⟨es, clock, hh, r⟩ := h
    exact ⟨es, clock, (hk.block m (h3 m h2) (hd m h2)).trans hh, r⟩, hv.frame hk hd, h2, ha, fun k hk2 => Nat.lt_of_lt_of_le (h3 k hk2) hk.size⟩, fun w F ⟨D, h, hv, h2, ha, h3⟩ => h3⟩
theorem mk_new (w : World) : MK w.heap.size [] (w.alloc (.map #[] 0)) (fun k => k = w.heap.size) := ⟨_, World.ownsMap_made w _ _ _, view_nil _ _, rfl, List.Pairwise.nil, fun k hk => by subst hk; simp⟩
theorem mk_none {m : Nat} {K : List Pc} {w : World} {F : Nat → Prop} (h : MK m K w F) {t : Nat} (ht : t < 4294967296) (hl : look K t = none) :
    (Instr.lookup 91 (.map (some m)) (.int .u32 (t : Int)) false).run Try.prog w = .ok zpc w ∧
      (Instr.lookup 91 (.map (some m)) (.int .u32 (t : Int)) true).run Try.prog w = .ok (.tuple #[zpc, .bool false]) w := by
  obtain ⟨D, h, hv, _⟩ := h
  have hn := hv.none t hl
  have at0 : D.atKey (kl t) (.held zpc) = .held zpc := atKey_of_not_has hn _
  obtain ⟨v, ps, h1, h2⟩ := h.lookup law32 Try.underlying91 (zeroP w) (zd := .held zpc) (zp := []) rfl (key32 ht)
  obtain ⟨v', ps', h3, h4⟩ := h.look_ok law32 Try.underlying91 (zeroP w) (zd := .held zpc) (zp := []) rfl (key32 ht)
  have e1 : v = zpc := by
    have : tok v = some (D.atKey (kl t) (.held zpc), ps) := h2
    rw [at0] at this
    exact tok_inj this
  have e2 : v' = zpc := by
    have : tok v' = some (D.atKey (kl t) (.held zpc), ps') := h4
    rw [at0] at this
    exact tok_inj this
  have hn' : Maps.has D (.int .u32 (t : Int)) = false := hn
  rw [e1] at h1
  rw [e2, hn'] at h3
  exact ⟨h1, h3⟩
theorem mk_at {m : Nat} {K : List Pc} {w : World} {F : Nat → Prop} (h : MK m K w F) {t : Nat} {x : Pc} (ht : t < 4294967296) (hl : look K t = some x) :
    ∃ A k c, Sl w F A k c x.d ∧ ∀ w' : World, w'.heap[m]? = w.heap[m]? → (Instr.lookup 91 (.map (some m)) (.int .u32 (t : Int)) false).run Try.prog w' = .ok (.agg (pv x A k c)) w' ∧
      (Instr.lookup 91 (.map (some m)) (.int .u32 (t : Int)) true).run Try.prog w' = .ok (.tuple #[.agg (pv x A k c), .bool true]) w' := by
  obtain ⟨D, h, hv, _⟩ := h
  obtain ⟨hh, A, k, c, hat, hs⟩ := hv.some t x hl
  refine ⟨A, k, c, hs, fun w' hw => ?_⟩
  have h' : w'.ownsMap Try.prog 23 tok m K.length D := by
    obtain ⟨es, clock, hb, r⟩ := h
    exact ⟨es, clock, hw.trans hb, r⟩
  obtain ⟨v, ps, h1, h2⟩ := h'.lookup law32 Try.underlying91 (zeroP w') (zd := .held zpc) (zp := []) rfl (key32 ht)
  obtain ⟨v', ps', h3, h4⟩ := h'.look_ok law32 Try.underlying91 (zeroP w') (zd := .held zpc) (zp := []) rfl (key32 ht)
  have e1 : v = .agg (pv x A k c) := by
    have : tok v = some (D.atKey (kl t) (.held zpc), ps) := h2
    rw [hat] at this
    exact tok_inj this
  have e2 : v' = .agg (pv x A k c) := by
    have : tok v' = some (D.atKey (kl t) (.held zpc), ps') := h4
    rw [hat] at this
    exact tok_inj this
  have hn' : Maps.has D (.int .u32 (t : Int)) = true := hh
  rw [e1] at h1
  rw [e2, hn'] at h3
  exact ⟨h1, h3⟩
theorem mk_some {m : Nat} {K : List Pc} {w : World} {F : Nat → Prop} (h : MK m K w F) {t : Nat} {x : Pc} (ht : t < 4294967296) (hl : look K t = some x) :
    ∃ A k c, Sl w F A k c x.d ∧ (Instr.lookup 91 (.map (some m)) (.int .u32 (t : Int)) false).run Try.prog w = .ok (.agg (pv x A k c)) w ∧
      (Instr.lookup 91 (.map (some m)) (.int .u32 (t : Int)) true).run Try.prog w = .ok (.tuple #[.agg (pv x A k c), .bool true]) w := by
  obtain ⟨A, k, c, hs, h⟩ := mk_at h ht hl
  exact ⟨A, k, c, hs, h w rfl⟩
theorem MK.alloc {m : Nat} {K : List Pc} {W : World} {F : Nat → Prop} (h : MK m K W F) (o : Obj) : MK m K (W.alloc o) F :=
  (MK_fr m K).frame W _ (fun _ => False) F h (Kp.below ((Below.refl _ _).alloc (Nat.le_refl _) _)) (fun _ _ e => e)
theorem MK.lt {m : Nat} {K : List Pc} {w : World} {F : Nat → Prop} (h : MK m K w F) : m < w.heap.size := by
  obtain ⟨D, h, _⟩ := h
  exact h.lt
/-- .. in all worlds with one block more. -/
theorem mk_some' {m : Nat} {K : List Pc} {w : World} {F : Nat → Prop} (h : MK m K w F) {t : Nat} {x : Pc} (ht : t < 4294967296) (hl : look K t = some x) :
    ∃ A k c, Sl w F A k c x.d ∧ (∀ o, (Instr.lookup 91 (.map (some m)) (.int .u32 (t : Int)) false).run Try.prog (w.alloc o) = .ok (.agg (pv x A k c)) (w.alloc o)) ∧
      ∀ o, (Instr.lookup 91 (.map (some m)) (.int .u32 (t : Int)) true).run Try.prog (w.alloc o) = .ok (.tuple #[.agg (pv x A k c), .bool true]) (w.alloc o) := by
  have hlt := h.lt
  obtain ⟨A, k, c, hs, h⟩ := mk_at h ht hl
  have e : ∀ o, (w.alloc o).heap[m]? = w.heap[m]? := fun o => ((Below.refl w.heap.size w).alloc (Nat.le_refl _) o).block _ hlt
  exact ⟨A, k, c, hs, fun o => (h _ (e o)).1, fun o => (h _ (e o)).2⟩
/-- The joiner, in block j. -/
def JB (j : Nat) (h : Int) (K : List Pc) (w : World) (F : Nat → Prop) : Prop :=
  ∃ m, Bk w j #[.map (some m), .int .i64 h] 93 ∧ MK m K w F ∧ F j ∧ (∀ x ∈ K, x.Ok)
theorem JB_fr (j : Nat) (h : Int) (K : List Pc) : Fr (JB j h K) := ⟨fun w w' F G ⟨m, h, hm, hf, ho⟩ hk hd => ⟨m, (hk.block j ((MK_fr m K).bound _ _ hm j hf) (hd j hf)).trans h, (MK_fr m K).frame w w' F G hm hk hd, hf, ho⟩, fun w F ⟨m, h, hm, hf, ho⟩ => (MK_fr m K).bound _ _ hm⟩
theorem JB.cells {j : Nat} {x : Int} {K : List Pc} {w : World} {F : Nat → Prop} (h : JB j x K w F) :
    ∃ m, w.cell? ⟨j, 0, none⟩ = some (.map (some m)) ∧ w.cell? ⟨j, 1, none⟩ = some (.int .i64 x) ∧ MK m K w F ∧ w.frozen? ⟨j, 1, none⟩ = false := by
  obtain ⟨m, hb, hm, _⟩ := h
  exact ⟨m, (hb.cell 0).trans rfl, (hb.cell 1).trans rfl, hm, hb.frozen 1⟩
def JA (j : Nat) (K : List Pc) : World → (Nat → Prop) → Prop := JB j (held K : Int) K
theorem JA_fr (j : Nat) (K : List Pc) : Fr (JA j K) := JB_fr j _ K
theorem JB.next {j : Nat} {x : Int} {K : List Pc} {W W' : World} {F : Nat → Prop} (h : JB j x K W F) (hb : Below W.heap.size W W') : JB j x K W' F := (JB_fr j x K).frame W W' (fun _ => False) F h (Kp.below hb) (fun _ _ e => e)
theorem JA.next {j : Nat} {K : List Pc} {W W' : World} {F : Nat → Prop} (h : JA j K W F) (hb : Below W.heap.size W W') : JA j K W' F := JB.next h hb
theorem JB.lt {j : Nat} {x : Int} {K : List Pc} {W : World} {F : Nat → Prop} (h : JB j x K W F) {k : Nat} (hk : F k) : k < W.heap.size := (JB_fr j x K).bound W F h k hk
/-- An element goes. -/
theorem mk_drop {m : Nat} {K : List Pc} {w : World} {F : Nat → Prop} (h : MK m K w F) {t : Nat} {x : Pc} (ht : t < 4294967296) (hx : look K t = some x) (ty : TypeId) :
    ∃ w', (Builtin.delete_ #[91, 23] ty #[.map (some m), .int .u32 (t : Int)]).run Try.prog w = .ok (.tuple #[]) w' ∧ MK m (del K t) w' F ∧ w.grownBy w' (some m) := by
  obtain ⟨D, h, hv, hf, ha, hlt⟩ := h
  obtain ⟨w', h1, h2, h3⟩ := h.drop law32 Try.underlying91 (key32 ht) ty
  have hv2 := view_del hv (h.tidy law32) ha t
  have hk : Kp w w' (fun k => k = m) := Kp.grown h3.grown (fun g e => by injection e with e; exact e.symm)
  refine ⟨w', h1, ⟨_, by rw [← hv2.size]; exact owns_tight h2, ⟨hv2.size, hv2.none, fun t' y hy => ?_⟩, hf, apart_del ha t, fun k hk2 => Nat.lt_of_lt_of_le (hlt k hk2) hk.size⟩, h3.grown⟩
  obtain ⟨g1, A, k, c, g2, g3⟩ := hv2.some t' y hy
  obtain ⟨es, clock, hh⟩ := owns_block h
  refine ⟨g1, A, k, c, g2, g3.len, ?_, g3.nil, g3.ins⟩
  refine Row.keep g3.row fun p v hp => ?_
  by_cases e : p.block = m
  · unfold World.cell? at hp
    rw [e, hh] at hp
    cases hp
  · rw [World.cell?_of_block (w := w) (w' := w') (a := p) (hk.block _ (block_lt_of_cell hp) e)]
    exact hp
/-- An element comes. -/
theorem mk_put {m : Nat} {K : List Pc} {w : World} {F : Nat → Prop} (h : MK m K w F) (x : Pc) (hx : look K x.t = none) (hok : x.t < 4294967296) (hn : K.length < 1000000000) {A : Option Addr} {k c : Nat} (hs : Sl w F A k c x.d) :
    ∃ w', (Instr.mapUpdate 91 (.map (some m)) (.int .u32 (x.t : Int)) (.agg (pv x A k c))).run Try.prog w = .ok () w' ∧ MK m (K ++ [x]) w' F ∧ w.grownBy w' (some m) := by
  obtain ⟨D, h, hv, hf, ha, hlt⟩ := h
  obtain ⟨w', h1, h2, h3⟩ := h.store law32 Try.underlying91 (by unfold maxLen; omega) (key32 hok) (val := .agg (pv x A k c)) (d := .held (.agg (pv x A k c))) (ps := []) rfl
  have hv2 := view_put hv (h.tidy law32) x hx hs
  have hk : Kp w w' (fun k => k = m) := Kp.grown h3.grown (fun g e => by injection e with e; exact e.symm)
  refine ⟨w', h1, ⟨_, by rw [← hv2.size]; exact owns_tight h2, ⟨hv2.size, hv2.none, fun t' y hy => ?_⟩, hf, apart_app ha hx, fun k hk2 => Nat.lt_of_lt_of_le (hlt k hk2) hk.size⟩, h3.grown⟩
  obtain ⟨g1, A, k, c, g2, g3⟩ := hv2.some t' y hy
  obtain ⟨es, clock, hh⟩ := owns_block h
  refine ⟨g1, A, k, c, g2, g3.len, ?_, g3.nil, g3.ins⟩
  refine Row.keep g3.row fun p v hp => ?_
  by_cases e : p.block = m
  · unfold World.cell? at hp
    rw [e, hh] at hp
    cases hp
  · rw [World.cell?_of_block (w := w) (w' := w') (a := p) (hk.block _ (block_lt_of_cell hp) e)]
    exact hp
end Fg
end Go.Proofs.Ythgbngnhlgaioaa
