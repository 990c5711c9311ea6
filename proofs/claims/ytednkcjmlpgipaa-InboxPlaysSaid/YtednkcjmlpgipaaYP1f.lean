/-
  The document's Put over memory.
-/
import Derived.Test.YtednkcjmlpgipaaYP1e
import Derived.Test.YtednkcjmlpgipaaYDjWhole
import Derived.Test.YtednkcjmlpgipaaYP1a
import Derived.Deep.RegionLaw
import Derived.Deep.AppendLies
import Derived.Deep.CutRange
namespace Go.Proofs.Ytednkcjmlpgipaa
set_option maxRecDepth 4000
open Go.RowKit Go.Maps
namespace Fg
set_option linter.unusedVariables false
set_option linter.unusedSimpArgs false

/-- An append of one piece: where the row lies then. -/
theorem pl_reg {w : World} {ops : Array Oper} {o : Oper} {a : Act} {K : Act → World → Prop} {Q : Exit → Act → World → Prop} {E : Prop} (hgd : o.guard = none) (s x : Operand)
    (ho : o.op = .call { callee := .builtin .append, args := #[s, x], argTypes := #[66, 66] }) (A0 : Option Addr) (n c0 : Nat) (qs : List Pq) (hs : a.eval s = .slice A0 n c0) (hown : w.ownsRow 0 33 6 (.slice A0 n c0) n (pf qs))
    (b c : Nat) (q : Pq) (hx : a.eval x = .slice (some ⟨b, 0, none⟩) 1 c) (hr : Row w (some ⟨b, 0, none⟩) (pcl q)) (hb : n ≤ 1000) (H : Nat) (hH : w.heap.size = H)
    (h : ∀ g c' w', w'.ownsRow 0 33 6 (.slice (some ⟨g, 0, none⟩) (n + 1) c') (n + 1) (pf (qs ++ [q])) → w.grownBy w' (Value.slice A0 n c0).ownBlock → ((Value.slice A0 n c0).ownBlock = some g ∨ g = H) → K (a.put o.dst (.slice (some ⟨g, 0, none⟩) (n + 1) c')) w') :
    if Region.wanted o (yielded ops a.tmps) = true then Oper.wp Try.prog o a w K Q else E := by
  obtain ⟨i0, hi0, hz0, hz1, hz2⟩ := info_parts infoP
  refine step_append_lies w hgd s x 66 ho 0 33 i0 _ 6 40 Try.underlying66 hi0 hz0 hz1 hz2 rfl (by omega) _ n (pf qs) hs hown ⟨b, 0, none⟩ 1 c (pcl q) hx rfl (bcells hr) (fun u hu => pf_one [q] u (by simpa [pf] using hu)) (by omega) (by unfold maxLen; omega) (by omega) (Nat.zero_le _) H hH ?_
  intro g cap w' h1 h2 h3 _
  refine h g cap w' ?_ h2 h3
  rw [pf_app, show pf [q] = pcl q by simp [pf]]
  exact h1
theorem pcq_pcs (ps : List Pq) : pcs ps = pcq ps := rfl
/-- Inside of Put: the joiner, the piece in a block, the answer's block. -/
structure PU (W0 : World) (F0 : Nat → Prop) (j : Nat) (x : Pq) (A : Option Addr) (n c : Nat) (qs : List Pq) (w : World) (F : Nat → Prop) : Prop where
  jo : DO w F j A n c qs
  mv : Mv W0 F0 w F
  bp : Bk w W0.heap.size #[.int .u32 (x.1.t : Int), .int .u8 (x.1.f : Int), .int .u16 (x.1.s : Int), .int .u16 (x.1.n : Int), .int .u32 (x.1.p : Int), .slice x.2.1 x.2.2.1 x.2.2.2] 33
  bm : Bk w (W0.heap.size + 1) #[.int .u16 0, .bool false, .int .u32 0, .slice none 0 0] 39
  np : ¬ F W0.heap.size
  nm : ¬ F (W0.heap.size + 1)
section
variable {W0 w w' : World} {F0 F F' : Nat → Prop} {j : Nat} {x : Pq} {A A' : Option Addr} {n c n' c' : Nat} {qs qs' : List Pq}
theorem grown_of_below' {w w' : World} (h : Below w.heap.size w w') (row : Option Nat) : w.grownBy w' row := ⟨h.os, h.tape, h.output, h.size, fun k hk _ => h.block k hk⟩
theorem PU.next (h : PU W0 F0 j x A n c qs w F) (hb : Below w.heap.size w w') : PU W0 F0 j x A n c qs w' F :=
  ⟨h.jo.next hb, ⟨h.mv.1.trans (F' := fun _ => False) (Kp.below hb) (fun _ e => e.elim), h.mv.2⟩, h.bp.next hb, h.bm.next hb, h.np, h.nm⟩
theorem PU.start (h : DO W0 F0 j A n c qs) (hx : True) : PU W0 F0 j x A n c qs ((W0.alloc (.cells #[.int .u32 (x.1.t : Int), .int .u8 (x.1.f : Int), .int .u16 (x.1.s : Int), .int .u16 (x.1.n : Int), .int .u32 (x.1.p : Int), .slice x.2.1 x.2.2.1 x.2.2.2] 33)).alloc (.cells #[.int .u16 0, .bool false, .int .u32 0, .slice none 0 0] 39)) F0 := by
  have hb : Below W0.heap.size W0 ((W0.alloc (.cells #[.int .u32 (x.1.t : Int), .int .u8 (x.1.f : Int), .int .u16 (x.1.s : Int), .int .u16 (x.1.n : Int), .int .u32 (x.1.p : Int), .slice x.2.1 x.2.2.1 x.2.2.2] 33)).alloc (.cells #[.int .u16 0, .bool false, .int .u32 0, .slice none 0 0] 39)) := ((Below.refl _ _).alloc (Nat.le_refl _) _).alloc (by simp) _
  refine ⟨h.next hb, ⟨Kp.below hb, fun k hk => .inl hk⟩, (Bk.new _ _ _).alloc _, ?_, fun e => by have := h.fb _ e; omega, fun e => by have := h.fb _ e; omega⟩
  have := Bk.new (W0.alloc (.cells #[.int .u32 (x.1.t : Int), .int .u8 (x.1.f : Int), .int .u16 (x.1.s : Int), .int .u16 (x.1.n : Int), .int .u32 (x.1.p : Int), .slice x.2.1 x.2.2.1 x.2.2.2] 33)) #[.int .u16 0, .bool false, .int .u32 0, .slice none 0 0] 39
  simpa using this
/-- The row is put anew: it lies in the old row's block, or in a new one. -/
theorem PU.put (h : PU W0 F0 j x A n c qs w F) (hg : w.grownBy w' (Value.slice A n c).ownBlock) (ho : w'.ownsRow 0 33 6 (.slice A' n' c') n' (pf qs')) (hw : ∀ g, (Value.slice A' n' c').ownBlock = some g → (Value.slice A n c).ownBlock = some g ∨ w.heap.size ≤ g) (hl : qs'.length = n') (hm : n' ≤ 1000) :
    ∃ F', PU W0 F0 j x A' n' c' qs' (w'.setCell ⟨j, 0, none⟩ (.slice A' n' c')) F' ∧ (∀ k, F' k → F k ∨ w.heap.size ≤ k) ∧ Kp w (w'.setCell ⟨j, 0, none⟩ (.slice A' n' c')) F := by
  obtain ⟨⟨bk, own, len, most, fj, fo, fb⟩, mv, bp, bm, np, nm⟩ := h
  have hjo : (Value.slice A n c).ownBlock ≠ some j := own_off own bk (by decide)
  have bk2 : Bk w' j #[.slice A n c] 103 := bk.kept hg (fun e => hjo e.symm)
  have hs := setc_grown w' j 0 (.slice A' n' c')
  have hk1 : Kp w w' F := Kp.grown hg (fun g e => fo g e)
  have hk2 : Kp w (w'.setCell ⟨j, 0, none⟩ (.slice A' n' c')) F := hk1.trans (F' := F) (Kp.grown hs (fun g e => by cases e; exact fj)) (fun b hb => .inl hb)
  have hne : (Value.slice A' n' c').ownBlock ≠ some j := own_off ho bk2 (by decide)
  have hps : W0.heap.size < w.heap.size := bp.lt
  have hms : W0.heap.size + 1 < w.heap.size := bm.lt
  have hW := mv.1.size
  have hsz : (w'.setCell ⟨j, 0, none⟩ (.slice A' n' c')).heap.size = w'.heap.size := by simp [World.setCell]
  refine ⟨fun k => F k ∨ (w.heap.size ≤ k ∧ k < w'.heap.size), ⟨⟨bk2.set 0 _, own_keep ho (Kp.grown (F := fun k => k = j) hs (fun g e => by cases e; rfl)) (fun g e h => hne (by rw [e, h])), hl, hm, .inl fj, fun g e => ?_, fun k hk => ?_⟩, ⟨mv.1.trans (F' := F) hk2 (fun b hb => mv.2 b hb), fun k hk => ?_⟩, ?_, ?_, ?_, ?_⟩, fun k hk => ?_, hk2⟩
  · rcases hw g e with h1 | h1
    · exact .inl (fo g h1)
    · exact .inr ⟨h1, (World.ownsRow.lt ho g e).2⟩
  · rw [hsz]
    rcases hk with h1 | h1
    · exact Nat.lt_of_lt_of_le (fb k h1) hg.size
    · exact h1.2
  · rcases hk with h1 | h1
    · exact mv.2 k h1
    · exact .inr (by omega)
  · exact (hk2.block _ hps np).trans bp
  · exact (hk2.block _ hms nm).trans bm
  · rintro (h1 | h1)
    · exact np h1
    · omega
  · rintro (h1 | h1)
    · exact nm h1
    · omega
  · rcases hk with h1 | h1
    · exact .inl h1
    · exact .inr h1.1
/-- Something else is turned. -/
theorem PU.far {r : Option Nat} (h : PU W0 F0 j x A n c qs w F) (hg : w.grownBy w' r) (hr : ∀ g, r = some g → ¬ F g ∧ W0.heap.size + 1 < g) : PU W0 F0 j x A n c qs w' F := by
  have hk : Kp w w' (fun k => r = some k) := Kp.grown hg (fun g e => e)
  have hj := h.jo
  exact ⟨⟨hj.bk.kept hg (fun e => (hr j e.symm).1 hj.fj), own_keep hj.own hk (fun g e e2 => (hr g e2).1 (hj.fo g e)), hj.len, hj.most, hj.fj, hj.fo, fun k hk => Nat.lt_of_lt_of_le (hj.fb k hk) hg.size⟩, ⟨h.mv.1.trans hk (fun b e => .inr (by have := hr b e; omega)), h.mv.2⟩, h.bp.kept hg (fun e => by have := hr _ e.symm; omega), h.bm.kept hg (fun e => by have := hr _ e.symm; omega), h.np, h.nm⟩
/-- The answer is laid. -/
theorem PU.setm (h : PU W0 F0 j x A n c qs w F) (v0 v1 v2 v3 : Value) {w9 : World} (e : (((w.setCell ⟨W0.heap.size + 1, 0, none⟩ v0).setCell ⟨W0.heap.size + 1, 1, none⟩ v1).setCell ⟨W0.heap.size + 1, 2, none⟩ v2).setCell ⟨W0.heap.size + 1, 3, none⟩ v3 = w9) :
    DO w9 F j A n c qs ∧ Mv W0 F0 w9 F ∧ (w9.cell? ⟨W0.heap.size + 1, 0, none⟩ = some v0 ∧ w9.cell? ⟨W0.heap.size + 1, 1, none⟩ = some v1 ∧ w9.cell? ⟨W0.heap.size + 1, 2, none⟩ = some v2 ∧ w9.cell? ⟨W0.heap.size + 1, 3, none⟩ = some v3) ∧ w.grownBy w9 (some (W0.heap.size + 1)) := by
  subst e
  have hb := (((h.bm.set 0 v0).set 1 v1).set 2 v2).set 3 v3
  have hg := (((setc_grown w (W0.heap.size + 1) 0 v0).trans (setc_grown _ (W0.heap.size + 1) 1 v1)).trans (setc_grown _ (W0.heap.size + 1) 2 v2)).trans (setc_grown _ (W0.heap.size + 1) 3 v3)
  have hk : Kp w _ (fun k => k = W0.heap.size + 1) := Kp.grown hg (fun g e => by cases e; rfl)
  have hd : ∀ b, F b → ¬ b = W0.heap.size + 1 := fun b hb e => h.nm (by rw [← e]; exact hb)
  have hj := h.jo
  refine ⟨⟨hj.bk.kept hg (fun e => hd j hj.fj (by cases e; rfl)), own_keep hj.own hk (fun g e => hd g (hj.fo g e)), hj.len, hj.most, hj.fj, hj.fo, fun k hk => Nat.lt_of_lt_of_le (hj.fb k hk) hg.size⟩, ⟨h.mv.1.trans hk (fun b e => .inr (by omega)), h.mv.2⟩, ⟨hb.cell 0, hb.cell 1, hb.cell 2, hb.cell 3⟩, hg⟩
end
end Fg
end Go.Proofs.Ytednkcjmlpgipaa
/-
  The document's Put: a whole row is taken out: what lies in memory.
-/
namespace Go.Proofs.Ytednkcjmlpgipaa
set_option maxRecDepth 4000
open Go.RowKit Go.Maps
namespace Fg
set_option linter.unusedVariables false
set_option linter.unusedSimpArgs false

theorem rows_apart {W : World} {b b' s s' : Nat} {e e' : TypeId} {v v' : Value} {n n' : Nat} {xs xs' : List Value} (h : W.ownsRow b e s v n xs) (h' : W.ownsRow b' e' s' v' n' xs') (hne : e ≠ e') : ∀ g, v.ownBlock = some g → v'.ownBlock ≠ some g := fun g e1 e2 => by
  rcases h.2 with ⟨rfl, _⟩ | ⟨g1, cap, cur, rfl, _, hg, _⟩
  · cases e1
  · rcases h'.2 with ⟨rfl, _⟩ | ⟨g', cap', cur', rfl, _, hg', _⟩
    · cases e2
    · simp only [Value.ownBlock, Option.some.injEq] at e1 e2
      subst e1
      subst e2
      rw [hg'] at hg
      simp at hg
      exact hne hg.2.symm
/-- An append of bytes: where the row lies then. -/
theorem al_reg {w : World} {ops : Array Oper} {o : Oper} {a : Act} {K : Act → World → Prop} {Q : Exit → Act → World → Prop} {E : Prop} (hgd : o.guard = none) (s x : Operand)
    (ho : o.op = .call { callee := .builtin .append, args := #[s, x], argTypes := #[31, 31] }) (B : Nat) (A0 : Option Addr) (n c0 : Nat) (l : List Int) (hs : a.eval s = .slice A0 n c0) (hown : w.ownsRow B 5 1 (.slice A0 n c0) n (bs l))
    (A : Option Addr) (m c : Nat) (l2 : List Int) (hx : a.eval x = .slice A m c) (hl : l2.length = m) (hr : Row w A (bs l2)) (hm : 0 < m) (hb : n + m ≤ 140737488355328) (hbase : B ≤ w.heap.size) (H : Nat) (hH : w.heap.size = H)
    (h : ∀ g c' w', w'.ownsRow B 5 1 (.slice (some ⟨g, 0, none⟩) (n + m) c') (n + m) (bs (l ++ l2)) → w.grownBy w' (Value.slice A0 n c0).ownBlock → ((Value.slice A0 n c0).ownBlock = some g ∨ g = H) → K (a.put o.dst (.slice (some ⟨g, 0, none⟩) (n + m) c')) w') :
    if Region.wanted o (yielded ops a.tmps) = true then Oper.wp Try.prog o a w K Q else E := by
  obtain ⟨i0, hi0, hz0, hz1, hz2⟩ := info_parts Try_info8
  obtain ⟨ad, rfl, _⟩ := hr 0 (.int .u8 (l2.getD 0 0)) (bs_get (by omega))
  refine step_append_lies w hgd s x 31 ho B 5 i0 (.int .u8 0) 1 1 Try.underlying31 hi0 hz0 hz1 hz2 rfl (by omega) _ n (bs l) hs hown ad m c (bs l2) hx (by rw [bs_len, hl]; omega) (bcells hr) (bs_one _) hm (by unfold maxLen; omega) (by omega) hbase H hH ?_
  intro g cap w' h1 h2 h3 _
  exact h g cap w' (by rw [← bs_app]; exact h1) h2 h3
/-- In the loop that takes the row out: iL pieces are out, of iD the bytes are there. -/
structure PV (W : World) (F : Nat → Prop) (j : Nat) (x : Pq) (Q : List Pq) (f : Nat) (ps : List Pq) (B : Option Addr) (k cb g11 : Nat) (s0 : Nat) (u0 : Bool) (p0 : Nat) (iL iD : Nat) (A2 : Option Addr) (n2 c2 : Nat) (D : Option Addr) (dn dc : Nat) (w : World) (F2 : Nat → Prop) : Prop where
  pu : PU W F j x A2 n2 c2 (tq Q f iL) w F2
  ms : Bk w g11 #[.int .u16 (s0 : Int), .bool u0, .int .u32 (p0 : Int), .slice D dn dc] 39
  dt : w.ownsRow W.heap.size 5 1 (.slice D dn dc) dn (bs (tkD (pcq Q) f iD))
  po : w.ownsRow W.heap.size 33 6 (.slice B k cb) k (pf ps)
  g1 : W.heap.size + 1 < g11
  nf : ¬ F2 g11
  nd : ∀ g, (Value.slice D dn dc).ownBlock = some g → ¬ F2 g
  np : ∀ g, (Value.slice B k cb).ownBlock = some g → ¬ F2 g
section
variable {W w w' w8 w9 : World} {F F2 : Nat → Prop} {j : Nat} {x : Pq} {Q : List Pq} {f : Nat} {ps : List Pq} {B : Option Addr} {k cb g11 s0 : Nat} {u0 : Bool} {p0 iL iD : Nat} {A2 A3 : Option Addr} {n2 c2 n3 c3 : Nat} {D : Option Addr} {dn dc : Nat}
theorem PV.next (h : PV W F j x Q f ps B k cb g11 s0 u0 p0 iL iD A2 n2 c2 D dn dc w F2) (hb : Below w.heap.size w w') : PV W F j x Q f ps B k cb g11 s0 u0 p0 iL iD A2 n2 c2 D dn dc w' F2 :=
  ⟨h.pu.next hb, h.ms.next hb, own_below h.dt hb, own_below h.po hb, h.g1, h.nf, h.nd, h.np⟩
theorem PV.data (h : PV W F j x Q f ps B k cb g11 s0 u0 p0 iL iD A2 n2 c2 D dn dc w F2) {g9 N c9 : Nat} {d : List Int} (hd : dat (pcq Q) (fw f iD) = d) (ho : w9.ownsRow W.heap.size 5 1 (.slice (some ⟨g9, 0, none⟩) N c9) N (bs (tkD (pcq Q) f iD ++ d))) (hg : w.grownBy w9 (Value.slice D dn dc).ownBlock) (hat : (Value.slice D dn dc).ownBlock = some g9 ∨ g9 = w.heap.size) :
    PV W F j x Q f ps B k cb g11 s0 u0 p0 iL (iD + 1) A2 n2 c2 (some ⟨g9, 0, none⟩) N c9 (w9.setCell ⟨g11, 3, none⟩ (.slice (some ⟨g9, 0, none⟩) N c9)) F2 := by
  have hne1 : (Value.slice D dn dc).ownBlock ≠ some W.heap.size := own_off h.dt h.pu.bp (by decide)
  have hne2 : (Value.slice D dn dc).ownBlock ≠ some (W.heap.size + 1) := own_off h.dt h.pu.bm (by decide)
  have hne3 : (Value.slice D dn dc).ownBlock ≠ some g11 := own_off h.dt h.ms (by decide)
  have hr : ∀ g, (Value.slice D dn dc).ownBlock = some g → ¬ F2 g ∧ W.heap.size + 1 < g := fun g e => by
    have h1 := (World.ownsRow.lt h.dt g e).1
    refine ⟨h.nd g e, ?_⟩
    have : g ≠ W.heap.size := fun e2 => hne1 (by rw [e, e2])
    have : g ≠ W.heap.size + 1 := fun e2 => hne2 (by rw [e, e2])
    omega
  have pu9 := h.pu.far hg hr
  have ms9 : Bk w9 g11 _ 39 := h.ms.kept hg (fun e => hne3 e.symm)
  have po9 : w9.ownsRow W.heap.size 33 6 (.slice B k cb) k (pf ps) := own_keep h.po (Kp.grown (F := fun b => (Value.slice D dn dc).ownBlock = some b) hg (fun g e => e)) (fun g e e2 => rows_apart h.po h.dt (by decide) g e e2)
  have hs := setc_grown w9 g11 3 (.slice (some ⟨g9, 0, none⟩) N c9)
  have hk : Kp w9 _ (fun b => b = g11) := Kp.grown hs (fun g e => by cases e; rfl)
  have hn9 : (Value.slice (some ⟨g9, 0, none⟩) N c9).ownBlock ≠ some g11 := own_off ho ms9 (by decide)
  refine ⟨pu9.far hs (fun g e => by cases e; exact ⟨h.nf, h.g1⟩), ms9.set 3 _, ?_, own_keep po9 hk (fun g e e2 => own_off po9 ms9 (by decide) (by rw [e, e2])), h.g1, h.nf, fun g e => ?_, h.np⟩
  · have e1 : tkD (pcq Q) f (iD + 1) = tkD (pcq Q) f iD ++ d := by rw [← hd]; rfl
    rw [e1]
    exact own_keep ho hk (fun g e e2 => hn9 (by rw [e, e2]))
  · simp only [Value.ownBlock, Option.some.injEq] at e
    subst e
    rcases hat with h1 | h1
    · exact h.nd _ h1
    · intro h2
      have := h.pu.jo.fb _ h2
      omega
theorem PV.del (h : PV W F j x Q f ps B k cb g11 s0 u0 p0 iL iD A2 n2 c2 D dn dc w F2) (hb : Below w.heap.size w w8) (ho : w8.ownsRow w.heap.size 33 6 (.slice A3 n3 c3) n3 (pf (tq Q f (iL + 1)))) (hl : (tq Q f (iL + 1)).length = n3) (hm : n3 ≤ 1000) :
    ∃ F3, PV W F j x Q f ps B k cb g11 s0 u0 p0 (iL + 1) iD A3 n3 c3 D dn dc (w8.setCell ⟨j, 0, none⟩ (.slice A3 n3 c3)) F3 := by
  obtain ⟨F3, h1, h2, h3⟩ := h.pu.put (grown_of_below' hb _) (own_base ho (Nat.zero_le _)) (fun g e => .inr (World.ownsRow.lt ho g e).1) hl hm
  have l1 := h.ms.lt
  refine ⟨F3, h1, (h3.block _ l1 h.nf).trans h.ms, own_keep h.dt h3 h.nd, own_keep h.po h3 h.np, h.g1, fun e => ?_, fun g e e2 => ?_, fun g e e2 => ?_⟩
  · rcases h2 _ e with h4 | h4
    · exact h.nf h4
    · omega
  · rcases h2 _ e2 with h4 | h4
    · exact h.nd g e h4
    · have := (World.ownsRow.lt h.dt g e).2; omega
  · rcases h2 _ e2 with h4 | h4
    · exact h.np g e h4
    · have := (World.ownsRow.lt h.po g e).2; omega
end
theorem tot_mem : ∀ {Q : List Pq} {q : Pq}, q ∈ Q → q.2.2.1 ≤ tot Q
  | p :: Q, q, h => by
    have e : tot (p :: Q) = p.2.2.1 + tot Q := by simp [tot]
    rw [e]
    rcases List.mem_cons.1 h with rfl | h
    · omega
    · have := tot_mem h
      omega
def lim (i : Nat) : Nat := 1000000000 * i
theorem lim_step (i : Nat) : lim i + 1000000000 = lim (i + 1) := by unfold lim; omega
theorem lim_most {i : Nat} (h : i ≤ 1000) : lim i ≤ 1000000000000 := by unfold lim; omega
theorem tq_next {Q : List Pq} {f i at' : Nat} {t : Nat} (ha : Apart (pcq Q)) (hi : at' < (tq Q f i).length) (ht : (tq Q f i)[at'].1.t = t) (hf : fw f i = t) : [] ++ (tq Q f i).take at' ++ (tq Q f i).drop (at' + 1) = tq Q f (i + 1) := by
  rw [List.nil_append, delq_at hi ht (tq_apart f ha i), ← hf]
  rfl
/-- A row's data. -/
theorem dat_at {Q ps : List Pq} {f i : Nat} (ha : Apart (pcq Q)) (h : TR Q f ps) (hi : i < ps.length) : dat (pcq Q) (fw f i) = ps[i].1.d := by
  obtain ⟨h1, h2⟩ := h i hi
  have := look_of ha (x := ps[i].1) (List.mem_map_of_mem h1)
  rw [h2] at this
  unfold dat
  rw [this]
theorem in_tq {Q ps : List Pq} {f i : Nat} (h : TR Q f ps) (hi : i < ps.length) (hl : ps.length < 100000) : ps[i] ∈ tq Q f i := by
  obtain ⟨h1, h2⟩ := h i hi
  refine tq_mem.2 ⟨h1, fun m hm e => ?_⟩
  rw [h2] at e
  unfold fw at e
  omega
theorem cuts_front {w : World} {A : Option Addr} {qs : List Pq} {c n : Nat} (h : Row w A (pf qs)) (hn : qs.length = n) (hc : n ≤ c) (k : Nat) (hk : k ≤ n) : Row w (cutS A c 0 6) (pf (qs.take k)) := by
  have := h.cutS (c := c) (lo := 0) (hi := k) (sz := 6) (by omega) (by omega)
  rw [Nat.zero_mul, List.drop_zero, pf_take] at this
  exact this
theorem cuts_row {w : World} {A : Option Addr} {qs : List Pq} {c n : Nat} (h : Row w A (pf qs)) (hn : qs.length = n) (hc : n ≤ c) (k : Nat) : Row w (cutS A c k 6) (pf (qs.drop k)) := by
  have := h.cutS (c := c) (lo := k) (hi := n) (sz := 6) hc (by omega)
  rw [List.take_of_length_le (by rw [pf_len, hn]; exact Nat.le_refl _), pf_drop] at this
  exact this
end Fg
end Go.Proofs.Ytednkcjmlpgipaa
