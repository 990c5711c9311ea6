/-
  FragBack: two places of the rows are turned.
-/
import Derived.Test.YthgbngnhlgaioaaFgBackM
namespace Go.Proofs.Ythgbngnhlgaioaa
set_option maxRecDepth 4000
open Go.RowKit Go.Maps
open Fg
set_option linter.unusedVariables false
set_option linter.unusedSimpArgs false

/-- Six cells are stored, one behind the other. -/
def set6 (w : World) (g o : Nat) (v0 v1 v2 v3 v4 v5 : Value) : World := (((((w.setCell ⟨g, o, none⟩ v0).setCell ⟨g, o + 1, none⟩ v1).setCell ⟨g, o + 2, none⟩ v2).setCell ⟨g, o + 3, none⟩ v3).setCell ⟨g, o + 4, none⟩ v4).setCell ⟨g, o + 5, none⟩ v5
theorem pf_set6 : ∀ {qs : List Pq} {i : Nat} (h : i < qs.length) (q : Pq), ((((((pf qs).set (i * 6) (.int .u32 (q.1.t : Int))).set (i * 6 + 1) (.int .u8 (q.1.f : Int))).set (i * 6 + 2) (.int .u16 (q.1.s : Int))).set (i * 6 + 3) (.int .u16 (q.1.n : Int))).set (i * 6 + 4) (.int .u32 (q.1.p : Int))).set (i * 6 + 5) (.slice q.2.1 q.2.2.1 q.2.2.2) = pf (qs.set i q)
  | p :: qs, 0, _, q => by simp [pf, pcl]
  | p :: qs, i + 1, h, q => by
    have ih := pf_set6 (qs := qs) (i := i) (by simpa using h) q
    have e : pf (p :: qs) = pcl p ++ pf qs := by simp [pf]
    have hl : (pcl p).length = 6 := rfl
    have hs : ∀ (l : List Value) (k : Nat) (v : Value), 6 ≤ k → (pcl p ++ l).set k v = pcl p ++ l.set (k - 6) v := fun l k v hk => by
      rw [List.set_append_right _ _ (by omega), hl]
    rw [e, hs _ _ _ (by omega), hs _ _ _ (by omega), hs _ _ _ (by omega), hs _ _ _ (by omega), hs _ _ _ (by omega), hs _ _ _ (by omega)]
    rw [show (i + 1) * 6 - 6 = i * 6 by omega, show (i + 1) * 6 + 1 - 6 = i * 6 + 1 by omega, show (i + 1) * 6 + 2 - 6 = i * 6 + 2 by omega, show (i + 1) * 6 + 3 - 6 = i * 6 + 3 by omega, show (i + 1) * 6 + 4 - 6 = i * 6 + 4 by omega, show (i + 1) * 6 + 5 - 6 = i * 6 + 5 by omega, ih]
    simp [pf]
theorem own_set1 {W : World} {B s : Nat} {e : TypeId} {g n c : Nat} {xs : List Value} (h : W.ownsRow B e s (.slice (some ⟨g, 0, none⟩) n c) n xs) (o : Nat) (v : Value) : (W.setCell ⟨g, o, none⟩ v).ownsRow B e s (.slice (some ⟨g, 0, none⟩) n c) n (xs.set o v) := (World.ownsRow.stored h o v).1
theorem ps_set6 {B : Nat} {W : World} {g n c : Nat} {qs : List Pq} (h : Ps B W (.slice (some ⟨g, 0, none⟩) n c) qs) (hn : qs.length = n) {i : Nat} (hi : i < qs.length) {q : Pq} (hq : Vq B W q) :
    Ps B (set6 W g (i * 6) (.int .u32 (q.1.t : Int)) (.int .u8 (q.1.f : Int)) (.int .u16 (q.1.s : Int)) (.int .u16 (q.1.n : Int)) (.int .u32 (q.1.p : Int)) (.slice q.2.1 q.2.2.1 q.2.2.2)) (.slice (some ⟨g, 0, none⟩) n c) (qs.set i q) := by
  subst hn
  have ap : ∀ r, Vq B W r → (Value.slice r.2.1 r.2.2.1 r.2.2.2).ownBlock = none ∨ (Value.slice r.2.1 r.2.2.1 r.2.2.2).ownBlock ≠ some g := fun r hr => owns_apart hr.2 h.own (by decide)
  have one : ∀ r (w : World) o v, Vq B W r → Vq B w r → Vq B (w.setCell ⟨g, o, none⟩ v) r := fun r w o v hr hw => hw.kept (setc_grown w g o v) (ap r hr)
  have all6 : ∀ r, Vq B W r → Vq B (set6 W g (i * 6) (.int .u32 (q.1.t : Int)) (.int .u8 (q.1.f : Int)) (.int .u16 (q.1.s : Int)) (.int .u16 (q.1.n : Int)) (.int .u32 (q.1.p : Int)) (.slice q.2.1 q.2.2.1 q.2.2.2)) r := fun r hr =>
    one r _ _ _ hr (one r _ _ _ hr (one r _ _ _ hr (one r _ _ _ hr (one r _ _ _ hr (one r _ _ _ hr hr)))))
  refine ⟨?_, fun r hr => ?_⟩
  · rw [List.length_set, ← pf_set6 hi q]
    exact own_set1 (own_set1 (own_set1 (own_set1 (own_set1 (own_set1 h.own _ _) _ _) _ _) _ _) _ _) _ _
  · rcases List.mem_or_eq_of_mem_set hr with h1 | h1
    · exact all6 r (h.dat r h1)
    · rw [h1]
      exact all6 q hq
theorem ns_set (l : List Nat) (i y : Nat) : (ns .i64 l).set i (.int .i64 (y : Int)) = ns .i64 (l.set i y) := by simp [ns, List.map_set]
theorem nr_set {B : Nat} {W : World} {g n c : Nat} {l : List Nat} (h : Nr B W (.slice (some ⟨g, 0, none⟩) n c) l) (hn : l.length = n) (i y : Nat) : Nr B (W.setCell ⟨g, i, none⟩ (.int .i64 (y : Int))) (.slice (some ⟨g, 0, none⟩) n c) (l.set i y) := by
  subst hn
  unfold Nr at *
  rw [List.length_set, ← ns_set]
  exact own_set1 h i _
def pq0 : Pq := (p0, (none, 0, 0))
def rsP (rs : List Pq) (q : Nat) : Pq := rs.getD q pq0
def ofP (of : List Nat) (q : Nat) : Nat := of.getD q 0
theorem map_range {α : Type} (l : List α) (d : α) : (List.range l.length).map (fun q => l.getD q d) = l := by
  apply List.ext_getElem?
  intro i
  rw [List.getElem?_map]
  by_cases h : i < l.length
  · rw [List.getElem?_range h, List.getElem?_eq_getElem h]
    simp [List.getD, List.getElem?_eq_getElem h]
  · rw [List.getElem?_eq_none (by simp; omega), List.getElem?_eq_none (by omega)]
    rfl
def putP (w : World) (g o : Nat) (q : Pq) : World := set6 w g o (.int .u32 (q.1.t : Int)) (.int .u8 (q.1.f : Int)) (.int .u16 (q.1.s : Int)) (.int .u16 (q.1.n : Int)) (.int .u32 (q.1.p : Int)) (.slice q.2.1 q.2.2.1 q.2.2.2)
theorem ps_put {B : Nat} {W : World} {g n c : Nat} {qs : List Pq} (h : Ps B W (.slice (some ⟨g, 0, none⟩) n c) qs) (hn : qs.length = n) {i : Nat} (hi : i < qs.length) {q : Pq} (hq : Vq B W q) : Ps B (putP W g (i * 6) q) (.slice (some ⟨g, 0, none⟩) n c) (qs.set i q) := ps_set6 h hn hi hq
theorem grown_trans {a b c : World} {r : Option Nat} (h : a.grownBy b r) (k : b.grownBy c r) : a.grownBy c r :=
  ⟨k.os.trans h.os, k.tape.trans h.tape, k.output.trans h.output, Nat.le_trans h.size k.size, fun x hx hne => (k.block x (Nat.lt_of_lt_of_le hx h.size) hne).trans (h.block x hx hne)⟩
theorem grown_put (w : World) (g o : Nat) (q : Pq) : w.grownBy (putP w g o q) (some g) := by
  unfold putP set6
  exact grown_trans (grown_trans (grown_trans (grown_trans (grown_trans (setc_grown _ g _ _) (setc_grown _ g _ _)) (setc_grown _ g _ _)) (setc_grown _ g _ _)) (setc_grown _ g _ _)) (setc_grown _ g _ _)
theorem vq_put {B : Nat} {w : World} {r q : Pq} (hr : Vq B w r) {g n c B' m : Nat} {xs : List Value} (h : w.ownsRow B' 38 6 (.slice (some ⟨g, 0, none⟩) n c) m xs) (o : Nat) : Vq B (putP w g o q) r := hr.kept (grown_put w g o q) (owns_apart hr.2 h (by decide))
/-- The rows behind a turn. -/
theorem bi_swap {W w : World} {g7 g8 n c7 c8 : Nat} {v9 : Value} {S : List Nat} {rs : List Pq} {of lf : List Nat} (h : BI W w (.slice (some ⟨g7, 0, none⟩) n c7) (.slice (some ⟨g8, 0, none⟩) n c8) v9 (S.map (rsP rs)) (S.map (ofP of)) lf) (hS : S.length = n) {i k : Nat} (hi : i < S.length) (hk : k < S.length) {x y : Pq} (hx : rsP rs S[k] = x) (hy : rsP rs S[i] = y) {a b : Nat} (ha : ofP of S[k] = a) (hb : ofP of S[i] = b) :
    BI W (((putP (putP w g7 (i * 6) x) g7 (k * 6) y).setCell ⟨g8, i, none⟩ (.int .i64 (a : Int))).setCell ⟨g8, k, none⟩ (.int .i64 (b : Int)))
      (.slice (some ⟨g7, 0, none⟩) n c7) (.slice (some ⟨g8, 0, none⟩) n c8) v9 ((swp S i k hi hk).map (rsP rs)) ((swp S i k hi hk).map (ofP of)) lf := by
  have e7 : (swp S i k hi hk).map (rsP rs) = ((S.map (rsP rs)).set i x).set k y := by
    rw [swp_map]
    unfold swp
    simp only [List.getElem_map, hx, hy]
  have e8 : (swp S i k hi hk).map (ofP of) = ((S.map (ofP of)).set i a).set k b := by
    rw [swp_map]
    unfold swp
    simp only [List.getElem_map, ha, hb]
  rw [e7, e8]
  have hvx : Vq W.heap.size w x := h.all.dat x (List.mem_map.2 ⟨S[k], List.getElem_mem hk, hx⟩)
  have hvy : Vq W.heap.size w y := h.all.dat y (List.mem_map.2 ⟨S[i], List.getElem_mem hi, hy⟩)
  have m7 : (S.map (rsP rs)).length = n := by simpa using hS
  have m8 : (S.map (ofP of)).length = n := by simpa using hS
  generalize S.map (rsP rs) = R7 at h m7 ⊢
  generalize S.map (ofP of) = R8 at h m8 ⊢
  have hvy1 : Vq W.heap.size (putP w g7 (i * 6) x) y := vq_put hvy h.all.own _
  have p1 := ps_put h.all m7 (i := i) (by omega) hvx
  have b1 := h.pushAll p1 (grown_put w g7 (i * 6) x)
  have m7' : (R7.set i x).length = n := by rw [List.length_set]; exact m7
  have p2 := ps_put b1.all m7' (i := k) (by omega) hvy1
  have b2 := b1.pushAll p2 (grown_put (putP w g7 (i * 6) x) g7 (k * 6) y)
  generalize putP (putP w g7 (i * 6) x) g7 (k * 6) y = w2 at b2 ⊢
  have o1 := nr_set b2.ofs m8 i a
  have b3 := b2.pushOf o1 (setc_grown _ g8 _ _) (.inl rfl)
  have m8' : (R8.set i a).length = n := by rw [List.length_set]; exact m8
  have o2 := nr_set b3.ofs m8' k b
  exact b3.pushOf o2 (setc_grown _ g8 _ _) (.inl rfl)
theorem ps_some {B : Nat} {W : World} {A : Option Addr} {n c : Nat} {qs : List Pq} (h : Ps B W (.slice A n c) qs) (hn : qs.length = n) (h0 : 0 < n) : ∃ g, A = some ⟨g, 0, none⟩ := by
  rcases h.own.2 with ⟨_, h1⟩ | ⟨g, cap, cur, hv, _⟩
  · omega
  · simp only [Value.slice.injEq] at hv
    exact ⟨g, hv.1⟩
theorem nr_some {B : Nat} {W : World} {A : Option Addr} {n c : Nat} {l : List Nat} (h : Nr B W (.slice A n c) l) (hn : l.length = n) (h0 : 0 < n) : ∃ g, A = some ⟨g, 0, none⟩ := by
  rcases h.2 with ⟨_, h1⟩ | ⟨g, cap, cur, hv, _⟩
  · omega
  · simp only [Value.slice.injEq] at hv
    exact ⟨g, hv.1⟩
theorem pcells {B : Nat} {W : World} {g n c : Nat} {qs : List Pq} (h : Ps B W (.slice (some ⟨g, 0, none⟩) n c) qs) (hn : qs.length = n) {i : Nat} (hi : i < qs.length) {q : Pq} (hq : qs[i] = q) :
    W.cell? ⟨g, i * 6, none⟩ = some (.int .u32 (q.1.t : Int)) ∧ W.cell? ⟨g, i * 6 + 1, none⟩ = some (.int .u8 (q.1.f : Int)) ∧ W.cell? ⟨g, i * 6 + 2, none⟩ = some (.int .u16 (q.1.s : Int)) ∧ W.cell? ⟨g, i * 6 + 3, none⟩ = some (.int .u16 (q.1.n : Int)) ∧ W.cell? ⟨g, i * 6 + 4, none⟩ = some (.int .u32 (q.1.p : Int)) ∧ W.cell? ⟨g, i * 6 + 5, none⟩ = some (.slice q.2.1 q.2.2.1 q.2.2.2) ∧ ∀ o, W.frozen? ⟨g, o, none⟩ = false := by
  subst hq
  subst hn
  exact ⟨pcell h rfl hi (k := 0) (by omega), pcell h rfl hi (k := 1) (by omega), pcell h rfl hi (k := 2) (by omega), pcell h rfl hi (k := 3) (by omega), pcell h rfl hi (k := 4) (by omega), pcell h rfl hi (k := 5) (by omega), fun o => World.ownsRow.frozenAt h.own o⟩
theorem ncell {B : Nat} {W : World} {g n c : Nat} {l : List Nat} (h : Nr B W (.slice (some ⟨g, 0, none⟩) n c) l) (hn : l.length = n) {i : Nat} (hi : i < l.length) {y : Nat} (hy : l[i] = y) : W.cell? ⟨g, i, none⟩ = some (.int .i64 (y : Int)) ∧ ∀ o, W.frozen? ⟨g, o, none⟩ = false := by
  subst hy
  subst hn
  refine ⟨?_, fun o => World.ownsRow.frozenAt h o⟩
  rw [World.ownsRow.cellAt h i (by omega), ns_get hi]
  simp [List.getD, List.getElem?_eq_getElem hi]
end Go.Proofs.Ythgbngnhlgaioaa
