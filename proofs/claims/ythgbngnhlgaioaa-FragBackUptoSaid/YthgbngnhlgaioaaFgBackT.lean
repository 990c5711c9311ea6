/-
  FragBack's last loop: what of each message has not come, as a row; the memory between the calls.
-/
import Derived.Test.YthgbngnhlgaioaaFgBackS
namespace Go.Proofs.Ythgbngnhlgaioaa
set_option maxRecDepth 4000
open Go.RowKit Go.Maps
open Fg
set_option linter.unusedVariables false
set_option linter.unusedSimpArgs false

def lfl (M : Nat) (lo hi : Nat → Nat) (ar : Nat → Bool) : List Nat := (List.range M).map fun m => lft lo hi ar m
theorem lfl_len (M : Nat) (lo hi : Nat → Nat) (ar : Nat → Bool) : (lfl M lo hi ar).length = M := by simp [lfl]
theorem lfl_get {M : Nat} {lo hi : Nat → Nat} {ar : Nat → Bool} {m : Nat} (h : m < M) : (lfl M lo hi ar)[m]'(by rw [lfl_len]; exact h) = lft lo hi ar m := by simp [lfl]
theorem lfl_nil (qs : List Sq) : (qs.map fun q => q.mq.cnt) = lfl qs.length (st (qs.map Sq.mq)) (fun m => st (qs.map Sq.mq) (m + 1)) (fun _ => false) := by
  apply List.ext_getElem?
  intro i
  unfold lfl
  rw [List.getElem?_map, List.getElem?_map]
  by_cases h : i < qs.length
  · rw [List.getElem?_range h, List.getElem?_eq_getElem h]
    simp only [Option.map_some, Option.some.injEq]
    have h2 := st_succ (M := qs.map Sq.mq) (m := i) (by simpa using h)
    have h3 : ((qs.map Sq.mq).getD i m0) = qs[i].mq := by simp [List.getD, List.getElem?_eq_getElem h]
    rw [h3] at h2
    unfold lft
    show _ = ((List.range (st (qs.map Sq.mq) (i + 1) - st (qs.map Sq.mq) i)).filter fun _ => !false).length
    rw [h2, Nat.add_sub_cancel_left, show ((List.range qs[i].mq.cnt).filter fun _ => !false) = List.range qs[i].mq.cnt from List.filter_eq_self.2 (fun _ _ => rfl), List.length_range]
  · rw [List.getElem?_eq_none (by omega), List.getElem?_eq_none (by simp; omega)]
    rfl
theorem lfl_set {N tsn : Nat} {pc : Nat → Pc} {mo lo hi ms mn mp : Nat → Nat} {mu : Nat → Bool} (hL : Lay N tsn pc mo lo hi ms mn mp mu) {M : Nat} {ar : Nat → Bool} {c : Nat} (hc : c < N) (hM : ∀ m, m < M → ∀ r, lo m ≤ r → r < hi m → mo r = m) :
    (lfl M lo hi ar).set (mo c) (lft lo hi (fun q => ar q || q == c) (mo c)) = lfl M lo hi (fun q => ar q || q == c) := by
  apply List.ext_getElem?
  intro i
  rw [List.getElem?_set]
  by_cases e : mo c = i
  · subst e
    rw [if_pos rfl]
    by_cases h : mo c < M
    · rw [if_pos (by rw [lfl_len]; exact h)]
      unfold lfl
      rw [List.getElem?_map, List.getElem?_range h]
      rfl
    · rw [if_neg (by rw [lfl_len]; exact h), List.getElem?_eq_none (by rw [lfl_len]; omega)]
  · rw [if_neg e]
    unfold lfl
    rw [List.getElem?_map, List.getElem?_map]
    by_cases h : i < M
    · rw [List.getElem?_range h]
      simp only [Option.map_some, Option.some.injEq]
      exact (lft_other hL hc (fun e2 => e e2.symm) (hM i h)).symm
    · rw [List.getElem?_eq_none (by simp; omega)]
      rfl
/-- Between the calls: the rows as at w0 but for the one that counts (v9); the joiner in blocks from w0's end on. -/
structure B4 (W w0 w : World) (v7 v8 v9 : Value) (R7 : List Pq) (R8 lf : List Nat) (j : Nat) (K : List Pc) (F : Nat → Prop) : Prop where
  mem : BI W w v7 v8 v9 R7 R8 lf
  lt7 : ∀ g, v7.ownBlock = some g → g < w0.heap.size
  lt8 : ∀ g, v8.ownBlock = some g → g < w0.heap.size
  lt9 : ∀ g, v9.ownBlock = some g → g < w0.heap.size
  ltd : ∀ q ∈ R7, ∀ g, (Value.slice q.2.1 q.2.2.1 q.2.2.2).ownBlock = some g → g < w0.heap.size
  jn : JA j K w F
  new : ∀ b, F b → w0.heap.size ≤ b
  base : W.heap.size ≤ w0.heap.size
section
variable {W w0 w w' : World} {v7 v8 v9 : Value} {R7 : List Pq} {R8 lf : List Nat} {j : Nat} {K : List Pc} {F : Nat → Prop}
theorem B4.next (h : B4 W w0 w v7 v8 v9 R7 R8 lf j K F) (hb : Below w.heap.size w w') : B4 W w0 w' v7 v8 v9 R7 R8 lf j K F :=
  ⟨h.mem.next hb, h.lt7, h.lt8, h.lt9, h.ltd, JA.next h.jn hb, h.new, h.base⟩
/-- Put has been called. -/
theorem B4.put (h : B4 W w0 w v7 v8 v9 R7 R8 lf j K F) {K' : List Pc} {F' : Nat → Prop} (hn : ∀ b, F' b → F b ∨ w.heap.size ≤ b) (hj : JA j K' w' F') (hk : Kp w w' F) (h0 : w0.heap.size ≤ w.heap.size) : B4 W w0 w' v7 v8 v9 R7 R8 lf j K' F' := by
  have off : ∀ {v : Value}, (∀ g, v.ownBlock = some g → g < w0.heap.size) → ∀ g, v.ownBlock = some g → ¬ F g := fun hv g hg hf => by
    have h1 := hv g hg
    have h2 := h.new g hf
    omega
  exact ⟨⟨⟨own_kp h.mem.all.own hk (off h.lt7), fun q hq => ⟨(h.mem.all.dat q hq).1, own_kp (h.mem.all.dat q hq).2 hk (off (h.ltd q hq))⟩⟩, own_kp h.mem.ofs hk (off h.lt8), own_kp h.mem.lfs hk (off h.lt9), h.mem.ap, Kp.to_below h.mem.bel hk (fun b hb => Nat.le_trans h.base (h.new b hb)) h.mem.bel.size⟩,
    h.lt7, h.lt8, h.lt9, h.ltd, hj, fun b hb => by
      rcases hn b hb with h1 | h1
      · exact h.new b h1
      · omega, h.base⟩
/-- A count is stored. -/
theorem B4.count {g n c : Nat} (h : B4 W w0 w v7 v8 (.slice (some ⟨g, 0, none⟩) n c) R7 R8 lf j K F) (hl : lf.length = n) (i y : Nat) : B4 W w0 (w.setCell ⟨g, i, none⟩ (.int .i64 (y : Int))) v7 v8 (.slice (some ⟨g, 0, none⟩) n c) R7 R8 (lf.set i y) j K F :=
  ⟨h.mem.pushLf (nr_set h.mem.lfs hl i y) (setc_grown w g _ _) (.inl rfl), h.lt7, h.lt8, h.lt9, h.ltd, JB.set h.jn (fun hf => by have h1 := h.lt9 g rfl; have h2 := h.new g hf; omega) i _, h.new, h.base⟩
theorem b4_start (hm : BI W w0 v7 v8 v9 R7 R8 lf) (hb : Below w0.heap.size w0 w) (hj : JA j [] w F) (hn : ∀ b, F b → w0.heap.size ≤ b) : B4 W w0 w v7 v8 v9 R7 R8 lf j [] F :=
  ⟨hm.next hb, fun g hg => (hm.all.own.lt g hg).2, fun g hg => (World.ownsRow.lt hm.ofs g hg).2, fun g hg => (World.ownsRow.lt hm.lfs g hg).2, fun q hq g hg => ((hm.all.dat q hq).2.lt g hg).2, hj, hn, hm.bel.size⟩
end
theorem cutF_lt (u : Bool) (N i : Nat) : cutF u N i < 256 := by
  have h4 : fb u ≤ 4 := by cases u <;> simp [fb]
  unfold cutF
  split <;> split <;> omega
/-- The pieces are in their bounds. -/
theorem built_ok {qs : List Sq} {t0 B : Nat} {W : World} {all : List Pc} {of : List Nat} (h : Built (qs.map Sq.mq) t0 all of) (hq : ∀ q ∈ qs, SIn W B q) {c : Nat} (hc : c < all.length) : (all.getD c p0).Ok := by
  obtain ⟨k1, k2, k3, k4⟩ := h.at_ c hc
  rw [List.length_map] at k1
  have h3 : ((qs.map Sq.mq).getD (of.getD c 0) m0) = qs[of.getD c 0].mq := by simp [List.getD] at k1 ⊢; simp [List.getElem?_eq_getElem k1]
  have hs := hq _ (List.getElem_mem k1)
  rw [k4, h3]
  exact ⟨fw_lt _ _, cutF_lt _ _ _, hs.s, hs.n, hs.p, by
    show Byt (Fg.part _ _ _)
    unfold Fg.part
    exact (hs.byt.drop _).take _⟩
theorem rsP_fst (rs : List Pq) (c : Nat) : (rsP rs c).1 = (rs.map (·.1)).getD c p0 := by
  unfold rsP
  simp only [List.getD, List.getElem?_map]
  cases rs[c]? <;> rfl
/-- The message's Ssn, and it, as the row of arguments has them. -/
theorem mq_at {qs : List Sq} {m : Nat} (h : m < qs.length) : (qs.map Sq.mq).getD m m0 = qs[m].mq := by simp [List.getD, List.getElem?_eq_getElem h]
theorem rs_tot {rs : List Pq} (h : tot rs ≤ 20000) {c : Nat} (hc : c < rs.length) : (rsP rs c).2.2.1 ≤ 20000 := by
  have h2 := tot_take hc
  have h3 := tot_take_le rs (c + 1)
  have : rsP rs c = rs[c] := by simp [rsP, List.getD, List.getElem?_eq_getElem hc]
  rw [this]
  omega
/-- Which message a place belongs to. -/
theorem built_of {M : List Mq} {tsn : Nat} {all : List Pc} {of : List Nat} (h : Built M tsn all of) {m : Nat} (hm : m < M.length) {r : Nat} (h1 : st M m ≤ r) (h2 : r < st M (m + 1)) : ofP of r = m := by
  have hr : r < all.length := by
    have := st_mono M (show m + 1 ≤ M.length by omega)
    rw [h.len]
    omega
  obtain ⟨_, j2, j3, _⟩ := h.at_ r hr
  show of.getD r 0 = m
  by_cases e : of.getD r 0 < m
  · have := st_mono M (show of.getD r 0 + 1 ≤ m by omega)
    omega
  · by_cases e2 : m < of.getD r 0
    · have := st_mono M (show m + 1 ≤ of.getD r 0 by omega)
      omega
    · omega
theorem sm_at {α : Type} {S : List Nat} {i c : Nat} (h : S[i]? = some c) (f : Nat → α) (h2 : i < (S.map f).length) : (S.map f)[i] = f c := by
  have h3 := (List.getElem?_eq_some_iff.1 h).2
  simp [h3]
theorem lft_top {N tsn : Nat} {pc : Nat → Pc} {mo lo hi ms mn mp : Nat → Nat} {mu : Nat → Bool} (hL : Lay N tsn pc mo lo hi ms mn mp mu) {ar : Nat → Bool} {c : Nat} (hc : c < N) : lft lo hi ar (mo c) ≤ N := by
  have h1 := hL.top c hc
  have h2 := List.length_filter_le (fun i => !ar (lo (mo c) + i)) (List.range (hi (mo c) - lo (mo c)))
  rw [List.length_range] at h2
  unfold lft
  omega
theorem keeps_some {K K' : List Pc} {x : Pc} {t : Ms × Nat} (h : Keeps K x (K', some t)) : K'.length ≤ K.length ∧ held K' ≤ held K + x.d.length := by
  rcases h with ⟨h1, _⟩ | ⟨h1, _⟩ | ⟨m, s, _, h2, h3⟩
  · cases h1
  · cases h1
  · simp only at h2 h3
    omega
end Go.Proofs.Ythgbngnhlgaioaa
