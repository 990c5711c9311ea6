/-
  Messages whose pieces come in any order: a step, the end; a turn of two places; plain.
-/
import Derived.Test.YthgbngnhlgaioaaFgBackP
namespace Go.Proofs.Ythgbngnhlgaioaa
set_option maxRecDepth 4000
namespace Fg
set_option linter.unusedVariables false
set_option linter.unusedSimpArgs false

section
variable {N tsn : Nat} {pc : Nat → Pc} {mo lo hi ms mn mp : Nat → Nat} {mu : Nat → Bool}
theorem Sees.congr {pr pr' : Nat → Bool} {K : List Pc} (h : Sees N tsn pc pr K) (he : ∀ q, q < N → pr q = pr' q) : Sees N tsn pc pr' K :=
  ⟨fun q hq => by rw [h.1 q hq, he q hq], h.2⟩
theorem kpt_more {ar : Nat → Bool} (hL : Lay N tsn pc mo lo hi ms mn mp mu) {c q : Nat} (hc : c < N) (hq : q < N) (ha : ar c = false) :
    kpt mo lo hi (fun q => ar q || q == c) q = if mo q = mo c then (ar q || q == c) && decide (lft lo hi (fun q => ar q || q == c) (mo c) ≠ 0) else kpt mo lo hi ar q := by
  unfold kpt
  by_cases e : mo q = mo c
  · rw [if_pos e, e]
  · rw [if_neg e, lft_other hL hc e (fun r h1 h2 => hL.same q hq r h1 h2)]
    have : (q == c) = false := by rw [beq_eq_false_iff_ne]; intro e2; exact e (by rw [e2])
    simp [this]
/-- One piece comes. -/
theorem step {ar : Nat → Bool} {K : List Pc} (hL : Lay N tsn pc mo lo hi ms mn mp mu) (h : Sees N tsn pc (kpt mo lo hi ar) K) (ha : Apart K) {c : Nat} (hc : c < N) (har : ar c = false) :
    (lft lo hi (fun q => ar q || q == c) (mo c) = 0 → ∃ K', put K (pc c) = (K', some (⟨ms (mo c), mu (mo c), mp (mo c), bytes pc (lo (mo c)) (hi (mo c) - lo (mo c))⟩, mn (mo c))) ∧ Sees N tsn pc (kpt mo lo hi fun q => ar q || q == c) K') ∧
      (lft lo hi (fun q => ar q || q == c) (mo c) ≠ 0 → put K (pc c) = (K ++ [pc c], none) ∧ Sees N tsn pc (kpt mo lo hi fun q => ar q || q == c) (K ++ [pc c]) ∧ put (K ++ [pc c]) (pc c) = (K ++ [pc c], none)) := by
  have h1 := lft_one hL hc har
  have hkc : kpt mo lo hi ar c = false := by unfold kpt; rw [har]; rfl
  have hin : ∀ r, lo (mo c) ≤ r → r < hi (mo c) → kpt mo lo hi ar r = ar r := fun r h2 h3 => by
    unfold kpt
    rw [hL.same c hc r h2 h3, decide_eq_true (by omega), Bool.and_true]
  refine ⟨fun h0 => ?_, fun h0 => ?_⟩
  · have hall := lft_none.1 h0
    obtain ⟨K', hp, hs⟩ := put_whole hL h ha hc hkc (fun r h2 h3 h4 => by
      have h5 := hall r h2 h3
      rw [hin r h2 h3]
      simpa [h4] using h5)
    refine ⟨K', hp, hs.congr fun q hq => ?_⟩
    rw [kpt_more hL hc hq har]
    by_cases e : mo q = mo c
    · simp [e, h0]
    · rw [if_neg e]
      have : (q == c) = false := by rw [beq_eq_false_iff_ne]; intro e2; exact e (by rw [e2])
      simp [e, this]
  · obtain ⟨r, h2, h3, h4⟩ : ∃ r, lo (mo c) ≤ r ∧ r < hi (mo c) ∧ (ar r || r == c) = false := by
      apply Classical.byContradiction
      intro hn
      refine h0 (lft_none.2 fun r h2 h3 => ?_)
      apply Classical.byContradiction
      intro h4
      exact hn ⟨r, h2, h3, by simpa using h4⟩
    rw [Bool.or_eq_false_iff, beq_eq_false_iff_ne] at h4
    have hp := put_part hL h hc hkc ⟨r, h2, h3, by rw [hin r h2 h3]; exact h4.1, h4.2⟩
    have hs := sees_app hL h hc hkc
    have hs2 : Sees N tsn pc (kpt mo lo hi fun q => ar q || q == c) (K ++ [pc c]) := hs.congr fun q hq => by
      rw [kpt_more hL hc hq har]
      by_cases e : mo q = mo c
      · have h5 := hL.ge q hq
        have h6 := hL.lt q hq
        rw [e] at h5 h6
        rw [if_pos e, hin q h5 h6]
        simp [h0]
      · rw [if_neg e]
        have : (q == c) = false := by rw [beq_eq_false_iff_ne]; intro e2; exact e (by rw [e2])
        simp [this]
    refine ⟨hp, hs2, put_dup hL hs hc ?_⟩
    simp
theorem sees_nil : Sees N tsn pc (kpt mo lo hi fun _ => false) [] := ⟨fun q _ => by simp [look, kpt], fun t _ => rfl⟩
theorem look_all_none : ∀ {K : List Pc}, (∀ t, look K t = none) → K = []
  | [], _ => rfl
  | x :: K, h => by
    have := h x.t
    simp [look] at this
/-- All have come: nothing is kept. -/
theorem sees_end {ar : Nat → Bool} {K : List Pc} (hL : Lay N tsn pc mo lo hi ms mn mp mu) (h : Sees N tsn pc (kpt mo lo hi ar) K) (ha : ∀ q, q < N → ar q = true) : K = [] := by
  refine look_all_none fun t => ?_
  by_cases e : ∃ q, q < N ∧ t = fw tsn q
  · obtain ⟨q, hq, rfl⟩ := e
    rw [h.1 q hq]
    have h0 : lft lo hi ar (mo q) = 0 := lft_none.2 fun r h1 h2 => ha r (Nat.lt_of_lt_of_le h2 (hL.top q hq))
    simp [kpt, h0]
  · exact h.2 t fun q hq e2 => e ⟨q, hq, e2⟩
end
/-- Two places turned. -/
def swp {α : Type} (l : List α) (i k : Nat) (h : i < l.length) (h' : k < l.length) : List α := (l.set i l[k]).set k l[i]
theorem swp_perm {α : Type} {l : List α} {i k : Nat} (h : i < l.length) (h' : k < l.length) : (swp l i k h h').Perm l := List.set_set_perm h h'
theorem swp_map {α β : Type} (f : α → β) {l : List α} {i k : Nat} (h : i < l.length) (h' : k < l.length) : (swp l i k h h').map f = swp (l.map f) i k (by simpa using h) (by simpa using h') := by
  unfold swp
  rw [List.map_set, List.map_set]
  simp
/-- Which have come, where they come in the order S. -/
def came (S : List Nat) (i q : Nat) : Bool := decide (q ∈ S.take i)
theorem came_next {S : List Nat} {i : Nat} (h : i < S.length) : came S (i + 1) = fun q => came S i q || q == S[i] := by
  funext q
  unfold came
  rw [List.take_succ_eq_append_getElem h]
  rw [Bool.eq_iff_iff]
  simp only [decide_eq_true_eq, Bool.or_eq_true, beq_iff_eq, List.mem_append, List.mem_singleton]
theorem came_not {S : List Nat} {N i : Nat} (hp : S.Perm (List.range N)) (h : i < S.length) : came S i S[i] = false := by
  have hn : S.Nodup := hp.nodup_iff.2 List.nodup_range
  unfold came
  refine decide_eq_false fun hm => ?_
  obtain ⟨k, hk, e⟩ := List.mem_iff_getElem.1 hm
  rw [List.length_take] at hk
  rw [List.getElem_take] at e
  exact (List.pairwise_iff_getElem.1 hn) k i (by omega) h (by omega) e
theorem came_lt {S : List Nat} {N i : Nat} (hp : S.Perm (List.range N)) (h : i < S.length) : S[i] < N := List.mem_range.1 (hp.mem_iff.1 (List.getElem_mem h))
theorem came_all {S : List Nat} {N : Nat} (hp : S.Perm (List.range N)) : ∀ q, q < N → came S S.length q = true := fun q hq => by
  unfold came
  rw [List.take_length]
  exact decide_eq_true (hp.mem_iff.2 (List.mem_range.2 hq))
end Fg
end Go.Proofs.Ythgbngnhlgaioaa
