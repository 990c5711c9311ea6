/-
  Numbers that came in: a row of numbers that are no less than 0.
-/
import Derived.Test.YthdhkjbfhbkdjaaMem
namespace Go.Proofs.Ythdhkjbfhbkdjaa
set_option maxRecDepth 4000
open Go.RowKit Go.Maps
set_option linter.unusedVariables false
set_option linter.unusedSimpArgs false

theorem isrow_nats {k : IntKind} {w : World} {a : Option Addr} {len cap : Nat} {zs : List Int} (m : Nat) (hk : ∀ n : Int, (Lit.int k n).wf = true → 0 ≤ n ∧ n < m) (h : IsRow k w a len cap zs) :
    ∃ l : List Nat, l.length = len ∧ len ≤ cap ∧ cap ≤ maxLen ∧ (∀ x ∈ l, x < m) ∧ Row w a (ns k l) ∧ (a = none → len = 0 ∧ cap = 0) := by
  rcases h with ⟨rfl, rfl, rfl, rfl⟩ | ⟨x, rfl, h1, h2, h3, h4, h5⟩
  · exact ⟨[], rfl, Nat.le_refl _, Nat.zero_le _, fun c h => by simp at h, fun i v h => by simp [ns] at h, fun _ => ⟨rfl, rfl⟩⟩
  · refine ⟨(zs.take len).map Int.toNat, by simp; omega, h1, h2, fun c hc => ?_, fun i v hv => ⟨x, rfl, ?_⟩, fun e => by cases e⟩
    · obtain ⟨z, hz, rfl⟩ := List.mem_map.1 hc
      have := hk z (h5 z (List.mem_of_mem_take hz))
      omega
    · simp only [ns, List.map_map, List.getElem?_map, List.getElem?_take] at hv
      split at hv
      · obtain ⟨y, hy, rfl⟩ := Option.map_eq_some_iff.1 hv
        obtain ⟨hi, hy⟩ := List.getElem?_eq_some_iff.1 hy
        rw [h4 i hi]
        have hw := hk y (h5 y (by rw [← hy]; exact List.getElem_mem hi))
        simp only [Function.comp, Option.some.injEq, Value.int.injEq, true_and]
        rw [Int.toNat_of_nonneg hw.1, ← hy]
        simp [List.getD, List.getElem?_eq_getElem hi]
      · cases hv
end Go.Proofs.Ythdhkjbfhbkdjaa
