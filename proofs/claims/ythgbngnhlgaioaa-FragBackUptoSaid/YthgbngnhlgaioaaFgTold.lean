/-
  What Put tells, by cases; what is not too great.
-/
import Derived.Test.YthgbngnhlgaioaaFgPcs
import Derived.Test.YthgbngnhlgaioaaFgKeepsP
namespace Go.Proofs.Ythgbngnhlgaioaa
set_option maxRecDepth 4000
open Go.RowKit Go.Maps
open Fg
set_option linter.unusedVariables false
set_option linter.unusedSimpArgs false

theorem put_told {lo : Nat} {F' : Nat → Prop} {w' : World} {e : Ending} {K : List Pc} {x : Pc} {R : List Pc × Option (Ms × Nat)} (hk : Keeps K x R) (ht : told lo F' w' e R.2) :
    ∃ (ms mp s : Nat) (u b : Bool) (AM : Option Addr) (mn mc : Nat), e = .returned (.tuple #[.agg #[.int .u16 (ms : Int), .bool u, .int .u32 (mp : Int), .slice AM mn mc], .int .u16 (s : Int), .bool b]) ∧
      ((b = false ∧ R.1.length = K.length ∧ held R.1 = held K) ∨ (b = false ∧ R.1.length = K.length + 1 ∧ held R.1 = held K + x.d.length) ∨ (b = true ∧ R.1.length ≤ K.length ∧ held R.1 + mn = held K + x.d.length)) := by
  obtain ⟨K', r⟩ := R
  rcases hk with ⟨h1, h2, h3⟩ | ⟨h1, h2, h3⟩ | ⟨m, s, h1, h2, h3⟩
  · exact ⟨0, 0, 0, false, false, none, 0, 0, told_none ht h1, .inl ⟨rfl, h2, h3⟩⟩
  · exact ⟨0, 0, 0, false, false, none, 0, 0, told_none ht h1, .inr (.inl ⟨rfl, h2, h3⟩)⟩
  · obtain ⟨A, n, c, he, hn, _⟩ := told_some ht h1
    subst hn
    exact ⟨m.s, m.p, s, m.u, true, A, m.d.length, c, he, .inr (.inr ⟨rfl, h2, h3⟩)⟩
theorem great_not {qs : List Pq} (h : great qs = false) : tot qs ≤ 20000 ∧ qs.length ≤ 60 := by
  unfold great at h
  simp at h
  omega
end Go.Proofs.Ythgbngnhlgaioaa
