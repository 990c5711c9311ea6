/-
  What is kept and what is told, in bytes: plain.
-/
import Derived.Test.YthgbngnhlgaioaaFgPlain
namespace Go.Proofs.Ythgbngnhlgaioaa
set_option maxRecDepth 4000
namespace Fg
set_option linter.unusedVariables false

def Keeps (K : List Pc) (x : Pc) (R : List Pc × Option (Ms × Nat)) : Prop :=
  (R.2 = none ∧ R.1.length = K.length ∧ held R.1 = held K) ∨ (R.2 = none ∧ R.1.length = K.length + 1 ∧ held R.1 = held K + x.d.length) ∨
    ∃ m s, R.2 = some (m, s) ∧ R.1.length ≤ K.length ∧ held R.1 + m.d.length = held K + x.d.length
theorem put_keeps {K : List Pc} (x : Pc) (ha : Apart K) (ht : x.t < 4294967296) (hlen : K.length < 1000000000) : Keeps K x (put K x) := by
  unfold put
  by_cases h : (look K x.t).isSome = true
  · rw [if_pos h]
    exact .inl ⟨rfl, rfl, rfl⟩
  · rw [if_neg h]
    have hn : look K x.t = none := by simpa using h
    have hap := apart_app ha hn
    have hsome : (look (K ++ [x]) x.t).isSome = true := by rw [look_app, if_neg h, if_pos rfl]; rfl
    split
    · exact .inr (.inl ⟨rfl, by simp, held_app K x⟩)
    · rename_i a b hb
      obtain ⟨hc, _⟩ := bnd_some (chain_start hsome) hb
      have hle := bnd_le hb
      have hs := chain_some ht hc (by omega)
      have h2 := tk_held hap (c := a + b + 1) (t := bw x.t a) (by omega) (fun i hi => hs i (by omega))
      refine .inr (.inr ⟨_, _, rfl, ?_, ?_⟩)
      · have := h2.2
        simp only [List.length_append, List.length_singleton] at this
        show (tkK (K ++ [x]) (bw x.t a) (a + b + 1)).length ≤ K.length
        omega
      · have h3 := hs 0 (by omega)
        have e0 : fw (bw x.t a) 0 = bw x.t a := by unfold fw bw; omega
        rw [e0] at h3
        obtain ⟨y, hy⟩ := Option.isSome_iff_exists.1 h3
        have e : (tell (K ++ [x]) (bw x.t a) (a + b + 1)).1.d = tkD (K ++ [x]) (bw x.t a) (a + b + 1) := by unfold tell; rw [hy]
        show held (tkK (K ++ [x]) (bw x.t a) (a + b + 1)) + (tell (K ++ [x]) (bw x.t a) (a + b + 1)).1.d.length = _
        rw [e, h2.1, held_app]
end Fg
end Go.Proofs.Ythgbngnhlgaioaa
