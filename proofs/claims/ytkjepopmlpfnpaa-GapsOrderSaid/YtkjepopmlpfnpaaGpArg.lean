/-
  Numbers that came in: rows of numbers that are no less than 0; sets that stand elsewhere.
-/
import Derived.Test.YtkjepopmlpfnpaaGpKnown
namespace Go.Proofs.Ytkjepopmlpfnpaa
open Go.RowKit Go.Maps
set_option linter.unusedVariables false

theorem isrow_nats {k : IntKind} {w : World} {a : Option Addr} {len cap : Nat} {zs : List Int} (m : Nat) (hk : ∀ n : Int, (Lit.int k n).wf = true → 0 ≤ n ∧ n < m) (h : IsRow k w a len cap zs) :
    ∃ l : List Nat, l.length = len ∧ len ≤ cap ∧ cap ≤ maxLen ∧ (∀ x ∈ l, x < m) ∧ Row w a (ns k l) ∧ (a = none → len = 0 ∧ cap = 0) := by
  rcases h with ⟨rfl, rfl, rfl, rfl⟩ | ⟨x, rfl, h1, h2, h3, h4, h5⟩
  · exact ⟨[], rfl, Nat.le_refl _, Nat.zero_le _, fun c h => by simp at h, fun i v h => by simp [ns] at h, fun _ => ⟨rfl, rfl⟩⟩
  · refine ⟨(zs.take len).map Int.toNat, by simp; omega, h1, h2, fun c hc => ?_, fun i v hv => ⟨x, rfl, ?_⟩, fun e => by cases e⟩
    · obtain ⟨z, hz, rfl⟩ := List.mem_map.1 hc
      have := hk z (h5 z (List.mem_of_mem_take hz))
      omega
    · simp only [ns, List.map_map, List.getElem?_map, List.getElem?_take] at hv
      split at hv
      · obtain ⟨y, hy, rfl⟩ := Option.map_eq_some_iff.1 hv
        obtain ⟨hi, hy⟩ := List.getElem?_eq_some_iff.1 hy
        rw [h4 i hi]
        have hw := hk y (h5 y (by rw [← hy]; exact List.getElem_mem hi))
        simp only [Function.comp, Option.some.injEq, Value.int.injEq, true_and]
        rw [Int.toNat_of_nonneg hw.1, ← hy]
        simp [List.getD, List.getElem?_eq_getElem hi]
      · cases hv
theorem Now.sub {W w : World} {R1 R2 R3 : World → (Nat → Prop) → Prop} (h : Now W w (star R1 R2)) (hs : ∀ F, R2 w F → ∃ F', (∀ k, F' k → F k) ∧ R3 w F') : Now W w (star R1 R3) := by
  obtain ⟨F, ⟨F1, F2, r1, r2, hd, i1, i2, hb⟩, h1, h2, h3⟩ := h
  obtain ⟨F', hi, r3⟩ := hs F2 r2
  exact ⟨F, ⟨F1, F', r1, r3, fun k h1 h2 => hd k h1 (hi k h2), i1, fun k h => i2 k (hi k h), hb⟩, h1, h2, h3⟩
theorem Now.drop2 {W w : World} {R1 R2 R3 : World → (Nat → Prop) → Prop} (h : Now W w (star R1 (star R2 R3))) : Now W w (star R1 R2) :=
  h.sub fun F ⟨F1, F2, r1, r2, hd, i1, i2, hb⟩ => ⟨F1, i1, r1⟩
theorem Now.drop1 {W w : World} {R1 R2 R3 : World → (Nat → Prop) → Prop} (h : Now W w (star R1 (star R2 R3))) : Now W w (star R1 R3) :=
  h.sub fun F ⟨F1, F2, r1, r2, hd, i1, i2, hb⟩ => ⟨F2, i2, r2⟩
theorem Now.ok {W w : World} {R : World → (Nat → Prop) → Prop} {s : Nat} {st : St} (h : Now W w (star (PA s st) R)) : st.Ok := by
  obtain ⟨F, h, _⟩ := h.left
  exact h.2
theorem s_hasb {W w : World} {s : Nat} {st : St} {R : World → (Nat → Prop) → Prop} (t : Nat) (h : Now W w (star (PA s st) R)) (ht : t < 4294967296) :
    Calls Try.prog 19 #[.pointer (some ⟨s, 0, none⟩), .int .u32 (t : Int)] w fun e w' => e = .returned (.bool (st.has t)) ∧ Below w.heap.size w w' := by
  obtain ⟨F, ⟨F1, F2, r1, r2, _⟩, _⟩ := h
  exact has_any w F1 s t st r1 ht
/-- A set that stands elsewhere. -/
def St.turn (s : St) (y : Nat) : St := ⟨up s.cum y, s.ws, s.ds.map (up · y)⟩
theorem up_comm (c x y : Nat) : up (up c x) y = up (up c y) x := by unfold up; omega
theorem has_turn {s : St} {t : Nat} (y : Nat) (hc : s.cum < 4294967296) (ht : t < 4294967296) : (s.turn y).has (up t y) = s.has t := by
  have : wy (s.turn y).cum (up t y) = wy s.cum t := wy_turn hc ht
  unfold St.has psd
  rw [this]
  rfl
theorem norm_turn (y : Nat) : ∀ (n c : Nat) (l : List Nat), l.length ≤ n → norm (up c y) l = (up (norm c l).1 y, (norm c l).2)
  | n, c, [], _ => by rw [norm, norm]
  | n + 1, c, w :: l, h => by
    by_cases hw : w = 1
    · subst hw
      rw [norm_go, norm_go, up_comm, norm_turn y n _ _ (by simpa using h)]
    · rw [norm_stop (by simpa using hw), norm_stop (by simpa using hw)]
theorem add_turn {s : St} {t : Nat} (y : Nat) (hc : s.cum < 4294967296) (ht : t < 4294967296) : (s.turn y).add (up t y) = ((s.add t).1.turn y, (s.add t).2) := by
  have hw : wy (s.turn y).cum (up t y) = wy s.cum t := wy_turn hc ht
  unfold St.add
  rw [has_turn y hc ht, hw]
  split
  · have : (s.turn y).ds.length = s.ds.length := by simp [St.turn]
    rw [this]
    split <;> simp [St.turn]
  · split
    · rfl
    · have e : norm (s.turn y).cum (ins (wy s.cum t) (s.turn y).ws) = _ := norm_turn y _ s.cum (ins (wy s.cum t) s.ws) (Nat.le_refl _)
      rw [e]
      rfl
theorem turn_gaps (s : St) (y : Nat) : (s.turn y).gaps = s.gaps := rfl
theorem turn_ok {s : St} (y : Nat) (h : s.Ok) : (s.turn y).Ok := by
  refine ⟨up_lt _ _, h.2.1, by simp [St.turn]; exact h.2.2.1, fun t ht => ?_⟩
  obtain ⟨x, _, rfl⟩ := List.mem_map.1 ht
  exact up_lt _ _
end Go.Proofs.Ytkjepopmlpfnpaa
