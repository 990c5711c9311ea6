/-
  A slice of things that came in: opened.
-/
import Derived.Test.YtlcmfhikcdppoaaTlvSame
import Derived.WideShapes
import Derived.ChangeShapes
import Derived.Deep.Strs
import Derived.Deep.Slices
import Derived.ProofKit
import Derived.SizedLaws
namespace Go.Proofs.Ytlcmfhikcdppoaa
open Go.RowKit Go.ChangeShapes Go.WideShapes Go.Deep Tlv

/-- A slice of things as an argument. -/
def ThsIn (W : World) (A : Option Addr) (n c : Nat) (qs : List Q) : Prop := qs.length = n ∧ n ≤ c ∧ c ≤ maxLen ∧ Ths W A qs ∧ (A = none → n = 0 ∧ c = 0)

section
variable {H : Type} {enc : TypeId × Value → H} {W : World} {base : Nat} {held : Bool}
theorem weights_in {P : Program} {e : TypeId} {n : Nat} {d : DataW H} : ∀ {l : List (DataW H)}, d ∈ l → n ∈ d.weights P e → n ∈ DataW.weightsAll P e l
  | x :: l, hd, hn => by
    simp only [DataW.weightsAll, List.mem_append]
    rcases List.mem_cons.1 hd with rfl | hd
    · exact .inl hn
    · exact .inr (weights_in hd hn)
/-- One thing. -/
theorem open_thing {fuel : Nat} {cs : List Value} {d : DataW H} {pl : List MemPlace} (h : DataW.trod enc Try.prog W base (fun _ => true) held fuel 25 cs = some (d, pl)) (hsz : ∀ n ∈ d.weights Try.prog 25, n ≤ reachBytes) :
    ∃ q : Q, cs = tc q ∧ Vl W q := by
  obtain ⟨y0, y1, y2, n, hx, hl, h0, h1, h2⟩ := trod_struct3 Try.underlying25 h
  rw [show Try.prog.cellsOf 25 = 3 by kernel_rfl] at hl
  have c0 : Try.prog.cellsOf 22 = 1 := by kernel_rfl
  have c1 : Try.prog.cellsOf 5 = 1 := by kernel_rfl
  have c2 : Try.prog.cellsOf 23 = 1 := by kernel_rfl
  have b1 : Try.prog.bytesOf 5 = 1 := by kernel_rfl
  match cs, hl with
  | [v0, v1, v2], _ =>
    have g0 : DataW.trod enc Try.prog W base (fun _ => true) held n 22 [v0] = some y0 := by simpa [c0] using h0
    have g1 : DataW.trod enc Try.prog W base (fun _ => true) held n 5 [v1] = some y1 := by simpa [c1] using h1
    have g2 : DataW.trod enc Try.prog W base (fun _ => true) held n 23 [v2] = some y2 := by simpa [c2] using h2
    obtain ⟨k, e0, _, w0⟩ := DataW.trod_int Try.underlying22 g0
    obtain ⟨f, e1, _, w1⟩ := DataW.trod_int Try.underlying5 g1
    obtain rfl : v0 = _ := by simpa using e0
    obtain rfl : v1 = _ := by simpa using e1
    have k1 := wf_u16 w0
    have f1 := wf_u8 w1
    rcases open_ints Try.underlying23 Try.underlying5 c1 g2 with ⟨hcs, _⟩ | ⟨x, len, cap, zs, hcs, _, hlc, hm, hz, hy, hcell, hwz⟩
    · obtain rfl : v2 = _ := by simpa using hcs
      refine ⟨(⟨k.toNat, f.toNat, []⟩, .slice none 0 0), ?_, none, 0, 0, rfl, rfl, Nat.le_refl _, Nat.zero_le _, Nat.zero_le _, ⟨?_, ?_, fun c hc => by simp at hc⟩, Row.nil_ _ _, fun _ => ⟨rfl, rfl⟩⟩
      · simp only [tc, Int.toNat_of_nonneg k1.1, Int.toNat_of_nonneg f1.1]
      · show k.toNat < 65536
        omega
      · show f.toNat < 256
        omega
    · obtain rfl : v2 = _ := by simpa using hcs
      simp only [if_true] at hz
      have hlen : (zs.take len).length = len := by simp; omega
      have hreach : len ≤ 140737488351232 := by
        obtain ⟨y21, y22⟩ := y2
        simp only [Prod.mk.injEq] at hx hy
        obtain ⟨rfl, rfl⟩ := hy
        have hd := hx.1
        have h9 := hsz cap (by
          rw [hd]
          simp only [DataW.weights, Try.underlying25, Try.underlying23, List.map_cons, List.map_nil, DataW.weightsEach, List.mem_append, b1]
          refine .inr (.inr (.inl (List.mem_cons.2 (.inl ?_))))
          simp [lits]
          omega)
        have h10 : reachBytes = 140737488351232 := by decide
        omega
      refine ⟨(⟨k.toNat, f.toNat, zs.take len⟩, .slice (some x) len cap), ?_, some x, len, cap, rfl, hlen, hlc, hm, hreach, ⟨?_, ?_, fun c hc => wf_u8 (hwz c (List.mem_of_mem_take hc))⟩, fun i v hv => ⟨x, rfl, ?_⟩, fun h => by cases h⟩
      · simp only [tc, Int.toNat_of_nonneg k1.1, Int.toNat_of_nonneg f1.1]
      · show k.toNat < 65536
        omega
      · show f.toNat < 256
        omega
      · simp only [bs, List.map_take, List.getElem?_take] at hv
        split at hv
        · rw [List.getElem?_map] at hv
          obtain ⟨y, hy, rfl⟩ := Option.map_eq_some_iff.1 hv
          obtain ⟨hi, hy⟩ := List.getElem?_eq_some_iff.1 hy
          rw [hcell i hi]
          simp [List.getD, hy, List.getElem?_eq_getElem hi]
        · cases hv
theorem tf_cell : ∀ {qs : List Q} {i : Nat} {v : Value}, (tf qs)[i]? = some v → i / 3 < qs.length ∧ ∃ h : i / 3 < qs.length, (tc qs[i / 3])[i % 3]? = some v
  | [], i, v, h => by simp [tf] at h
  | q :: qs, i, v, h => by
    have e : tf (q :: qs) = tc q ++ tf qs := by simp [tf]
    have hl : (tc q).length = 3 := rfl
    rw [e] at h
    by_cases hi : i < 3
    · rw [List.getElem?_append_left (by omega)] at h
      have e1 : i / 3 = 0 := by omega
      have e2 : i % 3 = i := by omega
      simp only [e1, e2, List.length_cons]
      exact ⟨by omega, by omega, h⟩
    · rw [List.getElem?_append_right (by omega), hl] at h
      obtain ⟨h1, h2, h3⟩ := tf_cell h
      have e1 : i / 3 = (i - 3) / 3 + 1 := by omega
      have e2 : i % 3 = (i - 3) % 3 := by omega
      simp only [e1, e2, List.length_cons]
      exact ⟨by omega, by omega, h3⟩
/-- A slice of them. -/
theorem open_things {a : Option Addr} {len cap : Nat} {d : DataW H} {pl : List MemPlace} (h : DataW.Trod enc Try.prog W base (fun _ => true) held 32 (.slice a len cap) d pl) (hsz : ∀ n ∈ d.weights Try.prog 32, n ≤ reachBytes) :
    ∃ qs, ThsIn W a len cap qs := by
  obtain ⟨fuel, hf⟩ := h
  have c3 : Try.prog.cellsOf 25 = 3 := by kernel_rfl
  rcases open_slice Try.underlying32 hf with ⟨hcs, _⟩ | ⟨x, l, c, m, n, D, Pl, hcs, _, hl, hm, hmm, hx, hr⟩
  · simp [Value.cells] at hcs
    obtain ⟨rfl, rfl, rfl⟩ := hcs
    exact ⟨[], rfl, Nat.le_refl _, Nat.zero_le _, ⟨fun i v h => by simp [tf] at h, fun q hq => by simp at hq⟩, fun _ => ⟨rfl, rfl⟩⟩
  · simp [Value.cells] at hcs
    obtain ⟨rfl, rfl, rfl⟩ := hcs
    simp only [if_true] at hmm
    subst hmm
    rw [c3] at hr
    simp only [Prod.mk.injEq] at hx
    have hd := hx.1
    have each : ∀ i, i < len → ∃ q : Q, W.cells? base (x.add (i * 3)) 3 = some (tc q) ∧ Vl W q := by
      intro i hi
      obtain ⟨cs', k1, k2⟩ := hr i (by omega)
      obtain ⟨q, rfl, hv⟩ := open_thing k2 (fun n hn => hsz n (by
        rw [hd]
        simp only [DataW.weights, Try.underlying32]
        exact List.mem_cons_of_mem _ (List.mem_append_left _ (weights_in (List.mem_map.2 ⟨i, List.mem_range.2 hi, rfl⟩) hn))))
      exact ⟨q, k1, hv⟩
    haveI : Inhabited Q := ⟨((⟨0, 0, []⟩ : Tv), .slice none 0 0)⟩
    obtain ⟨q, hq⟩ := choose_lt each
    refine ⟨(List.range len).map q, by simp, hl, hm, ⟨fun i v hv => ⟨x, rfl, ?_⟩, fun p hp => ?_⟩, fun h => by cases h⟩
    · obtain ⟨_, h2, h3⟩ := tf_cell hv
      simp only [List.length_map, List.length_range] at h2
      simp only [List.getElem_map, List.getElem_range] at h3
      obtain ⟨_, _, hc⟩ := World.cells?_some (hq (i / 3) h2).1
      have e := hc (i % 3) (Nat.mod_lt _ (by omega))
      rw [h3, add_add, show i / 3 * 3 + i % 3 = i by omega] at e
      exact e
    · obtain ⟨i, hi, rfl⟩ := List.mem_map.1 hp
      exact (hq i (List.mem_range.1 hi)).2
end
end Go.Proofs.Ytlcmfhikcdppoaa
