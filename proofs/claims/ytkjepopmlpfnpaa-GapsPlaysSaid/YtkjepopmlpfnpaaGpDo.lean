/-
  A slice of calls that came in (two numbers each): opened.
-/
import Derived.Test.YtkjepopmlpfnpaaGpArg
import Derived.WideShapes
import Derived.ChangeShapes
import Derived.ChangeSame
import Derived.Deep.Strs
import Derived.Deep.Slices
import Derived.ProofKit
import Derived.SizedLaws
namespace Go.Proofs.Ytkjepopmlpfnpaa
open Go.RowKit Go.ChangeShapes Go.WideShapes Go.Deep
set_option linter.unusedVariables false

abbrev Q2 := Int × Nat
def qc (q : Q2) : List Value := [.int .i64 q.1, .int .u32 (q.2 : Int)]
def qf (qs : List Q2) : List Value := qs.flatMap qc
theorem qf_get : ∀ {qs : List Q2} {i : Nat} (h : i < qs.length), (qf qs)[i * 2]? = some (.int .i64 qs[i].1) ∧ (qf qs)[i * 2 + 1]? = some (.int .u32 (qs[i].2 : Int))
  | q :: qs, 0, _ => by simp [qf, qc]
  | q :: qs, i + 1, h => by
    have ih := qf_get (qs := qs) (i := i) (by simpa using h)
    have e : qf (q :: qs) = qc q ++ qf qs := by simp [qf]
    have hl : (qc q).length = 2 := rfl
    rw [e, List.getElem?_append_right (by omega), List.getElem?_append_right (by omega), hl]
    rw [show (i + 1) * 2 - 2 = i * 2 by omega, show (i + 1) * 2 + 1 - 2 = i * 2 + 1 by omega]
    exact ih
def DosIn (W : World) (A : Option Addr) (n c : Nat) (qs : List Q2) : Prop := qs.length = n ∧ n ≤ c ∧ c ≤ maxLen ∧ Row W A (qf qs) ∧ ∀ q ∈ qs, (Lit.int .i64 q.1).wf = true ∧ q.2 < 4294967296
theorem dos_at {W : World} {A : Option Addr} {qs : List Q2} (h : Row W A (qf qs)) {i : Nat} (hi : i < qs.length) :
    ∃ a, A = some a ∧ W.cell? (a.add (i * 2)) = some (.int .i64 qs[i].1) ∧ W.cell? { block := (a.add (i * 2)).block, off := (a.add (i * 2)).off + 1 } = some (.int .u32 (qs[i].2 : Int)) := by
  obtain ⟨g0, g1⟩ := qf_get hi
  obtain ⟨a, rfl, k0⟩ := h _ _ g0
  obtain ⟨b, hb, k1⟩ := h _ _ g1
  injection hb with hb
  subst hb
  refine ⟨a, rfl, k0, ?_⟩
  rw [← k1]
  congr 1
  unfold Addr.add
  by_cases h0 : i * 2 = 0
  · simp [h0]
  · simp [h0, Nat.add_assoc]
section
variable {H : Type} {enc : TypeId × Value → H} {W : World} {base : Nat} {held : Bool}
theorem open_do {fuel : Nat} {cs : List Value} {x : DataW H × List MemPlace} (h : DataW.trod enc Try.prog W base (fun _ => true) held fuel 33 cs = some x) :
    ∃ q : Q2, cs = qc q ∧ (Lit.int .i64 q.1).wf = true ∧ q.2 < 4294967296 := by
  obtain ⟨y0, y1, n, hx, hl, h0, h1⟩ := trod_struct2 Try.underlying33 h
  rw [show Try.prog.cellsOf 33 = 2 by kernel_rfl] at hl
  have c0 : Try.prog.cellsOf 3 = 1 := by kernel_rfl
  have c1 : Try.prog.cellsOf 22 = 1 := by kernel_rfl
  match cs, hl with
  | [v0, v1], _ =>
    have g0 : DataW.trod enc Try.prog W base (fun _ => true) held n 3 [v0] = some y0 := by simpa [c0] using h0
    have g1 : DataW.trod enc Try.prog W base (fun _ => true) held n 22 [v1] = some y1 := by simpa [c1] using h1
    obtain ⟨k, e0, _, w0⟩ := DataW.trod_int Try.underlying3 g0
    obtain ⟨f, e1, _, w1⟩ := DataW.trod_int Try.underlying22 g1
    obtain rfl : v0 = _ := by simpa using e0
    obtain rfl : v1 = _ := by simpa using e1
    have f1 := wf_u32 w1
    refine ⟨(k, f.toNat), ?_, w0, ?_⟩
    · simp only [qc, Int.toNat_of_nonneg f1.1]
    · show f.toNat < 4294967296
      omega
theorem qf_cell : ∀ {qs : List Q2} {i : Nat} {v : Value}, (qf qs)[i]? = some v → ∃ h : i / 2 < qs.length, (qc qs[i / 2])[i % 2]? = some v
  | [], i, v, h => by simp [qf] at h
  | q :: qs, i, v, h => by
    have e : qf (q :: qs) = qc q ++ qf qs := by simp [qf]
    have hl : (qc q).length = 2 := rfl
    rw [e] at h
    by_cases hi : i < 2
    · rw [List.getElem?_append_left (by omega)] at h
      have e1 : i / 2 = 0 := by omega
      have e2 : i % 2 = i := by omega
      simp only [e1, e2, List.length_cons]
      exact ⟨by omega, h⟩
    · rw [List.getElem?_append_right (by omega), hl] at h
      obtain ⟨h2, h3⟩ := qf_cell h
      have e1 : i / 2 = (i - 2) / 2 + 1 := by omega
      have e2 : i % 2 = (i - 2) % 2 := by omega
      simp only [e1, e2, List.length_cons]
      exact ⟨by omega, h3⟩
theorem open_dos {a : Option Addr} {len cap : Nat} {d : DataW H} {pl : List MemPlace} (h : DataW.Trod enc Try.prog W base (fun _ => true) held 23 (.slice a len cap) d pl) :
    ∃ qs, DosIn W a len cap qs := by
  obtain ⟨fuel, hf⟩ := h
  have c3 : Try.prog.cellsOf 33 = 2 := by kernel_rfl
  rcases open_slice Try.underlying23 hf with ⟨hcs, _⟩ | ⟨x, l, c, m, n, D, Pl, hcs, _, hl, hm, hmm, hx, hr⟩
  · simp [Value.cells] at hcs
    obtain ⟨rfl, rfl, rfl⟩ := hcs
    exact ⟨[], rfl, Nat.le_refl _, Nat.zero_le _, fun i v h => by simp [qf] at h, fun q hq => by simp at hq⟩
  · simp [Value.cells] at hcs
    obtain ⟨rfl, rfl, rfl⟩ := hcs
    rw [c3] at hr
    have hml : len ≤ m := by
      split at hmm <;> omega
    have each : ∀ i, i < len → ∃ q : Q2, W.cells? base (x.add (i * 2)) 2 = some (qc q) ∧ (Lit.int .i64 q.1).wf = true ∧ q.2 < 4294967296 := by
      intro i hi
      obtain ⟨cs', k1, k2⟩ := hr i (by omega)
      obtain ⟨q, rfl, hv⟩ := open_do k2
      exact ⟨q, k1, hv⟩
    haveI : Inhabited Q2 := ⟨(0, 0)⟩
    obtain ⟨q, hq⟩ := choose_lt each
    refine ⟨(List.range len).map q, by simp, hl, hm, fun i v hv => ⟨x, rfl, ?_⟩, fun p hp => ?_⟩
    · obtain ⟨h2, h3⟩ := qf_cell hv
      simp only [List.length_map, List.length_range] at h2
      simp only [List.getElem_map, List.getElem_range] at h3
      obtain ⟨_, _, hc⟩ := World.cells?_some (hq (i / 2) h2).1
      have e := hc (i % 2) (Nat.mod_lt _ (by omega))
      rw [h3, add_add, show i / 2 * 2 + i % 2 = i by omega] at e
      exact e
    · obtain ⟨i, hi, rfl⟩ := List.mem_map.1 hp
      exact (hq i (List.mem_range.1 hi)).2
end
end Go.Proofs.Ytkjepopmlpfnpaa
