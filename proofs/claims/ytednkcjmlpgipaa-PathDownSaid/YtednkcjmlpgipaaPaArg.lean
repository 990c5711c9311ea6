/-
  A slice of a path's calls (a kind, a number and a flag each) that came in: opened.
-/
import Derived.Test.YtednkcjmlpgipaaWords
import Derived.WideShapes
import Derived.ChangeShapes
import Derived.ChangeSame
import Derived.Deep.Strs
import Derived.Deep.Slices
import Derived.Deep.Fields
import Derived.Lib.SmallJoins
import Derived.ProofKit
import Derived.SizedLaws
namespace Go.Proofs.Ytednkcjmlpgipaa
set_option maxRecDepth 4000
open Go.RowKit Go.ChangeShapes Go.WideShapes Go.Deep Go.Joins
namespace Pa
set_option linter.unusedVariables false
set_option linter.unusedSimpArgs false

abbrev Q3 := Int × Int × Bool
def qc (q : Q3) : List Value := [.int .u8 q.1, .int .u32 q.2.1, .bool q.2.2]
def qf (qs : List Q3) : List Value := qs.flatMap qc
theorem qf_get : ∀ {qs : List Q3} {i : Nat} (h : i < qs.length), (qf qs)[i * 3]? = some (.int .u8 qs[i].1) ∧ (qf qs)[i * 3 + 1]? = some (.int .u32 qs[i].2.1) ∧ (qf qs)[i * 3 + 2]? = some (.bool qs[i].2.2)
  | q :: qs, 0, _ => by simp [qf, qc]
  | q :: qs, i + 1, h => by
    have ih := qf_get (qs := qs) (i := i) (by simpa using h)
    have e : qf (q :: qs) = qc q ++ qf qs := by simp [qf]
    have hl : (qc q).length = 3 := rfl
    rw [e, List.getElem?_append_right (by omega), List.getElem?_append_right (by omega), List.getElem?_append_right (by omega), hl]
    rw [show (i + 1) * 3 - 3 = i * 3 by omega, show (i + 1) * 3 + 1 - 3 = i * 3 + 1 by omega, show (i + 1) * 3 + 2 - 3 = i * 3 + 2 by omega]
    exact ih
/-- Calls that came in. -/
def DosIn (W : World) (A : Option Addr) (n c : Nat) (qs : List Q3) : Prop := qs.length = n ∧ n ≤ c ∧ c ≤ maxLen ∧ Row W A (qf qs) ∧ ∀ q ∈ qs, (Lit.int .u8 q.1).wf = true ∧ (Lit.int .u32 q.2.1).wf = true
theorem dos_at {W : World} {A : Option Addr} {qs : List Q3} (h : Row W A (qf qs)) {i : Nat} (hi : i < qs.length) :
    ∃ a, A = some a ∧ W.cell? (a.add (i * 3)) = some (.int .u8 qs[i].1) ∧ W.cell? { block := (a.add (i * 3)).block, off := (a.add (i * 3)).off + 1 } = some (.int .u32 qs[i].2.1) ∧ W.cell? { block := (a.add (i * 3)).block, off := (a.add (i * 3)).off + 2 } = some (.bool qs[i].2.2) := by
  obtain ⟨g0, g1, g2⟩ := qf_get hi
  obtain ⟨a, rfl, k0⟩ := h _ _ g0
  obtain ⟨b, hb, k1⟩ := h _ _ g1
  injection hb with hb
  subst hb
  obtain ⟨b, hb, k2⟩ := h _ _ g2
  injection hb with hb
  subst hb
  refine ⟨a, rfl, k0, ?_, ?_⟩
  · rw [← k1]
    congr 1
    unfold Addr.add
    by_cases h0 : i * 3 = 0
    · simp [h0]
    · simp [h0, Nat.add_assoc]
  · rw [← k2]
    congr 1
    unfold Addr.add
    by_cases h0 : i * 3 = 0
    · simp [h0]
    · simp [h0, Nat.add_assoc]
section
variable {H : Type} {enc : TypeId × Value → H} {W : World} {base : Nat} {held : Bool}
theorem open_do {fuel : Nat} {cs : List Value} {x : DataW H × List MemPlace} (h : DataW.trod enc Try.prog W base (fun _ => true) held fuel 90 cs = some x) :
    ∃ q : Q3, cs = qc q ∧ (Lit.int .u8 q.1).wf = true ∧ (Lit.int .u32 q.2.1).wf = true := by
  obtain ⟨y0, y1, y2, n, hx, hl, h0, h1, h2⟩ := trod_struct3 Try.underlying90 h
  rw [show Try.prog.cellsOf 90 = 3 by kernel_rfl] at hl
  have c0 : Try.prog.cellsOf 5 = 1 := by kernel_rfl
  have c3 : Try.prog.cellsOf 23 = 1 := by kernel_rfl
  have c1 : Try.prog.cellsOf 4 = 1 := by kernel_rfl
  match cs, hl with
  | [v0, v1, v2], _ =>
    have g0 : DataW.trod enc Try.prog W base (fun _ => true) held n 5 [v0] = some y0 := by simpa [c0] using h0
    have g1 : DataW.trod enc Try.prog W base (fun _ => true) held n 23 [v1] = some y1 := by simpa [c0, c3] using h1
    have g2 : DataW.trod enc Try.prog W base (fun _ => true) held n 4 [v2] = some y2 := by simpa [c0, c1, c3] using h2
    obtain ⟨k, e0, _, w0⟩ := DataW.trod_int Try.underlying5 g0
    obtain ⟨f, e1, _, w1⟩ := DataW.trod_int Try.underlying23 g1
    obtain ⟨b, e2, _⟩ := DataW.trod_bool Try.underlying4 g2
    obtain rfl : v0 = _ := by simpa using e0
    obtain rfl : v1 = _ := by simpa using e1
    obtain rfl : v2 = _ := by simpa using e2
    exact ⟨(k, f, b), rfl, w0, w1⟩
theorem qf_cell : ∀ {qs : List Q3} {i : Nat} {v : Value}, (qf qs)[i]? = some v → ∃ h : i / 3 < qs.length, (qc qs[i / 3])[i % 3]? = some v
  | [], i, v, h => by simp [qf] at h
  | q :: qs, i, v, h => by
    have e : qf (q :: qs) = qc q ++ qf qs := by simp [qf]
    have hl : (qc q).length = 3 := rfl
    rw [e] at h
    by_cases hi : i < 3
    · rw [List.getElem?_append_left (by omega)] at h
      have e1 : i / 3 = 0 := by omega
      have e2 : i % 3 = i := by omega
      simp only [e1, e2, List.length_cons]
      exact ⟨by omega, h⟩
    · rw [List.getElem?_append_right (by omega), hl] at h
      obtain ⟨h2, h3⟩ := qf_cell h
      have e1 : i / 3 = (i - 3) / 3 + 1 := by omega
      have e2 : i % 3 = (i - 3) % 3 := by omega
      simp only [e1, e2, List.length_cons]
      exact ⟨by omega, h3⟩
theorem open_dos {a : Option Addr} {len cap : Nat} {d : DataW H} {pl : List MemPlace} (h : DataW.Trod enc Try.prog W base (fun _ => true) held 88 (.slice a len cap) d pl) :
    ∃ qs, DosIn W a len cap qs := by
  obtain ⟨fuel, hf⟩ := h
  have c3 : Try.prog.cellsOf 90 = 3 := by kernel_rfl
  rcases open_slice Try.underlying88 hf with ⟨hcs, _⟩ | ⟨x, l, c, m, n, D, Pl, hcs, _, hl, hm, hmm, hx, hr⟩
  · simp [Value.cells] at hcs
    obtain ⟨rfl, rfl, rfl⟩ := hcs
    exact ⟨[], rfl, Nat.le_refl _, Nat.zero_le _, fun i v h => by simp [qf] at h, fun _ h => by simp at h⟩
  · simp [Value.cells] at hcs
    obtain ⟨rfl, rfl, rfl⟩ := hcs
    rw [c3] at hr
    have hml : len ≤ m := by
      split at hmm <;> omega
    have each : ∀ i, i < len → ∃ q : Q3, W.cells? base (x.add (i * 3)) 3 = some (qc q) ∧ (Lit.int .u8 q.1).wf = true ∧ (Lit.int .u32 q.2.1).wf = true := by
      intro i hi
      obtain ⟨cs', k1, k2⟩ := hr i (by omega)
      obtain ⟨q, rfl, k3, k4⟩ := open_do k2
      exact ⟨q, k1, k3, k4⟩
    haveI : Inhabited Q3 := ⟨(0, 0, false)⟩
    obtain ⟨q, hq⟩ := choose_lt each
    refine ⟨(List.range len).map q, by simp, hl, hm, fun i v hv => ⟨x, rfl, ?_⟩, ?_⟩
    · obtain ⟨h2, h3⟩ := qf_cell hv
      simp only [List.length_map, List.length_range] at h2
      simp only [List.getElem_map, List.getElem_range] at h3
      obtain ⟨_, _, hc⟩ := World.cells?_some (hq (i / 3) h2).1
      have e := hc (i % 3) (Nat.mod_lt _ (by omega))
      rw [h3, add_add, show i / 3 * 3 + i % 3 = i by omega] at e
      exact e
    · intro y hy
      obtain ⟨i, hi, rfl⟩ := List.mem_map.1 hy
      rw [List.mem_range] at hi
      exact (hq i hi).2
end
end Pa
end Go.Proofs.Ytednkcjmlpgipaa
