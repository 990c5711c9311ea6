/-
  A slice of pieces that came in: opened.
-/
import Derived.Test.YthgbngnhlgaioaaFgCutQ
import Derived.WideShapes
import Derived.ChangeShapes
import Derived.ChangeSame
import Derived.Deep.Strs
import Derived.Deep.Slices
import Derived.ProofKit
import Derived.SizedLaws
namespace Go.Proofs.Ythgbngnhlgaioaa
set_option maxRecDepth 4000
open Go.RowKit Go.ChangeShapes Go.WideShapes Go.Deep
open Fg
set_option linter.unusedVariables false
set_option linter.unusedSimpArgs false

/-- One that came in. -/
structure PIn (W : World) (q : Pq) : Prop where
  ok : q.1.Ok
  len : q.1.d.length = q.2.2.1
  cap : q.2.2.1 ≤ q.2.2.2
  most : q.2.2.2 ≤ 140737488351232
  row : Row W q.2.1 (bs q.1.d)
  nil : q.2.1 = none → q.2.2.1 = 0 ∧ q.2.2.2 = 0
def PcsIn (W : World) (A : Option Addr) (n c : Nat) (qs : List Pq) : Prop := qs.length = n ∧ n ≤ c ∧ c ≤ 140737488351232 ∧ Row W A (pf qs) ∧ ∀ q ∈ qs, PIn W q
section
variable {H : Type} {enc : TypeId × Value → H} {W : World} {base : Nat} {held : Bool}
theorem weights_in {P : Program} {e : TypeId} {n : Nat} {d : DataW H} : ∀ {l : List (DataW H)}, d ∈ l → n ∈ d.weights P e → n ∈ DataW.weightsAll P e l
  | x :: l, hd, hn => by
    simp only [DataW.weightsAll, List.mem_append]
    rcases List.mem_cons.1 hd with rfl | hd
    · exact .inl hn
    · exact .inr (weights_in hd hn)
theorem open_piece {fuel : Nat} {cs : List Value} {dd : DataW H} {pl : List MemPlace} (h : DataW.trod enc Try.prog W base (fun _ => true) held fuel 38 cs = some (dd, pl)) (hsz : ∀ n ∈ dd.weights Try.prog 38, n ≤ reachBytes) :
    ∃ q : Pq, cs = pcl q ∧ PIn W q := by
  obtain ⟨xs, n, _, hx, hl, hlen, hf⟩ := DataW.trod_struct Try.underlying38 h
  rw [show Try.prog.cellsOf 38 = 6 by kernel_rfl] at hl
  have c0 : Try.prog.cellsOf 28 = 1 := by kernel_rfl
  have c1 : Try.prog.cellsOf 5 = 1 := by kernel_rfl
  have c2 : Try.prog.cellsOf 29 = 1 := by kernel_rfl
  have c3 : Try.prog.cellsOf 23 = 1 := by kernel_rfl
  match cs, hl, xs, hlen with
  | [v0, v1, v2, v3, v4, v5], _, [y0, y1, y2, y3, y4, y5], _ =>
    have g0 : DataW.trod enc Try.prog W base (fun _ => true) held n 23 [v0] = some y0 := by simpa [c3] using hf 0 _ rfl
    have g1 : DataW.trod enc Try.prog W base (fun _ => true) held n 5 [v1] = some y1 := by simpa [c1] using hf 1 _ rfl
    have g2 : DataW.trod enc Try.prog W base (fun _ => true) held n 28 [v2] = some y2 := by simpa [c0] using hf 2 _ rfl
    have g3 : DataW.trod enc Try.prog W base (fun _ => true) held n 28 [v3] = some y3 := by simpa [c0] using hf 3 _ rfl
    have g4 : DataW.trod enc Try.prog W base (fun _ => true) held n 23 [v4] = some y4 := by simpa [c3] using hf 4 _ rfl
    have g5 : DataW.trod enc Try.prog W base (fun _ => true) held n 29 [v5] = some y5 := by simpa [c2] using hf 5 _ rfl
    obtain ⟨t, e0, _, w0⟩ := DataW.trod_int Try.underlying23 g0
    obtain ⟨f, e1, _, w1⟩ := DataW.trod_int Try.underlying5 g1
    obtain ⟨s, e2, _, w2⟩ := DataW.trod_int Try.underlying28 g2
    obtain ⟨m, e3, _, w3⟩ := DataW.trod_int Try.underlying28 g3
    obtain ⟨p, e4, _, w4⟩ := DataW.trod_int Try.underlying23 g4
    obtain rfl : v0 = _ := by simpa using e0
    obtain rfl : v1 = _ := by simpa using e1
    obtain rfl : v2 = _ := by simpa using e2
    obtain rfl : v3 = _ := by simpa using e3
    obtain rfl : v4 = _ := by simpa using e4
    have k0 := wf_u32 w0
    have k1 := wf_u8 w1
    have k2 := wf_u16 w2
    have k3 := wf_u16 w3
    have k4 := wf_u32 w4
    obtain ⟨t, rfl⟩ : ∃ a : Nat, t = a := ⟨t.toNat, by omega⟩
    obtain ⟨f, rfl⟩ : ∃ a : Nat, f = a := ⟨f.toNat, by omega⟩
    obtain ⟨s, rfl⟩ : ∃ a : Nat, s = a := ⟨s.toNat, by omega⟩
    obtain ⟨m, rfl⟩ : ∃ a : Nat, m = a := ⟨m.toNat, by omega⟩
    obtain ⟨p, rfl⟩ : ∃ a : Nat, p = a := ⟨p.toNat, by omega⟩
    have b1 : Try.prog.bytesOf 5 = 1 := by kernel_rfl
    obtain ⟨A, len, cap, zs, rfl, hz, hreach⟩ : ∃ A len cap zs, v5 = .slice A len cap ∧ IsRow .u8 W A len cap zs ∧ cap ≤ 140737488351232 := by
      rcases open_ints Try.underlying29 Try.underlying5 c1 g5 with ⟨hcs, _⟩ | ⟨x, len, cap, zs, hcs, _, hlc, hm, hz, hy, hcell, hwz⟩
      · exact ⟨none, 0, 0, [], by simpa using hcs, .inl ⟨rfl, rfl, rfl, rfl⟩, by omega⟩
      · refine ⟨some x, len, cap, zs, by simpa using hcs, .inr ⟨x, rfl, hlc, hm, by simpa using hz, hcell, hwz⟩, ?_⟩
        simp only [if_true] at hz
        obtain ⟨y51, y52⟩ := y5
        simp only [Prod.mk.injEq] at hx hy
        obtain ⟨rfl, rfl⟩ := hy
        have hd := hx.1
        have h9 := hsz cap (by
          rw [hd]
          simp only [DataW.weights, Try.underlying38, Try.underlying29, List.map_cons, List.map_nil, DataW.weightsEach, List.mem_append, b1]
          refine .inr (.inr (.inr (.inr (.inr (.inl (List.mem_cons.2 (.inl ?_)))))))
          simp [lits]
          omega)
        have h10 : reachBytes = 140737488351232 := by decide
        omega
    obtain ⟨l, hl, h3, h4, hb, hr⟩ := hz.bytes
    exact ⟨(⟨t, f, s, m, p, l⟩, (A, len, cap)), rfl, ⟨⟨by show t < _; omega, by show f < _; omega, by show s < _; omega, by show m < _; omega, by show p < _; omega, hb⟩, hl, h3, hreach, hr, fun e => by
      rcases hz with ⟨_, h1, h2, _⟩ | ⟨x, h1, _⟩
      · exact ⟨h1, h2⟩
      · rw [show A = none from e] at h1
        cases h1⟩⟩
theorem pf_cell : ∀ {qs : List Pq} {i : Nat} {v : Value}, (pf qs)[i]? = some v → ∃ h : i / 6 < qs.length, (pcl qs[i / 6])[i % 6]? = some v := fun {qs i v} h => by
  have hi := (List.getElem?_eq_some_iff.1 h).1
  rw [pf_len] at hi
  have h6 : i / 6 < qs.length := by omega
  refine ⟨h6, ?_⟩
  have := pf_get h6 (i % 6) (Nat.mod_lt _ (by omega))
  rw [show i / 6 * 6 + i % 6 = i by omega] at this
  rw [← this]
  exact h
theorem open_pieces {a : Option Addr} {len cap : Nat} {d : DataW H} {pl : List MemPlace} (h : DataW.Trod enc Try.prog W base (fun _ => true) held 26 (.slice a len cap) d pl) (hsz : ∀ n ∈ d.weights Try.prog 26, n ≤ reachBytes) :
    ∃ qs, PcsIn W a len cap qs := by
  obtain ⟨fuel, hf⟩ := h
  have c3 : Try.prog.cellsOf 38 = 6 := by kernel_rfl
  rcases open_slice Try.underlying26 hf with ⟨hcs, _⟩ | ⟨x, l, c, m, n, D, Pl, hcs, _, hl, hm, hmm, hx, hr⟩
  · simp [Value.cells] at hcs
    obtain ⟨rfl, rfl, rfl⟩ := hcs
    exact ⟨[], rfl, Nat.le_refl _, Nat.zero_le _, fun i v h => by simp [pf] at h, fun q hq => by simp at hq⟩
  · simp [Value.cells] at hcs
    obtain ⟨rfl, rfl, rfl⟩ := hcs
    simp only [if_true] at hmm
    subst hmm
    rw [c3] at hr
    simp only [Prod.mk.injEq] at hx
    have hd := hx.1
    have b40 : Try.prog.bytesOf 38 = 40 := by kernel_rfl
    have hcr : m ≤ 140737488351232 := by
      have h9 := hsz (m * 40) (by
        rw [hd]
        simp only [DataW.weights, Try.underlying26, b40]
        refine List.mem_cons.2 (.inl ?_)
        simp
        omega)
      have h10 : reachBytes = 140737488351232 := by decide
      omega
    have each : ∀ i, i < len → ∃ q : Pq, W.cells? base (x.add (i * 6)) 6 = some (pcl q) ∧ PIn W q := by
      intro i hi
      obtain ⟨cs', k1, k2⟩ := hr i (by omega)
      obtain ⟨q, rfl, hv⟩ := open_piece k2 (fun n hn => hsz n (by
        rw [hd]
        simp only [DataW.weights, Try.underlying26]
        exact List.mem_cons_of_mem _ (List.mem_append_left _ (weights_in (List.mem_map.2 ⟨i, List.mem_range.2 hi, rfl⟩) hn))))
      exact ⟨q, k1, hv⟩
    haveI : Inhabited Pq := ⟨((⟨0, 0, 0, 0, 0, []⟩ : Pc), (none, 0, 0))⟩
    obtain ⟨q, hq⟩ := choose_lt each
    refine ⟨(List.range len).map q, by simp, hl, hcr, fun i v hv => ⟨x, rfl, ?_⟩, fun p hp => ?_⟩
    · obtain ⟨h2, h3⟩ := pf_cell hv
      simp only [List.length_map, List.length_range] at h2
      simp only [List.getElem_map, List.getElem_range] at h3
      obtain ⟨_, _, hc⟩ := World.cells?_some (hq (i / 6) h2).1
      have e := hc (i % 6) (Nat.mod_lt _ (by omega))
      rw [h3, add_add, show i / 6 * 6 + i % 6 = i by omega] at e
      exact e
    · obtain ⟨i, hi, rfl⟩ := List.mem_map.1 hp
      exact (hq i (List.mem_range.1 hi)).2
end
end Go.Proofs.Ythgbngnhlgaioaa
