/-
  A chunk by value as an argument: opened.
-/
import Derived.Test.YtbliipjiilmbcaaYP1a
import Derived.WideShapes
import Derived.ChangeShapes
import Derived.Deep.Strs
import Derived.Deep.Slices
import Derived.Deep.Fields
import Derived.ChangeSame
import Derived.Lib.SmallJoins
import Derived.ProofKit
import Derived.SizedLaws
namespace Go.Proofs.Ytbliipjiilmbcaa
open Go.RowKit Go.ChangeShapes Go.WideShapes Go.Deep Go.Joins Wire Tlv Chunk

section
variable {H : Type} {enc : TypeId × Value → H} {P : Program} {w : World} {base : Nat} {spare : Nat → Bool} {held : Bool}
theorem open_agg15 {r : Reach} {b0 : Nat} {t : TypeId} {f0 f1 f2 f3 f4 f5 f6 f7 f8 f9 f10 f11 f12 f13 f14 : Field} {v : Value} {d : DataW H} {p : List MemPlace} (hs : P.underlying t = some (.struct #[f0, f1, f2, f3, f4, f5, f6, f7, f8, f9, f10, f11, f12, f13, f14])) (hone : oneCellFields P #[f0, f1, f2, f3, f4, f5, f6, f7, f8, f9, f10, f11, f12, f13, f14] = true) (hC : P.cellsOf t = 15)
    (hv : Value.okWide P w r b0 t v) (h : DataW.Trod enc P w base spare held t v d p) :
    ∃ (v0 v1 v2 v3 v4 v5 v6 v7 v8 v9 v10 v11 v12 v13 v14 : Value) (y0 y1 y2 y3 y4 y5 y6 y7 y8 y9 y10 y11 y12 y13 y14 : DataW H × List MemPlace) (n : Nat), v = .agg #[v0, v1, v2, v3, v4, v5, v6, v7, v8, v9, v10, v11, v12, v13, v14] ∧ d = .agg [y0.1, y1.1, y2.1, y3.1, y4.1, y5.1, y6.1, y7.1, y8.1, y9.1, y10.1, y11.1, y12.1, y13.1, y14.1] ∧
      DataW.trod enc P w base spare held n f0.type [v0] = some y0 ∧ DataW.trod enc P w base spare held n f1.type [v1] = some y1 ∧ DataW.trod enc P w base spare held n f2.type [v2] = some y2 ∧ DataW.trod enc P w base spare held n f3.type [v3] = some y3 ∧ DataW.trod enc P w base spare held n f4.type [v4] = some y4 ∧ DataW.trod enc P w base spare held n f5.type [v5] = some y5 ∧ DataW.trod enc P w base spare held n f6.type [v6] = some y6 ∧ DataW.trod enc P w base spare held n f7.type [v7] = some y7 ∧ DataW.trod enc P w base spare held n f8.type [v8] = some y8 ∧ DataW.trod enc P w base spare held n f9.type [v9] = some y9 ∧ DataW.trod enc P w base spare held n f10.type [v10] = some y10 ∧ DataW.trod enc P w base spare held n f11.type [v11] = some y11 ∧ DataW.trod enc P w base spare held n f12.type [v12] = some y12 ∧ DataW.trod enc P w base spare held n f13.type [v13] = some y13 ∧ DataW.trod enc P w base spare held n f14.type [v14] = some y14 := by
  obtain ⟨cs, rfl, hsz⟩ := okWide_struct hs hv
  obtain ⟨l⟩ := cs
  match l, hsz.trans hC with
  | [c0, c1, c2, c3, c4, c5, c6, c7, c8, c9, c10, c11, c12, c13, c14], _ =>
    obtain ⟨fuel, hf⟩ := h
    obtain ⟨xs, n, _, hx, _, hlen, hg⟩ := DataW.trod_struct hs hf
    obtain ⟨o0, k0⟩ := hone_of hone 0 f0 rfl
    obtain ⟨o1, k1⟩ := hone_of hone 1 f1 rfl
    obtain ⟨o2, k2⟩ := hone_of hone 2 f2 rfl
    obtain ⟨o3, k3⟩ := hone_of hone 3 f3 rfl
    obtain ⟨o4, k4⟩ := hone_of hone 4 f4 rfl
    obtain ⟨o5, k5⟩ := hone_of hone 5 f5 rfl
    obtain ⟨o6, k6⟩ := hone_of hone 6 f6 rfl
    obtain ⟨o7, k7⟩ := hone_of hone 7 f7 rfl
    obtain ⟨o8, k8⟩ := hone_of hone 8 f8 rfl
    obtain ⟨o9, k9⟩ := hone_of hone 9 f9 rfl
    obtain ⟨o10, k10⟩ := hone_of hone 10 f10 rfl
    obtain ⟨o11, k11⟩ := hone_of hone 11 f11 rfl
    obtain ⟨o12, k12⟩ := hone_of hone 12 f12 rfl
    obtain ⟨o13, k13⟩ := hone_of hone 13 f13 rfl
    obtain ⟨o14, k14⟩ := hone_of hone 14 f14 rfl
    match xs, hlen with
    | [y0, y1, y2, y3, y4, y5, y6, y7, y8, y9, y10, y11, y12, y13, y14], _ =>
      simp only [Prod.mk.injEq] at hx
      exact ⟨c0, c1, c2, c3, c4, c5, c6, c7, c8, c9, c10, c11, c12, c13, c14, y0, y1, y2, y3, y4, y5, y6, y7, y8, y9, y10, y11, y12, y13, y14, n, rfl, by simpa using hx.1, by simpa [Value.cells, o0, k0] using hg 0 f0 rfl, by simpa [Value.cells, o1, k1] using hg 1 f1 rfl, by simpa [Value.cells, o2, k2] using hg 2 f2 rfl, by simpa [Value.cells, o3, k3] using hg 3 f3 rfl, by simpa [Value.cells, o4, k4] using hg 4 f4 rfl, by simpa [Value.cells, o5, k5] using hg 5 f5 rfl, by simpa [Value.cells, o6, k6] using hg 6 f6 rfl, by simpa [Value.cells, o7, k7] using hg 7 f7 rfl, by simpa [Value.cells, o8, k8] using hg 8 f8 rfl, by simpa [Value.cells, o9, k9] using hg 9 f9 rfl, by simpa [Value.cells, o10, k10] using hg 10 f10 rfl, by simpa [Value.cells, o11, k11] using hg 11 f11 rfl, by simpa [Value.cells, o12, k12] using hg 12 f12 rfl, by simpa [Value.cells, o13, k13] using hg 13 f13 rfl, by simpa [Value.cells, o14, k14] using hg 14 f14 rfl⟩
end
section
variable {H : Type} {enc : TypeId × Value → H} {W : World} {base : Nat} {held : Bool}
theorem weights_in {P : Program} {e : TypeId} {n : Nat} {d : DataW H} : ∀ {l : List (DataW H)}, d ∈ l → n ∈ d.weights P e → n ∈ DataW.weightsAll P e l
  | x :: l, hd, hn => by
    simp only [DataW.weightsAll, List.mem_append]
    rcases List.mem_cons.1 hd with rfl | hd
    · exact .inl hn
    · exact .inr (weights_in hd hn)
theorem reach_is : reachBytes = 140737488351232 := by decide
/-- A slice of bytes among a struct's fields. -/
theorem open_fbytes {fuel : Nat} {v : Value} {y : DataW H × List MemPlace} (h : DataW.trod enc Try.prog W base (fun _ => true) held fuel 23 [v] = some y) (hsz : ∀ n ∈ y.1.weights Try.prog 23, n ≤ reachBytes) :
    ∃ A n c l, v = .slice A n c ∧ Byt l ∧ Vb W l v := by
  have c1 : Try.prog.cellsOf 5 = 1 := by kernel_rfl
  have b1 : Try.prog.bytesOf 5 = 1 := by kernel_rfl
  rcases open_ints Try.underlying23 Try.underlying5 c1 h with ⟨hcs, _⟩ | ⟨x, len, cap, zs, hcs, _, hlc, hm, hz, hy, hcell, hwz⟩
  · obtain rfl : v = _ := by simpa using hcs
    exact ⟨none, 0, 0, [], rfl, fun c hc => by simp at hc, none, 0, 0, rfl, rfl, Nat.le_refl _, Nat.zero_le _, Nat.zero_le _, Row.nil_ _ _, fun _ => ⟨rfl, rfl⟩⟩
  · obtain rfl : v = _ := by simpa using hcs
    simp only [if_true] at hz
    have hlen : (zs.take len).length = len := by simp; omega
    have hreach : len ≤ 140737488351232 := by
      subst hy
      have h9 := hsz cap (by
        simp only [DataW.weights, Try.underlying23, b1]
        refine List.mem_cons.2 (.inl ?_)
        simp [lits]
        omega)
      rw [reach_is] at h9
      omega
    refine ⟨some x, len, cap, zs.take len, rfl, fun c hc => wf_u8 (hwz c (List.mem_of_mem_take hc)), some x, len, cap, rfl, hlen, hlc, hm, hreach, fun i v hv => ⟨x, rfl, ?_⟩, fun h => by cases h⟩
    simp only [bs, List.map_take, List.getElem?_take] at hv
    split at hv
    · rw [List.getElem?_map] at hv
      obtain ⟨y, hy, rfl⟩ := Option.map_eq_some_iff.1 hv
      obtain ⟨hi, hy⟩ := List.getElem?_eq_some_iff.1 hy
      rw [hcell i hi]
      simp [List.getD, hy, List.getElem?_eq_getElem hi]
    · cases hv
/-- A slice of numbers among a struct's fields. -/
theorem open_fnums {fuel : Nat} {v : Value} {y : DataW H × List MemPlace} (h : DataW.trod enc Try.prog W base (fun _ => true) held fuel 28 [v] = some y) (hsz : ∀ n ∈ y.1.weights Try.prog 28, n ≤ reachBytes) :
    ∃ A n c l, v = .slice A n c ∧ (∀ a ∈ l, a < 4294967296) ∧ l.length = n ∧ n * 4 ≤ 140737488351232 ∧ Row W A (us l) := by
  have c1 : Try.prog.cellsOf 27 = 1 := by kernel_rfl
  have b1 : Try.prog.bytesOf 27 = 4 := by kernel_rfl
  rcases open_ints Try.underlying28 Try.underlying27 c1 h with ⟨hcs, _⟩ | ⟨x, len, cap, zs, hcs, _, hlc, hm, hz, hy, hcell, hwz⟩
  · obtain rfl : v = _ := by simpa using hcs
    exact ⟨none, 0, 0, [], rfl, fun c hc => by simp at hc, rfl, Nat.zero_le _, fun i v h => by simp [us] at h⟩
  · obtain rfl : v = _ := by simpa using hcs
    simp only [if_true] at hz
    have hlen : (zs.take len).length = len := by simp; omega
    have hreach : len * 4 ≤ 140737488351232 := by
      subst hy
      have h9 := hsz (cap * 4) (by
        simp only [DataW.weights, Try.underlying28, b1]
        refine List.mem_cons.2 (.inl ?_)
        simp [lits]
        omega)
      rw [reach_is] at h9
      omega
    refine ⟨some x, len, cap, (zs.take len).map Int.toNat, rfl, ?_, by simp; omega, hreach, fun i v hv => ⟨x, rfl, ?_⟩⟩
    · intro a ha
      obtain ⟨z, hz1, rfl⟩ := List.mem_map.1 ha
      have := wf_u32 (hwz z (List.mem_of_mem_take hz1))
      omega
    · simp only [us, List.map_map, List.map_take, List.getElem?_take] at hv
      split at hv
      · rw [List.getElem?_map] at hv
        obtain ⟨y, hy, rfl⟩ := Option.map_eq_some_iff.1 hv
        obtain ⟨hi, hy⟩ := List.getElem?_eq_some_iff.1 hy
        have hw := wf_u32 (hwz y (by rw [← hy]; exact List.getElem_mem hi))
        rw [hcell i hi]
        simp [List.getD, hy, List.getElem?_eq_getElem hi]
        omega
      · cases hv
theorem gs_cell : ∀ {l : List (Nat × Nat)} {i : Nat} {v : Value}, (gs l)[i]? = some v → ∃ h : i / 2 < l.length, ([.int .u16 (l[i / 2].1 : Int), .int .u16 (l[i / 2].2 : Int)] : List Value)[i % 2]? = some v
  | [], i, v, h => by simp [gs] at h
  | q :: qs, i, v, h => by
    have e : gs (q :: qs) = [.int .u16 (q.1 : Int), .int .u16 (q.2 : Int)] ++ gs qs := by simp [gs]
    rw [e] at h
    by_cases hi : i < 2
    · rw [List.getElem?_append_left (by simpa using hi)] at h
      have e1 : i / 2 = 0 := by omega
      have e2 : i % 2 = i := by omega
      simp only [e1, e2, List.length_cons]
      exact ⟨by omega, h⟩
    · rw [List.getElem?_append_right (by simp; omega)] at h
      obtain ⟨h2, h3⟩ := gs_cell h
      simp only [List.length_cons, List.length_nil] at h2 h3
      have e1 : i / 2 = (i - 2) / 2 + 1 := by omega
      have e2 : i % 2 = (i - 2) % 2 := by omega
      simp only [e1, e2, List.length_cons]
      exact ⟨by omega, h3⟩
theorem cs_cell : ∀ {l : List (Nat × List Int)} {q : List Value} {i : Nat} {v : Value}, (cs l q)[i]? = some v → ∃ (h : i / 2 < l.length) (h' : i / 2 < q.length), ([.int .u16 (l[i / 2].1 : Int), q[i / 2]] : List Value)[i % 2]? = some v
  | [], q, i, v, h => by simp [cs] at h
  | x :: l, [], i, v, h => by simp [cs] at h
  | x :: l, u :: q, i, v, h => by
    have e : cs (x :: l) (u :: q) = [.int .u16 (x.1 : Int), u] ++ cs l q := by simp [cs]
    rw [e] at h
    by_cases hi : i < 2
    · rw [List.getElem?_append_left (by simpa using hi)] at h
      have e1 : i / 2 = 0 := by omega
      have e2 : i % 2 = i := by omega
      simp only [e1, e2, List.length_cons]
      exact ⟨by omega, by omega, h⟩
    · rw [List.getElem?_append_right (by simp; omega)] at h
      obtain ⟨h2, h3, h4⟩ := cs_cell h
      simp only [List.length_cons, List.length_nil] at h2 h3 h4
      have e1 : i / 2 = (i - 2) / 2 + 1 := by omega
      have e2 : i % 2 = (i - 2) % 2 := by omega
      simp only [e1, e2, List.length_cons]
      exact ⟨by omega, by omega, h4⟩
set_option maxRecDepth 10000 in
/-- A gap's cells. -/
theorem open_gap {fuel : Nat} {cs : List Value} {x : DataW H × List MemPlace} (h : DataW.trod enc Try.prog W base (fun _ => true) held fuel 63 cs = some x) :
    ∃ g : Nat × Nat, (g.1 < 65536 ∧ g.2 < 65536) ∧ cs = [.int .u16 (g.1 : Int), .int .u16 (g.2 : Int)] := by
  obtain ⟨y0, y1, n, _, hl, h0, h1⟩ := trod_struct2 Try.underlying63 h
  rw [show Try.prog.cellsOf 63 = 2 by kernel_rfl] at hl
  have c0 : Try.prog.cellsOf 22 = 1 := by kernel_rfl
  match cs, hl with
  | [v0, v1], _ =>
    have g0 : DataW.trod enc Try.prog W base (fun _ => true) held n 22 [v0] = some y0 := by simpa [c0] using h0
    have g1 : DataW.trod enc Try.prog W base (fun _ => true) held n 22 [v1] = some y1 := by simpa [c0] using h1
    obtain ⟨k, e0, _, w0⟩ := DataW.trod_int Try.underlying22 g0
    obtain ⟨f, e1, _, w1⟩ := DataW.trod_int Try.underlying22 g1
    obtain rfl : v0 = _ := by simpa using e0
    obtain rfl : v1 = _ := by simpa using e1
    have k1 := wf_u16 w0
    have f1 := wf_u16 w1
    refine ⟨(k.toNat, f.toNat), ⟨by show k.toNat < 65536; omega, by show f.toNat < 65536; omega⟩, ?_⟩
    simp only [Int.toNat_of_nonneg k1.1, Int.toNat_of_nonneg f1.1]
set_option maxRecDepth 10000 in
/-- A cause's cells. -/
theorem open_cause {fuel : Nat} {cs : List Value} {x : DataW H × List MemPlace} (h : DataW.trod enc Try.prog W base (fun _ => true) held fuel 73 cs = some x) (hsz : ∀ n ∈ x.1.weights Try.prog 73, n ≤ reachBytes) :
    ∃ (q : (Nat × List Int) × Value), cs = [.int .u16 (q.1.1 : Int), q.2] ∧ q.1.1 < 65536 ∧ Byt q.1.2 ∧ Vb W q.1.2 q.2 := by
  obtain ⟨y0, y1, n, hx, hl, h0, h1⟩ := trod_struct2 Try.underlying73 h
  rw [show Try.prog.cellsOf 73 = 2 by kernel_rfl] at hl
  have c0 : Try.prog.cellsOf 22 = 1 := by kernel_rfl
  have c2 : Try.prog.cellsOf 23 = 1 := by kernel_rfl
  match cs, hl with
  | [v0, v1], _ =>
    have g0 : DataW.trod enc Try.prog W base (fun _ => true) held n 22 [v0] = some y0 := by simpa [c0] using h0
    have g1 : DataW.trod enc Try.prog W base (fun _ => true) held n 23 [v1] = some y1 := by simpa [c2] using h1
    obtain ⟨k, e0, _, w0⟩ := DataW.trod_int Try.underlying22 g0
    obtain rfl : v0 = _ := by simpa using e0
    have k1 := wf_u16 w0
    obtain ⟨A, m, c, l, rfl, hb, hv⟩ := open_fbytes g1 (fun j hj => hsz j (by
      subst hx
      simp only [DataW.weights, Try.underlying73, List.map_cons, List.map_nil, DataW.weightsEach, List.mem_append]
      exact .inr (.inl hj)))
    refine ⟨((k.toNat, l), .slice A m c), ?_, by show k.toNat < 65536; omega, hb, hv⟩
    simp only [Int.toNat_of_nonneg k1.1]
/-- A slice of gaps among a struct's fields. -/
theorem open_fgaps {fuel : Nat} {v : Value} {y : DataW H × List MemPlace} (h : DataW.trod enc Try.prog W base (fun _ => true) held fuel 29 [v] = some y) (hsz : ∀ n ∈ y.1.weights Try.prog 29, n ≤ reachBytes) :
    ∃ A n c l, v = .slice A n c ∧ (∀ g ∈ l, g.1 < 65536 ∧ g.2 < 65536) ∧ l.length = n ∧ n * 4 ≤ 140737488351232 ∧ Row W A (gs l) := by
  have c3 : Try.prog.cellsOf 63 = 2 := by kernel_rfl
  have b1 : Try.prog.bytesOf 63 = 4 := by kernel_rfl
  rcases open_slice Try.underlying29 h with ⟨hcs, _⟩ | ⟨x, len, cap, m, n, D, Pl, hcs, _, hl, hm, hmm, hx, hr⟩
  · obtain rfl : v = _ := by simpa using hcs
    exact ⟨none, 0, 0, [], rfl, fun c hc => by simp at hc, rfl, Nat.zero_le _, fun i v h => by simp [gs] at h⟩
  · obtain rfl : v = _ := by simpa using hcs
    simp only [if_true] at hmm
    subst hmm
    rw [c3] at hr
    have hreach : len * 4 ≤ 140737488351232 := by
      subst hx
      have h9 := hsz (m * 4) (by
        simp only [DataW.weights, Try.underlying29, b1]
        refine List.mem_cons.2 (.inl ?_)
        simp
        omega)
      rw [reach_is] at h9
      omega
    have each : ∀ i, i < len → ∃ g : Nat × Nat, (g.1 < 65536 ∧ g.2 < 65536) ∧ W.cells? base (x.add (i * 2)) 2 = some [.int .u16 (g.1 : Int), .int .u16 (g.2 : Int)] := by
      intro i hi
      obtain ⟨cs', k1, k2⟩ := hr i (by omega)
      obtain ⟨g, hg, rfl⟩ := open_gap k2
      exact ⟨g, hg, k1⟩
    obtain ⟨q, hq⟩ := choose_lt each
    refine ⟨some x, len, m, (List.range len).map q, rfl, ?_, by simp, hreach, fun i v hv => ⟨x, rfl, ?_⟩⟩
    · intro g hg
      obtain ⟨i, hi, rfl⟩ := List.mem_map.1 hg
      exact (hq i (List.mem_range.1 hi)).1
    · obtain ⟨h2, h3⟩ := gs_cell hv
      simp only [List.length_map, List.length_range] at h2
      simp only [List.getElem_map, List.getElem_range] at h3
      obtain ⟨_, _, hc⟩ := World.cells?_some (hq (i / 2) h2).2
      have e := hc (i % 2) (Nat.mod_lt _ (by omega))
      rw [h3, add_add, show i / 2 * 2 + i % 2 = i by omega] at e
      exact e
/-- A slice of causes among a struct's fields. -/
theorem open_fcauses {fuel : Nat} {v : Value} {y : DataW H × List MemPlace} (h : DataW.trod enc Try.prog W base (fun _ => true) held fuel 30 [v] = some y) (hsz : ∀ n ∈ y.1.weights Try.prog 30, n ≤ reachBytes) :
    ∃ A n c l q, v = .slice A n c ∧ (∀ x ∈ l, x.1 < 65536 ∧ Byt x.2) ∧ l.length = n ∧ n * 32 ≤ 140737488351232 ∧ Row W A (cs l q) ∧ q.length = l.length ∧ ∀ (i : Nat) x v, l[i]? = some x → q[i]? = some v → Vb W x.2 v := by
  have c3 : Try.prog.cellsOf 73 = 2 := by kernel_rfl
  have b1 : Try.prog.bytesOf 73 = 32 := by kernel_rfl
  rcases open_slice Try.underlying30 h with ⟨hcs, _⟩ | ⟨x, len, cap, m, n, D, Pl, hcs, _, hl, hm, hmm, hx, hr⟩
  · obtain rfl : v = _ := by simpa using hcs
    exact ⟨none, 0, 0, [], [], rfl, fun c hc => by simp at hc, rfl, Nat.zero_le _, fun i v h => by simp [cs] at h, rfl, fun i x v h _ => by simp at h⟩
  · obtain rfl : v = _ := by simpa using hcs
    simp only [if_true] at hmm
    subst hmm
    rw [c3] at hr
    have hreach : len * 32 ≤ 140737488351232 := by
      subst hx
      have h9 := hsz (m * 32) (by
        simp only [DataW.weights, Try.underlying30, b1]
        refine List.mem_cons.2 (.inl ?_)
        simp
        omega)
      rw [reach_is] at h9
      omega
    have each : ∀ i, i < len → ∃ p : (Nat × List Int) × Value, W.cells? base (x.add (i * 2)) 2 = some [.int .u16 (p.1.1 : Int), p.2] ∧ p.1.1 < 65536 ∧ Byt p.1.2 ∧ Vb W p.1.2 p.2 := by
      intro i hi
      obtain ⟨cs', k1, k2⟩ := hr i (by omega)
      obtain ⟨p, rfl, h1, h2, h3⟩ := open_cause k2 (fun n hn => hsz n (by
        subst hx
        simp only [DataW.weights, Try.underlying30]
        exact List.mem_cons_of_mem _ (List.mem_append_left _ (weights_in (List.mem_map.2 ⟨i, List.mem_range.2 hi, rfl⟩) hn))))
      exact ⟨p, k1, h1, h2, h3⟩
    haveI : Inhabited ((Nat × List Int) × Value) := ⟨((0, []), .slice none 0 0)⟩
    obtain ⟨p, hp⟩ := choose_lt each
    refine ⟨some x, len, m, (List.range len).map fun i => (p i).1, (List.range len).map fun i => (p i).2, rfl, ?_, by simp, hreach, fun i v hv => ⟨x, rfl, ?_⟩, by simp, ?_⟩
    · intro g hg
      obtain ⟨i, hi, rfl⟩ := List.mem_map.1 hg
      exact ⟨(hp i (List.mem_range.1 hi)).2.1, (hp i (List.mem_range.1 hi)).2.2.1⟩
    · obtain ⟨h2, _, h3⟩ := cs_cell hv
      simp only [List.length_map, List.length_range] at h2
      simp only [List.getElem_map, List.getElem_range] at h3
      obtain ⟨_, _, hc⟩ := World.cells?_some (hp (i / 2) h2).1
      have e := hc (i % 2) (Nat.mod_lt _ (by omega))
      rw [h3, add_add, show i / 2 * 2 + i % 2 = i by omega] at e
      exact e
    · intro i x' v' h1 h2
      simp only [List.getElem?_map] at h1 h2
      obtain ⟨j, hj, rfl⟩ := Option.map_eq_some_iff.1 h1
      rw [hj] at h2
      have : v' = (p j).2 := by simpa using h2.symm
      subst this
      have hjl : j < len := List.mem_range.1 (List.mem_of_getElem? hj)
      exact (hp j hjl).2.2.2
set_option maxRecDepth 10000 in
/-- A chunk by value. -/
theorem open_chunk {r : Reach} {b0 : Nat} {v : Value} {d : DataW H} {p : List MemPlace} (hv : Value.okWide Try.prog W r b0 32 v) (h : DataW.Trod enc Try.prog W base (fun _ => true) held 32 v d p) (hsz : ∀ n ∈ d.weights Try.prog 32, n ≤ reachBytes) :
    ∃ c s, v = .agg (cv c s) ∧ Ch W c s := by
  obtain ⟨v0, v1, v2, v3, v4, v5, v6, v7, v8, v9, v10, v11, v12, v13, v14, y0, y1, y2, y3, y4, y5, y6, y7, y8, y9, y10, y11, y12, y13, y14, n, rfl, rfl, t0, t1, t2, t3, t4, t5, t6, t7, t8, t9, t10, t11, t12, t13, t14⟩ := open_agg15 Try.underlying32 (by kernel_rfl) (by kernel_rfl) hv h
  obtain ⟨x0, e0, _, w0⟩ := DataW.trod_int Try.underlying5 t0
  obtain rfl : v0 = _ := by simpa using e0
  have n0 := wf_u8 w0
  obtain ⟨x1, e1, _, w1⟩ := DataW.trod_int Try.underlying5 t1
  obtain rfl : v1 = _ := by simpa using e1
  have n1 := wf_u8 w1
  obtain ⟨x2, e2, _, w2⟩ := DataW.trod_int Try.underlying27 t2
  obtain rfl : v2 = _ := by simpa using e2
  have n2 := wf_u32 w2
  obtain ⟨x3, e3, _, w3⟩ := DataW.trod_int Try.underlying27 t3
  obtain rfl : v3 = _ := by simpa using e3
  have n3 := wf_u32 w3
  obtain ⟨x4, e4, _, w4⟩ := DataW.trod_int Try.underlying27 t4
  obtain rfl : v4 = _ := by simpa using e4
  have n4 := wf_u32 w4
  obtain ⟨x5, e5, _, w5⟩ := DataW.trod_int Try.underlying22 t5
  obtain rfl : v5 = _ := by simpa using e5
  have n5 := wf_u16 w5
  obtain ⟨x6, e6, _, w6⟩ := DataW.trod_int Try.underlying22 t6
  obtain rfl : v6 = _ := by simpa using e6
  have n6 := wf_u16 w6
  obtain ⟨x7, e7, _, w7⟩ := DataW.trod_int Try.underlying22 t7
  obtain rfl : v7 = _ := by simpa using e7
  have n7 := wf_u16 w7
  obtain ⟨x8, e8, _, w8⟩ := DataW.trod_int Try.underlying22 t8
  obtain rfl : v8 = _ := by simpa using e8
  have n8 := wf_u16 w8
  obtain ⟨x9, e9, _, w9⟩ := DataW.trod_int Try.underlying27 t9
  obtain rfl : v9 = _ := by simpa using e9
  have n9 := wf_u32 w9
  have hmem : ∀ (j : Nat) (t : TypeId) (y : DataW H), [5, 5, 27, 27, 27, 22, 22, 22, 22, 27, 23, 28, 29, 28, 30][j]? = some t → [y0.1, y1.1, y2.1, y3.1, y4.1, y5.1, y6.1, y7.1, y8.1, y9.1, y10.1, y11.1, y12.1, y13.1, y14.1][j]? = some y → ∀ m ∈ y.weights Try.prog t, m ≤ reachBytes := fun j t y h1 h2 m hm => hsz m (by
    simp only [DataW.weights, Try.underlying32, List.map_cons, List.map_nil]
    exact DataW.weights_mem_each h1 h2 m hm)
  obtain ⟨dA, dn, dc, da, rfl, hda, hdv⟩ := open_fbytes t10 (hmem 10 _ _ rfl rfl)
  obtain ⟨aA, an, ac, ad, rfl, had, hal, ham, har⟩ := open_fnums t11 (hmem 11 _ _ rfl rfl)
  obtain ⟨gA, gn, gc, ga, rfl, hga, hgl, hgm, hgr⟩ := open_fgaps t12 (hmem 12 _ _ rfl rfl)
  obtain ⟨uA, un, uc, du, rfl, hdu, hul, hum, hur⟩ := open_fnums t13 (hmem 13 _ _ rfl rfl)
  obtain ⟨cA, cn, cc, ca, cq, rfl, hca, hcl, hcm, hcr, hql, hcd⟩ := open_fcauses t14 (hmem 14 _ _ rfl rfl)
  obtain ⟨A', n', c', ev, hdl, hd1, hd2, hd3, hd4, hd5⟩ := id hdv
  injection ev with ev1 ev2 ev3
  subst ev1; subst ev2; subst ev3
  refine ⟨⟨x0.toNat, x1.toNat, x2.toNat, x3.toNat, x4.toNat, x5.toNat, x6.toNat, x7.toNat, x8.toNat, x9.toNat, da, ad, ga, du, ca⟩, ⟨dA, dn, dc, aA, an, ac, gA, gn, gc, uA, un, uc, cA, cn, cc, cq⟩, ?_, ⟨⟨by show x0.toNat < 256; omega, by show x1.toNat < 256; omega, by show x2.toNat < 4294967296; omega, by show x3.toNat < 4294967296; omega, by show x4.toNat < 4294967296; omega, by show x5.toNat < 65536; omega, by show x6.toNat < 65536; omega, by show x7.toNat < 65536; omega, by show x8.toNat < 65536; omega, by show x9.toNat < 4294967296; omega, hda, had, hga, hdu, hca⟩, ⟨hdl, hal, hgl, hul, hcl, hd3, ham, hgm, hum, hcm⟩, hdv, har, hgr, hur, hcr, hql, hcd⟩⟩
  simp only [cv, Int.toNat_of_nonneg n0.1, Int.toNat_of_nonneg n1.1, Int.toNat_of_nonneg n2.1, Int.toNat_of_nonneg n3.1, Int.toNat_of_nonneg n4.1, Int.toNat_of_nonneg n5.1, Int.toNat_of_nonneg n6.1, Int.toNat_of_nonneg n7.1, Int.toNat_of_nonneg n8.1, Int.toNat_of_nonneg n9.1]
end
end Go.Proofs.Ytbliipjiilmbcaa
