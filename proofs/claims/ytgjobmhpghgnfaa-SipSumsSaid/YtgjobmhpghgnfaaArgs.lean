/-
  Arguments opened: an array of bytes by value; a slice of slices of bytes.
-/
import Derived.Test.YtgjobmhpghgnfaaSipOf
import Derived.WideShapes
import Derived.ChangeShapes
import Derived.Deep.Matrix
import Derived.ProofKit
import Derived.SizedLaws
namespace Go.Proofs.Ytgjobmhpghgnfaa
open Go.RowKit Go.ChangeShapes Go.WideShapes Sip

section
variable {H : Type} {enc : TypeId × Value → H} {P : Program} {W : World} {base : Nat} {sp : Nat → Bool} {held : Bool}
theorem bytes_of_mapM {e : TypeId} (he : P.underlying e = some (.int .u8)) {m : Nat} (cs : List Value) : ∀ (L : List Nat) (xs : List (DataW H × List MemPlace)),
    L.mapM (fun i => DataW.trod enc P W base sp held m e ((cs.drop (i * 1)).take 1)) = some xs → ∀ i ∈ L, i < cs.length → ∃ a : Int, cs[i]? = some (.int .u8 a) ∧ 0 ≤ a ∧ a < 256
  | [], _, _, i, hi, _ => by simp at hi
  | j :: L, xs, h, i, hi, hlt => by
    rw [List.mapM_cons] at h
    simp only [bind, Option.bind_eq_some_iff, pure, Option.some.injEq] at h
    obtain ⟨y, hy, ys, hys, rfl⟩ := h
    rcases List.mem_cons.1 hi with rfl | hi
    · obtain ⟨a, ea, rfl, wa⟩ := DataW.trod_int he hy
      refine ⟨a, ?_, wf_u8 wa⟩
      have h3 := congrArg (fun l : List Value => l[0]?) ea
      simpa [List.getElem?_take, List.getElem?_drop] using h3
    · exact bytes_of_mapM he cs L ys hys i hi hlt
/-- An array of n bytes by value. -/
theorem open_byte_array {t e : TypeId} {n : Nat} (ht : P.underlying t = some (.array n e)) (he : P.underlying e = some (.int .u8)) (hc1 : P.cellsOf e = 1) (hcn : P.cellsOf t = n)
    {r : Reach} {b0 : Nat} {v : Value} (hv : Value.okWide P W r b0 t v) {d : DataW H} {ps : List MemPlace} (h : DataW.Trod enc P W base sp held t v d ps) :
    ∃ k : List Int, v = .agg (kv k) ∧ k.length = n ∧ Byt k := by
  simp only [Value.okWide, ht] at hv
  obtain ⟨cs, rfl, h2, _⟩ := hv
  rw [hcn] at h2
  obtain ⟨fuel, hf⟩ := h
  cases fuel with
  | zero => simp [DataW.trod] at hf
  | succ m =>
    rw [DataW.trod_step] at hf
    unfold DataW.trodStep at hf
    simp only [ht, Value.cells] at hf
    rw [if_pos (by rw [hcn]; simpa using h2)] at hf
    simp only [Option.map_eq_some_iff, hc1] at hf
    obtain ⟨ys, hy, _⟩ := hf
    have each := bytes_of_mapM he cs.toList _ ys hy
    have each2 : ∀ i, i < n → ∃ a : Int, cs[i]? = some (.int .u8 a) ∧ 0 ≤ a ∧ a < 256 := fun i hi => by
      have := each i (by simpa using hi) (by simp; omega)
      simpa using this
    let val : Value → Int := fun | .int _ a => a | _ => 0
    refine ⟨cs.toList.map val, ?_, by simp [h2], fun c hc => ?_⟩
    · congr 1
      apply Array.ext_getElem?
      intro i
      by_cases hi : i < n
      · obtain ⟨a, ha, _⟩ := each2 i hi
        simp [kv, bs, ha, val]
      · simp [kv, bs, h2, hi]
    · obtain ⟨x, hx, rfl⟩ := List.mem_map.1 hc
      obtain ⟨i, hi, rfl⟩ := List.mem_iff_getElem.1 hx
      obtain ⟨a, ha, hb⟩ := each2 i (by simp at hi; omega)
      have : cs.toList[i] = .int .u8 a := by
        have h3 : cs.toList[i]? = some (.int .u8 a) := by simpa using ha
        rw [List.getElem?_eq_getElem hi] at h3
        exact Option.some.inj h3
      rw [this]
      exact hb
/-- A part without a bound. -/
def Part0 (W : World) (q : Value × List Int) : Prop := ∃ A n c, q.1 = .slice A n c ∧ q.2.length = n ∧ n ≤ c ∧ c ≤ 140737488351232 ∧ Byt q.2 ∧ Row W A (bs q.2) ∧ (A = none → c = 0)
def Parts0 (W : World) (P : Option Addr) (np cp : Nat) (ps : List (Value × List Int)) : Prop := ps.length = np ∧ np ≤ cp ∧ cp ≤ maxLen ∧ Row W P (ps.map (·.1)) ∧ ∀ q ∈ ps, Part0 W q
theorem Part0.below {W W' : World} {q : Value × List Int} (h : Part0 W q) (hb : Below W.heap.size W W') : Part0 W' q := by
  obtain ⟨A, n, c, h1, h2, h3, h4, h5, h6, h7⟩ := h
  exact ⟨A, n, c, h1, h2, h3, h4, h5, h6.below hb, h7⟩
theorem Parts0.below {W W' : World} {P : Option Addr} {np cp : Nat} {ps : List (Value × List Int)} (h : Parts0 W P np cp ps) (hb : Below W.heap.size W W') : Parts0 W' P np cp ps :=
  ⟨h.1, h.2.1, h.2.2.1, h.2.2.2.1.below hb, fun q hq => (h.2.2.2.2 q hq).below hb⟩
theorem Parts0.at {W : World} {P : Option Addr} {np cp : Nat} {ps : List (Value × List Int)} (h : Parts0 W P np cp ps) {k : Nat} (hk : k < np) :
    ∃ (hk' : k < ps.length) (a : Addr) (A : Option Addr) (n c : Nat) (l : List Int), P = some a ∧ W.cell? (a.add k) = some (.slice A n c) ∧ ps[k] = (.slice A n c, l) ∧ l.length = n ∧ n ≤ c ∧ c ≤ 140737488351232 ∧ Byt l ∧ Row W A (bs l) ∧ (A = none → c = 0) := by
  have hk' : k < ps.length := by rw [h.1]; exact hk
  obtain ⟨a, hP, hc⟩ := h.2.2.2.1 k ps[k].1 (by rw [List.getElem?_map, List.getElem?_eq_getElem hk']; rfl)
  obtain ⟨A, n, c, h1, h2, h3, h4, h5, h6, h7⟩ := h.2.2.2.2 ps[k] (List.getElem_mem hk')
  exact ⟨hk', a, A, n, c, ps[k].2, hP, by rw [hc, h1], by rw [← h1], h2, h3, h4, h5, h6, h7⟩
/-- With bounds. -/
theorem Parts0.bounded {W : World} {P : Option Addr} {np cp : Nat} {ps : List (Value × List Int)} (h : Parts0 W P np cp ps) (hb : (flat ps).length ≤ 1000000) : Parts W P ps := by
  refine ⟨h.2.2.2.1, fun q hq => ?_⟩
  obtain ⟨A, n, c, h1, h2, h3, h4, h5, h6, h7⟩ := h.2.2.2.2 q hq
  refine ⟨A, n, c, h1, h2, ?_, h5, h6⟩
  have : q.2.length ≤ (flat ps).length := by
    obtain ⟨i, hi, rfl⟩ := List.mem_iff_getElem.1 hq
    have h8 := flat_take_le (ps := ps) (i + 1)
    rw [flat_take_succ hi (v := ps[i].1) (l := ps[i].2) rfl, List.length_append] at h8
    omega
  omega
theorem weights_all {P : Program} {e : TypeId} {n : Nat} {d : DataW H} : ∀ {l : List (DataW H)}, d ∈ l → n ∈ d.weights P e → n ∈ DataW.weightsAll P e l
  | x :: l, hd, hn => by
    simp only [DataW.weightsAll, List.mem_append]
    rcases List.mem_cons.1 hd with rfl | hd
    · exact Or.inl hn
    · exact Or.inr (weights_all hd hn)
/-- A slice of slices of bytes that came in. -/
theorem open_byte_rows {t e q : TypeId} (ht : P.underlying t = some (.slice e)) (he : P.underlying e = some (.slice q)) (hq : P.underlying q = some (.int .u8)) (ce : P.cellsOf e = 1) (cq : P.cellsOf q = 1)
    {a : Option Addr} {len cap : Nat} {d : DataW H} {pl : List MemPlace} (h : DataW.Trod enc P W base (fun _ => true) held t (.slice a len cap) d pl) (hby : P.bytesOf q = 1) (hsz : ∀ n ∈ d.weights P t, n ≤ reachBytes) : ∃ ps, Parts0 W a len cap ps := by
  obtain ⟨fuel, hf⟩ := h
  rcases Go.Deep.open_int_rows ht he hq ce cq hf with ⟨hcs, _⟩ | ⟨x, l, c, A, L, C, Z, hcs, _, hl, hm, hx, hr⟩
  · simp [Value.cells] at hcs
    obtain ⟨rfl, rfl, rfl⟩ := hcs
    exact ⟨[], rfl, Nat.le_refl _, Nat.zero_le _, fun i v h => by simp at h, fun q hq => by simp at hq⟩
  · simp [Value.cells] at hcs
    obtain ⟨rfl, rfl, rfl⟩ := hcs
    refine ⟨(List.range len).map fun r => (.slice (A r) (L r) (C r), (Z r).take (L r)), by simp, hl, hm, fun i v hv => ?_, fun p hp => ?_⟩
    · rw [List.getElem?_map, List.getElem?_map] at hv
      by_cases hi : i < len
      · rw [List.getElem?_range hi] at hv
        simp at hv
        subst hv
        exact ⟨x, rfl, (hr i (by omega)).1⟩
      · rw [List.getElem?_eq_none (by simp; omega)] at hv
        simp at hv
    · obtain ⟨r, hrr, rfl⟩ := List.mem_map.1 hp
      have hrl := List.mem_range.1 hrr
      obtain ⟨_, h2, h3, h4, h5, h6, h7⟩ := hr r (by omega)
      have h8 : C r ≤ 140737488351232 := by
        cases hA : A r with
        | none => have := h6 hA; omega
        | some a' =>
          simp only [Prod.mk.injEq] at hx
          have hd := hx.1
          have h9 : Go.Deep.intRow .u8 (A r) (L r) (Z r) ∈ ((List.range len).map fun r => Go.Deep.intRow (H := H) .u8 (A r) (L r) (Z r)) := List.mem_map.2 ⟨r, hrr, rfl⟩
          have h10 := hsz (C r) (by
            rw [hd]
            simp only [DataW.weights, ht]
            refine List.mem_cons_of_mem _ (List.mem_append_left _ (weights_all h9 ?_))
            simp only [Go.Deep.intRow, hA, DataW.weights, he, hby, lits, List.length_map, List.length_take, List.length_drop, h4]
            refine List.mem_cons.2 (Or.inl ?_)
            omega)
          exact h10
      refine ⟨A r, L r, C r, rfl, by simp; omega, h2, h8, fun n hn => wf_u8 (h5 n (List.mem_of_mem_take hn)), fun i v hv => ?_, h6⟩
      simp only [bs, List.map_take, List.getElem?_take] at hv
      split at hv
      · rw [List.getElem?_map] at hv
        obtain ⟨y, hy, rfl⟩ := Option.map_eq_some_iff.1 hv
        obtain ⟨hi, hy⟩ := List.getElem?_eq_some_iff.1 hy
        cases hA : A r with
        | none => have := h6 hA; omega
        | some a' =>
          refine ⟨a', rfl, ?_⟩
          rw [(h7 a' hA).2 i (by omega)]
          simp [List.getD, List.getElem?_eq_getElem hi, hy]
      · cases hv
end
end Go.Proofs.Ytgjobmhpghgnfaa
