/-
  A configuration by value, and a slice of a timer's calls, that came in: opened.
-/
import Derived.Test.YtfjeoioejdkdpaaRtCfg
import Derived.WideShapes
import Derived.ChangeShapes
import Derived.ChangeSame
import Derived.Deep.Strs
import Derived.Deep.Slices
import Derived.Deep.Fields
import Derived.Lib.SmallJoins
import Derived.ProofKit
import Derived.SizedLaws
namespace Go.Proofs.Ytfjeoioejdkdpaa
set_option maxRecDepth 4000
open Go.RowKit Go.ChangeShapes Go.WideShapes Go.Deep Go.Joins
namespace Rt
set_option linter.unusedVariables false
set_option linter.unusedSimpArgs false

section
variable {H : Type} {enc : TypeId × Value → H} {P : Program} {w : World} {base : Nat} {spare : Nat → Bool} {held : Bool}
theorem open_agg13 {r : Reach} {b0 : Nat} {t : TypeId} {f0 f1 f2 f3 f4 f5 f6 f7 f8 f9 f10 f11 f12 : Field} {v : Value} {d : DataW H} {p : List MemPlace} (hs : P.underlying t = some (.struct #[f0, f1, f2, f3, f4, f5, f6, f7, f8, f9, f10, f11, f12])) (hone : oneCellFields P #[f0, f1, f2, f3, f4, f5, f6, f7, f8, f9, f10, f11, f12] = true) (hC : P.cellsOf t = 13)
    (hv : Value.okWide P w r b0 t v) (h : DataW.Trod enc P w base spare held t v d p) :
    ∃ (v0 v1 v2 v3 v4 v5 v6 v7 v8 v9 v10 v11 v12 : Value) (y0 y1 y2 y3 y4 y5 y6 y7 y8 y9 y10 y11 y12 : DataW H × List MemPlace) (n : Nat), v = .agg #[v0, v1, v2, v3, v4, v5, v6, v7, v8, v9, v10, v11, v12] ∧ d = .agg [y0.1, y1.1, y2.1, y3.1, y4.1, y5.1, y6.1, y7.1, y8.1, y9.1, y10.1, y11.1, y12.1] ∧
      DataW.trod enc P w base spare held n f0.type [v0] = some y0 ∧ DataW.trod enc P w base spare held n f1.type [v1] = some y1 ∧ DataW.trod enc P w base spare held n f2.type [v2] = some y2 ∧ DataW.trod enc P w base spare held n f3.type [v3] = some y3 ∧ DataW.trod enc P w base spare held n f4.type [v4] = some y4 ∧ DataW.trod enc P w base spare held n f5.type [v5] = some y5 ∧ DataW.trod enc P w base spare held n f6.type [v6] = some y6 ∧ DataW.trod enc P w base spare held n f7.type [v7] = some y7 ∧ DataW.trod enc P w base spare held n f8.type [v8] = some y8 ∧ DataW.trod enc P w base spare held n f9.type [v9] = some y9 ∧ DataW.trod enc P w base spare held n f10.type [v10] = some y10 ∧ DataW.trod enc P w base spare held n f11.type [v11] = some y11 ∧ DataW.trod enc P w base spare held n f12.type [v12] = some y12 := by
  obtain ⟨cs, rfl, hsz⟩ := okWide_struct hs hv
  obtain ⟨l⟩ := cs
  match l, hsz.trans hC with
  | [c0, c1, c2, c3, c4, c5, c6, c7, c8, c9, c10, c11, c12], _ =>
    obtain ⟨fuel, hf⟩ := h
    obtain ⟨xs, n, _, hx, _, hlen, hg⟩ := DataW.trod_struct hs hf
    obtain ⟨o0, k0⟩ := hone_of hone 0 f0 rfl
    obtain ⟨o1, k1⟩ := hone_of hone 1 f1 rfl
    obtain ⟨o2, k2⟩ := hone_of hone 2 f2 rfl
    obtain ⟨o3, k3⟩ := hone_of hone 3 f3 rfl
    obtain ⟨o4, k4⟩ := hone_of hone 4 f4 rfl
    obtain ⟨o5, k5⟩ := hone_of hone 5 f5 rfl
    obtain ⟨o6, k6⟩ := hone_of hone 6 f6 rfl
    obtain ⟨o7, k7⟩ := hone_of hone 7 f7 rfl
    obtain ⟨o8, k8⟩ := hone_of hone 8 f8 rfl
    obtain ⟨o9, k9⟩ := hone_of hone 9 f9 rfl
    obtain ⟨o10, k10⟩ := hone_of hone 10 f10 rfl
    obtain ⟨o11, k11⟩ := hone_of hone 11 f11 rfl
    obtain ⟨o12, k12⟩ := hone_of hone 12 f12 rfl
    match xs, hlen with
    | [y0, y1, y2, y3, y4, y5, y6, y7, y8, y9, y10, y11, y12], _ =>
      simp only [Prod.mk.injEq] at hx
      exact ⟨c0, c1, c2, c3, c4, c5, c6, c7, c8, c9, c10, c11, c12, y0, y1, y2, y3, y4, y5, y6, y7, y8, y9, y10, y11, y12, n, rfl, by simpa using hx.1, by simpa [Value.cells, o0, k0] using hg 0 f0 rfl, by simpa [Value.cells, o1, k1] using hg 1 f1 rfl, by simpa [Value.cells, o2, k2] using hg 2 f2 rfl, by simpa [Value.cells, o3, k3] using hg 3 f3 rfl, by simpa [Value.cells, o4, k4] using hg 4 f4 rfl, by simpa [Value.cells, o5, k5] using hg 5 f5 rfl, by simpa [Value.cells, o6, k6] using hg 6 f6 rfl, by simpa [Value.cells, o7, k7] using hg 7 f7 rfl, by simpa [Value.cells, o8, k8] using hg 8 f8 rfl, by simpa [Value.cells, o9, k9] using hg 9 f9 rfl, by simpa [Value.cells, o10, k10] using hg 10 f10 rfl, by simpa [Value.cells, o11, k11] using hg 11 f11 rfl, by simpa [Value.cells, o12, k12] using hg 12 f12 rfl⟩
end
section
variable {H : Type} {enc : TypeId × Value → H} {W : World} {base : Nat} {held : Bool}
theorem open_config {r : Reach} {b0 : Nat} {v : Value} {d : DataW H} {p : List MemPlace} (hv : Value.okWide Try.prog W r b0 78 v) (h : DataW.Trod enc Try.prog W base (fun _ => true) held 78 v d p) :
    ∃ c : Cf, v = .agg (cv c) ∧ c.Wf := by
  obtain ⟨v0, v1, v2, v3, v4, v5, v6, v7, v8, v9, v10, v11, v12, y0, y1, y2, y3, y4, y5, y6, y7, y8, y9, y10, y11, y12, n, rfl, rfl, t0, t1, t2, t3, t4, t5, t6, t7, t8, t9, t10, t11, t12⟩ := open_agg13 Try.underlying78 (by kernel_rfl) (by kernel_rfl) hv h
  obtain ⟨x0, e0, _, w0⟩ := DataW.trod_int Try.underlying3 t0
  obtain rfl : v0 = _ := by simpa using e0
  have n0 := wf_i64 w0
  obtain ⟨x1, e1, _, w1⟩ := DataW.trod_int Try.underlying22 t1
  obtain rfl : v1 = _ := by simpa using e1
  have n1 := wf_u16 w1
  obtain ⟨x2, e2, _, w2⟩ := DataW.trod_int Try.underlying3 t2
  obtain rfl : v2 = _ := by simpa using e2
  have n2 := wf_i64 w2
  obtain ⟨x3, e3, _, w3⟩ := DataW.trod_int Try.underlying3 t3
  obtain rfl : v3 = _ := by simpa using e3
  have n3 := wf_i64 w3
  obtain ⟨x4, e4, _, w4⟩ := DataW.trod_int Try.underlying3 t4
  obtain rfl : v4 = _ := by simpa using e4
  have n4 := wf_i64 w4
  obtain ⟨x5, e5, _, w5⟩ := DataW.trod_int Try.underlying23 t5
  obtain rfl : v5 = _ := by simpa using e5
  have n5 := wf_u32 w5
  obtain ⟨x6, e6, _, w6⟩ := DataW.trod_int Try.underlying23 t6
  obtain rfl : v6 = _ := by simpa using e6
  have n6 := wf_u32 w6
  obtain ⟨x7, e7, _, w7⟩ := DataW.trod_int Try.underlying23 t7
  obtain rfl : v7 = _ := by simpa using e7
  have n7 := wf_u32 w7
  obtain ⟨x8, e8, _, w8⟩ := DataW.trod_int Try.underlying5 t8
  obtain rfl : v8 = _ := by simpa using e8
  have n8 := wf_u8 w8
  obtain ⟨x9, e9, _, w9⟩ := DataW.trod_int Try.underlying5 t9
  obtain rfl : v9 = _ := by simpa using e9
  have n9 := wf_u8 w9
  obtain ⟨x10, e10, _, w10⟩ := DataW.trod_int Try.underlying5 t10
  obtain rfl : v10 = _ := by simpa using e10
  have n10 := wf_u8 w10
  obtain ⟨x11, e11, _, w11⟩ := DataW.trod_int Try.underlying23 t11
  obtain rfl : v11 = _ := by simpa using e11
  have n11 := wf_u32 w11
  obtain ⟨x12, e12, _, w12⟩ := DataW.trod_int Try.underlying23 t12
  obtain rfl : v12 = _ := by simpa using e12
  have n12 := wf_u32 w12
  exact ⟨⟨x0, x1, x2, x3, x4, x5, x6, x7, x8, x9, x10, x11, x12⟩, rfl, ⟨n0, n1, n2, n3, n4, n5, n6, n7, n8, n9, n10, n11, n12⟩⟩
end
abbrev Q2 := Bool × Nat
def qc (q : Q2) : List Value := [.bool q.1, .int .u64 (q.2 : Int)]
def qf (qs : List Q2) : List Value := qs.flatMap qc
theorem qf_get : ∀ {qs : List Q2} {i : Nat} (h : i < qs.length), (qf qs)[i * 2]? = some (.bool qs[i].1) ∧ (qf qs)[i * 2 + 1]? = some (.int .u64 (qs[i].2 : Int))
  | q :: qs, 0, _ => by simp [qf, qc]
  | q :: qs, i + 1, h => by
    have ih := qf_get (qs := qs) (i := i) (by simpa using h)
    have e : qf (q :: qs) = qc q ++ qf qs := by simp [qf]
    have hl : (qc q).length = 2 := rfl
    rw [e, List.getElem?_append_right (by omega), List.getElem?_append_right (by omega), hl]
    rw [show (i + 1) * 2 - 2 = i * 2 by omega, show (i + 1) * 2 + 1 - 2 = i * 2 + 1 by omega]
    exact ih
/-- Calls that came in. -/
def DosIn (W : World) (A : Option Addr) (n c : Nat) (qs : List Q2) : Prop := qs.length = n ∧ n ≤ c ∧ c ≤ maxLen ∧ Row W A (qf qs)
theorem dos_at {W : World} {A : Option Addr} {qs : List Q2} (h : Row W A (qf qs)) {i : Nat} (hi : i < qs.length) :
    ∃ a, A = some a ∧ W.cell? (a.add (i * 2)) = some (.bool qs[i].1) ∧ W.cell? { block := (a.add (i * 2)).block, off := (a.add (i * 2)).off + 1 } = some (.int .u64 (qs[i].2 : Int)) := by
  obtain ⟨g0, g1⟩ := qf_get hi
  obtain ⟨a, rfl, k0⟩ := h _ _ g0
  obtain ⟨b, hb, k1⟩ := h _ _ g1
  injection hb with hb
  subst hb
  refine ⟨a, rfl, k0, ?_⟩
  rw [← k1]
  congr 1
  unfold Addr.add
  by_cases h0 : i * 2 = 0
  · simp [h0]
  · simp [h0, Nat.add_assoc]
section
variable {H : Type} {enc : TypeId × Value → H} {W : World} {base : Nat} {held : Bool}
theorem open_do {fuel : Nat} {cs : List Value} {x : DataW H × List MemPlace} (h : DataW.trod enc Try.prog W base (fun _ => true) held fuel 91 cs = some x) :
    ∃ q : Q2, cs = qc q := by
  obtain ⟨y0, y1, n, hx, hl, h0, h1⟩ := trod_struct2 Try.underlying91 h
  rw [show Try.prog.cellsOf 91 = 2 by kernel_rfl] at hl
  have c0 : Try.prog.cellsOf 4 = 1 := by kernel_rfl
  have c1 : Try.prog.cellsOf 81 = 1 := by kernel_rfl
  match cs, hl with
  | [v0, v1], _ =>
    have g0 : DataW.trod enc Try.prog W base (fun _ => true) held n 4 [v0] = some y0 := by simpa [c0] using h0
    have g1 : DataW.trod enc Try.prog W base (fun _ => true) held n 81 [v1] = some y1 := by simpa [c1] using h1
    obtain ⟨k, e0, _⟩ := DataW.trod_bool Try.underlying4 g0
    obtain ⟨f, e1, _, w1⟩ := DataW.trod_int Try.underlying81 g1
    obtain rfl : v0 = _ := by simpa using e0
    obtain rfl : v1 = _ := by simpa using e1
    have f1 := (wf_u64 w1).1
    refine ⟨(k, f.toNat), ?_⟩
    simp only [qc, Int.toNat_of_nonneg f1]
theorem qf_cell : ∀ {qs : List Q2} {i : Nat} {v : Value}, (qf qs)[i]? = some v → ∃ h : i / 2 < qs.length, (qc qs[i / 2])[i % 2]? = some v
  | [], i, v, h => by simp [qf] at h
  | q :: qs, i, v, h => by
    have e : qf (q :: qs) = qc q ++ qf qs := by simp [qf]
    have hl : (qc q).length = 2 := rfl
    rw [e] at h
    by_cases hi : i < 2
    · rw [List.getElem?_append_left (by omega)] at h
      have e1 : i / 2 = 0 := by omega
      have e2 : i % 2 = i := by omega
      simp only [e1, e2, List.length_cons]
      exact ⟨by omega, h⟩
    · rw [List.getElem?_append_right (by omega), hl] at h
      obtain ⟨h2, h3⟩ := qf_cell h
      have e1 : i / 2 = (i - 2) / 2 + 1 := by omega
      have e2 : i % 2 = (i - 2) % 2 := by omega
      simp only [e1, e2, List.length_cons]
      exact ⟨by omega, h3⟩
theorem open_dos {a : Option Addr} {len cap : Nat} {d : DataW H} {pl : List MemPlace} (h : DataW.Trod enc Try.prog W base (fun _ => true) held 86 (.slice a len cap) d pl) :
    ∃ qs, DosIn W a len cap qs := by
  obtain ⟨fuel, hf⟩ := h
  have c3 : Try.prog.cellsOf 91 = 2 := by kernel_rfl
  rcases open_slice Try.underlying86 hf with ⟨hcs, _⟩ | ⟨x, l, c, m, n, D, Pl, hcs, _, hl, hm, hmm, hx, hr⟩
  · simp [Value.cells] at hcs
    obtain ⟨rfl, rfl, rfl⟩ := hcs
    exact ⟨[], rfl, Nat.le_refl _, Nat.zero_le _, fun i v h => by simp [qf] at h⟩
  · simp [Value.cells] at hcs
    obtain ⟨rfl, rfl, rfl⟩ := hcs
    rw [c3] at hr
    have hml : len ≤ m := by
      split at hmm <;> omega
    have each : ∀ i, i < len → ∃ q : Q2, W.cells? base (x.add (i * 2)) 2 = some (qc q) := by
      intro i hi
      obtain ⟨cs', k1, k2⟩ := hr i (by omega)
      obtain ⟨q, rfl⟩ := open_do k2
      exact ⟨q, k1⟩
    haveI : Inhabited Q2 := ⟨(false, 0)⟩
    obtain ⟨q, hq⟩ := choose_lt each
    refine ⟨(List.range len).map q, by simp, hl, hm, fun i v hv => ⟨x, rfl, ?_⟩⟩
    · obtain ⟨h2, h3⟩ := qf_cell hv
      simp only [List.length_map, List.length_range] at h2
      simp only [List.getElem_map, List.getElem_range] at h3
      obtain ⟨_, _, hc⟩ := World.cells?_some (hq (i / 2) h2)
      have e := hc (i % 2) (Nat.mod_lt _ (by omega))
      rw [h3, add_add, show i / 2 * 2 + i % 2 = i by omega] at e
      exact e
end
end Rt
end Go.Proofs.Ytfjeoioejdkdpaa
