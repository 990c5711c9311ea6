/-
  A TSN comes to the document's set: what came twice; the sorted place; the cumulative TSN goes on.
-/
import Derived.Test.YtkjepopmlpfnpaaGpRGaps
import Derived.Deep.LoopGhost
import Derived.Deep.RegionLaw
import Derived.Deep.CutBlock
namespace Go.Proofs.Ytkjepopmlpfnpaa
open Go.RowKit Go.Maps
set_option linter.unusedVariables false

/-- The document's set, but for its law. -/
def DS0 (W : World) (F : Nat → Prop) (s : Nat) (st : St) : Prop :=
  ∃ vw v, Bk W s #[.int .u32 (st.cum : Int), vw, v] 31 ∧ Ir .i64 2 W vw st.ws ∧ Ir .u32 22 W v st.ds ∧
    F s ∧ (∀ g, vw.ownBlock = some g → F g) ∧ (∀ g, v.ownBlock = some g → F g) ∧ (∀ k, F k → k < W.heap.size)
theorem DS0.ok {W : World} {F : Nat → Prop} {s : Nat} {st : St} (h : DS0 W F s st) (ok : st.Ok) : DSet W F s st := by
  obtain ⟨vw, v, hb, hw, hv, f1, f2, f3, f4⟩ := h
  exact ⟨vw, v, hb, hw, hv, f1, f2, f3, f4, ok⟩
theorem DSet.low {W : World} {F : Nat → Prop} {s : Nat} {st : St} (h : DSet W F s st) : DS0 W F s st := by
  obtain ⟨vw, v, hb, hw, hv, f1, f2, f3, f4, ok⟩ := h
  exact ⟨vw, v, hb, hw, hv, f1, f2, f3, f4⟩
theorem info64 : (Try.prog.info? 2).map (fun i => (i.zero, i.size, i.bytes)) = some (some (.int .i64 0), 1, 8) := by kernel_rfl
theorem grown_below {B : Nat} {w w1 w2 : World} {row : Option Nat} (h : Below B w w1) (hg : w1.grownBy w2 row) (hB : B ≤ w1.heap.size) (hr : ∀ k, row = some k → B ≤ k) : Below B w w2 := h.grown hg hB hr
/-- An append of numbers, possibly of none, as a step of a region that draws its order. -/
theorem ir_step {w : World} {ops : Array Oper} {o : Oper} {a : Act} {K : Act → World → Prop} {Q : Exit → Act → World → Prop} {E : Prop} (hgd : o.guard = none) (s x : Operand)
    (ho : o.op = .call { callee := .builtin .append, args := #[s, x], argTypes := #[28, 28] }) (B : Nat) (A0 : Option Addr) (n c0 : Nat) (l : List Nat) (hs : a.eval s = .slice A0 n c0)
    (hown : w.ownsRow B 2 1 (.slice A0 n c0) n (ns .i64 l))
    (A : Option Addr) (m c : Nat) (l2 : List Nat) (hx : a.eval x = .slice A m c) (hl : l2.length = m) (hr : Row w A (ns .i64 l2)) (hz : A = none → m = 0 ∧ c = 0) (N : Nat) (hN : n + m = N) (hb : N ≤ 1000000) (hbase : B ≤ w.heap.size)
    (h : ∀ A' c' w', w'.ownsRow B 2 1 (.slice A' N c') N (ns .i64 (l ++ l2)) → w.grownBy w' (Value.slice A0 n c0).ownBlock → K (a.put o.dst (.slice A' N c')) w') :
    if Region.wanted o (yielded ops a.tmps) = true then Oper.wp Try.prog o a w K Q else E := by
  obtain ⟨i0, hi0, hz0, hz1, hz2⟩ := info_parts info64
  rw [if_pos (by simp [Region.wanted, hgd])]
  subst hN
  cases A with
  | none =>
    obtain ⟨rfl, rfl⟩ := hz rfl
    obtain rfl := List.eq_nil_of_length_eq_zero hl
    have hrun := run_append_owned_none (P := Try.prog) (w := w) B 28 o.type 2 i0 1 Try.underlying28 hi0 _ n (ns .i64 l) hown
    unfold Oper.wp
    simp [execOp, ho, resolve, invoke, builtin, hs, hx, hrun, Result.andThen]
    exact h A0 c0 w (by simpa using hown) ⟨rfl, rfl, rfl, Nat.le_refl _, fun _ _ _ => rfl⟩
  | some ad =>
    refine wp_append_own w s x 28 ho B 2 i0 (.int .i64 0) 1 8 Try.underlying28 hi0 hz0 hz1 hz2 rfl (by omega) _ n (ns .i64 l) hs hown ad m c (ns .i64 l2) hx (by rw [ns_len, hl]; omega) (fun j u hu => by obtain ⟨b, hb, hc⟩ := hr j u hu; injection hb with hb; subst hb; exact hc) (ns_one _ _) (by unfold maxLen; omega) (by omega) hbase ?_
    intro v' w2 ho2 hg2 _
    rcases id ho2.2 with ⟨rfl, h0⟩ | ⟨g, cap, cur, rfl, _⟩
    · have hn0 : n + m = 0 := h0
      have := h none 0 w2 (by rw [← ns_app, hn0]; rw [hn0] at ho2; exact ho2) hg2
      rw [hn0] at this
      exact this
    · exact h _ _ w2 (by rw [← ns_app]; exact ho2) hg2
theorem cut_none {A : Option Addr} {n c lo : Nat} (hz : A = none → n = 0 ∧ c = 0) (hl : lo ≤ n) : cutA A c lo = none → n - lo = 0 ∧ c - lo = 0 := fun e => by
  have : A = none := by
    cases A with
    | none => rfl
    | some a => unfold cutA at e; split at e <;> cases e
  obtain ⟨rfl, rfl⟩ := hz this
  omega
theorem cut_row {w : World} {A : Option Addr} {l : List Nat} {c n : Nat} (h : Row w A (ns .i64 l)) (hn : l.length = n) (hc : n ≤ c) (k : Nat) (hk : k ≤ n) :
    Row w (cutA A c k) (ns .i64 (l.drop k)) := by
  have := h.cut (c := c) (lo := k) (hi := n) hc
  have e : (ns .i64 l).take n = ns .i64 l := List.take_of_length_le (by rw [ns_len]; omega)
  rw [e] at this
  simpa [ns, List.map_drop] using this
theorem cut_front {w : World} {A : Option Addr} {l : List Nat} {c n : Nat} (h : Row w A (ns .i64 l)) (hn : l.length = n) (hc : n ≤ c) (k : Nat) (hk : k ≤ n) :
    Row w (cutA A c 0) (ns .i64 (l.take k)) := by
  have := h.cut (c := c) (lo := 0) (hi := k) (by omega)
  simpa [ns, List.map_take] using this
end Go.Proofs.Ytkjepopmlpfnpaa
