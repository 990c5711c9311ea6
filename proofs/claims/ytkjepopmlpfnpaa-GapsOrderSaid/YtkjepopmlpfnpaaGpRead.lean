/-
  What is asked of the program's set: cumulative TSN, passed, far, waits, Has, Next, Len: and of no set.
-/
import Derived.Test.YtkjepopmlpfnpaaGpLow
namespace Go.Proofs.Ytkjepopmlpfnpaa
open Go.RowKit Go.Maps
set_option linter.unusedVariables false

theorem law32 : Keyed Try.prog 22 := int_keyed Try.underlying22
theorem zeroU (w : World) : (zeroValue 56).run Try.prog w = .ok (.agg #[]) w := by kernel_rfl
theorem wf32 {t : Nat} (h : t < 4294967296) : (Lit.int .u32 (t : Int)).wf = true := by
  simp [Lit.wf, IntKind.min, IntKind.max, IntKind.signed, IntKind.bits]; omega
theorem key32 {t : Nat} (h : t < 4294967296) : keyOf Try.prog 22 (.int .u32 (t : Int)) = some (.int .u32 (t : Int)) := keyOf_int_mk Try.underlying22 (wf32 h)
/-- The cells of a set. -/
theorem PS0.cells {W : World} {F : Nat → Prop} {s : Nat} {st : St} (h : PS0 W F s st) :
    ∃ m v D, (W.cell? ⟨s, 0, none⟩ = some (.int .u32 (st.cum : Int)) ∧ W.cell? ⟨s, 1, none⟩ = some (.map (some m)) ∧ W.cell? ⟨s, 2, none⟩ = some v) ∧ (W.frozen? ⟨s, 0, none⟩ = false ∧ W.frozen? ⟨s, 1, none⟩ = false ∧ W.frozen? ⟨s, 2, none⟩ = false) ∧
      W.ownsMap Try.prog 22 (unitElem (H := Unit)) m st.ws.length D ∧ MapOk D st.cum st.ws ∧ Ir .u32 22 W v st.ds := by
  obtain ⟨m, v, D, hb, hm, hM, hv, f1, f2, f3, f4⟩ := h
  exact ⟨m, v, D, ⟨(hb.cell 0).trans rfl, (hb.cell 1).trans rfl, (hb.cell 2).trans rfl⟩, ⟨hb.frozen 0, hb.frozen 1, hb.frozen 2⟩, hm, hM, hv⟩
theorem PSet.cells {W : World} {F : Nat → Prop} {s : Nat} {st : St} (h : PSet W F s st) :
    ∃ m v D, (W.cell? ⟨s, 0, none⟩ = some (.int .u32 (st.cum : Int)) ∧ W.cell? ⟨s, 1, none⟩ = some (.map (some m)) ∧ W.cell? ⟨s, 2, none⟩ = some v) ∧ (W.frozen? ⟨s, 0, none⟩ = false ∧ W.frozen? ⟨s, 1, none⟩ = false ∧ W.frozen? ⟨s, 2, none⟩ = false) ∧
      W.ownsMap Try.prog 22 (unitElem (H := Unit)) m st.ws.length D ∧ MapOk D st.cum st.ws ∧ Ir .u32 22 W v st.ds ∧ st.Ok := by
  obtain ⟨m, v, D, a, b, c, d, e⟩ := h.1.cells
  exact ⟨m, v, D, a, b, c, d, e, h.2⟩
theorem cum_any (W : World) (F : Nat → Prop) (s : Nat) (st : St) (h : PSet W F s st) :
    Calls Try.prog 14 #[.pointer (some ⟨s, 0, none⟩)] W fun e w' => e = .returned (.int .u32 (st.cum : Int)) ∧ W = w' := by
  obtain ⟨m, v, D, ⟨c0, _, _⟩, _⟩ := h.cells
  clear h
  go_enter Try.func14, Try.ntmps14
  go_wp2
  go_ret
  exact ⟨rfl, rfl⟩
theorem cum_nil (W : World) : Calls Try.prog 14 #[.pointer none] W fun e w' => e = .returned (.int .u32 0) ∧ W = w' := by
  go_enter Try.func14, Try.ntmps14
  go_wp2
  go_ret
  exact ⟨rfl, rfl⟩
theorem passed_any (W : World) (F : Nat → Prop) (s t : Nat) (st : St) (h : PSet W F s st) (ht : t < 4294967296) :
    Calls Try.prog 29 #[.pointer (some ⟨s, 0, none⟩), .int .u32 (t : Int)] W fun e w' => e = .returned (.bool (psd st.cum t)) ∧ W = w' := by
  obtain ⟨m, v, D, ⟨c0, _, _⟩, _, _, _, _, ok⟩ := h.cells
  have hc := ok.1
  have hp := psd_eq hc ht
  clear h ok
  obtain ⟨c, hcc⟩ : ∃ c, c = st.cum := ⟨_, rfl⟩
  rw [← hcc] at hc hp c0 ⊢
  clear hcc
  by_cases e : t = c
  · have e2 : ((t : Int) == (c : Int)) = true := by simp; omega
    have HP : Hid (psd c t = true) := Lib.hid (by rw [hp, decide_eq_true e, Bool.true_or])
    clear hp e
    go_enter Try.func29, Try.ntmps29
    go_wp2_with (go_at_call 36; refine (before_any _ _ _ (by assumption) (by assumption)).mono ?_; rintro e w' ⟨rfl, rfl⟩)
    go_ret
    exact ⟨ret_b HP.out.symm, rfl⟩
  · have e2 : ((t : Int) == (c : Int)) = false := by simp; omega
    have HP : Hid (psd c t = bfr t c) := Lib.hid (by rw [hp, decide_eq_false e, Bool.false_or])
    clear hp
    go_enter Try.func29, Try.ntmps29
    go_wp2_with (go_at_call 36; refine (before_any _ _ _ (by assumption) (by assumption)).mono ?_; rintro e w' ⟨rfl, rfl⟩)
    go_ret
    exact ⟨ret_b HP.out.symm, rfl⟩
theorem far_any (W : World) (F : Nat → Prop) (s t : Nat) (st : St) (h : PSet W F s st) (ht : t < 4294967296) :
    Calls Try.prog 22 #[.pointer (some ⟨s, 0, none⟩), .int .u32 (t : Int)] W fun e w' => e = .returned (.bool (far st.cum t)) ∧ W = w' := by
  obtain ⟨m, v, D, ⟨c0, _, _⟩, _, _, _, _, ok⟩ := h.cells
  have hc := ok.1
  have HP := Lib.hid (passed_any W F s t st h ht)
  clear h ok
  obtain ⟨c, hcc⟩ : ∃ c, c = st.cum := ⟨_, rfl⟩
  rw [← hcc] at hc HP c0 ⊢
  clear hcc
  have HS := Lib.hid (span_any c t W hc ht)
  have hf : far c t = (decide (65535 < wy c t) && !psd c t) := rfl
  have HF := Lib.hid hf
  clear hf
  generalize far c t = r at HF ⊢
  generalize psd c t = p at HF HP
  have hlt := wy_lt c t
  generalize wy c t = x at HF HS hlt
  by_cases e : 65535 < x
  · have ed : decide (65535 < x) = true := decide_eq_true e
    have HR : Hid (r = !p) := Lib.hid (by rw [HF.out, ed, Bool.true_and])
    have ez : decide ((65535 : Int) < (x : Int)) = true := decide_eq_true (by omega)
    clear HF ed e
    go_enter Try.func22, Try.ntmps22
    go_wp2_with (first | (go_at_call 32; refine HS.out.mono ?_; rintro e w' ⟨rfl, rfl⟩) | (go_at_call 29; refine HP.out.mono ?_; rintro e w' ⟨rfl, rfl⟩))
    go_ret
    exact ⟨ret_b HR.out.symm, rfl⟩
  · have ed : decide (65535 < x) = false := decide_eq_false e
    have HR : Hid (r = false) := Lib.hid (by rw [HF.out, ed, Bool.false_and])
    have ez : decide ((65535 : Int) < (x : Int)) = false := decide_eq_false (by omega)
    clear HF ed e
    go_enter Try.func22, Try.ntmps22
    go_wp2_with (first | (go_at_call 32; refine HS.out.mono ?_; rintro e w' ⟨rfl, rfl⟩) | (go_at_call 29; refine HP.out.mono ?_; rintro e w' ⟨rfl, rfl⟩))
    go_ret
    exact ⟨ret_b HR.out.symm, rfl⟩
theorem waits_any (W : World) (F : Nat → Prop) (s t : Nat) (st : St) (h : PS0 W F s st) (ht : t < 4294967296) :
    Calls Try.prog 30 #[.pointer (some ⟨s, 0, none⟩), .int .u32 (t : Int)] W fun e w' => e = .returned (.bool (decide (wy st.cum t ∈ st.ws))) ∧ Below W.heap.size W w' := by
  obtain ⟨m, v, D, ⟨_, c1, _⟩, _, hm, hM, _⟩ := h.cells
  have hh := Lib.hid (hM.1 t ht)
  have hkey := key32 ht
  have HK := Lib.hid hkey
  clear h hM hkey ht
  generalize decide (wy st.cum t ∈ st.ws) = r at hh ⊢
  go_enter Try.func30, Try.ntmps30
  go_wp2_with (at_lookup; refine wpList_lookup_own_unit _ rfl _ _ 52 rfl 22 56 law32 Try.underlying52 (zeroU _) m _ D rfl hm _ _ rfl HK.out ?_)
  go_ret
  exact ⟨ret_b hh.out, by first | exact (Below.refl _ _).alloc (Nat.le_refl _) _ | exact ((Below.refl _ _).alloc (Nat.le_refl _) _).setCell (by simp) _⟩
theorem len_any (W : World) (F : Nat → Prop) (s : Nat) (st : St) (h : PSet W F s st) :
    Calls Try.prog 18 #[.pointer (some ⟨s, 0, none⟩)] W fun e w' => e = .returned (.int .i64 (st.ws.length : Int)) ∧ W = w' := by
  obtain ⟨m, v, D, ⟨_, c1, _⟩, _, hm, hM, _, _⟩ := h.cells
  have hh := Lib.hid hM.2
  clear h hM
  go_enter Try.func18, Try.ntmps18
  go_wp2_with (at_len; refine wpList_len_own _ rfl _ _ rfl 22 56 Try.underlying52 (unitElem (H := Unit)) m _ D rfl hm ?_)
  go_ret
  exact ⟨ret_eq (by rw [hh.out]), rfl⟩
theorem len_nil (W : World) : Calls Try.prog 18 #[.pointer none] W fun e w' => e = .returned (.int .i64 0) ∧ W = w' := by
  go_enter Try.func18, Try.ntmps18
  go_wp2
  go_ret
  exact ⟨rfl, rfl⟩
end Go.Proofs.Ytkjepopmlpfnpaa
