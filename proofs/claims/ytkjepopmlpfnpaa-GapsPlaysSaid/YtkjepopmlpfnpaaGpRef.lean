/-
  The document's set: way, Has, Take; rows that are held against each other.
-/
import Derived.Test.YtkjepopmlpfnpaaGpGapW
namespace Go.Proofs.Ytkjepopmlpfnpaa
open Go.RowKit Go.Maps
set_option linter.unusedVariables false

theorem DSet.cells {W : World} {F : Nat → Prop} {s : Nat} {st : St} (h : DSet W F s st) :
    ∃ vw v, (W.cell? ⟨s, 0, none⟩ = some (.int .u32 (st.cum : Int)) ∧ W.cell? ⟨s, 1, none⟩ = some vw ∧ W.cell? ⟨s, 2, none⟩ = some v) ∧ (W.frozen? ⟨s, 0, none⟩ = false ∧ W.frozen? ⟨s, 1, none⟩ = false ∧ W.frozen? ⟨s, 2, none⟩ = false) ∧
      Ir .i64 2 W vw st.ws ∧ Ir .u32 22 W v st.ds ∧ st.Ok := by
  obtain ⟨vw, v, hb, hw, hv, f1, f2, f3, f4, ok⟩ := h
  exact ⟨vw, v, ⟨(hb.cell 0).trans rfl, (hb.cell 1).trans rfl, (hb.cell 2).trans rfl⟩, ⟨hb.frozen 0, hb.frozen 1, hb.frozen 2⟩, hw, hv, ok⟩
theorem rw_any (W : World) (F : Nat → Prop) (s t : Nat) (st : St) (h : DSet W F s st) (ht : t < 4294967296) :
    Calls Try.prog 25 #[.pointer (some ⟨s, 0, none⟩), .int .u32 (t : Int)] W fun e w' => e = .returned (.int .i64 (wy st.cum t : Nat)) ∧ W = w' := by
  obtain ⟨vw, v, ⟨c0, _, _⟩, _, _, _, ok⟩ := h.cells
  have hc := ok.1
  clear h ok
  obtain ⟨c, hcc⟩ : ∃ c, c = st.cum := ⟨_, rfl⟩
  rw [← hcc] at hc c0 ⊢
  clear hcc
  have HW := Lib.hid (rway_any c t W hc ht)
  go_enter Try.func25, Try.ntmps25
  go_wp2_with (go_at_call 33; refine HW.out.mono ?_; rintro e w' ⟨rfl, rfl⟩)
  go_ret
  exact ⟨rfl, rfl⟩
theorem mem_getD {l : List Nat} {x : Nat} : x ∈ l ↔ ∃ i, i < l.length ∧ l.getD i 0 = x := by
  rw [List.mem_iff_getElem]
  constructor
  · rintro ⟨i, h, e⟩
    exact ⟨i, h, by rw [← e]; simp [List.getD, h]⟩
  · rintro ⟨i, h, e⟩
    exact ⟨i, h, by rw [← e]; simp [List.getD, h]⟩
set_option maxHeartbeats 1000000 in
theorem rhas_any (W : World) (F : Nat → Prop) (s t : Nat) (st : St) (h : DSet W F s st) (ht : t < 4294967296) :
    Calls Try.prog 20 #[.pointer (some ⟨s, 0, none⟩), .int .u32 (t : Int)] W fun e w' => e = .returned (.bool (st.has t)) ∧ W = w' := by
  obtain ⟨vw, v, ⟨c0, c1, _⟩, _, hw, _, ok⟩ := h.cells
  have HWY := Lib.hid (rw_any W F s t st h ht)
  have HBF := Lib.hid (rbefore_any t st.cum W ht ok.1)
  have hh : st.has t = (decide (wy st.cum t ∈ st.ws) || (decide (wy st.cum t = 0) || bfr t st.cum)) := by
    have h1 : decide (t = st.cum) = decide (wy st.cum t = 0) := by
      rw [decide_eq_decide]
      have := ok.1
      unfold wy; omega
    unfold St.has
    rw [psd_eq ok.1 ht, h1, Bool.or_comm]
  have HH := Lib.hid hh
  have HLEN := Lib.hid (ris_len ok.2.1)
  clear h hh ok
  generalize st.has t = r at HH ⊢
  generalize bfr t st.cum = bf at HH HBF
  have hyl := wy_lt st.cum t
  generalize wy st.cum t = y at HH HWY hyl
  obtain ⟨c, hcc⟩ : ∃ c, c = st.cum := ⟨_, rfl⟩
  obtain ⟨ws, hws⟩ : ∃ ws, ws = st.ws := ⟨_, rfl⟩
  rw [← hcc] at HBF c0
  rw [← hws] at hw HH HLEN
  clear hcc hws
  obtain ⟨A, cp, rfl, hlc, hcm, hA⟩ := hw.form
  have HR := Lib.hid hw.row
  obtain ⟨n, hn⟩ : ∃ n, n = ws.length := ⟨_, rfl⟩
  rw [← hn] at c1 hlc HLEN
  have HN := Lib.hid hn
  have hn9 := HLEN.out
  clear hn hw hA hcm
  go_enter Try.func20, Try.ntmps20
  go_wp2_with fail
  refine HWY.out.mono ?_
  rintro e w' ⟨rfl, rfl⟩
  go_wp2_with fail
  go_loop [6] (fun i => ∃ k : Nat, k ≤ n ∧ i = .int .i64 k ∧ Hid (∀ i, i < k → ws.getD i 0 ≠ y)) (fun i => n - (iof i).toNat)
  case atStart => exact ⟨0, Nat.zero_le _, rfl, Lib.hid (fun i hi => by omega)⟩
  case round =>
    obtain ⟨k, hk, rfl, HK⟩ := hrel
    by_cases hlt : k < n
    · have hkl : k < ws.length := by rw [← HN.out]; exact hlt
      obtain ⟨a, rfl, hc⟩ := HR.out k _ (ns_get hkl)
      by_cases he : ws.getD k 0 = y
      · have HRT : Hid (r = true) := Lib.hid (by
          rw [HH.out, decide_eq_true (mem_getD.2 ⟨k, hkl, he⟩), Bool.true_or])
        rw [he] at hc
        clear he hkl
        go_wp2_with fail
        go_ret
        exact ⟨ret_b HRT.out.symm, rfl⟩
      · have heq : (((ws.getD k 0 : Nat) : Int) == (y : Int)) = false := by simp only [beq_eq_false_iff_ne, ne_eq]; omega
        have HK2 : Hid (∀ i, i < k + 1 → ws.getD i 0 ≠ y) := Lib.hid fun i hi => by
          rcases Nat.lt_or_ge i k with h | h
          · exact HK.out i h
          · obtain rfl : i = k := by omega
            exact he
        clear he hkl
        generalize ws.getD k 0 = x at hc heq
        go_wp2_with fail
        go_round
        case rel => exact ⟨k + 1, by omega, by go_num, HK2⟩
        case measure => simp [iof] <;> omega
    · have hkn : k = n := by omega
      have hnm : y ∉ ws := fun hm => by
        obtain ⟨i, hi, he⟩ := mem_getD.1 hm
        exact HK.out i (by rw [hkn, HN.out]; exact hi) he
      have HRT : Hid (r = (decide (y = 0) || bf)) := Lib.hid (by rw [HH.out, decide_eq_false hnm, Bool.false_or])
      clear hkn hnm
      by_cases hy : y = 0
      · have hy0 : ((y : Int) == 0) = true := by simp only [beq_iff_eq]; omega
        have HR2 : Hid (r = true) := Lib.hid (by rw [HRT.out, decide_eq_true hy, Bool.true_or])
        clear hy
        go_wp2_with (go_at_call 31; refine HBF.out.mono ?_; rintro e w' ⟨rfl, rfl⟩)
        go_ret
        exact ⟨ret_b HR2.out.symm, rfl⟩
      · have hy0 : ((y : Int) == 0) = false := by simp only [beq_eq_false_iff_ne, ne_eq]; omega
        have HR2 : Hid (r = bf) := Lib.hid (by rw [HRT.out, decide_eq_false hy, Bool.false_or])
        clear hy
        go_wp2_with (go_at_call 31; refine HBF.out.mono ?_; rintro e w' ⟨rfl, rfl⟩)
        go_ret
        exact ⟨ret_b HR2.out.symm, rfl⟩
theorem rtake_any (W : World) (F : Nat → Prop) (s : Nat) (st : St) (h : DSet W F s st) :
    Calls Try.prog 12 #[.pointer (some ⟨s, 0, none⟩)] W fun e w' => ∃ A c, e = .returned (.slice A st.ds.length c) ∧ Row w' A (ns .u32 st.ds) ∧ (∀ a, A = some a → F a.block) ∧ DSet w' F s { st with ds := [] } ∧ Kp W w' F := by
  obtain ⟨vw, v, hb, hw, hv, f1, f2, f3, f4, ok⟩ := h
  obtain ⟨A, c, rfl, hlc, hcm, hA⟩ := hv.form
  have c2 := (hb.cell 2).trans rfl
  have z2 := hb.frozen 2
  have hg := setc_grown W s 2 (.slice none 0 0)
  have HV := Lib.hid (Ir.kept hv hg (.inr (hv.off hb (by decide))))
  have HW := Lib.hid (Ir.kept hw hg (.inr (hw.off hb (by decide))))
  have HB := Lib.hid (hb.set 2 (.slice none 0 0))
  have HOK := Lib.hid ok
  have HA := Lib.hid hA
  have HG := Lib.hid hg
  clear hb hw hv ok hA hg hcm
  go_enter Try.func12, Try.ntmps12
  go_wp2_with fail
  go_ret
  exact ⟨A, c, rfl, HV.out.row, fun a ha => f3 _ (HA.out a ha), ⟨vw, _, HB.out, HW.out, Ir.nil _ _ _, f1, f2, (fun g hg => by cases hg), fun k hk => Nat.lt_of_lt_of_le (f4 k hk) HG.out.size, ⟨HOK.out.1, HOK.out.2.1, by simp, by simp⟩⟩, Kp.grown HG.out (fun g hg => by injection hg with e; rw [← e]; exact f1)⟩
end Go.Proofs.Ytkjepopmlpfnpaa
