/-
  Two rows held against each other.
-/
import Derived.Test.YtkjepopmlpfnpaaGpGapW
import Derived.RegionTactic
namespace Go.Proofs.Ytkjepopmlpfnpaa
open Go.RowKit Go.Maps
set_option linter.unusedVariables false

theorem take_same {α : Type} {l m : List α} {k : Nat} {x y : α} (h : l.take k = m.take k) (hl : l[k]? = some x) (hm : m[k]? = some y) : (l.take (k + 1) = m.take (k + 1) ↔ x = y) := by
  have h1 := (List.getElem?_eq_some_iff.1 hl)
  have h2 := (List.getElem?_eq_some_iff.1 hm)
  obtain ⟨a1, rfl⟩ := h1
  obtain ⟨a2, rfl⟩ := h2
  rw [List.take_succ_eq_append_getElem a1, List.take_succ_eq_append_getElem a2, h]
  constructor
  · intro e
    have := List.append_cancel_left e
    simpa using this
  · intro e
    rw [e]
set_option maxHeartbeats 1000000 in
theorem tsns_any (A B : Option Addr) (n m c d : Nat) (l r : List Nat) (W : World) (hl : l.length = n) (hr : r.length = m) (hn : n ≤ 100000) (hm : m ≤ 100000) (ha : Row W A (ns .u32 l)) (hb : Row W B (ns .u32 r)) :
    Calls Try.prog 10 #[.slice A n c, .slice B m d] W fun e w' => e = .returned (.bool (decide (l = r))) ∧ Below W.heap.size W w' := by
  have HL := Lib.hid hl
  have HR := Lib.hid hr
  have HA := Lib.hid ha
  have HB := Lib.hid hb
  clear hl hr ha hb
  by_cases hnm : n = m
  · subst hnm
    have hz : ((n : Int) != (n : Int)) = false := by simp
    go_enter Try.func10, Try.ntmps10
    go_wp2_with fail
    go_loopw [5] (fun i wr => ∃ k : Nat, k ≤ n ∧ i = .int .i64 k ∧ Hid (l.take k = r.take k) ∧ Hid (Row wr A (ns .u32 l)) ∧ Hid (Row wr B (ns .u32 r)) ∧ Hid (Below W.heap.size W wr)) (fun i _ => n - (iof i).toNat)
    case atStart => exact ⟨0, Nat.zero_le _, rfl, Lib.hid rfl, HA, HB, Lib.hid (Below.refl _ _)⟩
    case round =>
      obtain ⟨k, hk, rfl, HT, HA2, HB2, HW⟩ := hrel
      clear HA HB
      by_cases hlt : k < n
      · have h1 : k < l.length := by rw [HL.out]; exact hlt
        have h2 : k < r.length := by rw [HR.out]; exact hlt
        obtain ⟨a, rfl, ca⟩ := HA2.out k _ (ns_get h1)
        obtain ⟨b, rfl, cb⟩ := HB2.out k _ (ns_get h2)
        have hs := take_same HT.out (show l[k]? = some (l.getD k 0) by simp [List.getD, h1]) (show r[k]? = some (r.getD k 0) by simp [List.getD, h2])
        have HS := Lib.hid hs
        clear hs h1 h2
        generalize l.getD k 0 = x at ca HS
        generalize r.getD k 0 = y at cb HS
        by_cases he : x = y
        · have hq : ((x : Int) != (y : Int)) = false := by simp only [bne_eq_false_iff_eq]; omega
          have HT2 := Lib.hid (HS.out.2 he)
          clear he
          go_wp2_with fail
          go_quiet (fail)
          go_wp2_with fail
          go_roundw
          case rel => exact ⟨k + 1, by omega, by go_num, HT2, Lib.hid HA2.out, Lib.hid HB2.out, Lib.hid (below_drewN HW.out _)⟩
          case measure => simp [iof] <;> omega
        · have hq : ((x : Int) != (y : Int)) = true := by simp only [bne_iff_ne, ne_eq]; omega
          have HNE : Hid (decide (l = r) = false) := Lib.hid (decide_eq_false (fun e => he (HS.out.1 (by rw [e]))))
          clear he
          go_wp2_with fail
          go_quiet (fail)
          go_wp2_with fail
          go_ret
          exact ⟨ret_b HNE.out.symm, below_drewN HW.out _⟩
      · have hkn : k = n := by omega
        have HE : Hid (decide (l = r) = true) := Lib.hid (decide_eq_true (by
          have := HT.out
          rwa [hkn, List.take_of_length_le (by rw [HL.out]; omega), List.take_of_length_le (by rw [HR.out]; omega)] at this))
        clear hkn
        go_wp2_with fail
        go_ret
        exact ⟨ret_b HE.out.symm, HW.out⟩
  · have hz : ((n : Int) != (m : Int)) = true := by simp only [bne_iff_ne, ne_eq]; omega
    have HNE : Hid (decide (l = r) = false) := Lib.hid (decide_eq_false (fun e => hnm (by rw [← HL.out, ← HR.out, e])))
    go_enter Try.func10, Try.ntmps10
    go_wp2_with fail
    go_ret
    exact ⟨ret_b HNE.out.symm, Below.refl _ _⟩
theorem row_gap {W : World} {A : Option Addr} {l : List (Nat × Nat)} (h : Row W A (gs l)) {i : Nat} (hi : i < l.length) :
    ∃ a, A = some a ∧ W.cell? (a.add (i * 2)) = some (.int .u16 ((l[i].1 : Nat) : Int)) ∧ W.cell? { block := (a.add (i * 2)).block, off := (a.add (i * 2)).off + 1 } = some (.int .u16 ((l[i].2 : Nat) : Int)) := by
  obtain ⟨a, rfl, h1⟩ := h _ _ (gs_get hi).1
  obtain ⟨b, hb, h2⟩ := h _ _ (gs_get hi).2
  injection hb with hb
  subst hb
  refine ⟨a, rfl, h1, ?_⟩
  rw [← h2]
  congr 1
  unfold Addr.add
  by_cases h0 : i * 2 = 0
  · simp [h0]
  · simp [h0, Nat.add_assoc]
theorem neq_gap (x1 x2 y1 y2 : Nat) (w : World) : (binOp .neq 49 (.agg #[.int .u16 (x1 : Int), .int .u16 (x2 : Int)]) (.agg #[.int .u16 (y1 : Int), .int .u16 (y2 : Int)])).run Try.prog w = .ok (.bool (!(decide (x1 = y1 ∧ x2 = y2)))) w := by
  have u3 := Try.underlying46
  have a3 := Try.isAgg46
  have z3 := Try.sizeOf46
  have hS : Try.prog.underlying 49 = some (.struct (Try.prog.fieldsOf 49)) := by kernel_rfl
  have hp : Try.prog.stoodInHeld 49 = false := by kernel_rfl
  rw [run_neq_struct, show (10000 : Nat) = 9999 + 1 from rfl, run_equalIn_agg w 9999 49 _ _ hS hp]
  simp only [Program.fieldsOf, Try.underlying49]
  go_simp
  by_cases h1 : x1 = y1 <;> by_cases h2 : x2 = y2 <;> simp [h1, h2] <;> omega
theorem guard_gap (op : BinOp) (x y : Operand) (xs ys : Array Value) (w : World) : (eqGuard op 49 x y (.agg xs) (.agg ys)).run Try.prog w = .ok () w := run_eqGuard_agg w op _ x y xs ys (by kernel_rfl)
set_option maxHeartbeats 1000000 in
theorem sgaps_any (A B : Option Addr) (n m c d : Nat) (l r : List (Nat × Nat)) (W : World) (hl : l.length = n) (hr : r.length = m) (hn : n ≤ 100000) (hm : m ≤ 100000) (ha : Row W A (gs l)) (hb : Row W B (gs r)) :
    Calls Try.prog 15 #[.slice A n c, .slice B m d] W fun e w' => e = .returned (.bool (decide (l = r))) ∧ Below W.heap.size W w' := by
  have HL := Lib.hid hl
  have HR := Lib.hid hr
  have HA := Lib.hid ha
  have HB := Lib.hid hb
  clear hl hr ha hb
  by_cases hnm : n = m
  · subst hnm
    have hz : ((n : Int) != (n : Int)) = false := by simp
    go_enter Try.func15, Try.ntmps15
    go_wp2_with fail
    go_loopw [5] (fun i wr => ∃ k : Nat, k ≤ n ∧ i = .int .i64 k ∧ Hid (l.take k = r.take k) ∧ Hid (Row wr A (gs l)) ∧ Hid (Row wr B (gs r)) ∧ Hid (Below W.heap.size W wr)) (fun i _ => n - (iof i).toNat)
    case atStart => exact ⟨0, Nat.zero_le _, rfl, Lib.hid rfl, HA, HB, Lib.hid (Below.refl _ _)⟩
    case round =>
      obtain ⟨k, hk, rfl, HT, HA2, HB2, HW⟩ := hrel
      clear HA HB
      by_cases hlt : k < n
      · have h1 : k < l.length := by rw [HL.out]; exact hlt
        have h2 : k < r.length := by rw [HR.out]; exact hlt
        obtain ⟨a, rfl, ca, ca2⟩ := row_gap HA2.out h1
        obtain ⟨b, rfl, cb, cb2⟩ := row_gap HB2.out h2
        have hs := take_same HT.out (show l[k]? = some l[k] by simp) (show r[k]? = some r[k] by simp)
        have HS := Lib.hid hs
        clear hs
        generalize l[k] = x at ca ca2 HS
        generalize r[k] = y at cb cb2 HS
        obtain ⟨x1, x2⟩ := x
        obtain ⟨y1, y2⟩ := y
        simp only [] at ca ca2 cb cb2
        clear h1 h2
        have hm : Try.prog.eqGuardType Try.prog.depth 49 = false := by kernel_rfl
        by_cases he : x1 = y1 ∧ x2 = y2
        · have hq : ∀ w, (binOp .neq 49 (.agg #[.int .u16 (x1 : Int), .int .u16 (x2 : Int)]) (.agg #[.int .u16 (y1 : Int), .int .u16 (y2 : Int)])).run Try.prog w = .ok (.bool false) w := fun w => by rw [neq_gap, decide_eq_true he]; rfl
          have HT2 := Lib.hid (HS.out.2 (by rw [he.1, he.2]))
          clear he
          go_wp2_with fail
          go_quiet (fail)
          go_wp2_with fail
          go_roundw
          case rel => exact ⟨k + 1, by omega, by go_num, HT2, Lib.hid HA2.out, Lib.hid HB2.out, Lib.hid (below_drewN HW.out _)⟩
          case measure => simp [iof] <;> omega
        · have hq : ∀ w, (binOp .neq 49 (.agg #[.int .u16 (x1 : Int), .int .u16 (x2 : Int)]) (.agg #[.int .u16 (y1 : Int), .int .u16 (y2 : Int)])).run Try.prog w = .ok (.bool true) w := fun w => by rw [neq_gap, decide_eq_false he]; rfl
          have HNE : Hid (decide (l = r) = false) := Lib.hid (decide_eq_false (fun e => he (by have := HS.out.1 (by rw [e]); simpa using this)))
          clear he
          go_wp2_with fail
          go_quiet (fail)
          go_wp2_with fail
          go_ret
          exact ⟨ret_b HNE.out.symm, below_drewN HW.out _⟩
      · have hkn : k = n := by omega
        have HE : Hid (decide (l = r) = true) := Lib.hid (decide_eq_true (by
          have := HT.out
          rwa [hkn, List.take_of_length_le (by rw [HL.out]; omega), List.take_of_length_le (by rw [HR.out]; omega)] at this))
        clear hkn
        go_wp2_with fail
        go_ret
        exact ⟨ret_b HE.out.symm, HW.out⟩
  · have hz : ((n : Int) != (m : Int)) = true := by simp only [bne_iff_ne, ne_eq]; omega
    have HNE : Hid (decide (l = r) = false) := Lib.hid (decide_eq_false (fun e => hnm (by rw [← HL.out, ← HR.out, e])))
    go_enter Try.func15, Try.ntmps15
    go_wp2_with fail
    go_ret
    exact ⟨ret_b HNE.out.symm, Below.refl _ _⟩
end Go.Proofs.Ytkjepopmlpfnpaa
