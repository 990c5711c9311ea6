/-
  Numbers that go round: the program's (serial) and the document's.
-/
import Derived.Test.YtkjepopmlpfnpaaGpMem
namespace Go.Proofs.Ytkjepopmlpfnpaa
open Go.RowKit
set_option linter.unusedVariables false

theorem wrap_sub {a b : Nat} (ha : a < 4294967296) (hb : b < 4294967296) : IntKind.u32.wrap ((b : Int) - (a : Int)) = ((wy a b : Nat) : Int) := by
  rw [IntKind.wrap_u32]; unfold wy; omega
theorem wrap_add {a b : Nat} : IntKind.u32.wrap ((a : Int) + (b : Int)) = ((up a b : Nat) : Int) := by
  rw [IntKind.wrap_u32]; unfold up; omega
theorem way_any (a b : Nat) (w : World) (ha : a < 4294967296) (hb : b < 4294967296) :
    Calls Try.prog 37 #[.int .u32 (a : Int), .int .u32 (b : Int)] w fun e w' => e = .returned (.int .u32 (wy a b : Nat)) ∧ w = w' := by
  have hw := wrap_sub ha hb
  go_enter Try.func37, Try.ntmps37
  go_wp2
  go_ret
  exact ⟨rfl, rfl⟩
theorem span_any (a b : Nat) (w : World) (ha : a < 4294967296) (hb : b < 4294967296) :
    Calls Try.prog 32 #[.int .u32 (a : Int), .int .u32 (b : Int)] w fun e w' => e = .returned (.int .u32 (wy a b : Nat)) ∧ w = w' := by
  go_enter Try.func32, Try.ntmps32
  go_wp2_with (go_at_call 37; refine (way_any _ _ _ (by assumption) (by assumption)).mono ?_; rintro e w' ⟨rfl, rfl⟩)
  go_ret
  exact ⟨rfl, rfl⟩
theorem before_any (a b : Nat) (w : World) (ha : a < 4294967296) (hb : b < 4294967296) :
    Calls Try.prog 36 #[.int .u32 (a : Int), .int .u32 (b : Int)] w fun e w' => e = .returned (.bool (bfr a b)) ∧ w = w' := by
  have hlt := wy_lt a b
  have h0 : (a = b → bfr a b = false) ∧ (a ≠ b → bfr a b = decide (wy a b ≤ 2147483647)) := by
    unfold bfr
    refine ⟨fun e => ?_, fun e => ?_⟩
    · have : wy a b = 0 := by unfold wy; omega
      simp [this]
    · have : 1 ≤ wy a b := by unfold wy; omega
      simp [this]
  have H0 := Lib.hid h0
  clear h0
  have hx : bits .xor .u32 IntKind.u32.max 0 = 4294967295 := by decide +kernel
  have hsg : IntKind.u32.signed = false := rfl
  go_enter Try.func36, Try.ntmps36
  by_cases hab : a = b
  · have hz : ((a : Int) != (b : Int)) = false := by simp; omega
    have HA := Lib.hid hab
    clear hab
    go_wp2_with (go_at_call 37; refine (way_any _ _ _ (by assumption) (by assumption)).mono ?_; rintro e w' ⟨rfl, rfl⟩)
    go_ret
    exact ⟨by rw [H0.out.1 HA.out]; rfl, rfl⟩
  · have hz : ((a : Int) != (b : Int)) = true := by simp; omega
    go_wp2_with (go_at_call 37; refine (way_any _ _ _ (by assumption) (by assumption)).mono ?_; rintro e w' ⟨rfl, rfl⟩)
    go_ret
    refine ⟨?_, rfl⟩
    rw [H0.out.2 hab]
    simp
    try omega
theorem rway_any (a b : Nat) (w : World) (ha : a < 4294967296) (hb : b < 4294967296) :
    Calls Try.prog 33 #[.int .i64 (a : Int), .int .i64 (b : Int), .int .i64 4294967296] w fun e w' => e = .returned (.int .i64 (wy a b : Nat)) ∧ w = w' := by
  have h0 : (a ≤ b → ((wy a b : Nat) : Int) = (b : Int) - a) ∧ (b < a → ((wy a b : Nat) : Int) = 4294967296 + (b : Int) - a) := by unfold wy; omega
  have H0 := Lib.hid h0
  clear h0
  go_enter Try.func33, Try.ntmps33
  by_cases hab : a ≤ b
  · go_wp2
    go_ret
    exact ⟨ret_eq (H0.out.1 hab).symm, rfl⟩
  · go_wp2
    go_ret
    exact ⟨ret_eq (H0.out.2 (by omega)).symm, rfl⟩
theorem ret_b {a b : Bool} (h : a = b) : Ending.returned (.bool a) = .returned (.bool b) := by rw [h]
theorem bfr_int (a b : Nat) : bfr a b = (decide ((1 : Int) ≤ (wy a b : Nat)) && decide (((wy a b : Nat) : Int) ≤ 2147483647)) := by
  unfold bfr
  generalize wy a b = x
  by_cases h1 : 1 ≤ x
  · by_cases h2 : x ≤ 2147483647
    · rw [decide_eq_true (show 1 ≤ x ∧ x ≤ 2147483647 from ⟨h1, h2⟩), decide_eq_true (show (1 : Int) ≤ (x : Int) by omega), decide_eq_true (show (x : Int) ≤ 2147483647 by omega)]; rfl
    · rw [decide_eq_false (show ¬ (1 ≤ x ∧ x ≤ 2147483647) from fun h => h2 h.2), decide_eq_false (show ¬ (x : Int) ≤ 2147483647 by omega), Bool.and_false]
  · rw [decide_eq_false (show ¬ (1 ≤ x ∧ x ≤ 2147483647) from fun h => h1 h.1), decide_eq_false (show ¬ (1 : Int) ≤ (x : Int) by omega), Bool.false_and]
theorem rbefore_aux (x : Nat) (a b : Int) (r : Bool) (w : World) (h0 : r = (decide ((1 : Int) ≤ (x : Int)) && decide ((x : Int) ≤ 2147483647))) (hx : x < 4294967296)
    (ha : 0 ≤ a) (ha2 : a ≤ 4294967295) (hb : 0 ≤ b) (hb2 : b ≤ 4294967295)
    (HW : Hid (∀ W, Calls Try.prog 33 #[.int .i64 a, .int .i64 b, .int .i64 4294967296] W fun e w' => e = .returned (.int .i64 (x : Nat)) ∧ W = w')) :
    Calls Try.prog 31 #[.int .u32 a, .int .u32 b] w fun e w' => e = .returned (.bool r) ∧ w = w' := by
  have H0 := Lib.hid h0
  clear h0
  by_cases h1 : 1 ≤ x
  · have hd : decide ((1 : Int) ≤ (x : Int)) = true := decide_eq_true (by omega)
    go_enter Try.func31, Try.ntmps31
    go_wp2_with (go_at_call 33; refine (HW.out _).mono ?_; rintro e w' ⟨rfl, rfl⟩)
    go_ret
    exact ⟨ret_b (by rw [H0.out, hd, Bool.true_and]), rfl⟩
  · have hd : decide ((1 : Int) ≤ (x : Int)) = false := decide_eq_false (by omega)
    go_enter Try.func31, Try.ntmps31
    go_wp2_with (go_at_call 33; refine (HW.out _).mono ?_; rintro e w' ⟨rfl, rfl⟩)
    go_ret
    exact ⟨ret_b (by rw [H0.out, hd, Bool.false_and]), rfl⟩
theorem rbefore_any (a b : Nat) (w : World) (ha : a < 4294967296) (hb : b < 4294967296) :
    Calls Try.prog 31 #[.int .u32 (a : Int), .int .u32 (b : Int)] w fun e w' => e = .returned (.bool (bfr a b)) ∧ w = w' :=
  rbefore_aux (wy a b) a b _ w (bfr_int a b) (wy_lt a b) (by omega) (by omega) (by omega) (by omega) (Lib.hid fun W => rway_any a b W ha hb)
end Go.Proofs.Ytkjepopmlpfnpaa
