/-
  What the small functions do: turning round, words of bytes.
-/
import Derived.Test.YtgjobmhpghgnfaaSipPlain
import Derived.BigQuiet
namespace Go.Proofs.Ytgjobmhpghgnfaa
open Go.RowKit Sip

/-- A number of 64 bits, as a value. -/
def vi (x : Nat) : Value := .int .u64 (x : Int)
theorem below_drewN {B : Nat} {a w : World} (h : Below B a w) (q : Nat) : Below B a (w.drewN q) := ⟨h.os, h.tape, h.output, h.size, h.block⟩
theorem rot_val (x n : Nat) (hx : x < 18446744073709551616) :
    bits .or .u64 (IntKind.u64.wrap ((x : Int) * 2 ^ n)) ((x : Int) / 2 ^ (64 - n)) = ((rot x n : Nat) : Int) := by
  have h : IntKind.u64.wrap ((x : Int) * 2 ^ n) = ((x * 2 ^ n % 18446744073709551616 : Nat) : Int) := by
    rw [IntKind.wrap_u64, Int.natCast_emod, Int.natCast_mul, Int.natCast_pow]; rfl
  have h2 : (x : Int) / 2 ^ (64 - n) = ((x / 2 ^ (64 - n) : Nat) : Int) := by
    rw [Int.natCast_ediv, Int.natCast_pow]; rfl
  rw [h, h2, u64_or_nat _ _ (Nat.mod_lt _ (by omega)) (div_lt x _ hx)]
  rfl
set_option maxRecDepth 100000 in
theorem rl13_any (x : Nat) (w : World) (hx : x < 18446744073709551616) :
    Calls Try.prog 17 #[.int .u64 (x : Int), .int .i64 13] w fun e w' => e = .returned (.int .u64 (rot x 13 : Nat)) ∧ w' = w := by
  have hb : bits .and .u64 13 63 = 13 := by decide
  have hv := Lib.hid (rot_val x 13 hx)
  clear hx
  go_enter Try.func17, Try.ntmps17
  go_wp2
  go_ret
  exact ⟨by simpa using congrArg (fun z => Ending.returned (Value.int .u64 z)) hv.out, rfl⟩
set_option maxRecDepth 100000 in
theorem tu13_any (x : Nat) (w : World) (hx : x < 18446744073709551616) :
    Calls Try.prog 16 #[.int .u64 (x : Int), .int .i64 13] w fun e w' => e = .returned (.int .u64 (rot x 13 : Nat)) ∧ ∃ q, w' = w.drewN q := by
  have hv := Lib.hid (rot_val x 13 hx)
  clear hx
  go_enter Try.func16, Try.ntmps16
  go_wp2
  go_quiet (fail)
  go_wp2
  go_ret
  exact ⟨by simpa using congrArg (fun z => Ending.returned (Value.int .u64 z)) hv.out, _, rfl⟩
set_option maxRecDepth 100000 in
theorem rl32_any (x : Nat) (w : World) (hx : x < 18446744073709551616) :
    Calls Try.prog 17 #[.int .u64 (x : Int), .int .i64 32] w fun e w' => e = .returned (.int .u64 (rot x 32 : Nat)) ∧ w' = w := by
  have hb : bits .and .u64 32 63 = 32 := by decide
  have hv := Lib.hid (rot_val x 32 hx)
  clear hx
  go_enter Try.func17, Try.ntmps17
  go_wp2
  go_ret
  exact ⟨by simpa using congrArg (fun z => Ending.returned (Value.int .u64 z)) hv.out, rfl⟩
set_option maxRecDepth 100000 in
theorem tu32_any (x : Nat) (w : World) (hx : x < 18446744073709551616) :
    Calls Try.prog 16 #[.int .u64 (x : Int), .int .i64 32] w fun e w' => e = .returned (.int .u64 (rot x 32 : Nat)) ∧ ∃ q, w' = w.drewN q := by
  have hv := Lib.hid (rot_val x 32 hx)
  clear hx
  go_enter Try.func16, Try.ntmps16
  go_wp2
  go_quiet (fail)
  go_wp2
  go_ret
  exact ⟨by simpa using congrArg (fun z => Ending.returned (Value.int .u64 z)) hv.out, _, rfl⟩
set_option maxRecDepth 100000 in
theorem rl16_any (x : Nat) (w : World) (hx : x < 18446744073709551616) :
    Calls Try.prog 17 #[.int .u64 (x : Int), .int .i64 16] w fun e w' => e = .returned (.int .u64 (rot x 16 : Nat)) ∧ w' = w := by
  have hb : bits .and .u64 16 63 = 16 := by decide
  have hv := Lib.hid (rot_val x 16 hx)
  clear hx
  go_enter Try.func17, Try.ntmps17
  go_wp2
  go_ret
  exact ⟨by simpa using congrArg (fun z => Ending.returned (Value.int .u64 z)) hv.out, rfl⟩
set_option maxRecDepth 100000 in
theorem tu16_any (x : Nat) (w : World) (hx : x < 18446744073709551616) :
    Calls Try.prog 16 #[.int .u64 (x : Int), .int .i64 16] w fun e w' => e = .returned (.int .u64 (rot x 16 : Nat)) ∧ ∃ q, w' = w.drewN q := by
  have hv := Lib.hid (rot_val x 16 hx)
  clear hx
  go_enter Try.func16, Try.ntmps16
  go_wp2
  go_quiet (fail)
  go_wp2
  go_ret
  exact ⟨by simpa using congrArg (fun z => Ending.returned (Value.int .u64 z)) hv.out, _, rfl⟩
set_option maxRecDepth 100000 in
theorem rl21_any (x : Nat) (w : World) (hx : x < 18446744073709551616) :
    Calls Try.prog 17 #[.int .u64 (x : Int), .int .i64 21] w fun e w' => e = .returned (.int .u64 (rot x 21 : Nat)) ∧ w' = w := by
  have hb : bits .and .u64 21 63 = 21 := by decide
  have hv := Lib.hid (rot_val x 21 hx)
  clear hx
  go_enter Try.func17, Try.ntmps17
  go_wp2
  go_ret
  exact ⟨by simpa using congrArg (fun z => Ending.returned (Value.int .u64 z)) hv.out, rfl⟩
set_option maxRecDepth 100000 in
theorem tu21_any (x : Nat) (w : World) (hx : x < 18446744073709551616) :
    Calls Try.prog 16 #[.int .u64 (x : Int), .int .i64 21] w fun e w' => e = .returned (.int .u64 (rot x 21 : Nat)) ∧ ∃ q, w' = w.drewN q := by
  have hv := Lib.hid (rot_val x 21 hx)
  clear hx
  go_enter Try.func16, Try.ntmps16
  go_wp2
  go_quiet (fail)
  go_wp2
  go_ret
  exact ⟨by simpa using congrArg (fun z => Ending.returned (Value.int .u64 z)) hv.out, _, rfl⟩
set_option maxRecDepth 100000 in
theorem rl17_any (x : Nat) (w : World) (hx : x < 18446744073709551616) :
    Calls Try.prog 17 #[.int .u64 (x : Int), .int .i64 17] w fun e w' => e = .returned (.int .u64 (rot x 17 : Nat)) ∧ w' = w := by
  have hb : bits .and .u64 17 63 = 17 := by decide
  have hv := Lib.hid (rot_val x 17 hx)
  clear hx
  go_enter Try.func17, Try.ntmps17
  go_wp2
  go_ret
  exact ⟨by simpa using congrArg (fun z => Ending.returned (Value.int .u64 z)) hv.out, rfl⟩
set_option maxRecDepth 100000 in
theorem tu17_any (x : Nat) (w : World) (hx : x < 18446744073709551616) :
    Calls Try.prog 16 #[.int .u64 (x : Int), .int .i64 17] w fun e w' => e = .returned (.int .u64 (rot x 17 : Nat)) ∧ ∃ q, w' = w.drewN q := by
  have hv := Lib.hid (rot_val x 17 hx)
  clear hx
  go_enter Try.func16, Try.ntmps16
  go_wp2
  go_quiet (fail)
  go_wp2
  go_ret
  exact ⟨by simpa using congrArg (fun z => Ending.returned (Value.int .u64 z)) hv.out, _, rfl⟩

theorem wd_or_val {l : List Int} {k : Nat} {c : Nat} (hl : Byt l) (h8 : l.length ≤ 8) (hk : k < l.length) (hc : l.getD k 0 = (c : Int)) (hc8 : c < 256) :
    bits .or .u64 ((wd (l.take k) : Nat) : Int) (IntKind.u64.wrap ((c : Int) * 2 ^ (8 * k))) = ((wd (l.take (k + 1)) : Nat) : Int) := by
  have e : l.take (k + 1) = l.take k ++ [l.getD k 0] := by
    rw [List.take_add_one, List.getElem?_eq_getElem hk]
    simp [List.getD, List.getElem?_eq_getElem hk]
  have hlt : c * 2 ^ (8 * k) < 18446744073709551616 := by
    have h1 : c * 2 ^ (8 * k) < 256 * 2 ^ (8 * k) := Nat.mul_lt_mul_of_pos_right hc8 (Nat.two_pow_pos _)
    have h2 : 256 * 2 ^ (8 * k) = 256 ^ (k + 1) := by rw [Nat.pow_succ, p256, Nat.mul_comm]
    have h3 := pow8_le (j := k + 1) (by omega)
    omega
  have hw : IntKind.u64.wrap ((c : Int) * 2 ^ (8 * k)) = ((c * 2 ^ (8 * k) : Nat) : Int) := by
    have : ((c * 2 ^ (8 * k) : Nat) : Int) = (c : Int) * 2 ^ (8 * k) := by push_cast; rfl
    rw [IntKind.wrap_u64, ← this]
    generalize c * 2 ^ (8 * k) = y at hlt ⊢
    omega
  rw [hw, u64_or_nat _ _ (wd_lt8 (Byt.take hl k) (by simp; omega)) hlt, e, wd_or (Byt.take hl k), hc]
  simp [show min k l.length = k by omega]

set_option maxRecDepth 100000 in
set_option maxHeartbeats 400000 in
theorem word_any (A : Option Addr) (n c : Nat) (l : List Int) (w : World) (hl : l.length = n) (h8 : n ≤ 8) (hb : Byt l) (hr : Row w A (bs l)) :
    Calls Try.prog 14 #[.slice A n c] w fun e w' => e = .returned (.int .u64 (wd l : Nat)) ∧ w' = w := by
  have HL := Lib.hid hl
  have HB := Lib.hid hb
  have HR := Lib.hid hr
  clear hl hb hr
  go_enter Try.func14, Try.ntmps14
  go_wp2
  go_loop [3, 8] (fun x i => ∃ k : Nat, k ≤ n ∧ i = .int .i64 k ∧ x = .int .u64 (wd (l.take k) : Nat)) (fun _ i => n - (intOf i).toNat)
  case atStart => exact ⟨0, by omega, rfl, rfl⟩
  case round =>
    obtain ⟨k, hk, rfl, rfl⟩ := hrel
    by_cases hlt : k < n
    · have hkl : k < l.length := by rw [HL.out]; exact hlt
      obtain ⟨a, rfl, hc⟩ := Row.byte HR.out hkl
      obtain ⟨u, hu, hu8⟩ := Byt.at HB.out hkl
      have HV := Lib.hid (wd_or_val HB.out (by rw [HL.out]; omega) hkl hu hu8)
      rw [hu] at hc
      have HU := Lib.hid hu
      clear hu
      generalize wd (l.take k) = x at HV
      go_wp2
      go_round
      case rel => exact ⟨k + 1, by omega, by go_num, by rw [← HV.out]⟩
      case measure => simp [intOf] <;> omega
    · go_wp2
      go_ret
      have hkn : l.take k = l := List.take_of_length_le (by rw [HL.out]; omega)
      exact ⟨by simp [hkn], rfl⟩

theorem wd_step {l : List Int} {i : Nat} {c : Nat} (hl : Byt l) (h8 : l.length ≤ 8) (hi : i < l.length) (hc : l.getD i 0 = (c : Int)) :
    256 * wd (l.drop (i + 1)) + c = wd (l.drop i) ∧ wd (l.drop i) < 18446744073709551616 := by
  refine ⟨by rw [wd_drop l i hi, hc]; simp; omega, wd_lt8 (Byt.drop hl i) (by simp; omega)⟩
set_option maxRecDepth 100000 in
set_option maxHeartbeats 400000 in
theorem rword_any (A : Option Addr) (n c : Nat) (l : List Int) (w : World) (hl : l.length = n) (h8 : n ≤ 8) (hb : Byt l) (hr : Row w A (bs l)) :
    Calls Try.prog 12 #[.slice A n c] w fun e w' => e = .returned (.int .u64 (wd l : Nat)) ∧ w' = w := by
  have HL := Lib.hid hl
  have HB := Lib.hid hb
  have HR := Lib.hid hr
  clear hl hb hr
  go_enter Try.func12, Try.ntmps12
  go_wp2
  go_loop [3, 4] (fun x i => ∃ k : Nat, k ≤ 8 ∧ i = .int .i64 ((k : Int) - 1) ∧ x = .int .u64 (wd (l.drop k) : Nat)) (fun _ i => (intOf i + 1).toNat)
  case atStart => exact ⟨8, by omega, rfl, by rw [wd_drop_ge _ _ (by rw [HL.out]; omega)]; rfl⟩
  case round =>
    obtain ⟨k, hk, rfl, rfl⟩ := hrel
    by_cases h0 : k = 0
    · subst h0
      go_wp2
      go_ret
      exact ⟨by simp, rfl⟩
    · obtain ⟨k, rfl⟩ : ∃ m, k = m + 1 := ⟨k - 1, by omega⟩
      have e1 : ((k + 1 : Nat) : Int) - 1 = k := by omega
      rw [e1]
      by_cases hlt : k < n
      · have hkl : k < l.length := by rw [HL.out]; exact hlt
        obtain ⟨a, rfl, hc⟩ := Row.byte HR.out hkl
        obtain ⟨u, hu, hu8⟩ := Byt.at HB.out hkl
        obtain ⟨hs, hs2⟩ := wd_step HB.out (by rw [HL.out]; omega) hkl hu
        rw [hu] at hc
        have HU := Lib.hid hu
        clear hu
        generalize wd (l.drop (k + 1)) = x at hs
        generalize hy : wd (l.drop k) = y at hs hs2
        have HY := Lib.hid hy
        clear hy
        go_wp2
        go_round
        case rel => exact ⟨k, by omega, by go_num, by rw [HY.out]; congr 1; omega⟩
        case measure => simp [intOf] <;> omega
      · have hz : wd (l.drop (k + 1)) = 0 := wd_drop_ge _ _ (by rw [HL.out]; omega)
        have hz2 : wd (l.drop k) = 0 := wd_drop_ge _ _ (by rw [HL.out]; omega)
        have HZ := Lib.hid hz2
        rw [hz]
        clear hz hz2
        go_wp2
        go_round
        case rel => exact ⟨k, by omega, by go_num, by rw [HZ.out]; rfl⟩
        case measure => simp [intOf] <;> omega
end Go.Proofs.Ytgjobmhpghgnfaa
