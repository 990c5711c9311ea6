/-
  What crc.halve, the reference's Behind, More and Sum do, said of any world: they compute and change nothing.
-/
import Derived.Test.YtgepmicodfhhmaaRows
import Derived.Test.YtgepmicodfhhmaaCrcPlain
import Derived.Test.YtgepmicodfhhmaaWords
namespace Go.Proofs.Ytgepmicodfhhmaa
open Go.RowKit Crc


set_option maxHeartbeats 400000 in
theorem halve_any (r : Nat) (hr : r < 4294967296) (w : World) :
    Calls Try.prog 24 #[.int .u32 (r : Int)] w fun e w' => e = .returned (.int .u32 (hal r : Nat)) ∧ w = w' := by
  by_cases h : r % 2 = 1
  · have e1 : bits .xor .u32 ((r : Int) / 2) 2197175160 = ((hal r : Nat) : Int) := by
      unfold hal; rw [if_pos h]; exact u32_xor_nat (r / 2) 2197175160 (by omega) (by omega)
    have E1 := Lib.hid e1
    clear e1
    go_enter Try.func24, Try.ntmps24
    go_wp2
    go_ret
    exact ⟨ret_eq E1.out, rfl⟩
  · have e1 : (r : Int) / 2 = ((hal r : Nat) : Int) := by
      unfold hal; rw [if_neg h]; omega
    have E1 := Lib.hid e1
    clear e1
    go_enter Try.func24, Try.ntmps24
    go_wp2
    go_ret
    exact ⟨ret_eq E1.out, rfl⟩

set_option maxHeartbeats 400000 in
theorem behind_any (r c : Nat) (hr : r < 4294967296) (hc : c < 256) (w : World) :
    Calls Try.prog 23 #[.int .u32 (r : Int), .int .u8 (c : Int)] w fun e w' => e = .returned (.int .u32 (stp r c : Nat)) ∧ w = w' := by
  have e0 : bits .xor .u32 (r : Int) (c : Int) = ((r ^^^ c : Nat) : Int) := u32_xor_nat r c hr (by omega)
  have E0 := Lib.hid e0
  clear e0
  go_enter Try.func23, Try.ntmps23
  go_wp2
  go_loop [0, 5] (fun x k => ∃ n : Nat, n ≤ 8 ∧ k = .int .i64 n ∧ x = .int .u32 (hals n (r ^^^ c) : Nat)) (fun _ k => 8 - (intOf k).toNat)
  case atStart => exact ⟨0, by omega, rfl, by rw [E0.out]; rfl⟩
  case round =>
    obtain ⟨n, hn, rfl, rfl⟩ := hrel
    have hx := hals_lt n (xor_lt32 hr (by omega : c < 4294967296))
    have hs : hals (n + 1) (r ^^^ c) = hal (hals n (r ^^^ c)) := rfl
    have HS := Lib.hid hs
    clear hs
    generalize hg : hals n (r ^^^ c) = x at hx HS
    have HG := Lib.hid hg
    clear hg
    by_cases hlt : n < 8
    · by_cases h : x % 2 = 1
      · have e1 : bits .xor .u32 ((x : Int) / 2) 2197175160 = ((hal x : Nat) : Int) := by
          unfold hal; rw [if_pos h]; exact u32_xor_nat (x / 2) 2197175160 (by omega) (by omega)
        have E1 := Lib.hid e1
        clear e1
        go_wp2
        go_round
        case rel => exact ⟨n + 1, by omega, by go_num, by rw [E1.out, HS.out]⟩
        case measure => simp [intOf]; omega
      · have e1 : (x : Int) / 2 = ((hal x : Nat) : Int) := by
          unfold hal; rw [if_neg h]; omega
        have E1 := Lib.hid e1
        clear e1
        go_wp2
        go_round
        case rel => exact ⟨n + 1, by omega, by go_num, by rw [E1.out, HS.out]⟩
        case measure => simp [intOf]; omega
    · go_wp2
      go_ret
      have h8 : n = 8 := by omega
      exact ⟨ret_eq (by rw [← HG.out, h8]; rfl), rfl⟩

theorem run_take {r : Nat} {l : List Int} {k : Nat} (hk : k < l.length) : run r (l.take (k + 1)) = stp (run r (l.take k)) (l.getD k 0).toNat := by
  have e : l.getD k 0 = l[k] := by simp [List.getD, List.getElem?_eq_getElem hk]
  rw [List.take_succ_eq_append_getElem hk, run_snoc, e]

set_option maxHeartbeats 400000 in
theorem rmore_any (s : Nat) (A : Option Addr) (n c : Nat) (l : List Int) (w : World) (hs : s < 4294967296) (hl : l.length = n) (hm : n ≤ maxLen) (hb : Byt l) (hr : Row w A (bs l)) :
    Calls Try.prog 21 #[.int .u32 (s : Int), .slice A n c] w fun e w' => e = .returned (.int .u32 (more s l : Nat)) ∧ w = w' := by
  have hm : n ≤ 9223372036854775807 := hm
  have e0 : (4294967295 : Int) - (s : Int) = ((4294967295 - s : Nat) : Int) := by omega
  have E0 := Lib.hid e0
  have HL := Lib.hid hl
  clear e0 hl
  have HB := Lib.hid hb
  have HR := Lib.hid hr
  clear hb hr
  go_enter Try.func21, Try.ntmps21
  go_wp2
  go_loop [5, 6] (fun x i => ∃ k : Nat, k ≤ n ∧ i = .int .i64 k ∧ x = .int .u32 (run (4294967295 - s) (l.take k) : Nat)) (fun _ i => n - (intOf i).toNat)
  case atStart => exact ⟨0, by omega, rfl, by rw [E0.out]; rfl⟩
  case round =>
    obtain ⟨k, hk, rfl, rfl⟩ := hrel
    have hx : run (4294967295 - s) (l.take k) < 4294967296 := run_lt (by omega) (Byt.take HB.out k)
    generalize hg : run (4294967295 - s) (l.take k) = x at hx
    have HG := Lib.hid hg
    clear hg
    by_cases hlt : k < n
    · have hkl : k < l.length := by rw [HL.out]; exact hlt
      obtain ⟨a, rfl, hc⟩ := Row.byte HR.out hkl
      obtain ⟨u, hu, hu8⟩ := Byt.at HB.out hkl
      have HT := Lib.hid (run_take (r := 4294967295 - s) hkl)
      rw [hu] at hc
      have HU := Lib.hid hu
      clear hu
      go_wp2_with (go_at_call 23; refine (behind_any _ _ hx hu8 _).mono ?_; rintro e w' ⟨rfl, rfl⟩)
      go_round
      case rel => exact ⟨k + 1, by omega, by go_num, by rw [HT.out, HG.out, HU.out]; rfl⟩
      case measure => simp [intOf]; omega
    · go_wp2
      go_ret
      have hkn : l.take k = l := List.take_of_length_le (by rw [HL.out]; omega)
      exact ⟨ret_eq (by unfold more; rw [← hkn, HG.out]; omega), rfl⟩

set_option maxHeartbeats 400000 in
theorem rsum_any (A : Option Addr) (n c : Nat) (l : List Int) (w : World) (hl : l.length = n) (hm : n ≤ maxLen) (hb : Byt l) (hr : Row w A (bs l)) :
    Calls Try.prog 14 #[.slice A n c] w fun e w' => e = .returned (.int .u32 (more 0 l : Nat)) ∧ w = w' := by
  have HL := Lib.hid hl
  have HB := Lib.hid hb
  have HR := Lib.hid hr
  clear hl hb hr
  go_enter Try.func14, Try.ntmps14
  go_wp2_with (go_at_call 21; refine (rmore_any 0 _ _ _ l _ (by omega) HL.out hm HB.out HR.out).mono ?_; rintro e w' ⟨rfl, rfl⟩)
  go_ret
  exact ⟨rfl, rfl⟩
end Go.Proofs.Ytgepmicodfhhmaa
