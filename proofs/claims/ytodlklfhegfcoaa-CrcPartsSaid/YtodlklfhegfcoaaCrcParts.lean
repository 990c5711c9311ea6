/-
  The walk of CrcParts.
-/
import Derived.Test.YtodlklfhegfcoaaCrcKnown
import Derived.Deep.RegionWith
namespace Go.Proofs.Ytodlklfhegfcoaa
open Go.RowKit Crc

theorem Try_size1 : (Try.prog.info? 5).map (·.size) = some 1 := by kernel_rfl
/-- The bytes are there, and what stood at the beginning is as it was. -/
def Good (w : World) (A : Option Addr) (l : List Int) (W : World) : Prop := Row W A (bs l) ∧ Below w.heap.size w W
theorem Good.next {w W w' : World} {A : Option Addr} {l : List Int} (h : Good w A l W) (hb : Below W.heap.size W w') : Good w A l w' := ⟨h.1.below hb, bnext h.2 hb⟩
theorem Good.drew {w W : World} {A : Option Addr} {l : List Int} (h : Good w A l W) : Good w A l W.drew := ⟨h.1, h.2.drew⟩

set_option maxRecDepth 100000 in
set_option maxHeartbeats 400000 in
theorem crcParts_walk (a0 : Option Addr) (len0 cap0 : Nat) (z0 : List Int) (a1 : Int) (w : World) (w0 : IsRow .u8 w a0 len0 cap0 z0) (w1 : (Lit.int .i64 a1).wf = true) :
    Calls Try.prog 4 #[.slice a0 len0 cap0, .int .i64 a1] w fun e w' => e = .returned (.bool true) ∧ Below w.heap.size w w' := by
  obtain ⟨b1, b2⟩ := wf_i64 w1
  obtain ⟨l, hl, hlc, hcm, hb, hr⟩ := w0.bytes
  have HK := Lib.hid known_any
  have hlm : len0 ≤ 9223372036854775807 := by unfold maxLen at hcm; omega
  clear w0 w1
  by_cases h1 : (20000 : Int) < (len0 : Int)
  · clear hl hb hr hlc hcm
    go_enter Try.func4, Try.ntmps4
    go_wp2_with fail
    refine (HK.out _).mono ?_
    rintro e w1 ⟨rfl, hb1⟩
    go_wp2_with fail
    go_ret
    exact ⟨rfl, hb1⟩
  by_cases h2 : a1 < 0
  · clear hl hb hr hlc hcm
    go_enter Try.func4, Try.ntmps4
    go_wp2_with fail
    refine (HK.out _).mono ?_
    rintro e w1 ⟨rfl, hb1⟩
    go_wp2_with fail
    go_ret
    exact ⟨rfl, hb1⟩
  by_cases h3 : (len0 : Int) < a1
  · clear hl hb hr hlc hcm
    go_enter Try.func4, Try.ntmps4
    go_wp2_with fail
    refine (HK.out _).mono ?_
    rintro e w1 ⟨rfl, hb1⟩
    go_wp2_with fail
    go_ret
    exact ⟨rfl, hb1⟩
  obtain ⟨k, rfl⟩ := Int.eq_ofNat_of_zero_le (show 0 ≤ a1 by omega)
  have hk : k ≤ len0 := by omega
  have hlm' : len0 ≤ maxLen := by unfold maxLen; omega
  have hkm : k ≤ maxLen := by omega
  have hdm : len0 - k ≤ maxLen := by omega
  have hkc : k ≤ cap0 := by omega
  have hbt : Byt (l.take k) := Byt.take hb k
  have hbd : Byt (l.drop k) := fun c hc => hb c (List.mem_of_mem_drop hc)
  have hs1 := more_lt 0 (l.take k)
  have hmo := more_append (s := 0) (l := l.take k) (m := l.drop k) (by omega) hbt
  rw [List.take_append_drop] at hmo
  have sz := Try_size1
  have q1 := fun W => run_cut_h (P := Try.prog) Try.underlying23 sz (k := .i64) a0 len0 cap0 k hkc W
  have q2 := fun W => run_cut_l (P := Try.prog) Try.underlying23 sz (k := .i64) a0 len0 cap0 k hk W
  have c1 : ∀ W, Good w a0 l W → Calls Try.prog 8 #[.slice (cutA a0 cap0 0) k cap0] W fun e w' => e = .returned (.int .u32 (more 0 (l.take k) : Nat)) ∧ Good w a0 l w' := fun W hg =>
    (sum_any _ k cap0 (l.take k) W (by simp; omega) hkm hbt (by have := hg.1.cut (c := cap0) (lo := 0) hkc; rw [List.drop_zero] at this; simpa [bs] using this)).mono fun e w' ⟨he, hw⟩ => ⟨he, hg.next hw⟩
  have c2 : ∀ W, Good w a0 l W → Calls Try.prog 10 #[.int .u32 (more 0 (l.take k) : Nat), .slice (cutA a0 cap0 k) (len0 - k) (cap0 - k)] W fun e w' => e = .returned (.int .u32 (more 0 l : Nat)) ∧ Good w a0 l w' := fun W hg =>
    (more_any _ _ (len0 - k) (cap0 - k) (l.drop k) W hs1 (by simp; omega) hdm hbd (by
      have := hg.1.cut (c := cap0) (lo := k) hlc
      rw [List.take_of_length_le (by simp [bs]; omega)] at this
      simpa [bs] using this)).mono fun e w' ⟨he, hw⟩ => ⟨by rw [he, hmo], hg.next hw⟩
  have c3 : ∀ W, Good w a0 l W → Calls Try.prog 8 #[.slice a0 len0 cap0] W fun e w' => e = .returned (.int .u32 (more 0 l : Nat)) ∧ Good w a0 l w' := fun W hg =>
    (sum_any _ len0 cap0 l W hl hlm' hb hg.1).mono fun e w' ⟨he, hw⟩ => ⟨he, hg.next hw⟩
  have cv : ∀ W, Good w a0 l W → (convert 23 9 (.slice a0 len0 cap0)).run Try.prog W = .ok (.string (strOf l)) W := fun W hg =>
    run_strOf Try.underlying23 Try.underlying5 Try.underlying9 hl hg.1
  have hg0 : Good w a0 l w := ⟨hr, Below.refl _ _⟩
  have d1 : decide ((20000 : Int) < (len0 : Int)) = false := by simpa using h1
  have d2 : decide ((k : Int) < 0) = false := by simp
  have d3 : decide (len0 < k) = false := by simp; omega
  have C1 := Lib.hid c1
  have C2 := Lib.hid c2
  have C3 := Lib.hid c3
  clear hl hb hr hcm b1 b2 h1 h2 h3 c1 c2 c3 hmo hs1 hbt hbd hlm' hkm hdm hlc hlm hkc hk
  generalize more 0 (l.take k) = S1 at C1 C2
  generalize more 0 l = S2 at C2 C3
  generalize strOf l = str at cv
  go_enter Try.func4, Try.ntmps4
  go_wp2_with fail
  refine (HK.out _).mono ?_
  rintro e w1 ⟨rfl, hb1⟩
  have hg1 := hg0.next hb1
  go_wp2_with fail
  have hg2 := hg1.drew
  go_region_with (first
    | (go_at_call 10; (with_reducible refine (C2.out _ ?_).mono ?_); assumption; rintro e w4 ⟨rfl, hg4⟩)
    | (go_at_call 8; (with_reducible refine (C1.out _ ?_).mono ?_); assumption; rintro e w3 ⟨rfl, hg3⟩)
    | (go_at_call 8; (with_reducible refine (C3.out _ ?_).mono ?_); assumption; rintro e w5 ⟨rfl, hg5⟩))
  go_wp2_with fail
  go_ret
  exact ⟨rfl, hg5.2⟩
end Go.Proofs.Ytodlklfhegfcoaa
