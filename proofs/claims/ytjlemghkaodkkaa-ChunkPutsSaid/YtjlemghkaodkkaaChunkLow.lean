/-
  What the small functions of layer 5 do.
-/
import Derived.Test.YtjlemghkaodkkaaBlk
import Derived.Test.YtjlemghkaodkkaaChunkPlain
namespace Go.Proofs.Ytjlemghkaodkkaa
open Go.RowKit Wire Tlv Chunk

theorem and128 : ∀ k : Nat, k < 256 → (bits .and .u8 (k : Int) 128 != 0) = decide (128 ≤ k) := by decide +kernel
theorem and64 : ∀ k : Nat, k < 256 → (bits .and .u8 (k : Int) 64 != 0) = decide (64 ≤ k % 128) := by decide +kernel
theorem kn_yes {k : Nat} (h : k < 12 ∨ k = 14) : kn k = true := by simp [kn, h]
theorem kn_no {k : Nat} (h : ¬ (k < 12 ∨ k = 14)) : kn k = false := by simp [kn, h]
set_option maxRecDepth 100000 in
set_option maxHeartbeats 1000000 in
theorem ckKnown_any (k : Nat) (w : World) : Calls Try.prog 18 #[.int .u8 (k : Int)] w fun e w' => e = .returned (.bool (kn k)) ∧ w = w' := by
  by_cases h : k < 12 ∨ k = 14
  · rw [kn_yes h]
    rcases (show k = 0 ∨ k = 1 ∨ k = 2 ∨ k = 3 ∨ k = 4 ∨ k = 5 ∨ k = 6 ∨ k = 7 ∨ k = 8 ∨ k = 9 ∨ k = 10 ∨ k = 11 ∨ k = 14 by omega) with rfl | rfl | rfl | rfl | rfl | rfl | rfl | rfl | rfl | rfl | rfl | rfl | rfl
    all_goals
      clear h
      go_enter Try.func18, Try.ntmps18
      go_wp2
      go_ret
      exact ⟨rfl, rfl⟩
  · rw [kn_no h]
    have d0 : ((k : Int) == 0) = false := by simp; omega
    have d1 : ((k : Int) == 1) = false := by simp; omega
    have d2 : ((k : Int) == 2) = false := by simp; omega
    have d3 : ((k : Int) == 3) = false := by simp; omega
    have d4 : ((k : Int) == 4) = false := by simp; omega
    have d5 : ((k : Int) == 5) = false := by simp; omega
    have d6 : ((k : Int) == 6) = false := by simp; omega
    have d7 : ((k : Int) == 7) = false := by simp; omega
    have d8 : ((k : Int) == 8) = false := by simp; omega
    have d9 : ((k : Int) == 9) = false := by simp; omega
    have d10 : ((k : Int) == 10) = false := by simp; omega
    have d11 : ((k : Int) == 11) = false := by simp; omega
    have d14 : ((k : Int) == 14) = false := by simp; omega
    clear h
    go_enter Try.func18, Try.ntmps18
    go_wp2
    go_ret
    exact ⟨rfl, rfl⟩
set_option maxHeartbeats 400000 in
theorem rfKnown_any (k : Nat) (w : World) : Calls Try.prog 17 #[.int .u8 (k : Int)] w fun e w' => e = .returned (.bool (kn k)) ∧ w = w' := by
  by_cases h : k < 12
  · rw [kn_yes (.inl h)]
    have d : decide ((k : Int) < 12) = true := by simp; omega
    clear h
    go_enter Try.func17, Try.ntmps17
    go_wp2
    go_ret
    exact ⟨rfl, rfl⟩
  · have d : decide ((k : Int) < 12) = false := by simp; omega
    by_cases h2 : k = 14
    · rw [kn_yes (.inr h2)]
      have d2 : ((k : Int) == 14) = true := by simp; omega
      clear h h2
      go_enter Try.func17, Try.ntmps17
      go_wp2
      go_ret
      exact ⟨rfl, rfl⟩
    · rw [kn_no (by omega)]
      have d2 : ((k : Int) == 14) = false := by simp; omega
      clear h h2
      go_enter Try.func17, Try.ntmps17
      go_wp2
      go_ret
      exact ⟨rfl, rfl⟩
set_option maxHeartbeats 400000 in
theorem ckSkips_any (k : Nat) (w : World) (hk : k < 256) : Calls Try.prog 19 #[.int .u8 (k : Int)] w fun e w' => e = .returned (.bool (!kn k && decide (128 ≤ k))) ∧ w = w' := by
  have HK := Lib.hid fun w => ckKnown_any k w
  have hd := and128 k hk
  generalize decide (128 ≤ k) = b at hd ⊢
  generalize kn k = a at HK ⊢
  cases a
  all_goals
    go_enter Try.func19, Try.ntmps19
    go_wp2_with ((with_reducible refine (HK.out _).mono ?_); rintro e w' ⟨rfl, rfl⟩)
    go_ret
    exact ⟨by simp, rfl⟩
set_option maxHeartbeats 400000 in
theorem ckReports_any (k : Nat) (w : World) (hk : k < 256) : Calls Try.prog 20 #[.int .u8 (k : Int)] w fun e w' => e = .returned (.bool (!kn k && decide (64 ≤ k % 128))) ∧ w = w' := by
  have HK := Lib.hid fun w => ckKnown_any k w
  have hd := and64 k hk
  generalize decide (64 ≤ k % 128) = b at hd ⊢
  generalize kn k = a at HK ⊢
  cases a
  all_goals
    go_enter Try.func20, Try.ntmps20
    go_wp2_with ((with_reducible refine (HK.out _).mono ?_); rintro e w' ⟨rfl, rfl⟩)
    go_ret
    exact ⟨by simp, rfl⟩
set_option maxHeartbeats 400000 in
theorem ckNeeds_any (k : Nat) (w : World) : Calls Try.prog 26 #[.int .u8 (k : Int)] w fun e w' => e = .returned (.bool (decide (k = 0 ∨ k = 2))) ∧ w = w' := by
  by_cases h : k = 0
  · subst h
    go_enter Try.func26, Try.ntmps26
    go_wp2
    go_ret
    exact ⟨rfl, rfl⟩
  · by_cases h2 : k = 2
    · subst h2
      go_enter Try.func26, Try.ntmps26
      go_wp2
      go_ret
      exact ⟨rfl, rfl⟩
    · have e : decide (k = 0 ∨ k = 2) = false := by simp; omega
      rw [e]
      have d1 : ((k : Int) == 0) = false := by simp; omega
      have d2 : ((k : Int) == 2) = false := by simp; omega
      clear h h2 e
      go_enter Try.func26, Try.ntmps26
      go_wp2
      go_ret
      exact ⟨rfl, rfl⟩
set_option maxHeartbeats 1000000 in
theorem ckFlags_any (k : Nat) (w : World) : Calls Try.prog 27 #[.int .u8 (k : Int)] w fun e w' => e = .returned (.int .u8 (flg k : Nat)) ∧ w = w' := by
  rcases (show k = 0 ∨ k = 6 ∨ k = 14 ∨ (k ≠ 0 ∧ k ≠ 6 ∧ k ≠ 14) by omega) with rfl | rfl | rfl | ⟨h1, h2, h3⟩
  · go_enter Try.func27, Try.ntmps27
    go_wp2
    go_ret
    exact ⟨rfl, rfl⟩
  · go_enter Try.func27, Try.ntmps27
    go_wp2
    go_ret
    exact ⟨rfl, rfl⟩
  · go_enter Try.func27, Try.ntmps27
    go_wp2
    go_ret
    exact ⟨rfl, rfl⟩
  · have HK := Lib.hid fun w => ckKnown_any k w
    have hf : flg k = if kn k then 0 else 255 := by unfold flg; rw [if_neg h1, if_neg (by omega)]
    rw [hf]
    have d1 : ((k : Int) == 0) = false := by simp; omega
    have d2 : ((k : Int) == 6) = false := by simp; omega
    have d3 : ((k : Int) == 14) = false := by simp; omega
    clear h1 h2 h3 hf
    generalize kn k = a at HK ⊢
    cases a
    all_goals
      go_enter Try.func27, Try.ntmps27
      go_wp2_with ((with_reducible refine (HK.out _).mono ?_); rintro e w' ⟨rfl, rfl⟩)
      go_ret
      exact ⟨rfl, rfl⟩
set_option maxHeartbeats 1000000 in
theorem rfFlags_any (k : Nat) (w : World) : Calls Try.prog 32 #[.int .u8 (k : Int)] w fun e w' => e = .returned (.int .u8 (flg k : Nat)) ∧ w = w' := by
  rcases (show k = 0 ∨ k = 6 ∨ k = 14 ∨ (k ≠ 0 ∧ k ≠ 6 ∧ k ≠ 14) by omega) with rfl | rfl | rfl | ⟨h1, h2, h3⟩
  · go_enter Try.func32, Try.ntmps32
    go_wp2
    go_ret
    exact ⟨rfl, rfl⟩
  · go_enter Try.func32, Try.ntmps32
    go_wp2
    go_ret
    exact ⟨rfl, rfl⟩
  · go_enter Try.func32, Try.ntmps32
    go_wp2
    go_ret
    exact ⟨rfl, rfl⟩
  · have HK := Lib.hid fun w => rfKnown_any k w
    have hf : flg k = if kn k then 0 else 255 := by unfold flg; rw [if_neg h1, if_neg (by omega)]
    rw [hf]
    have d1 : ((k : Int) == 0) = false := by simp; omega
    have d2 : ((k : Int) == 6) = false := by simp; omega
    have d3 : ((k : Int) == 14) = false := by simp; omega
    clear h1 h2 h3 hf
    generalize kn k = a at HK ⊢
    cases a
    all_goals
      go_enter Try.func32, Try.ntmps32
      go_wp2_with ((with_reducible refine (HK.out _).mono ?_); rintro e w' ⟨rfl, rfl⟩)
      go_ret
      exact ⟨rfl, rfl⟩
/-- Which fields a kind has, as the document's number. -/
def hs (k : Nat) : Nat := if k = 0 then 13 else if k = 1 then 19 else if k = 2 then 23 else if k = 3 then 35 else if k = 6 ∨ k = 9 then 64 else if k = 7 then 1 else if k = 8 ∨ k = 11 ∨ k = 14 then 0 else 4
set_option maxRecDepth 100000 in
set_option maxHeartbeats 1000000 in
theorem rfHas_any (k : Nat) (w : World) : Calls Try.prog 31 #[.int .u8 (k : Int)] w fun e w' => e = .returned (.int .i64 (hs k : Nat)) ∧ w = w' := by
  by_cases h : k = 0 ∨ k = 1 ∨ k = 2 ∨ k = 3 ∨ k = 6 ∨ k = 9 ∨ k = 7 ∨ k = 8 ∨ k = 11 ∨ k = 14
  · rcases h with rfl | rfl | rfl | rfl | rfl | rfl | rfl | rfl | rfl | rfl
    all_goals
      go_enter Try.func31, Try.ntmps31
      go_wp2
      go_ret
      exact ⟨rfl, rfl⟩
  · have hf : hs k = 4 := by
      unfold hs
      repeat rw [if_neg (by omega)]
    rw [hf]
    have d0 : ((k : Int) == 0) = false := by simp; omega
    have d1 : ((k : Int) == 1) = false := by simp; omega
    have d2 : ((k : Int) == 2) = false := by simp; omega
    have d3 : ((k : Int) == 3) = false := by simp; omega
    have d6 : ((k : Int) == 6) = false := by simp; omega
    have d7 : ((k : Int) == 7) = false := by simp; omega
    have d8 : ((k : Int) == 8) = false := by simp; omega
    have d9 : ((k : Int) == 9) = false := by simp; omega
    have d11 : ((k : Int) == 11) = false := by simp; omega
    have d14 : ((k : Int) == 14) = false := by simp; omega
    clear h hf
    go_enter Try.func31, Try.ntmps31
    go_wp2
    go_ret
    exact ⟨rfl, rfl⟩
set_option maxHeartbeats 400000 in
theorem rb_any (x n : Nat) (w : World) (hx : x < 4294967296) (hn : n ≤ 4) :
    Calls Try.prog 42 #[.int .u32 (x : Int), .int .i64 (n : Int)] w fun e w' => e = .returned (.slice (some ⟨w.heap.size, 0, none⟩) n n) ∧ Own w w' (some ⟨w.heap.size, 0, none⟩) n n (be n x) := by
  have HB := Lib.hid fun W => bytes_any x n W hx hn
  go_enter Try.func42, Try.ntmps42
  go_wp2_with ((with_reducible refine (HB.out _).mono ?_); rintro e w' ⟨rfl, ho⟩)
  go_ret
  exact ⟨rfl, ho⟩
theorem sz8 : (Try.prog.info? 5).map (·.size) = some 1 := by kernel_rfl
set_option maxHeartbeats 400000 in
theorem rn_any (A : Option Addr) (n c : Nat) (l : List Int) (at_ sz : Nat) (w : World) (hl : l.length = n) (hnc : n ≤ c) (hs4 : sz ≤ 4) (hb : Byt l) (hr : Row w A (bs l)) (hat : at_ ≤ 1000000) (hnm : n ≤ 1000000) :
    Calls Try.prog 34 #[.slice A n c, .int .i64 (at_ : Int), .int .i64 (sz : Int)] w fun e w' => e = .returned (.int .u32 (nn l at_ sz : Nat)) ∧ w = w' := by
  by_cases h : at_ + sz ≤ n
  · have hnn : nn l at_ sz = nu ((l.take (at_ + sz)).drop at_) := by
      unfold nn
      rw [if_pos (by omega), List.take_drop]
    have hlt : nu ((l.take (at_ + sz)).drop at_) < 4294967296 := by
      have h1 := nu_lt ((l.take (at_ + sz)).drop at_).length _ rfl (Byt.drop (Byt.take hb _) _)
      have h2 : 256 ^ ((l.take (at_ + sz)).drop at_).length ≤ 256 ^ 4 := Nat.pow_le_pow_right (by omega) (by simp; omega)
      omega
    rw [hnn]
    have hq : ∀ W, (Instr.slice 24 (.slice A n c) (some (.int .i64 (at_ : Int))) (some (.int .i64 ((at_ : Int) + (sz : Int)))) none).run Try.prog W = .ok (.slice (cutA A c at_) sz (c - at_)) W := fun W => by
      have := run_cut_lh (P := Try.prog) Try.underlying24 sz8 (k := .i64) (k' := .i64) A n c at_ (at_ + sz) (by omega) (by omega) W
      rw [show at_ + sz - at_ = sz by omega] at this
      exact this
    have HN := Lib.hid (rnumber_any (cutA A c at_) sz (c - at_) ((l.take (at_ + sz)).drop at_) w (by simp; omega) hs4 (Byt.drop (Byt.take hb _) _) (by have := hr.cut (c := c) (lo := at_) (hi := at_ + sz) (by omega); simpa [bs] using this))
    have d1 : decide ((n : Int) < (at_ : Int) + (sz : Int)) = false := by simp; omega
    generalize nu ((l.take (at_ + sz)).drop at_) = v at *
    have wv : IntKind.u32.wrap (v : Int) = (v : Int) := by rw [IntKind.wrap_u32]; omega
    clear hnn hl hb hr
    go_enter Try.func34, Try.ntmps34
    go_wp2_with fail
    (with_reducible refine HN.out.mono ?_)
    rintro e w1 ⟨rfl, rfl⟩
    go_wp2_with fail
    go_ret
    exact ⟨rfl, rfl⟩
  · have hnn : nn l at_ sz = 0 := by
      unfold nn
      rw [if_neg (by omega)]
    rw [hnn]
    have d1 : decide ((n : Int) < (at_ : Int) + (sz : Int)) = true := by simp; omega
    clear hnn hl hb hr
    go_enter Try.func34, Try.ntmps34
    go_wp2_with fail
    go_ret
    exact ⟨rfl, rfl⟩
end Go.Proofs.Ytjlemghkaodkkaa
