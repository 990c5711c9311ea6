/-
  What crc.More and crc.Sum do: the sum of the document's arithmetic, and what was there before is as it was.
-/
import Derived.Test.YtgepmicodfhhmaaCrcTab
namespace Go.Proofs.Ytgepmicodfhhmaa
open Go.RowKit Crc

set_option maxRecDepth 100000 in
set_option maxHeartbeats 400000 in
theorem more_any (s : Nat) (A : Option Addr) (n c : Nat) (l : List Int) (w : World) (hs : s < 4294967296) (hl : l.length = n) (hm : n ≤ maxLen) (hb : Byt l) (hr : Row w A (bs l)) :
    Calls Try.prog 18 #[.int .u32 (s : Int), .slice A n c] w fun e w' => e = .returned (.int .u32 (more s l : Nat)) ∧ Below w.heap.size w w' := by
  have hm : n ≤ 9223372036854775807 := hm
  obtain ⟨hz, hi⟩ := zero_of_info tab_zero
  have e0 : ∀ r : Nat, r < 4294967296 → bits .xor .u32 IntKind.u32.max (r : Int) = ((4294967295 - r : Nat) : Int) := fun r h => by rw [← not32 h]; exact u32_xor_nat 4294967295 r (by omega) h
  have E0 := Lib.hid e0
  have HL := Lib.hid hl
  have HI := Lib.hid hi
  clear e0 hl hi
  have HB := Lib.hid hb
  have HR := Lib.hid hr
  clear hb hr
  have hz0 := vals_size (tabAt 0)
  have hz8 := vals_size tab
  rw [tabAt_len] at hz0
  rw [tab_len] at hz8
  have hone := vals_one tab
  have hget : ∀ q, q < 256 → (vals tab)[q]? = some (.int .u32 (beh q : Nat)) := fun q hq => by rw [vals_get (by rw [tab_len]; exact hq), tab_getD q hq]
  have hT := table_any w
  generalize hT0 : vals (tabAt 0) = T0 at hz hz0
  clear hT0
  generalize vals tab = T8 at hz8 hone hT hget
  have hi0 : (Try.prog.info? 45).map (·.size) = some T8.size := by rw [hz8]; exact HI.out
  have H8 := Lib.hid hz8
  have H0 := Lib.hid hz0
  have HI0 := Lib.hid hi0
  have HO := Lib.hid hone
  have HG := Lib.hid hget
  have HT := Lib.hid hT
  clear hz8 hz0 hi0 hone hget hT
  go_enter Try.func18, Try.ntmps18
  go_wp2_with (first
    | (go_at_call 22; refine HT.out.mono ?_; rintro e w1 ⟨rfl, hb1⟩)
    | (refine wpList_store_row rfl 45 (.tmp 5) (.tmp 9) rfl w1.heap.size T8 rfl rfl 45 T0 (heap_alloc_new _ _) HI0.out (by rw [H0.out, H8.out]) HO.out ?_; rw [World.setRow_alloc_new]))
  go_loop [6, 14] (fun x i => ∃ k : Nat, k ≤ n ∧ i = .int .i64 k ∧ x = .int .u32 (run (4294967295 - s) (l.take k) : Nat)) (fun _ i => n - (intOf i).toNat)
  case atStart => exact ⟨0, by omega, rfl, by rw [E0.out s hs]; rfl⟩
  case round =>
    obtain ⟨k, hk, rfl, rfl⟩ := hrel
    have hx : run (4294967295 - s) (l.take k) < 4294967296 := run_lt (by omega) (Byt.take HB.out k)
    generalize hg : run (4294967295 - s) (l.take k) = x at hx
    have HX := Lib.hid hg
    clear hg
    by_cases hlt : k < n
    · have hkl : k < l.length := by rw [HL.out]; exact hlt
      obtain ⟨a, rfl, hc⟩ := Row.byte ((HR.out.below hb1).alloc (.cells T8 45)) hkl
      obtain ⟨u, hu, hu8⟩ := Byt.at HB.out hkl
      have HT := Lib.hid (run_take (r := 4294967295 - s) hkl)
      rw [hu] at hc
      have HU := Lib.hid hu
      have hp : x % 256 < 256 := Nat.mod_lt _ (by omega)
      have h1 : IntKind.u8.wrap (x : Int) = ((x % 256 : Nat) : Int) := by rw [IntKind.wrap_u8']; omega
      have h2 := u8_xor_nat (x % 256) u hp hu8
      have hq := xor_lt8 hp hu8
      have hgq := HG.out _ hq
      have hst := stp_table x u
      have hy := beh_lt (r := x % 256 ^^^ u) (by omega)
      have hxy := u32_xor_nat (x / 256) (beh (x % 256 ^^^ u)) (by omega) hy
      rw [← hst] at hxy
      rw [show ((x / 256 : Nat) : Int) = (x : Int) / 256 from by omega] at hxy
      generalize hbq : beh (x % 256 ^^^ u) = y at hgq hy hxy hst
      generalize hqq : x % 256 ^^^ u = q at hq hgq h2 hbq
      generalize hpp : x % 256 = p at h1 h2 hp hqq
      have HXY := Lib.hid hxy
      clear hu hst hbq hqq hpp hxy
      go_wp2
      go_round
      case rel => exact ⟨k + 1, by omega, by go_num, by rw [HT.out, HX.out, HU.out, Int.toNat_natCast, HXY.out]⟩
      case measure => simp [intOf]; omega
    · go_wp2
      go_ret
      have hkn : l.take k = l := List.take_of_length_le (by rw [HL.out]; omega)
      exact ⟨ret_eq (by unfold more; rw [← hkn, HX.out, E0.out _ hx]), (hb1.alloc hb1.size _)⟩

theorem sum_any (A : Option Addr) (n c : Nat) (l : List Int) (w : World) (hl : l.length = n) (hm : n ≤ maxLen) (hb : Byt l) (hr : Row w A (bs l)) :
    Calls Try.prog 19 #[.slice A n c] w fun e w' => e = .returned (.int .u32 (more 0 l : Nat)) ∧ Below w.heap.size w w' := by
  have H := Lib.hid (more_any 0 A n c l w (by omega) hl hm hb hr)
  clear hl hb hr hm
  go_enter Try.func19, Try.ntmps19
  go_wp2_with (go_at_call 18; refine H.out.mono ?_; rintro e w' ⟨rfl, hb1⟩)
  go_ret
  exact ⟨rfl, hb1⟩
end Go.Proofs.Ytgepmicodfhhmaa
