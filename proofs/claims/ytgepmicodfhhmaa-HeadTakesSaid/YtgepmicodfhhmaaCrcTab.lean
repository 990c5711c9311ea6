/-
  What crc.table does: it hands back the 256 numbers of the table, and what was there before is as it was.
-/
import Derived.Test.YtgepmicodfhhmaaCrcLow
import Derived.Deep.WholeRow
namespace Go.Proofs.Ytgepmicodfhhmaa
open Go.RowKit Crc

/-- A table's cells. -/
def vals (T : List Nat) : Array Value := (T.map fun n : Nat => Value.int .u32 (n : Int)).toArray
theorem vals_size (T : List Nat) : (vals T).size = T.length := by simp [vals]
theorem vals_get {T : List Nat} {i : Nat} (h : i < T.length) : (vals T)[i]? = some (.int .u32 (T.getD i 0 : Nat)) := by
  simp [vals, List.getElem?_map, List.getElem?_eq_getElem h, List.getD]
theorem vals_set (T : List Nat) (i x : Nat) : (vals T).setIfInBounds i (.int .u32 (x : Int)) = vals (T.set i x) := by
  simp [vals]
theorem vals_one (T : List Nat) : (vals T).all (·.oneCell') = true := by simp [vals, Value.oneCell']
theorem below_setRow {B : Nat} {a w : World} (h : Below B a w) {g : Nat} (hg : B ≤ g) (cs : Array Value) : Below B a (w.setRow g cs) :=
  ⟨h.os, h.tape, h.output, by rw [setRow_size]; exact h.size, fun b hb => (setRow_other w g b cs (by omega)).trans (h.block b hb)⟩
theorem tab_zero : (Try.prog.info? 45).map (fun i => (i.zero, i.size)) = some (some (.agg (vals (tabAt 0))), 256) := by kernel_rfl

set_option maxRecDepth 100000 in
set_option maxHeartbeats 400000 in
theorem table_any (w : World) :
    Calls Try.prog 22 #[] w fun e w' => e = .returned (.agg (vals tab)) ∧ Below w.heap.size w w' := by
  obtain ⟨hz, hi⟩ := zero_of_info tab_zero
  have HI := Lib.hid hi
  clear hi
  go_enter Try.func22, Try.ntmps22
  go_wp2
  go_loopw [2, 3] (fun r b wr => ∃ k : Nat, k ≤ 8 ∧ r = .int .u32 (restAt k : Nat) ∧ b = .int .i64 (bitAt k : Nat) ∧ wr = (w.alloc (.cells (vals (tabAt 0)) 45)).alloc (.cells (vals (tabAt k)) 45)) (fun _ b _ => (intOf b).toNat)
  case atStart => exact ⟨0, by omega, rfl, rfl, rfl⟩
  case round =>
    obtain ⟨k, hk, rfl, rfl, rfl⟩ := hrel
    by_cases hlt : k < 8
    · obtain ⟨hb1, hb2, hb3, hb4⟩ := bit_facts k hlt
      have hr := hals_lt k (r := 1) (by omega)
      have hrs : restAt (k + 1) = hal (restAt k) := rfl
      have hts : tabAt (k + 1) = inn (bitAt k) (restAt (k + 1)) (tabAt k) (2 ^ k) := rfl
      have hr' : restAt (k + 1) < 4294967296 := hals_lt (k + 1) (by omega)
      have HR := Lib.hid hrs
      have HT := Lib.hid hts
      have HB1 := Lib.hid hb1
      have HB4 := Lib.hid hb4
      clear hrs hts hb1 hb4
      have hr0 : restAt k < 4294967296 := hr
      clear hr
      have hTs := tabAt_small k
      have hTl := tabAt_len k
      have HTS := Lib.hid hTs
      have HTL := Lib.hid hTl
      clear hTs hTl
      generalize hT : tabAt k = T at HT HTS HTL
      have HT0 := Lib.hid hT
      clear hT
      generalize hb : bitAt k = b at HT HB1 HB4 hb2 hb3
      have HB0 := Lib.hid hb
      clear hb
      generalize hrk : restAt k = r at HR hr0
      have HR0 := Lib.hid hrk
      clear hrk
      go_wp2_with (go_at_call 24; refine (halve_any _ hr0 _).mono ?_; rintro e w' ⟨rfl, rfl⟩)
      rw [← HR.out]
      generalize hrr : restAt (k + 1) = r' at HT HR hr'
      have HRR := Lib.hid hrr
      clear hrr
      generalize hM : 2 ^ k = M at HT HB1
      clear hM
      go_loopw [4] (fun i wr => ∃ m q : Nat, m ≤ M ∧ q ≤ 256 ∧ q = 2 * (b * m) ∧ i = .int .i64 q ∧ wr = (w.alloc (.cells (vals (tabAt 0)) 45)).alloc (.cells (vals (inn b r' T m)) 45)) (fun i _ => 256 - (intOf i).toNat)
      case atStart => exact ⟨0, 0, by omega, by omega, rfl, rfl, rfl⟩
      case round =>
        obtain ⟨m, q, hm, hq, hqe, rfl, rfl⟩ := hrel
        obtain ⟨_, hf1, hf2⟩ := inn_steps HB1.out hm
        rw [← hqe] at hf1 hf2
        have HQ := Lib.hid hqe
        clear hqe
        have hsm := inn_small (b := b) hr' HTS.out m q
        have hln : (inn b r' T m).length = 256 := by rw [inn_len, HTL.out]
        have hst : inn b r' T (m + 1) = (inn b r' T m).set (q + b) ((inn b r' T m).getD q 0 ^^^ r') := by rw [HQ.out]; rfl
        have HS := Lib.hid hst
        clear hst
        generalize hI : inn b r' T m = I at HS hsm hln
        have HI := Lib.hid hI
        clear hI
        by_cases hlt2 : m < M
        · obtain ⟨hf3, hf5, hf4⟩ := hf1 hlt2
          have hge : q < 256 := by omega
          have hx := u32_xor_nat (I.getD q 0) r' hsm hr'
          have hc1 := vals_get (T := I) (i := q) (by omega)
          have hc2 := vals_get (T := I) (i := q + b) (by omega)
          have HX := Lib.hid hx
          have H4 := Lib.hid hf4
          have HLN := Lib.hid hln
          clear hx hf4 hf1 hf2 hln
          generalize I.getD q 0 = x at HX HS hc1 hsm
          generalize I.getD (q + b) 0 = y at hc2
          go_wp2
          go_roundw
          case rel => exact ⟨m + 1, q + 2 * b, by omega, by omega, H4.out, by go_num, by rw [HS.out, ← vals_set, HX.out]⟩
          case measure => simp [intOf]; omega
        · have hq2 : q = 256 := hf2 hlt2
          have hmM : m = M := by omega
          subst hmM
          have HEI := Lib.hid (HT.out.trans HI.out)
          clear hf1 hf2 hln hsm
          subst hq2
          go_wp2
          go_roundw
          case rel => exact ⟨k + 1, by omega, by rw [HRR.out], by rw [← HB4.out]; go_num, by rw [HEI.out]⟩
          case measure => simp [intOf]; omega
    · have hk8 : k = 8 := by omega
      subst hk8
      have hz0 := vals_size (tabAt 0)
      have hz8 := vals_size (tabAt 8)
      rw [tabAt_len] at hz0 hz8
      have hb0 : ((bitAt 8 : Nat) : Int) = 0 := rfl
      rw [hb0]
      have hone := vals_one (tabAt 8)
      generalize hT0 : vals (tabAt 0) = T0 at hz hz0
      clear hT0
      generalize hT8 : vals (tabAt 8) = T8 at hz8 hone
      have HT8 := Lib.hid hT8
      clear hT8
      have hi0 : (Try.prog.info? 45).map (·.size) = some T8.size := by rw [hz8]; exact HI.out
      have H8 := Lib.hid hz8
      have H0 := Lib.hid hz0
      have HI0 := Lib.hid hi0
      have HO := Lib.hid hone
      clear hz8 hz0 hi0 hone hb0
      go_wp2_with (first
        | (refine wpList_load_row rfl 45 (.tmp 1) rfl (w.heap.size + 1) rfl 45 T8 (0, 0) _ (heap_alloc2_new _ _ _) Try.underlying45 rfl HI0.out ?_)
        | (refine wpList_store_row rfl 45 (.tmp 0) (.tmp 26) rfl w.heap.size T8 rfl rfl 45 T0 (heap_alloc2_old _ _ _) HI0.out (by rw [H0.out, H8.out]) HO.out ?_))
      refine bodyPost_ret (results_cell_row rfl _ _ w.heap.size 45 T8 (0, 0) _ rfl ?_ Try.underlying45 rfl HI0.out) rfl ⟨by rw [← HT8.out, tab_eq], ?_⟩
      · exact setRow_heap _ _ _ _ _ _ (heap_alloc2_old _ _ _)
      · exact below_setRow (((Below.refl _ _).alloc (Nat.le_refl _) _).alloc (by simp) _) (Nat.le_refl _) _
end Go.Proofs.Ytgepmicodfhhmaa
