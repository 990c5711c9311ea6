/-
  ChunkParams: the walk.
-/
import Derived.Test.YtbliipjiilmbcaaYP1f
import Derived.Test.YtbliipjiilmbcaaYP1a
import Derived.Deep.RegionHeld3
import Derived.Test.YtbliipjiilmbcaaYP1b
set_option linter.unusedVariables false
set_option linter.unusedSimpArgs false
namespace Go.Proofs.Ytbliipjiilmbcaa
open Go.RowKit Wire Tlv Chunk

abbrev tzl : Array Value := #[.int .u16 0, .int .u8 0, .slice none 0 0]
theorem tl_info (x : Tv) (u : Value) : (Try.prog.info? 25).map (·.size) = some (#[.int .u16 (x.k : Int), .int .u8 (x.f : Int), u] : Array Value).size := by
  have : (Try.prog.info? 25).map (·.size) = some 3 := by kernel_rfl
  rw [this]; rfl
/-- A thing stored into a variable that has just been made. -/
theorem tstore_new (k f : Int) (A : Option Addr) (n c : Nat) (W : World) : (storeCells ⟨W.heap.size, 0, none⟩ (#[.int .u16 k, .int .u8 f, .slice A n c] : Array Value).toList 0).run Try.prog (W.alloc (.cells tzl 25)) = .ok () (W.alloc (.cells #[.int .u16 k, .int .u8 f, .slice A n c] 25)) :=
  run_storeCells_new (P := Try.prog) W 25 tzl #[.int .u16 k, .int .u8 f, .slice A n c] (tl_info ⟨0, 0, []⟩ (.slice A n c)) rfl (by simp [Value.oneCell'])
/-- The chunk without addresses and data. -/
theorem ch_bare {W : World} {c : Ck} {s : Ls} (h : Ch W c s) : Ch W (c0_ c) (putD (putA s none 0 0) none 0 0) := by
  obtain ⟨hok, hz, hd, ha, hg, hu, hc, hq, hv⟩ := h
  refine ⟨{ hok with ad := (fun a h => by simp [c0_] at h), da := (fun a h => by simp [c0_] at h) }, ?_, ⟨none, 0, 0, rfl, rfl, Nat.le_refl _, Nat.zero_le _, Nat.zero_le _, Row.nil_ _ _, fun _ => ⟨rfl, rfl⟩⟩, ?_, hg, hu, hc, hq, hv⟩
  · exact { hz with d := rfl, a := rfl, dm := Nat.zero_le _, am := Nat.zero_le _ }
  · intro i v hv; simp [us, c0_] at hv
theorem cv_ad0 (c : Ck) (s : Ls) : (cv c s).setIfInBounds 11 (.slice none 0 0) = cv { c with ad := [] } (putA s none 0 0) := by simp [cv, putA]
theorem Keeps.setT {lo b i : Nat} {W : World} {v : Value} {cs : Array Value} (h : Bk W b cs 32) : Keeps lo W (W.setCell ⟨b, i, none⟩ v) := fun k o _ ho ht => by
  by_cases hk : k = b
  · subst hk
    rw [show W.heap[k]? = _ from h] at ho
    injection ho with ho
    subst ho
    obtain ⟨_, _, _, h1, h2⟩ := ht
    injection h1 with _ h1
    subst h1
    simp at h2
  · exact (Below.heap_setCell _ _ _ k (by show k ≠ b; exact hk)).trans ho
theorem cv_bare (c : Ck) (s : Ls) : ((cv c s).setIfInBounds 11 (.slice none 0 0)).setIfInBounds 10 (.slice none 0 0) = cv (c0_ c) (putD (putA s none 0 0) none 0 0) := by simp [cv, putD, putA, c0_]
set_option maxRecDepth 100000 in
set_option maxHeartbeats 8000000 in
theorem chunkParams_main (c : Ck) (s : Ls) (k : Nat) (v : List Int) (Av : Option Addr) (vn vc : Nat) (bh : List Int) (Ab : Option Addr) (bn bc : Nat) (w : World) (h : Ch w c s) (hk : k < 65536) (hv : Byt v) (hvl : v.length = vn) (hvc : vn ≤ vc) (hvm : vc ≤ maxLen) (hvr : Row w Av (bs v)) (hvz : Av = none → vn = 0 ∧ vc = 0)
    (hb : Byt bh) (hbl : bh.length = bn) (hbc : bn ≤ bc) (hbm : bc ≤ maxLen) (hbr : Row w Ab (bs bh)) (hbz : Ab = none → bn = 0 ∧ bc = 0) :
    Calls Try.prog 5 #[.agg (cv c s), .int .u16 (k : Int), .slice Av vn vc, .slice Ab bn bc] w fun e w' => e = .returned (.bool true) ∧ Below w.heap.size w w' := by
  have HU : Hid (U1 w (cv c s) _) := Lib.hid (U1.new w (cv c s))
  have HC : Hid (Ch _ c s) := Lib.hid (h.alloc (.cells (cv c s) 32))
  have HOK := Lib.hid h.ok
  have HCI := Lib.hid (cv_info c s)
  have HK := Lib.hid known_any
  have CG := Lib.hid fun W (hW : Ch W c s) => rGreat_any c s W hW
  have CP := Lib.hid fun W (hW : Ch W c s) => ckPut_any c s W hW
  have HV := Lib.hid (show Byt v ∧ v.length = vn ∧ vc ≤ maxLen from ⟨hv, hvl, hvm⟩)
  have HVR := Lib.hid hvr
  have HBH := Lib.hid (show Byt bh ∧ bh.length = bn ∧ bc ≤ maxLen from ⟨hb, hbl, hbm⟩)
  have HBR := Lib.hid hbr
  have HBZ := Lib.hid hbz
  have HVZ := Lib.hid hvz
  have hkd := h.ok.kd
  clear h hv hvl hvm hvr hb hbl hbm hbr hbz hvz hvc hbc
  go_enter Try.func5, Try.ntmps5
  go_upto_region 1 with fail
  generalize World.alloc w _ = W1 at HU HC ⊢
  go_wp2_with fail
  refine (HK.out _).mono ?_
  rintro e W2 ⟨rfl, hb2⟩
  have HC2 := Lib.hid (HC.out.next hb2)
  have HU2 := Lib.hid (HU.out.next hb2)
  clear hb2 HU HC
  go_wp2_with (refine wpList_load_row rfl 32 (.tmp 4) rfl w.heap.size rfl 32 (cv c s) (0, 0) _ HU2.out.1 Try.underlying32 rfl HCI.out ?_)
  have CP := Lib.hid (CP.out _ HC2.out)
  obtain ⟨p, hp⟩ : ∃ p, cput c = p := ⟨_, rfl⟩
  rw [hp] at CP
  obtain ⟨L, err⟩ := p
  (with_reducible refine CP.out.mono ?_)
  rintro e W3 ⟨A3, n3, c3, rfl, ho3⟩
  have HC3 := Lib.hid (HC2.out.next ho3.2)
  have HU3 := Lib.hid (HU2.out.next ho3.2)
  have HO3 := Lib.hid ho3
  have HP := Lib.hid hp
  clear ho3 HU2 HC2 CP hp
  go_wp2_with (refine wpList_load_row rfl 32 (.tmp 4) rfl w.heap.size rfl 32 (cv c s) (0, 0) _ HU3.out.1 Try.underlying32 rfl HCI.out ?_)
  (with_reducible refine (CG.out _ HC3.out).mono ?_)
  rintro e W4 ⟨bg, rfl, hcn, hb4⟩
  have HC4 := Lib.hid (HC3.out.next hb4)
  have HU4 := Lib.hid (HU3.out.next hb4)
  have HO4 := Lib.hid (HO3.out.next hb4)
  clear hb4 HU3 HC3 HO3 hcn CG
  cases bg with
  | true =>
    go_wp2_with fail
    go_ret
    exact ⟨rfl, HU4.out.2⟩
  | false =>
    by_cases he : err = 0
    case neg =>
      have d1 : (err != 0) = true := by simpa using he
      clear he
      go_wp2_with fail
      go_ret
      exact ⟨rfl, HU4.out.2⟩
    subst he
    have k0 : W4.cell? ⟨w.heap.size, 0, none⟩ = some (.int .u8 (c.kd : Int)) := HU4.out.1.c0
    by_cases hkd2 : c.kd = 1 ∨ c.kd = 2
    case neg =>
      have d1 : ((c.kd : Int) != 1) = true := by simp; omega
      have d2 : ((c.kd : Int) != 2) = true := by simp; omega
      clear hkd2 hkd
      go_wp2_with fail
      go_ret
      exact ⟨rfl, HU4.out.2⟩
    have hcase : ∃ b : Bool, ((c.kd : Int) != 1) = b ∧ ((c.kd : Int) != 2) = !b := by
      rcases hkd2 with hh | hh
      · exact ⟨false, by simp; omega, by simp; omega⟩
      · exact ⟨true, by simp; omega, by simp; omega⟩
    obtain ⟨bk, hbk1, hbk2⟩ := hcase
    by_cases h5 : k = 5
    case pos =>
      subst h5
      clear hkd2 hkd
      cases bk
      all_goals
        go_wp2_with fail
        go_ret
        exact ⟨rfl, HU4.out.2⟩
    by_cases h7 : k = 7
    case pos =>
      subst h7
      clear hkd2 hkd
      cases bk
      all_goals
        go_wp2_with fail
        go_ret
        exact ⟨rfl, HU4.out.2⟩
    have e5 : ((k : Int) == 5) = false := by simp; omega
    have e7 : ((k : Int) == 7) = false := by simp; omega
    have hcase : ∃ b1 b2 b3 : Bool, decide ((4000 : Int) < (n3 : Int)) = b1 ∧ decide ((500 : Int) < (vn : Int)) = b2 ∧ decide ((500 : Int) < (bn : Int)) = b3 ∧ ((b1 || b2 || b3) = false → n3 ≤ 4000 ∧ vn ≤ 500 ∧ bn ≤ 500) := ⟨_, _, _, rfl, rfl, rfl, by simp; omega⟩
    obtain ⟨b1, b2, b3, hd1, hd2, hd3, hbb⟩ := hcase
    by_cases hbt : (b1 || b2 || b3) = true
    case pos =>
      clear hbb hkd2 hkd h5 h7
      cases bk <;> cases b1 <;> cases b2 <;> cases b3 <;> first | (cases hbt; done) | skip
      all_goals
        clear hbt
        go_wp2_with fail
        go_ret
        exact ⟨rfl, HU4.out.2⟩
    have hbt : (b1 || b2 || b3) = false := by simpa using hbt
    obtain ⟨hn3, hvn, hbn⟩ := hbb hbt
    have hm : may c := by
      by_cases hm : may c
      · exact hm
      · have := HP.out
        rw [cput_no hm] at this
        cases this
    have hlong : ¬ 65531 < (val c).length := fun hl => by
      have := HP.out
      rw [cput_long hm hl] at this
      cases this
    have hL : tb true ⟨c.kd, c.fl, val c⟩ = L := by
      have := HP.out
      rw [cput_ok hm hlong] at this
      exact (Prod.mk.inj this).1
    have hlong : (val c).length ≤ 65531 := by omega
    have HM := Lib.hid (show may c ∧ (c.kd = 1 ∨ c.kd = 2) ∧ (val c).length ≤ 65531 from ⟨hm, hkd2, hlong⟩)
    have hyok : (⟨c.kd, c.fl, val c⟩ : Tv).ok := ⟨by have := HOK.out.kd; show c.kd < 65536; omega, HOK.out.fl, val_byt HOK.out⟩
    have hyf : fit true ⟨c.kd, c.fl, val c⟩ := by have := HOK.out.kd; show c.kd ≤ 255; omega
    have hyt := tlist_tb hyok hyf hlong
    have hyb := tb_byt hyok hyf
    obtain ⟨y, hy⟩ : ∃ y : Tv, y = ⟨c.kd, c.fl, val c⟩ := ⟨_, rfl⟩
    rw [← hy] at hyok hyt hyb hL
    rw [hL] at hyt hyb
    have hll : L.length = n3 := HO4.out.len
    have HY := Lib.hid (show y.ok ∧ y.k = c.kd ∧ y.f = c.fl ∧ y.v = val c from by rw [hy] at hyok ⊢; exact ⟨hyok, rfl, rfl, rfl⟩)
    have HLY := Lib.hid (show Byt L ∧ tlist true L = ([y], 0) from ⟨hyb, hyt⟩)
    have hqf : (tp false ⟨k, 0, v⟩) = (tb false ⟨k, 0, v⟩, 0) := by
      unfold tp
      rw [if_neg (by simp [fit]), if_neg (by have := HV.out.2.1; simp only; omega)]
    have hqok : (⟨k, 0, v⟩ : Tv).ok := ⟨hk, by show 0 < 256; omega, HV.out.1⟩
    have hqn := tb_len false ⟨k, 0, v⟩
    have hqw := whl_le (4 + v.length)
    have hqby := tb_byt (ch := false) hqok (by simp [fit])
    have hsay := params_say HOK.out hm hkd2 hlong hqok rfl (by have := HV.out.2.1; show v.length ≤ 65531; omega) h5 h7 bh
    have hvs := val_sides hm hkd2
    have hcm := cat_mod (pars c)
    have hvb := val_byt HOK.out
    rw [hvs.1] at hvb
    have hvlen := congrArg List.length hvs.1
    rw [List.length_append, hvs.2] at hvlen
    have CQ : Hid (∀ W, Below w.heap.size w W → Calls Try.prog 19 #[.bool false, .agg #[.int .u16 (k : Int), .int .u8 0, .slice Av vn vc]] W (PutOut W (tp false ⟨k, 0, v⟩))) := Lib.hid fun W (hW : Below w.heap.size w W) => tput_any false ⟨k, 0, v⟩ Av vn vc W hqok HV.out.2.1 (by omega) (HVR.out.below hW)
    rw [hqf] at CQ
    obtain ⟨Lq, hLq⟩ : ∃ L, tb false ⟨k, 0, v⟩ = L := ⟨_, rfl⟩
    obtain ⟨F, hF⟩ : ∃ L, nums c = L := ⟨_, rfl⟩
    obtain ⟨R, hR⟩ : ∃ L, cat false (pars c) = L := ⟨_, rfl⟩
    rw [hLq] at CQ hqn hqby hsay
    rw [hF, hR] at hsay hvs hvb
    rw [hR] at hcm hvlen
    have hF16 : F.length = 16 := hvs.2
    have HSAY := Lib.hid hsay
    have HFR := Lib.hid (show val c = F ++ R ∧ F.length = 16 ∧ R.length % 4 = 0 ∧ Byt (F ++ R) ∧ Byt Lq ∧ Lq.length ≤ 600 from ⟨hvs.1, hvs.2, hcm, hvb, hqby, by rw [hqn]; have := HV.out.2.1; simp only; omega⟩)
    have HP4 := Lib.hid (show n3 ≤ 4000 ∧ vn ≤ 500 ∧ bn ≤ 500 from ⟨hn3, hvn, hbn⟩)
    have hv16 : 16 + R.length ≤ 5000 := by
      have h1 := tb_len true y
      rw [hL, hll] at h1
      have h2 := whl_le (4 + y.v.length)
      rw [HY.out.2.2.2] at h1 h2
      omega
    cases b1 <;> cases b2 <;> cases b3 <;> first | (cases hbt; done) | skip
    clear hbb hbt hm hlong hyok hyf hyt hyb hy hqf hqok hqn hqw hqby hsay hvs hcm hvb hvlen hLq hF hR hL HP hkd HV
    cases bk with
    | false =>
      simp only [Bool.not_false] at hbk2
      have HK2 : Hid (c.kd ≠ 2) := Lib.hid (by simp at hbk1; omega)
      have hku := HU4.out.2
      go_wp2_with fail
      clear hd1 hd2 hd3 e5 e7 hbk1 hbk2 k0
      (with_reducible refine (CQ.out _ hku).mono ?_)
      rintro e W5 ⟨Aq, qn, qc, rfl, hoq⟩
      have HC5 := Lib.hid (HC4.out.next hoq.2)
      have HU5 := Lib.hid (HU4.out.next hoq.2)
      have HO5 := Lib.hid (HO4.out.next hoq.2)
      have HQ5 := Lib.hid hoq
      clear hoq HU4 HC4 HO4 CQ hku
      have CL := Lib.hid (list_any true A3 n3 c3 L W5 hll (by omega) HLY.out.1 HO5.out.row)
      rw [HLY.out.2] at CL
      go_wp2_with fail
      (with_reducible refine CL.out.mono ?_)
      rintro e W6 ⟨A6, n6, c6, qs, rfl, hqs, hto⟩
      obtain ⟨u, rfl⟩ := one_of hqs
      obtain rfl : 1 = n6 := hto.1
      have HC6 := Lib.hid (HC5.out.next hto.2.2.2)
      have HU6 := Lib.hid (HU5.out.next hto.2.2.2)
      have HQ6 := Lib.hid (HQ5.out.next hto.2.2.2)
      obtain ⟨a, B6, m6, d6, rfl, s3, s4, s5, e6, hl6, hle6, hcm6, hn6, hok6, hr6, hz6⟩ := hto.ths.at (i := 0) (by simp)
      rw [add_zero'] at s3 s4 s5
      simp only [List.getElem_cons_zero] at s3 s4 e6 hl6 hok6 hr6
      subst e6
      rw [HY.out.2.1] at s3
      rw [HY.out.2.2.1] at s4
      rw [HY.out.2.2.2, HFR.out.1] at hl6 hr6
      have hm6 : m6 = 16 + R.length := by rw [← hl6, List.length_append, HFR.out.2.1]
      obtain ⟨b6, rfl⟩ : ∃ b, B6 = some b := by
        cases B6 with
        | none => have := (hz6 rfl).1; omega
        | some b => exact ⟨b, rfl⟩
      have HR6 := Lib.hid hr6
      have q16 : ∀ W, (Instr.slice 23 (.slice (some b6) m6 d6) none (some (.int .i64 16)) none).run Try.prog W = .ok (.slice (some b6) 16 d6) W := fun W => by
        have := run_cut_h (P := Try.prog) Try.underlying23 sz8 (k := .i64) (some b6) m6 d6 16 (by omega) W
        rwa [cut0] at this
      have q16' : ∀ W, (Instr.slice 23 (.slice (some b6) m6 d6) (some (.int .i64 16)) none none).run Try.prog W = .ok (.slice (cutA (some b6) d6 16) (m6 - 16) (d6 - 16)) W := fun W => run_cut_l (P := Try.prog) Try.underlying23 sz8 (k := .i64) (some b6) m6 d6 16 (by omega) W
      obtain ⟨ar, har⟩ : ∃ ad, cutA (some b6) d6 16 = some ad := by unfold cutA; split <;> exact ⟨_, rfl⟩
      rw [har] at q16'
      have hrF : Row W6 (some b6) (bs F) := by
        intro i u hi
        refine hr6 i u ?_
        rw [← bs_app, List.getElem?_append_left (by have := (List.getElem?_eq_some_iff.1 hi).1; exact this)]
        exact hi
      have hrR : Row W6 (some ar) (bs R) := by
        have := hr6.cut (c := d6) (lo := 16) (hi := m6) hle6
        rw [har] at this
        rwa [List.take_of_length_le (by rw [bs_len, hl6]; exact Nat.le_refl _), ← bs_app, List.drop_left' (by rw [bs_len]; exact HFR.out.2.1)] at this
      have HRF := Lib.hid hrF
      have HRR := Lib.hid hrR
      have hRl : R.length = m6 - 16 := by omega
      have d16 : decide ((m6 : Int) < 16) = false := by simp; omega
      have drem : (((m6 - 16 : Nat) : Int) % 4 != 0) = false := by
        have := HFR.out.2.2.1
        rw [hRl] at this
        simp
        omega
      have hm5 : m6 ≤ 5000 := by omega
      have hbl : bh.length = bn := HBH.out.2.1
      have hql : Lq.length = qn := HQ6.out.len
      have hq6 := HFR.out.2.2.2.2.2
      clear hqs hto hl6 hle6 hcm6 hn6 hok6 hr6 hz6 har hrF hrR HU5 HC5 HO5 HQ5 CL HLY hm6
      go_upto_region 10 with fail
      refine wp_region_held_drew (S := (fun W => W.cell? { block := a.block, off := a.off + 2 } = some (.slice (some b6) m6 d6))) (by kernel_rfl) (s5) (fun hHeld => ?_)
      refine wpAnyH_take (i := 0) (v := ?_) rfl (by kernel_rfl) (by kernel_rfl) (by kernel_rfl) (fun _ _ _ h => h) (Or.inl ⟨by rfl, ?_⟩) (by first | assumption | trivial) ?_
      rotate_left 1
      · (intro w9 hSw; go_simp; try (with_reducible rfl))
      try simp only [Act.put, List.setIfInBounds_toArray, List.set_cons_zero, List.set_cons_succ, List.getElem_toArray, List.getElem_cons_zero, List.getElem_cons_succ]
      refine wpAnyH_take (i := 1) (v := ?_) rfl (by kernel_rfl) (by kernel_rfl) (by kernel_rfl) (fun _ _ _ h => h) (Or.inl ⟨by rfl, ?_⟩) (by first | assumption | trivial) ?_
      rotate_left 1
      · (intro w9 hSw; go_simp; try (with_reducible rfl))
      try simp only [Act.put, List.setIfInBounds_toArray, List.set_cons_zero, List.set_cons_succ, List.getElem_toArray, List.getElem_cons_zero, List.getElem_cons_succ]
      refine wpAnyH_take (i := 2) (v := ?_) rfl (by kernel_rfl) (by kernel_rfl) (by kernel_rfl) (fun _ _ _ h => h) (Or.inl ⟨by rfl, ?_⟩) (by first | assumption | trivial) ?_
      rotate_left 1
      · (intro w9 hSw; go_simp; try (with_reducible rfl))
      try simp only [Act.put, List.setIfInBounds_toArray, List.set_cons_zero, List.set_cons_succ, List.getElem_toArray, List.getElem_cons_zero, List.getElem_cons_succ]
      refine wpAnyH_take (i := 3) (v := ?_) rfl (by kernel_rfl) (by kernel_rfl) (by kernel_rfl) (fun _ _ _ h => h) (Or.inl ⟨by rfl, ?_⟩) (by first | assumption | trivial) ?_
      rotate_left 1
      · (intro w9 hSw; go_simp; try (with_reducible rfl))
      try simp only [Act.put, List.setIfInBounds_toArray, List.set_cons_zero, List.set_cons_succ, List.getElem_toArray, List.getElem_cons_zero, List.getElem_cons_succ]
      refine wpAnyH_take (i := 4) (v := ?_) rfl (by kernel_rfl) (by kernel_rfl) (by kernel_rfl) (fun _ _ _ h => h) (Or.inl ⟨by rfl, ?_⟩) (by first | assumption | trivial) ?_
      rotate_left 1
      · (intro w9 hSw; go_simp; try (with_reducible rfl))
      try simp only [Act.put, List.setIfInBounds_toArray, List.set_cons_zero, List.set_cons_succ, List.getElem_toArray, List.getElem_cons_zero, List.getElem_cons_succ]
      refine wpAnyH_take (i := 5) (v := ?_) rfl (by kernel_rfl) (by kernel_rfl) (by kernel_rfl) (fun _ _ _ h => h) (Or.inl ⟨by rfl, ?_⟩) (by first | assumption | trivial) ?_
      rotate_left 1
      · (intro w9 hSw; go_simp; try (with_reducible rfl))
      try simp only [Act.put, List.setIfInBounds_toArray, List.set_cons_zero, List.set_cons_succ, List.getElem_toArray, List.getElem_cons_zero, List.getElem_cons_succ]
      refine wpAnyH_take (i := 6) (v := ?_) rfl (by kernel_rfl) (by kernel_rfl) (by kernel_rfl) (fun _ _ _ h => h) (Or.inl ⟨by rfl, ?_⟩) (by first | assumption | trivial) ?_
      rotate_left 1
      · (intro w9 hSw; go_simp; try (with_reducible rfl))
      try simp only [Act.put, List.setIfInBounds_toArray, List.set_cons_zero, List.set_cons_succ, List.getElem_toArray, List.getElem_cons_zero, List.getElem_cons_succ]
      refine wpAnyH_take (i := 7) (v := ?_) rfl (by kernel_rfl) (by kernel_rfl) (by kernel_rfl) (fun _ _ _ h => h) (Or.inl ⟨by rfl, ?_⟩) (by first | assumption | trivial) ?_
      rotate_left 1
      · (intro w9 hSw; go_simp; try (with_reducible rfl))
      try simp only [Act.put, List.setIfInBounds_toArray, List.set_cons_zero, List.set_cons_succ, List.getElem_toArray, List.getElem_cons_zero, List.getElem_cons_succ]
      refine wpAnyH_take (i := 8) (v := ?_) rfl (by kernel_rfl) (by kernel_rfl) (by kernel_rfl) (fun _ _ _ h => h) (Or.inl ⟨by rfl, ?_⟩) (by first | assumption | trivial) ?_
      rotate_left 1
      · (intro w9 hSw; go_simp; try (with_reducible rfl))
      try simp only [Act.put, List.setIfInBounds_toArray, List.set_cons_zero, List.set_cons_succ, List.getElem_toArray, List.getElem_cons_zero, List.getElem_cons_succ]
      refine wpAnyH_take (i := 9) (v := ?_) rfl (by kernel_rfl) (by kernel_rfl) (by kernel_rfl) (fun _ _ _ h => h) (Or.inl ⟨by rfl, ?_⟩) (by first | assumption | trivial) ?_
      rotate_left 1
      · (intro w9 hSw; go_simp; try (with_reducible rfl))
      try simp only [Act.put, List.setIfInBounds_toArray, List.set_cons_zero, List.set_cons_succ, List.getElem_toArray, List.getElem_cons_zero, List.getElem_cons_succ]
      refine wpAnyH_take (i := 10) (v := ?_) rfl (by kernel_rfl) (by kernel_rfl) (by kernel_rfl) (fun _ _ _ h => h) (Or.inl ⟨by rfl, ?_⟩) (by first | assumption | trivial) ?_
      rotate_left 1
      · (intro w9 hSw; go_simp; try (with_reducible rfl))
      try simp only [Act.put, List.setIfInBounds_toArray, List.set_cons_zero, List.set_cons_succ, List.getElem_toArray, List.getElem_cons_zero, List.getElem_cons_succ]
      refine wpAnyH_take (i := 11) (v := ?_) rfl (by kernel_rfl) (by kernel_rfl) (by kernel_rfl) (fun _ _ _ h => h) (Or.inl ⟨by rfl, ?_⟩) (by first | assumption | trivial) ?_
      rotate_left 1
      · (intro w9 hSw; go_simp; try (with_reducible rfl))
      try simp only [Act.put, List.setIfInBounds_toArray, List.set_cons_zero, List.set_cons_succ, List.getElem_toArray, List.getElem_cons_zero, List.getElem_cons_succ]
      refine wpAnyH_done (by kernel_rfl) ?_ _
      go_wp2_with fail
      go_loopw [15] (fun x wr => wr = W6.drew ∧ x = .slice (some ar) (m6 - 16) (d6 - 16)) (fun _ _ => 0)
      case atStart => exact ⟨rfl, rfl⟩
      case round =>
        obtain ⟨rfl, rfl⟩ := hrel
        have p0 : W6.drew.cell? a = some (.int .u16 (c.kd : Int)) := s3
        have p1 : W6.drew.cell? { block := a.block, off := a.off + 1 } = some (.int .u8 (c.fl : Int)) := s4
        have p2 : W6.drew.cell? { block := a.block, off := a.off + 2 } = some (.slice (some b6) m6 d6) := s5
        have hst := tstore_new (c.kd : Int) (c.fl : Int) (some b6) m6 d6 W6.drew
        go_upto_region 14 with fail
        clear hst p0 p1 p2 drem hHeld
        have hS7 : Below W6.heap.size W6 (W6.alloc (.cells #[.int .u16 (c.kd : Int), .int .u8 (c.fl : Int), .slice (some b6) m6 d6] 25)).drew := ((Below.refl _ _).alloc (Nat.le_refl _) _).drew
        have HX7 : Hid (Bk (W6.alloc (.cells #[.int .u16 (c.kd : Int), .int .u8 (c.fl : Int), .slice (some b6) m6 d6] 25)).drew W6.heap.size #[.int .u16 (c.kd : Int), .int .u8 (c.fl : Int), .slice (some b6) m6 d6] 25) := Lib.hid (Bk.new W6 _ _).drew
        have hsz7 : (W6.alloc (.cells #[.int .u16 (c.kd : Int), .int .u8 (c.fl : Int), .slice (some b6) m6 d6] 25)).drew.heap.size = W6.heap.size + 1 := by simp
        have HS7 := Lib.hid hS7
        clear hS7
        clear s3 s4 s5
        generalize World.drew (W6.alloc (.cells #[.int .u16 (c.kd : Int), .int .u8 (c.fl : Int), .slice (some b6) m6 d6] 25)) = V7 at HX7 HS7 hsz7 ⊢
        have HSZ7 := Lib.hid hsz7
        clear hsz7
        go_upto_region 15 with (at_builtin; refine Hid.out ?_)
        refine Lib.hid ?_
        refine app_step rfl (.tmp 116) (.tmp 117) rfl V7.heap.size (some ⟨V7.heap.size, 0, none⟩) (0) 0 ([]) rfl (World.ownsRow_made V7 #[] 0 (Nat.le_refl _) (by decide) rfl) (some b6) (16) (d6) (F) rfl HFR.out.2.1 ((Row.below HRF.out HS7.out).below ((Below.refl _ _).alloc (Nat.le_refl _) _ : Below V7.heap.size V7 (V7.alloc (.cells #[] 5)))) (fun h => by cases h) (by omega) ((Below.refl _ _).alloc (Nat.le_refl _) _ : Below V7.heap.size V7 (V7.alloc (.cells #[] 5))).size ?_
        intro Ap0 np0 cp0 wp0 hnp0 hop0 hbp0
        have HOp0 := Lib.hid hop0
        have hqp0 := Below.trans ((Below.refl _ _).alloc (Nat.le_refl _) _ : Below V7.heap.size V7 (V7.alloc (.cells #[] 5))) hbp0
        have HBp0 := Lib.hid hqp0
        have HNp0 := Lib.hid hnp0
        have hlp0 := Nat.le_of_eq hnp0
        clear hnp0
        clear hop0 hbp0 hqp0
        go_upto_region 15 with (at_builtin; refine Hid.out ?_)
        refine Lib.hid ?_
        refine app_step rfl (.tmp 118) (.tmp 119) rfl V7.heap.size Ap0 (np0) cp0 ([] ++ F) rfl HOp0.out (Aq) (qn) (qc) (Lq) rfl hql ((Row.below HQ6.out.row HS7.out).below HBp0.out) (owns_none HQ6.out.1).1 (by omega) HBp0.out.size ?_
        intro Ap1 np1 cp1 wp1 hnp1 hop1 hbp1
        have HOp1 := Lib.hid hop1
        have hqp1 := Below.trans HBp0.out hbp1
        have HBp1 := Lib.hid hqp1
        have HNp1 := Lib.hid hnp1
        have hlp1 := Nat.le_of_eq hnp1
        clear hnp1
        clear hop1 hbp1 hqp1
        go_upto_region 15 with (at_builtin; refine Hid.out ?_)
        refine Lib.hid ?_
        refine app_step rfl (.tmp 120) (.tmp 121) rfl V7.heap.size Ap1 (np1) cp1 ([] ++ F ++ Lq) rfl HOp1.out (some ar) (m6 - 16) (d6 - 16) (R) rfl hRl ((Row.below HRR.out HS7.out).below HBp1.out) (fun h => by cases h) (by omega) HBp1.out.size ?_
        intro Ap2 np2 cp2 wp2 hnp2 hop2 hbp2
        have HOp2 := Lib.hid hop2
        have hqp2 := Below.trans HBp1.out hbp2
        have HBp2 := Lib.hid hqp2
        have HNp2 := Lib.hid hnp2
        have hlp2 := Nat.le_of_eq hnp2
        clear hnp2
        clear hop2 hbp2 hqp2
        have HXp2 := Lib.hid (HX7.out.next HBp2.out)
        have HSp2 := Lib.hid (bnext' HS7.out HBp2.out)
        have k2 := HXp2.out.cell 2
        have f2 := HXp2.out.frozen 2
        simp at k2
        go_upto_region 15 with fail
        have hX := HXp2.out.set 2 (.slice Ap2 np2 cp2)
        simp only [List.setIfInBounds_toArray, List.set_cons_succ, List.set_cons_zero] at hX
        have hO := owns_put (b := W6.heap.size) (i := 2) (u := .slice Ap2 np2 cp2) HOp2.out (by rw [HSZ7.out]; omega)
        have hS : Below W6.heap.size W6 (wp2.setCell ⟨W6.heap.size, 2, none⟩ (.slice Ap2 np2 cp2)) := below_ot HSp2.out ((Ot.refl wp2 W6.heap.size).set 2 (.slice Ap2 np2 cp2)) HSp2.out.size (Nat.le_refl _)
        clear k2 f2
        generalize World.setCell wp2 _ _ = V8 at hX hO hS ⊢
        have HX8 := Lib.hid hX
        have HO8 := Lib.hid hO
        have HS8 := Lib.hid hS
        clear hX hO hS
        have hcap := owns_none HO8.out
        have hlen : (F ++ (Lq ++ R)).length = np2 := by
          have := HFR.out.2.1
          have e0 := HNp0.out
          have e1 := HNp1.out
          have e2 := HNp2.out
          rw [List.length_append, List.length_append, this]
          omega
        have hrow : Row V8 Ap2 (bs (F ++ (Lq ++ R))) := by
          have := row_of_own HO8.out
          rwa [List.nil_append, List.append_assoc] at this
        have hok8 : (⟨c.kd, c.fl, F ++ (Lq ++ R)⟩ : Tv).ok := ⟨by have := HOK.out.kd; show c.kd < 65536; omega, HOK.out.fl, by
          have h1 := HFR.out.2.2.2
          refine byt_app (fun x hx => h1.1 x (List.mem_append_left _ hx)) (byt_app h1.2.1 (fun x hx => h1.1 x (List.mem_append_right _ hx)))⟩
        have CT : Hid (Calls Try.prog 12 #[.agg #[.int .u16 (c.kd : Int), .int .u8 (c.fl : Int), .slice Ap2 np2 cp2]] V8 (TakeOut V8 (take ⟨c.kd, c.fl, F ++ (Lq ++ R)⟩))) := Lib.hid (ckTake_all ⟨c.kd, c.fl, F ++ (Lq ++ R)⟩ Ap2 np2 cp2 V8 hok8 hlen (by omega) hcap.2.1 hcap.2.2 hrow)
        have HCAP := Lib.hid hcap
        clear hcap hlen hrow hok8 HX7 HS7
        have k0 := HX8.out.cell 0
        have k1 := HX8.out.cell 1
        have k2 := HX8.out.cell 2
        simp at k0 k1 k2
        by_cases hlow : k < 32768
        · as_aux_lemma =>
            have hk2 := HK2.out
            have hkd2 : c.kd ≠ 2 := hk2
            have dk2 : ((c.kd : Int) == 2) = false := by simp; omega
            have HTK := Lib.hid (HSAY.out.2.1 hlow)
            rw [if_neg hkd2] at HTK
            have HTK2 := Lib.hid (HSAY.out.2.2 hlow)
            rw [HTK.out] at CT
            have dsh : (((k : Int) / 32768) == 1) = false := by simp; omega
            clear hlow HSAY hk2 hkd2 HTK
            go_wp2_with fail
            (with_reducible refine CT.out.mono ?_)
            rintro e V9 ⟨sd, rfl, hcd, hbd⟩
            have hst := store_new (c0_ c) sd V9
            go_upto_region 16 with fail
            clear hst k0 k1 k2
            have hb2 : Below V9.heap.size V9 (V9.alloc (.cells (cv (c0_ c) sd) 32)) := (Below.refl _ _).alloc (Nat.le_refl _) _
            have hg10 : W6.heap.size < V9.heap.size := Nat.lt_of_lt_of_le HX8.out.lt hbd.size
            have HS10 := Lib.hid (bnext' (bnext' HS8.out hbd) hb2)
            have HX10 := Lib.hid ((HX8.out.next hbd).next hb2)
            have HE10 : Hid (Bk (V9.alloc (.cells (cv (c0_ c) sd) 32)) V9.heap.size (cv (c0_ c) sd) 32) := Lib.hid (Bk.new _ _ _)
            have HD10 := Lib.hid (hcd.next hb2)
            clear hcd
            clear hb2 hbd HS8 HX8 HO8 CT HCAP
            generalize hV10 : V9.alloc (.cells (cv (c0_ c) sd) 32) = V10 at HS10 HX10 HE10 HD10 ⊢
            clear hV10
            generalize V9.heap.size = g10 at HE10 hg10 ⊢
            have HU10 := Lib.hid (HU6.out.next HS10.out)
            have hst := store_new c s V10
            go_upto_region 21 with (refine wpList_load_row rfl 32 (.tmp 4) rfl w.heap.size rfl 32 (cv c s) (0, 0) _ HU10.out.1 Try.underlying32 rfl HCI.out ?_)
            clear hst dsh
            have hb3 : Below V10.heap.size V10 (V10.alloc (.cells (cv c s) 32)) := (Below.refl _ _).alloc (Nat.le_refl _) _
            have HS11 := Lib.hid (bnext' HS10.out hb3)
            have HX11 := Lib.hid (HX10.out.next hb3)
            have HE11 := Lib.hid (HE10.out.next hb3)
            have HB11 : Hid (Bk (V10.alloc (.cells (cv c s) 32)) V10.heap.size (cv c s) 32) := Lib.hid (Bk.new _ _ _)
            have hg18 : g10 < V10.heap.size := HE10.out.lt
            have HD11 := Lib.hid (HD10.out.next hb3)
            clear hb3 HS10 HX10 HE10 HU10 HD10
            generalize hV11 : V10.alloc (.cells (cv c s) 32) = V11 at HS11 HX11 HE11 HB11 HD11 ⊢
            clear hV11
            generalize V10.heap.size = g18 at HB11 hg18 ⊢
            have hBa := HB11.out.set 11 (.slice none 0 0)
            rw [cv_ad0] at hBa
            have HBA := Lib.hid hBa
            have k11 := HB11.out.c11
            have f11 := HB11.out.frozen 11
            have k10 := HBA.out.c10
            have f10 := HBA.out.frozen 10
            clear hBa
            go_upto_region 22 with fail
            clear k11 f11 k10 f10
            have hB12 := (HB11.out.set 11 (.slice none 0 0)).set 10 (.slice none 0 0)
            rw [cv_bare] at hB12
            have hX12 := (HX11.out.other (show W6.heap.size ≠ g18 by omega) 11 (.slice none 0 0)).other (show W6.heap.size ≠ g18 by omega) 10 (.slice none 0 0)
            have hE12 := (HE11.out.other (show g10 ≠ g18 by omega) 11 (.slice none 0 0)).other (show g10 ≠ g18 by omega) 10 (.slice none 0 0)
            have hS12 := below_ot HS11.out (((Ot.refl V11 g18).set 11 (.slice none 0 0)).set 10 (.slice none 0 0)) HS11.out.size (show W6.heap.size ≤ g18 by omega)
            have hD12 := (HD11.out.keep (Keeps.setT (i := 11) (v := .slice none 0 0) HB11.out)).keep (Keeps.setT (i := 10) (v := .slice none 0 0) HBA.out)
            generalize World.setCell (World.setCell V11 _ _) _ _ = V12 at hB12 hX12 hE12 hS12 hD12 ⊢
            have HB12 := Lib.hid hB12
            have HX12 := Lib.hid hX12
            have HE12 := Lib.hid hE12
            have HS12 := Lib.hid hS12
            have HD12 := Lib.hid hD12.ch
            clear hD12
            clear hB12 hX12 hE12 hS12 HBA HB11 HX11 HE11 HS11 HD11
            have HU12 := Lib.hid (HU6.out.next HS12.out)
            have HSm := Lib.hid (ckSame_lit (c0_ c) sd (putD (putA s none 0 0) none 0 0) V12 HD12.out (ch_bare (HC6.out.next HS12.out)))
            have kc0 := HU12.out.1.c0
            have t0 := HE12.out.c0
            have t1 := HE12.out.c1
            have t2 := HE12.out.c2
            have t3 := HE12.out.c3
            have t4 := HE12.out.c4
            have t5 := HE12.out.c5
            have t6 := HE12.out.c6
            have t7 := HE12.out.c7
            have t8 := HE12.out.c8
            have t9 := HE12.out.c9
            have t10 := HE12.out.c10
            have t11 := HE12.out.c11
            have t12 := HE12.out.c12
            have t13 := HE12.out.c13
            have t14 := HE12.out.c14
            have q0 := HB12.out.c0
            have q1 := HB12.out.c1
            have q2 := HB12.out.c2
            have q3 := HB12.out.c3
            have q4 := HB12.out.c4
            have q5 := HB12.out.c5
            have q6 := HB12.out.c6
            have q7 := HB12.out.c7
            have q8 := HB12.out.c8
            have q9 := HB12.out.c9
            have q10 := HB12.out.c10
            have q11 := HB12.out.c11
            have q12 := HB12.out.c12
            have q13 := HB12.out.c13
            have q14 := HB12.out.c14
            go_wp2_with fail
            (with_reducible refine HSm.out.mono ?_)
            rintro e V13 ⟨rfl, hb13⟩
            have HX13 := Lib.hid (HX12.out.next hb13)
            have HE13 := Lib.hid (HE12.out.next hb13)
            have HS13 := Lib.hid (bnext' HS12.out hb13)
            have HU13 := Lib.hid (HU6.out.next HS13.out)
            clear hb13 kc0 HSm HX12 HE12 HS12 HU12 HD12 HB12
            clear t0 t1 t2 t3 t4 t5 t6 t7 t8 t9 t10 t11 t12 t13 t14 q0 q1 q2 q3 q4 q5 q6 q7 q8 q9 q10 q11 q12 q13 q14
            go_upto_region 27 with fail
            clear dk2
            have hlt13 : W6.heap.size < V13.heap.size := HX13.out.lt
            go_upto_region 28 with (at_builtin; refine Hid.out ?_)
            refine Lib.hid ?_
            refine app_step rfl (.tmp 156) (.tmp 157) rfl V13.heap.size (some ⟨V13.heap.size, 0, none⟩) (0) 0 ([]) rfl (World.ownsRow_made V13 #[] 0 (Nat.le_refl _) (by decide) rfl) (some b6) (16) (d6) (F) rfl HFR.out.2.1 ((Row.below HRF.out HS13.out).below ((Below.refl _ _).alloc (Nat.le_refl _) _ : Below V13.heap.size V13 (V13.alloc (.cells #[] 5)))) (fun h => by cases h) (by omega) ((Below.refl _ _).alloc (Nat.le_refl _) _ : Below V13.heap.size V13 (V13.alloc (.cells #[] 5))).size ?_
            intro Ar0 nr0 cr0 wr0 hnr0 hor0 hbr0
            have HOr0 := Lib.hid hor0
            have hqr0 := Below.trans ((Below.refl _ _).alloc (Nat.le_refl _) _ : Below V13.heap.size V13 (V13.alloc (.cells #[] 5))) hbr0
            have HBr0 := Lib.hid hqr0
            have HNr0 := Lib.hid hnr0
            have hlr0 := Nat.le_of_eq hnr0
            clear hnr0
            clear hor0 hbr0 hqr0
            go_upto_region 28 with (at_builtin; refine Hid.out ?_)
            refine Lib.hid ?_
            refine app_step rfl (.tmp 158) (.tmp 159) rfl V13.heap.size Ar0 (nr0) cr0 ([] ++ F) rfl HOr0.out (some ar) (m6 - 16) (d6 - 16) (R) rfl hRl ((Row.below HRR.out HS13.out).below HBr0.out) (fun h => by cases h) (by omega) HBr0.out.size ?_
            intro Ar1 nr1 cr1 wr1 hnr1 hor1 hbr1
            have HOr1 := Lib.hid hor1
            have hqr1 := Below.trans HBr0.out hbr1
            have HBr1 := Lib.hid hqr1
            have HNr1 := Lib.hid hnr1
            have hlr1 := Nat.le_of_eq hnr1
            clear hnr1
            clear hor1 hbr1 hqr1
            go_upto_region 28 with (at_builtin; refine Hid.out ?_)
            refine Lib.hid ?_
            refine app_step rfl (.tmp 160) (.tmp 161) rfl V13.heap.size Ar1 (nr1) cr1 ([] ++ F ++ R) rfl HOr1.out (Aq) (qn) (qc) (Lq) rfl hql ((Row.below HQ6.out.row HS13.out).below HBr1.out) (owns_none HQ6.out.1).1 (by omega) HBr1.out.size ?_
            intro Ar2 nr2 cr2 wr2 hnr2 hor2 hbr2
            have HOr2 := Lib.hid hor2
            have hqr2 := Below.trans HBr1.out hbr2
            have HBr2 := Lib.hid hqr2
            have HNr2 := Lib.hid hnr2
            have hlr2 := Nat.le_of_eq hnr2
            clear hnr2
            clear hor2 hbr2 hqr2
            go_upto_region 28 with (at_builtin; refine Hid.out ?_)
            refine Lib.hid ?_
            refine app_step rfl (.tmp 162) (.tmp 163) rfl V13.heap.size Ar2 (nr2) cr2 ([] ++ F ++ R ++ Lq) rfl HOr2.out (Ab) (bn) (bc) (bh) rfl hbl ((Row.below (HBR.out.below HU6.out.2) HS13.out).below HBr2.out) HBZ.out (by omega) HBr2.out.size ?_
            intro Ar3 nr3 cr3 wr3 hnr3 hor3 hbr3
            have HOr3 := Lib.hid hor3
            have hqr3 := Below.trans HBr2.out hbr3
            have HBr3 := Lib.hid hqr3
            have HNr3 := Lib.hid hnr3
            have hlr3 := Nat.le_of_eq hnr3
            clear hnr3
            clear hor3 hbr3 hqr3
            have HXr3 := Lib.hid (HX13.out.next HBr3.out)
            have HSr3 := Lib.hid (bnext' HS13.out HBr3.out)
            have k2 := HXr3.out.cell 2
            have f2 := HXr3.out.frozen 2
            simp at k2
            have HEr3 := Lib.hid (HE13.out.next HBr3.out)
            go_upto_region 28 with fail
            have hE := HEr3.out.other (show g10 ≠ W6.heap.size by omega) 2 (.slice Ar3 nr3 cr3)
            have hX := HXr3.out.set 2 (.slice Ar3 nr3 cr3)
            simp only [List.setIfInBounds_toArray, List.set_cons_succ, List.set_cons_zero] at hX
            have hO := owns_put (b := W6.heap.size) (i := 2) (u := .slice Ar3 nr3 cr3) HOr3.out hlt13
            have hS : Below W6.heap.size W6 (wr3.setCell ⟨W6.heap.size, 2, none⟩ (.slice Ar3 nr3 cr3)) := below_ot HSr3.out ((Ot.refl wr3 W6.heap.size).set 2 (.slice Ar3 nr3 cr3)) HSr3.out.size (Nat.le_refl _)
            clear k2 f2
            generalize World.setCell wr3 _ _ = V20 at hX hO hS hE ⊢
            have HX20 := Lib.hid hX
            have HO20 := Lib.hid hO
            have HS20 := Lib.hid hS
            have HE20 := Lib.hid hE
            clear hX hO hS hE
            have hcap := owns_none HO20.out
            have hlen : (F ++ (R ++ (Lq ++ bh))).length = nr3 := by
              have := HFR.out.2.1
              have e0 := HNr0.out
              have e1 := HNr1.out
              have e2 := HNr2.out
              have e3 := HNr3.out
              rw [List.length_append, List.length_append, List.length_append, this]
              omega
            have hrow : Row V20 Ar3 (bs (F ++ (R ++ (Lq ++ bh)))) := by
              have := row_of_own HO20.out
              rwa [List.nil_append, List.append_assoc, List.append_assoc] at this
            have hok8 : (⟨c.kd, c.fl, F ++ (R ++ (Lq ++ bh))⟩ : Tv).ok := ⟨by have := HOK.out.kd; show c.kd < 65536; omega, HOK.out.fl, by
              have h1 := HFR.out.2.2.2
              exact byt_app (fun x hx => h1.1 x (List.mem_append_left _ hx)) (byt_app (fun x hx => h1.1 x (List.mem_append_right _ hx)) (byt_app h1.2.1 HBH.out.1))⟩
            have hnr : nr3 ≤ 65531 := by omega
            have CT := Lib.hid (ckTake_all ⟨c.kd, c.fl, F ++ (R ++ (Lq ++ bh))⟩ Ar3 nr3 cr3 V20 hok8 hlen hnr hcap.2.1 hcap.2.2 hrow)
            rw [HTK2.out] at CT
            clear hcap hlen hrow hok8 hnr HTK2 HO20
            have k0 := HX20.out.cell 0
            have k1 := HX20.out.cell 1
            have k2 := HX20.out.cell 2
            simp at k0 k1 k2
            have hg20 : g10 < V20.heap.size := HE20.out.lt
            go_wp2_with fail
            (with_reducible refine CT.out.mono ?_)
            rintro e V21 ⟨s2, rfl, hcd, hbd⟩
            clear k0 k1 k2
            have HE21 := Lib.hid (HE20.out.next hbd)
            have HS21 := Lib.hid (bnext' HS20.out hbd)
            have HCI2 := Lib.hid (cv_info c s2)
            have HCO2 := Lib.hid (cv_one c s2)
            have HD21 := Lib.hid hcd
            clear hbd hcd HE20 HS20 HX20 CT
            go_upto_region 29 with (refine wpList_store_row rfl 32 (.tmp 17) (.tmp 169) rfl g10 (cv c s2) rfl rfl 32 (cv (c0_ c) sd) HE21.out HCI2.out (cv_size _ _).symm HCO2.out ?_)
            have hE22 := HE21.out.row_ (cv c s2)
            have hD22 := HD21.out.row hg20 (cv c s2)
            have hS22 := below_setRow HS21.out (show W6.heap.size ≤ g10 by omega) (cv c s2)
            generalize World.setRow V21 _ _ = V22 at hE22 hD22 hS22 ⊢
            have HU22 := Lib.hid (HU6.out.next hS22)
            have HE22 := Lib.hid hE22
            have HSm := Lib.hid (ckSame_lit c s s2 V22 (HC6.out.next hS22) hD22)
            clear hE22 hD22 hS22 HE21 HS21 HD21
            have t0 := HE22.out.c0
            have t1 := HE22.out.c1
            have t2 := HE22.out.c2
            have t3 := HE22.out.c3
            have t4 := HE22.out.c4
            have t5 := HE22.out.c5
            have t6 := HE22.out.c6
            have t7 := HE22.out.c7
            have t8 := HE22.out.c8
            have t9 := HE22.out.c9
            have t10 := HE22.out.c10
            have t11 := HE22.out.c11
            have t12 := HE22.out.c12
            have t13 := HE22.out.c13
            have t14 := HE22.out.c14
            have q0 := HU22.out.1.c0
            have q1 := HU22.out.1.c1
            have q2 := HU22.out.1.c2
            have q3 := HU22.out.1.c3
            have q4 := HU22.out.1.c4
            have q5 := HU22.out.1.c5
            have q6 := HU22.out.1.c6
            have q7 := HU22.out.1.c7
            have q8 := HU22.out.1.c8
            have q9 := HU22.out.1.c9
            have q10 := HU22.out.1.c10
            have q11 := HU22.out.1.c11
            have q12 := HU22.out.1.c12
            have q13 := HU22.out.1.c13
            have q14 := HU22.out.1.c14
            go_wp2_with fail
            (with_reducible refine HSm.out.mono ?_)
            rintro e V23 ⟨rfl, hb23⟩
            have HU23 := Lib.hid (HU22.out.next hb23)
            clear hb23
            go_wp2_with fail
            go_ret
            exact ⟨rfl, HU23.out.2⟩
        · as_aux_lemma =>
            have HTK := Lib.hid (HSAY.out.1 hlow)
            rw [HTK.out] at CT
            have dsh : (((k : Int) / 32768) == 1) = true := by simp; omega
            clear hlow HSAY
            go_wp2_with fail
            (with_reducible refine CT.out.mono ?_)
            rintro e V9 ⟨sd, rfl, hcd, hbd⟩
            have hst := store_new c sd V9
            go_upto_region 16 with fail
            clear hst k0 k1 k2
            have hb2 : Below V9.heap.size V9 (V9.alloc (.cells (cv c sd) 32)) := (Below.refl _ _).alloc (Nat.le_refl _) _
            have hs10 := bnext' (bnext' HS8.out hbd) hb2
            have HU10 := Lib.hid (HU6.out.next hs10)
            have HC10 := Lib.hid (HC6.out.next hs10)
            have HD10 := Lib.hid (hcd.ch.next hb2)
            have HE10 : Hid (Bk (V9.alloc (.cells (cv c sd) 32)) V9.heap.size (cv c sd) 32) := Lib.hid (Bk.new _ _ _)
            clear hb2 hbd hcd hs10 HS8 HX8 HO8
            generalize hV10 : V9.alloc (.cells (cv c sd) 32) = V10 at HU10 HC10 HD10 HE10 ⊢
            clear hV10
            generalize V9.heap.size = g10 at HE10 ⊢
            have HS := Lib.hid (ckSame_lit c s sd V10 HC10.out HD10.out)
            have t0 := HE10.out.c0
            have t1 := HE10.out.c1
            have t2 := HE10.out.c2
            have t3 := HE10.out.c3
            have t4 := HE10.out.c4
            have t5 := HE10.out.c5
            have t6 := HE10.out.c6
            have t7 := HE10.out.c7
            have t8 := HE10.out.c8
            have t9 := HE10.out.c9
            have t10 := HE10.out.c10
            have t11 := HE10.out.c11
            have t12 := HE10.out.c12
            have t13 := HE10.out.c13
            have t14 := HE10.out.c14
            have q0 := HU10.out.1.c0
            have q1 := HU10.out.1.c1
            have q2 := HU10.out.1.c2
            have q3 := HU10.out.1.c3
            have q4 := HU10.out.1.c4
            have q5 := HU10.out.1.c5
            have q6 := HU10.out.1.c6
            have q7 := HU10.out.1.c7
            have q8 := HU10.out.1.c8
            have q9 := HU10.out.1.c9
            have q10 := HU10.out.1.c10
            have q11 := HU10.out.1.c11
            have q12 := HU10.out.1.c12
            have q13 := HU10.out.1.c13
            have q14 := HU10.out.1.c14
            clear HC10 HD10
            go_wp2_with fail
            (with_reducible refine HS.out.mono ?_)
            rintro e V11 ⟨rfl, hb3⟩
            have HU11 := Lib.hid (HU10.out.next hb3)
            clear hb3
            go_wp2_with fail
            go_ret
            exact ⟨rfl, HU11.out.2⟩
    | true =>
      simp only [Bool.not_true] at hbk2
      have HK2 : Hid (c.kd = 2) := Lib.hid (by simp at hbk2; omega)
      have hku := HU4.out.2
      go_wp2_with fail
      clear hd1 hd2 hd3 e5 e7 hbk1 hbk2 k0
      (with_reducible refine (CQ.out _ hku).mono ?_)
      rintro e W5 ⟨Aq, qn, qc, rfl, hoq⟩
      have HC5 := Lib.hid (HC4.out.next hoq.2)
      have HU5 := Lib.hid (HU4.out.next hoq.2)
      have HO5 := Lib.hid (HO4.out.next hoq.2)
      have HQ5 := Lib.hid hoq
      clear hoq HU4 HC4 HO4 CQ hku
      have CL := Lib.hid (list_any true A3 n3 c3 L W5 hll (by omega) HLY.out.1 HO5.out.row)
      rw [HLY.out.2] at CL
      go_wp2_with fail
      (with_reducible refine CL.out.mono ?_)
      rintro e W6 ⟨A6, n6, c6, qs, rfl, hqs, hto⟩
      obtain ⟨u, rfl⟩ := one_of hqs
      obtain rfl : 1 = n6 := hto.1
      have HC6 := Lib.hid (HC5.out.next hto.2.2.2)
      have HU6 := Lib.hid (HU5.out.next hto.2.2.2)
      have HQ6 := Lib.hid (HQ5.out.next hto.2.2.2)
      obtain ⟨a, B6, m6, d6, rfl, s3, s4, s5, e6, hl6, hle6, hcm6, hn6, hok6, hr6, hz6⟩ := hto.ths.at (i := 0) (by simp)
      rw [add_zero'] at s3 s4 s5
      simp only [List.getElem_cons_zero] at s3 s4 e6 hl6 hok6 hr6
      subst e6
      rw [HY.out.2.1] at s3
      rw [HY.out.2.2.1] at s4
      rw [HY.out.2.2.2, HFR.out.1] at hl6 hr6
      have hm6 : m6 = 16 + R.length := by rw [← hl6, List.length_append, HFR.out.2.1]
      obtain ⟨b6, rfl⟩ : ∃ b, B6 = some b := by
        cases B6 with
        | none => have := (hz6 rfl).1; omega
        | some b => exact ⟨b, rfl⟩
      have HR6 := Lib.hid hr6
      have q16 : ∀ W, (Instr.slice 23 (.slice (some b6) m6 d6) none (some (.int .i64 16)) none).run Try.prog W = .ok (.slice (some b6) 16 d6) W := fun W => by
        have := run_cut_h (P := Try.prog) Try.underlying23 sz8 (k := .i64) (some b6) m6 d6 16 (by omega) W
        rwa [cut0] at this
      have q16' : ∀ W, (Instr.slice 23 (.slice (some b6) m6 d6) (some (.int .i64 16)) none none).run Try.prog W = .ok (.slice (cutA (some b6) d6 16) (m6 - 16) (d6 - 16)) W := fun W => run_cut_l (P := Try.prog) Try.underlying23 sz8 (k := .i64) (some b6) m6 d6 16 (by omega) W
      obtain ⟨ar, har⟩ : ∃ ad, cutA (some b6) d6 16 = some ad := by unfold cutA; split <;> exact ⟨_, rfl⟩
      rw [har] at q16'
      have hrF : Row W6 (some b6) (bs F) := by
        intro i u hi
        refine hr6 i u ?_
        rw [← bs_app, List.getElem?_append_left (by have := (List.getElem?_eq_some_iff.1 hi).1; exact this)]
        exact hi
      have hrR : Row W6 (some ar) (bs R) := by
        have := hr6.cut (c := d6) (lo := 16) (hi := m6) hle6
        rw [har] at this
        rwa [List.take_of_length_le (by rw [bs_len, hl6]; exact Nat.le_refl _), ← bs_app, List.drop_left' (by rw [bs_len]; exact HFR.out.2.1)] at this
      have HRF := Lib.hid hrF
      have HRR := Lib.hid hrR
      have hRl : R.length = m6 - 16 := by omega
      have d16 : decide ((m6 : Int) < 16) = false := by simp; omega
      have drem : (((m6 - 16 : Nat) : Int) % 4 != 0) = false := by
        have := HFR.out.2.2.1
        rw [hRl] at this
        simp
        omega
      have hm5 : m6 ≤ 5000 := by omega
      have hbl : bh.length = bn := HBH.out.2.1
      have hql : Lq.length = qn := HQ6.out.len
      have hq6 := HFR.out.2.2.2.2.2
      clear hqs hto hl6 hle6 hcm6 hn6 hok6 hr6 hz6 har hrF hrR HU5 HC5 HO5 HQ5 CL HLY hm6
      go_upto_region 10 with fail
      refine wp_region_held_drew (S := (fun W => W.cell? { block := a.block, off := a.off + 2 } = some (.slice (some b6) m6 d6))) (by kernel_rfl) (s5) (fun hHeld => ?_)
      refine wpAnyH_take (i := 0) (v := ?_) rfl (by kernel_rfl) (by kernel_rfl) (by kernel_rfl) (fun _ _ _ h => h) (Or.inl ⟨by rfl, ?_⟩) (by first | assumption | trivial) ?_
      rotate_left 1
      · (intro w9 hSw; go_simp; try (with_reducible rfl))
      try simp only [Act.put, List.setIfInBounds_toArray, List.set_cons_zero, List.set_cons_succ, List.getElem_toArray, List.getElem_cons_zero, List.getElem_cons_succ]
      refine wpAnyH_take (i := 1) (v := ?_) rfl (by kernel_rfl) (by kernel_rfl) (by kernel_rfl) (fun _ _ _ h => h) (Or.inl ⟨by rfl, ?_⟩) (by first | assumption | trivial) ?_
      rotate_left 1
      · (intro w9 hSw; go_simp; try (with_reducible rfl))
      try simp only [Act.put, List.setIfInBounds_toArray, List.set_cons_zero, List.set_cons_succ, List.getElem_toArray, List.getElem_cons_zero, List.getElem_cons_succ]
      refine wpAnyH_take (i := 2) (v := ?_) rfl (by kernel_rfl) (by kernel_rfl) (by kernel_rfl) (fun _ _ _ h => h) (Or.inl ⟨by rfl, ?_⟩) (by first | assumption | trivial) ?_
      rotate_left 1
      · (intro w9 hSw; go_simp; try (with_reducible rfl))
      try simp only [Act.put, List.setIfInBounds_toArray, List.set_cons_zero, List.set_cons_succ, List.getElem_toArray, List.getElem_cons_zero, List.getElem_cons_succ]
      refine wpAnyH_take (i := 3) (v := ?_) rfl (by kernel_rfl) (by kernel_rfl) (by kernel_rfl) (fun _ _ _ h => h) (Or.inl ⟨by rfl, ?_⟩) (by first | assumption | trivial) ?_
      rotate_left 1
      · (intro w9 hSw; go_simp; try (with_reducible rfl))
      try simp only [Act.put, List.setIfInBounds_toArray, List.set_cons_zero, List.set_cons_succ, List.getElem_toArray, List.getElem_cons_zero, List.getElem_cons_succ]
      refine wpAnyH_take (i := 4) (v := ?_) rfl (by kernel_rfl) (by kernel_rfl) (by kernel_rfl) (fun _ _ _ h => h) (Or.inl ⟨by rfl, ?_⟩) (by first | assumption | trivial) ?_
      rotate_left 1
      · (intro w9 hSw; go_simp; try (with_reducible rfl))
      try simp only [Act.put, List.setIfInBounds_toArray, List.set_cons_zero, List.set_cons_succ, List.getElem_toArray, List.getElem_cons_zero, List.getElem_cons_succ]
      refine wpAnyH_take (i := 5) (v := ?_) rfl (by kernel_rfl) (by kernel_rfl) (by kernel_rfl) (fun _ _ _ h => h) (Or.inl ⟨by rfl, ?_⟩) (by first | assumption | trivial) ?_
      rotate_left 1
      · (intro w9 hSw; go_simp; try (with_reducible rfl))
      try simp only [Act.put, List.setIfInBounds_toArray, List.set_cons_zero, List.set_cons_succ, List.getElem_toArray, List.getElem_cons_zero, List.getElem_cons_succ]
      refine wpAnyH_take (i := 6) (v := ?_) rfl (by kernel_rfl) (by kernel_rfl) (by kernel_rfl) (fun _ _ _ h => h) (Or.inl ⟨by rfl, ?_⟩) (by first | assumption | trivial) ?_
      rotate_left 1
      · (intro w9 hSw; go_simp; try (with_reducible rfl))
      try simp only [Act.put, List.setIfInBounds_toArray, List.set_cons_zero, List.set_cons_succ, List.getElem_toArray, List.getElem_cons_zero, List.getElem_cons_succ]
      refine wpAnyH_take (i := 7) (v := ?_) rfl (by kernel_rfl) (by kernel_rfl) (by kernel_rfl) (fun _ _ _ h => h) (Or.inl ⟨by rfl, ?_⟩) (by first | assumption | trivial) ?_
      rotate_left 1
      · (intro w9 hSw; go_simp; try (with_reducible rfl))
      try simp only [Act.put, List.setIfInBounds_toArray, List.set_cons_zero, List.set_cons_succ, List.getElem_toArray, List.getElem_cons_zero, List.getElem_cons_succ]
      refine wpAnyH_take (i := 8) (v := ?_) rfl (by kernel_rfl) (by kernel_rfl) (by kernel_rfl) (fun _ _ _ h => h) (Or.inl ⟨by rfl, ?_⟩) (by first | assumption | trivial) ?_
      rotate_left 1
      · (intro w9 hSw; go_simp; try (with_reducible rfl))
      try simp only [Act.put, List.setIfInBounds_toArray, List.set_cons_zero, List.set_cons_succ, List.getElem_toArray, List.getElem_cons_zero, List.getElem_cons_succ]
      refine wpAnyH_take (i := 9) (v := ?_) rfl (by kernel_rfl) (by kernel_rfl) (by kernel_rfl) (fun _ _ _ h => h) (Or.inl ⟨by rfl, ?_⟩) (by first | assumption | trivial) ?_
      rotate_left 1
      · (intro w9 hSw; go_simp; try (with_reducible rfl))
      try simp only [Act.put, List.setIfInBounds_toArray, List.set_cons_zero, List.set_cons_succ, List.getElem_toArray, List.getElem_cons_zero, List.getElem_cons_succ]
      refine wpAnyH_take (i := 10) (v := ?_) rfl (by kernel_rfl) (by kernel_rfl) (by kernel_rfl) (fun _ _ _ h => h) (Or.inl ⟨by rfl, ?_⟩) (by first | assumption | trivial) ?_
      rotate_left 1
      · (intro w9 hSw; go_simp; try (with_reducible rfl))
      try simp only [Act.put, List.setIfInBounds_toArray, List.set_cons_zero, List.set_cons_succ, List.getElem_toArray, List.getElem_cons_zero, List.getElem_cons_succ]
      refine wpAnyH_take (i := 11) (v := ?_) rfl (by kernel_rfl) (by kernel_rfl) (by kernel_rfl) (fun _ _ _ h => h) (Or.inl ⟨by rfl, ?_⟩) (by first | assumption | trivial) ?_
      rotate_left 1
      · (intro w9 hSw; go_simp; try (with_reducible rfl))
      try simp only [Act.put, List.setIfInBounds_toArray, List.set_cons_zero, List.set_cons_succ, List.getElem_toArray, List.getElem_cons_zero, List.getElem_cons_succ]
      refine wpAnyH_done (by kernel_rfl) ?_ _
      go_wp2_with fail
      go_loopw [15] (fun x wr => wr = W6.drew ∧ x = .slice (some ar) (m6 - 16) (d6 - 16)) (fun _ _ => 0)
      case atStart => exact ⟨rfl, rfl⟩
      case round =>
        obtain ⟨rfl, rfl⟩ := hrel
        have p0 : W6.drew.cell? a = some (.int .u16 (c.kd : Int)) := s3
        have p1 : W6.drew.cell? { block := a.block, off := a.off + 1 } = some (.int .u8 (c.fl : Int)) := s4
        have p2 : W6.drew.cell? { block := a.block, off := a.off + 2 } = some (.slice (some b6) m6 d6) := s5
        have hst := tstore_new (c.kd : Int) (c.fl : Int) (some b6) m6 d6 W6.drew
        go_upto_region 14 with fail
        clear hst p0 p1 p2 drem hHeld
        have hS7 : Below W6.heap.size W6 (W6.alloc (.cells #[.int .u16 (c.kd : Int), .int .u8 (c.fl : Int), .slice (some b6) m6 d6] 25)).drew := ((Below.refl _ _).alloc (Nat.le_refl _) _).drew
        have HX7 : Hid (Bk (W6.alloc (.cells #[.int .u16 (c.kd : Int), .int .u8 (c.fl : Int), .slice (some b6) m6 d6] 25)).drew W6.heap.size #[.int .u16 (c.kd : Int), .int .u8 (c.fl : Int), .slice (some b6) m6 d6] 25) := Lib.hid (Bk.new W6 _ _).drew
        have hsz7 : (W6.alloc (.cells #[.int .u16 (c.kd : Int), .int .u8 (c.fl : Int), .slice (some b6) m6 d6] 25)).drew.heap.size = W6.heap.size + 1 := by simp
        have HS7 := Lib.hid hS7
        clear hS7
        clear s3 s4 s5
        generalize World.drew (W6.alloc (.cells #[.int .u16 (c.kd : Int), .int .u8 (c.fl : Int), .slice (some b6) m6 d6] 25)) = V7 at HX7 HS7 hsz7 ⊢
        have HSZ7 := Lib.hid hsz7
        clear hsz7
        go_upto_region 15 with (at_builtin; refine Hid.out ?_)
        refine Lib.hid ?_
        refine app_step rfl (.tmp 116) (.tmp 117) rfl V7.heap.size (some ⟨V7.heap.size, 0, none⟩) (0) 0 ([]) rfl (World.ownsRow_made V7 #[] 0 (Nat.le_refl _) (by decide) rfl) (some b6) (16) (d6) (F) rfl HFR.out.2.1 ((Row.below HRF.out HS7.out).below ((Below.refl _ _).alloc (Nat.le_refl _) _ : Below V7.heap.size V7 (V7.alloc (.cells #[] 5)))) (fun h => by cases h) (by omega) ((Below.refl _ _).alloc (Nat.le_refl _) _ : Below V7.heap.size V7 (V7.alloc (.cells #[] 5))).size ?_
        intro Ap0 np0 cp0 wp0 hnp0 hop0 hbp0
        have HOp0 := Lib.hid hop0
        have hqp0 := Below.trans ((Below.refl _ _).alloc (Nat.le_refl _) _ : Below V7.heap.size V7 (V7.alloc (.cells #[] 5))) hbp0
        have HBp0 := Lib.hid hqp0
        have HNp0 := Lib.hid hnp0
        have hlp0 := Nat.le_of_eq hnp0
        clear hnp0
        clear hop0 hbp0 hqp0
        go_upto_region 15 with (at_builtin; refine Hid.out ?_)
        refine Lib.hid ?_
        refine app_step rfl (.tmp 118) (.tmp 119) rfl V7.heap.size Ap0 (np0) cp0 ([] ++ F) rfl HOp0.out (Aq) (qn) (qc) (Lq) rfl hql ((Row.below HQ6.out.row HS7.out).below HBp0.out) (owns_none HQ6.out.1).1 (by omega) HBp0.out.size ?_
        intro Ap1 np1 cp1 wp1 hnp1 hop1 hbp1
        have HOp1 := Lib.hid hop1
        have hqp1 := Below.trans HBp0.out hbp1
        have HBp1 := Lib.hid hqp1
        have HNp1 := Lib.hid hnp1
        have hlp1 := Nat.le_of_eq hnp1
        clear hnp1
        clear hop1 hbp1 hqp1
        go_upto_region 15 with (at_builtin; refine Hid.out ?_)
        refine Lib.hid ?_
        refine app_step rfl (.tmp 120) (.tmp 121) rfl V7.heap.size Ap1 (np1) cp1 ([] ++ F ++ Lq) rfl HOp1.out (some ar) (m6 - 16) (d6 - 16) (R) rfl hRl ((Row.below HRR.out HS7.out).below HBp1.out) (fun h => by cases h) (by omega) HBp1.out.size ?_
        intro Ap2 np2 cp2 wp2 hnp2 hop2 hbp2
        have HOp2 := Lib.hid hop2
        have hqp2 := Below.trans HBp1.out hbp2
        have HBp2 := Lib.hid hqp2
        have HNp2 := Lib.hid hnp2
        have hlp2 := Nat.le_of_eq hnp2
        clear hnp2
        clear hop2 hbp2 hqp2
        have HXp2 := Lib.hid (HX7.out.next HBp2.out)
        have HSp2 := Lib.hid (bnext' HS7.out HBp2.out)
        have k2 := HXp2.out.cell 2
        have f2 := HXp2.out.frozen 2
        simp at k2
        go_upto_region 15 with fail
        have hX := HXp2.out.set 2 (.slice Ap2 np2 cp2)
        simp only [List.setIfInBounds_toArray, List.set_cons_succ, List.set_cons_zero] at hX
        have hO := owns_put (b := W6.heap.size) (i := 2) (u := .slice Ap2 np2 cp2) HOp2.out (by rw [HSZ7.out]; omega)
        have hS : Below W6.heap.size W6 (wp2.setCell ⟨W6.heap.size, 2, none⟩ (.slice Ap2 np2 cp2)) := below_ot HSp2.out ((Ot.refl wp2 W6.heap.size).set 2 (.slice Ap2 np2 cp2)) HSp2.out.size (Nat.le_refl _)
        clear k2 f2
        generalize World.setCell wp2 _ _ = V8 at hX hO hS ⊢
        have HX8 := Lib.hid hX
        have HO8 := Lib.hid hO
        have HS8 := Lib.hid hS
        clear hX hO hS
        have hcap := owns_none HO8.out
        have hlen : (F ++ (Lq ++ R)).length = np2 := by
          have := HFR.out.2.1
          have e0 := HNp0.out
          have e1 := HNp1.out
          have e2 := HNp2.out
          rw [List.length_append, List.length_append, this]
          omega
        have hrow : Row V8 Ap2 (bs (F ++ (Lq ++ R))) := by
          have := row_of_own HO8.out
          rwa [List.nil_append, List.append_assoc] at this
        have hok8 : (⟨c.kd, c.fl, F ++ (Lq ++ R)⟩ : Tv).ok := ⟨by have := HOK.out.kd; show c.kd < 65536; omega, HOK.out.fl, by
          have h1 := HFR.out.2.2.2
          refine byt_app (fun x hx => h1.1 x (List.mem_append_left _ hx)) (byt_app h1.2.1 (fun x hx => h1.1 x (List.mem_append_right _ hx)))⟩
        have CT : Hid (Calls Try.prog 12 #[.agg #[.int .u16 (c.kd : Int), .int .u8 (c.fl : Int), .slice Ap2 np2 cp2]] V8 (TakeOut V8 (take ⟨c.kd, c.fl, F ++ (Lq ++ R)⟩))) := Lib.hid (ckTake_all ⟨c.kd, c.fl, F ++ (Lq ++ R)⟩ Ap2 np2 cp2 V8 hok8 hlen (by omega) hcap.2.1 hcap.2.2 hrow)
        have HCAP := Lib.hid hcap
        clear hcap hlen hrow hok8 HX7 HS7
        have k0 := HX8.out.cell 0
        have k1 := HX8.out.cell 1
        have k2 := HX8.out.cell 2
        simp at k0 k1 k2
        by_cases hlow : k < 32768
        · as_aux_lemma =>
            have hk2 := HK2.out
            have hkd2 : c.kd = 2 := hk2
            have dk2 : ((c.kd : Int) == 2) = true := by simp; omega
            have HTK := Lib.hid (HSAY.out.2.1 hlow)
            rw [if_pos hkd2] at HTK
            have HTK2 := Lib.hid (HSAY.out.2.2 hlow)
            rw [HTK.out] at CT
            have dsh : (((k : Int) / 32768) == 1) = false := by simp; omega
            clear hlow HSAY hk2 hkd2 HTK
            go_wp2_with fail
            (with_reducible refine CT.out.mono ?_)
            rintro e V9 ⟨rfl, hbd⟩
            have hst := store_new zero nol V9
            go_upto_region 16 with fail
            clear hst k0 k1 k2
            have hb2 : Below V9.heap.size V9 (V9.alloc (.cells (cv zero nol) 32)) := (Below.refl _ _).alloc (Nat.le_refl _) _
            have hg10 : W6.heap.size < V9.heap.size := Nat.lt_of_lt_of_le HX8.out.lt hbd.size
            have HS10 := Lib.hid (bnext' (bnext' HS8.out hbd) hb2)
            have HX10 := Lib.hid ((HX8.out.next hbd).next hb2)
            have HE10 : Hid (Bk (V9.alloc (.cells (cv zero nol) 32)) V9.heap.size (cv zero nol) 32) := Lib.hid (Bk.new _ _ _)
            clear hb2 hbd HS8 HX8 HO8 CT HCAP
            generalize hV10 : V9.alloc (.cells (cv zero nol) 32) = V10 at HS10 HX10 HE10 ⊢
            clear hV10
            generalize V9.heap.size = g10 at HE10 hg10 ⊢
            have HU10 := Lib.hid (HU6.out.next HS10.out)
            have hst := store_new c s V10
            go_upto_region 21 with (refine wpList_load_row rfl 32 (.tmp 4) rfl w.heap.size rfl 32 (cv c s) (0, 0) _ HU10.out.1 Try.underlying32 rfl HCI.out ?_)
            clear hst dsh
            have hb3 : Below V10.heap.size V10 (V10.alloc (.cells (cv c s) 32)) := (Below.refl _ _).alloc (Nat.le_refl _) _
            have HS11 := Lib.hid (bnext' HS10.out hb3)
            have HX11 := Lib.hid (HX10.out.next hb3)
            have HE11 := Lib.hid (HE10.out.next hb3)
            have HB11 : Hid (Bk (V10.alloc (.cells (cv c s) 32)) V10.heap.size (cv c s) 32) := Lib.hid (Bk.new _ _ _)
            have hg18 : g10 < V10.heap.size := HE10.out.lt
            clear hb3 HS10 HX10 HE10 HU10
            generalize hV11 : V10.alloc (.cells (cv c s) 32) = V11 at HS11 HX11 HE11 HB11 ⊢
            clear hV11
            generalize V10.heap.size = g18 at HB11 hg18 ⊢
            have hBa := HB11.out.set 11 (.slice none 0 0)
            rw [cv_ad0] at hBa
            have HBA := Lib.hid hBa
            have k11 := HB11.out.c11
            have f11 := HB11.out.frozen 11
            have k10 := HBA.out.c10
            have f10 := HBA.out.frozen 10
            clear hBa
            go_upto_region 22 with fail
            clear k11 f11 k10 f10
            have hB12 := (HB11.out.set 11 (.slice none 0 0)).set 10 (.slice none 0 0)
            rw [cv_bare] at hB12
            have hX12 := (HX11.out.other (show W6.heap.size ≠ g18 by omega) 11 (.slice none 0 0)).other (show W6.heap.size ≠ g18 by omega) 10 (.slice none 0 0)
            have hE12 := (HE11.out.other (show g10 ≠ g18 by omega) 11 (.slice none 0 0)).other (show g10 ≠ g18 by omega) 10 (.slice none 0 0)
            have hS12 := below_ot HS11.out (((Ot.refl V11 g18).set 11 (.slice none 0 0)).set 10 (.slice none 0 0)) HS11.out.size (show W6.heap.size ≤ g18 by omega)
            generalize World.setCell (World.setCell V11 _ _) _ _ = V12 at hB12 hX12 hE12 hS12 ⊢
            have HB12 := Lib.hid hB12
            have HX12 := Lib.hid hX12
            have HE12 := Lib.hid hE12
            have HS12 := Lib.hid hS12
            clear hB12 hX12 hE12 hS12 HBA HB11 HX11 HE11 HS11
            have HU12 := Lib.hid (HU6.out.next HS12.out)
            have kc0 := HU12.out.1.c0
            go_upto_region 27 with fail
            clear kc0 dk2
            have hlt12 : W6.heap.size < V12.heap.size := HX12.out.lt
            go_upto_region 28 with (at_builtin; refine Hid.out ?_)
            refine Lib.hid ?_
            refine app_step rfl (.tmp 156) (.tmp 157) rfl V12.heap.size (some ⟨V12.heap.size, 0, none⟩) (0) 0 ([]) rfl (World.ownsRow_made V12 #[] 0 (Nat.le_refl _) (by decide) rfl) (some b6) (16) (d6) (F) rfl HFR.out.2.1 ((Row.below HRF.out HS12.out).below ((Below.refl _ _).alloc (Nat.le_refl _) _ : Below V12.heap.size V12 (V12.alloc (.cells #[] 5)))) (fun h => by cases h) (by omega) ((Below.refl _ _).alloc (Nat.le_refl _) _ : Below V12.heap.size V12 (V12.alloc (.cells #[] 5))).size ?_
            intro Ar0 nr0 cr0 wr0 hnr0 hor0 hbr0
            have HOr0 := Lib.hid hor0
            have hqr0 := Below.trans ((Below.refl _ _).alloc (Nat.le_refl _) _ : Below V12.heap.size V12 (V12.alloc (.cells #[] 5))) hbr0
            have HBr0 := Lib.hid hqr0
            have HNr0 := Lib.hid hnr0
            have hlr0 := Nat.le_of_eq hnr0
            clear hnr0
            clear hor0 hbr0 hqr0
            go_upto_region 28 with (at_builtin; refine Hid.out ?_)
            refine Lib.hid ?_
            refine app_step rfl (.tmp 158) (.tmp 159) rfl V12.heap.size Ar0 (nr0) cr0 ([] ++ F) rfl HOr0.out (some ar) (m6 - 16) (d6 - 16) (R) rfl hRl ((Row.below HRR.out HS12.out).below HBr0.out) (fun h => by cases h) (by omega) HBr0.out.size ?_
            intro Ar1 nr1 cr1 wr1 hnr1 hor1 hbr1
            have HOr1 := Lib.hid hor1
            have hqr1 := Below.trans HBr0.out hbr1
            have HBr1 := Lib.hid hqr1
            have HNr1 := Lib.hid hnr1
            have hlr1 := Nat.le_of_eq hnr1
            clear hnr1
            clear hor1 hbr1 hqr1
            go_upto_region 28 with (at_builtin; refine Hid.out ?_)
            refine Lib.hid ?_
            refine app_step rfl (.tmp 160) (.tmp 161) rfl V12.heap.size Ar1 (nr1) cr1 ([] ++ F ++ R) rfl HOr1.out (Aq) (qn) (qc) (Lq) rfl hql ((Row.below HQ6.out.row HS12.out).below HBr1.out) (owns_none HQ6.out.1).1 (by omega) HBr1.out.size ?_
            intro Ar2 nr2 cr2 wr2 hnr2 hor2 hbr2
            have HOr2 := Lib.hid hor2
            have hqr2 := Below.trans HBr1.out hbr2
            have HBr2 := Lib.hid hqr2
            have HNr2 := Lib.hid hnr2
            have hlr2 := Nat.le_of_eq hnr2
            clear hnr2
            clear hor2 hbr2 hqr2
            go_upto_region 28 with (at_builtin; refine Hid.out ?_)
            refine Lib.hid ?_
            refine app_step rfl (.tmp 162) (.tmp 163) rfl V12.heap.size Ar2 (nr2) cr2 ([] ++ F ++ R ++ Lq) rfl HOr2.out (Ab) (bn) (bc) (bh) rfl hbl ((Row.below (HBR.out.below HU6.out.2) HS12.out).below HBr2.out) HBZ.out (by omega) HBr2.out.size ?_
            intro Ar3 nr3 cr3 wr3 hnr3 hor3 hbr3
            have HOr3 := Lib.hid hor3
            have hqr3 := Below.trans HBr2.out hbr3
            have HBr3 := Lib.hid hqr3
            have HNr3 := Lib.hid hnr3
            have hlr3 := Nat.le_of_eq hnr3
            clear hnr3
            clear hor3 hbr3 hqr3
            have HXr3 := Lib.hid (HX12.out.next HBr3.out)
            have HSr3 := Lib.hid (bnext' HS12.out HBr3.out)
            have k2 := HXr3.out.cell 2
            have f2 := HXr3.out.frozen 2
            simp at k2
            have HEr3 := Lib.hid (HE12.out.next HBr3.out)
            go_upto_region 28 with fail
            have hE := HEr3.out.other (show g10 ≠ W6.heap.size by omega) 2 (.slice Ar3 nr3 cr3)
            have hX := HXr3.out.set 2 (.slice Ar3 nr3 cr3)
            simp only [List.setIfInBounds_toArray, List.set_cons_succ, List.set_cons_zero] at hX
            have hO := owns_put (b := W6.heap.size) (i := 2) (u := .slice Ar3 nr3 cr3) HOr3.out hlt12
            have hS : Below W6.heap.size W6 (wr3.setCell ⟨W6.heap.size, 2, none⟩ (.slice Ar3 nr3 cr3)) := below_ot HSr3.out ((Ot.refl wr3 W6.heap.size).set 2 (.slice Ar3 nr3 cr3)) HSr3.out.size (Nat.le_refl _)
            clear k2 f2
            generalize World.setCell wr3 _ _ = V20 at hX hO hS hE ⊢
            have HX20 := Lib.hid hX
            have HO20 := Lib.hid hO
            have HS20 := Lib.hid hS
            have HE20 := Lib.hid hE
            clear hX hO hS hE
            have hcap := owns_none HO20.out
            have hlen : (F ++ (R ++ (Lq ++ bh))).length = nr3 := by
              have := HFR.out.2.1
              have e0 := HNr0.out
              have e1 := HNr1.out
              have e2 := HNr2.out
              have e3 := HNr3.out
              rw [List.length_append, List.length_append, List.length_append, this]
              omega
            have hrow : Row V20 Ar3 (bs (F ++ (R ++ (Lq ++ bh)))) := by
              have := row_of_own HO20.out
              rwa [List.nil_append, List.append_assoc, List.append_assoc] at this
            have hok8 : (⟨c.kd, c.fl, F ++ (R ++ (Lq ++ bh))⟩ : Tv).ok := ⟨by have := HOK.out.kd; show c.kd < 65536; omega, HOK.out.fl, by
              have h1 := HFR.out.2.2.2
              exact byt_app (fun x hx => h1.1 x (List.mem_append_left _ hx)) (byt_app (fun x hx => h1.1 x (List.mem_append_right _ hx)) (byt_app h1.2.1 HBH.out.1))⟩
            have hnr : nr3 ≤ 65531 := by omega
            have CT := Lib.hid (ckTake_all ⟨c.kd, c.fl, F ++ (R ++ (Lq ++ bh))⟩ Ar3 nr3 cr3 V20 hok8 hlen hnr hcap.2.1 hcap.2.2 hrow)
            rw [HTK2.out] at CT
            clear hcap hlen hrow hok8 hnr HTK2 HO20
            have k0 := HX20.out.cell 0
            have k1 := HX20.out.cell 1
            have k2 := HX20.out.cell 2
            simp at k0 k1 k2
            have hg20 : g10 < V20.heap.size := HE20.out.lt
            go_wp2_with fail
            (with_reducible refine CT.out.mono ?_)
            rintro e V21 ⟨s2, rfl, hcd, hbd⟩
            clear k0 k1 k2
            have HE21 := Lib.hid (HE20.out.next hbd)
            have HS21 := Lib.hid (bnext' HS20.out hbd)
            have HCI2 := Lib.hid (cv_info c s2)
            have HCO2 := Lib.hid (cv_one c s2)
            have HD21 := Lib.hid hcd
            clear hbd hcd HE20 HS20 HX20 CT
            go_upto_region 29 with (refine wpList_store_row rfl 32 (.tmp 17) (.tmp 169) rfl g10 (cv c s2) rfl rfl 32 (cv zero nol) HE21.out HCI2.out (cv_size _ _).symm HCO2.out ?_)
            have hE22 := HE21.out.row_ (cv c s2)
            have hD22 := HD21.out.row hg20 (cv c s2)
            have hS22 := below_setRow HS21.out (show W6.heap.size ≤ g10 by omega) (cv c s2)
            generalize World.setRow V21 _ _ = V22 at hE22 hD22 hS22 ⊢
            have HU22 := Lib.hid (HU6.out.next hS22)
            have HE22 := Lib.hid hE22
            have HSm := Lib.hid (ckSame_lit c s s2 V22 (HC6.out.next hS22) hD22)
            clear hE22 hD22 hS22 HE21 HS21 HD21
            have t0 := HE22.out.c0
            have t1 := HE22.out.c1
            have t2 := HE22.out.c2
            have t3 := HE22.out.c3
            have t4 := HE22.out.c4
            have t5 := HE22.out.c5
            have t6 := HE22.out.c6
            have t7 := HE22.out.c7
            have t8 := HE22.out.c8
            have t9 := HE22.out.c9
            have t10 := HE22.out.c10
            have t11 := HE22.out.c11
            have t12 := HE22.out.c12
            have t13 := HE22.out.c13
            have t14 := HE22.out.c14
            have q0 := HU22.out.1.c0
            have q1 := HU22.out.1.c1
            have q2 := HU22.out.1.c2
            have q3 := HU22.out.1.c3
            have q4 := HU22.out.1.c4
            have q5 := HU22.out.1.c5
            have q6 := HU22.out.1.c6
            have q7 := HU22.out.1.c7
            have q8 := HU22.out.1.c8
            have q9 := HU22.out.1.c9
            have q10 := HU22.out.1.c10
            have q11 := HU22.out.1.c11
            have q12 := HU22.out.1.c12
            have q13 := HU22.out.1.c13
            have q14 := HU22.out.1.c14
            go_wp2_with fail
            (with_reducible refine HSm.out.mono ?_)
            rintro e V23 ⟨rfl, hb23⟩
            have HU23 := Lib.hid (HU22.out.next hb23)
            clear hb23
            go_wp2_with fail
            go_ret
            exact ⟨rfl, HU23.out.2⟩
        · as_aux_lemma =>
            have HTK := Lib.hid (HSAY.out.1 hlow)
            rw [HTK.out] at CT
            have dsh : (((k : Int) / 32768) == 1) = true := by simp; omega
            clear hlow HSAY
            go_wp2_with fail
            (with_reducible refine CT.out.mono ?_)
            rintro e V9 ⟨sd, rfl, hcd, hbd⟩
            have hst := store_new c sd V9
            go_upto_region 16 with fail
            clear hst k0 k1 k2
            have hb2 : Below V9.heap.size V9 (V9.alloc (.cells (cv c sd) 32)) := (Below.refl _ _).alloc (Nat.le_refl _) _
            have hs10 := bnext' (bnext' HS8.out hbd) hb2
            have HU10 := Lib.hid (HU6.out.next hs10)
            have HC10 := Lib.hid (HC6.out.next hs10)
            have HD10 := Lib.hid (hcd.ch.next hb2)
            have HE10 : Hid (Bk (V9.alloc (.cells (cv c sd) 32)) V9.heap.size (cv c sd) 32) := Lib.hid (Bk.new _ _ _)
            clear hb2 hbd hcd hs10 HS8 HX8 HO8
            generalize hV10 : V9.alloc (.cells (cv c sd) 32) = V10 at HU10 HC10 HD10 HE10 ⊢
            clear hV10
            generalize V9.heap.size = g10 at HE10 ⊢
            have HS := Lib.hid (ckSame_lit c s sd V10 HC10.out HD10.out)
            have t0 := HE10.out.c0
            have t1 := HE10.out.c1
            have t2 := HE10.out.c2
            have t3 := HE10.out.c3
            have t4 := HE10.out.c4
            have t5 := HE10.out.c5
            have t6 := HE10.out.c6
            have t7 := HE10.out.c7
            have t8 := HE10.out.c8
            have t9 := HE10.out.c9
            have t10 := HE10.out.c10
            have t11 := HE10.out.c11
            have t12 := HE10.out.c12
            have t13 := HE10.out.c13
            have t14 := HE10.out.c14
            have q0 := HU10.out.1.c0
            have q1 := HU10.out.1.c1
            have q2 := HU10.out.1.c2
            have q3 := HU10.out.1.c3
            have q4 := HU10.out.1.c4
            have q5 := HU10.out.1.c5
            have q6 := HU10.out.1.c6
            have q7 := HU10.out.1.c7
            have q8 := HU10.out.1.c8
            have q9 := HU10.out.1.c9
            have q10 := HU10.out.1.c10
            have q11 := HU10.out.1.c11
            have q12 := HU10.out.1.c12
            have q13 := HU10.out.1.c13
            have q14 := HU10.out.1.c14
            clear HC10 HD10
            go_wp2_with fail
            (with_reducible refine HS.out.mono ?_)
            rintro e V11 ⟨rfl, hb3⟩
            have HU11 := Lib.hid (HU10.out.next hb3)
            clear hb3
            go_wp2_with fail
            go_ret
            exact ⟨rfl, HU11.out.2⟩
theorem chunkParams_walk (c : Ck) (s : Ls) (x : Int) (A : Option Addr) (n cp : Nat) (z : List Int) (B : Option Addr) (m d : Nat) (y : List Int) (w : World) (h : Ch w c s) (h0 : (Lit.int .u16 x).wf = true) (hz : IsRow .u8 w A n cp z) (hy : IsRow .u8 w B m d y) :
    Calls Try.prog 5 #[.agg (cv c s), .int .u16 x, .slice A n cp, .slice B m d] w fun e w' => e = .returned (.bool true) ∧ Below w.heap.size w w' := by
  have b0 := wf_u16 h0
  obtain ⟨k, rfl⟩ := Int.eq_ofNat_of_zero_le b0.1
  have hA : A = none → n = 0 ∧ cp = 0 := by
    rcases hz with ⟨_, h2, h3, _⟩ | ⟨x, hx, _⟩
    · exact fun _ => ⟨h2, h3⟩
    · intro h; rw [h] at hx; cases hx
  have hB : B = none → m = 0 ∧ d = 0 := by
    rcases hy with ⟨_, h2, h3, _⟩ | ⟨x, hx, _⟩
    · exact fun _ => ⟨h2, h3⟩
    · intro h; rw [h] at hx; cases hx
  obtain ⟨l, hl, hlc, hcm, hb, hr⟩ := hz.bytes
  obtain ⟨l2, hl2, hlc2, hcm2, hb2, hr2⟩ := hy.bytes
  exact chunkParams_main c s k l A n cp l2 B m d w h (by omega) hb hl hlc hcm hr hA hb2 hl2 hlc2 hcm2 hr2 hB
end Go.Proofs.Ytbliipjiilmbcaa
