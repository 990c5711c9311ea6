/-
  The document's Take.
-/
import Derived.Test.YtbliipjiilmbcaaYP1d
set_option linter.unusedVariables false
set_option linter.unusedSimpArgs false
namespace Go.Proofs.Ytbliipjiilmbcaa
open Go.RowKit Wire Tlv Chunk Go.Shelf

set_option maxRecDepth 100000 in
set_option maxHeartbeats 4000000 in
theorem rTake0 (k f : Nat) (v : List Int) (A : Option Addr) (n cp : Nat) (w : World) (hx : (⟨k, f, v⟩ : Tv).ok) (hk : k = 0) (hl : v.length = n) (hn : n ≤ 65531) (hle : n ≤ cp) (hcm : cp ≤ maxLen) (hr : Row w A (bs v)) :
    Calls Try.prog 13 #[.agg #[.int .u16 (k : Int), .int .u8 (f : Int), .slice A n cp]] w (TakeOut w (take ⟨k, f, v⟩)) := by
  have d0 : ((k : Int) == 0) = true := by simp; omega
  have d1 : ((k : Int) == 1) = false := by simp; omega
  have d2 : ((k : Int) == 2) = false := by simp; omega
  have d3 : ((k : Int) == 3) = false := by simp; omega
  have d6 : ((k : Int) == 6) = false := by simp; omega
  have d9 : ((k : Int) == 9) = false := by simp; omega
  have d7 : ((k : Int) == 7) = false := by simp; omega
  have d8 : ((k : Int) == 8) = false := by simp; omega
  have d11 : ((k : Int) == 11) = false := by simp; omega
  have d14 : ((k : Int) == 14) = false := by simp; omega
  obtain ⟨i0, hi0, hz0, hz1, hz2⟩ := info_parts Try_info8
  have HI8 := Lib.hid hi0
  have HZ0 := Lib.hid hz0
  have HZ1 := Lib.hid hz1
  have HZ2 := Lib.hid hz2
  clear hi0 hz0 hz1 hz2
  have HTR := Lib.hid ((take_mayO (x := ⟨k, f, v⟩) (by show k ≤ 255; omega)).trans (by rw [raw_piece hk]))
  have HBO := Lib.hid (bare_ok hx (by show k ≤ 255; omega))
  have HL := Lib.hid hl
  have HX := Lib.hid hx.2.2
  have HR := Lib.hid hr
  have HN0 : Hid (∀ W, Below w.heap.size w W → Calls Try.prog 35 #[.slice A n cp, .int .i64 0, .int .i64 4] W fun e w' => e = .returned (.int .u32 (nn v 0 4 : Nat)) ∧ W = w') := Lib.hid fun W hW => rn_any A n cp v 0 4 W hl hle (by omega) hx.2.2 (hr.below hW) (by omega) (by omega)
  have hb0 : nn v 0 4 < 4294967296 := nn_lt4 hx.2.2 0
  obtain ⟨z0, hz0⟩ : ∃ z, nn v 0 4 = z := ⟨_, rfl⟩
  have HE0 := Lib.hid hz0
  rw [hz0] at HN0 hb0
  have HB0 := Lib.hid hb0
  clear hz0 hb0
  have HN4 : Hid (∀ W, Below w.heap.size w W → Calls Try.prog 35 #[.slice A n cp, .int .i64 4, .int .i64 2] W fun e w' => e = .returned (.int .u32 (nn v 4 2 : Nat)) ∧ W = w') := Lib.hid fun W hW => rn_any A n cp v 4 2 W hl hle (by omega) hx.2.2 (hr.below hW) (by omega) (by omega)
  have hb4 : nn v 4 2 < 65536 := nn_lt2 hx.2.2 4
  obtain ⟨z4, hz4⟩ : ∃ z, nn v 4 2 = z := ⟨_, rfl⟩
  have HE4 := Lib.hid hz4
  rw [hz4] at HN4 hb4
  have wz4 : IntKind.u16.wrap (z4 : Int) = (z4 : Int) := by rw [IntKind.wrap_u16]; omega
  have HB4 := Lib.hid hb4
  clear hz4 hb4
  have HN6 : Hid (∀ W, Below w.heap.size w W → Calls Try.prog 35 #[.slice A n cp, .int .i64 6, .int .i64 2] W fun e w' => e = .returned (.int .u32 (nn v 6 2 : Nat)) ∧ W = w') := Lib.hid fun W hW => rn_any A n cp v 6 2 W hl hle (by omega) hx.2.2 (hr.below hW) (by omega) (by omega)
  have hb6 : nn v 6 2 < 65536 := nn_lt2 hx.2.2 6
  obtain ⟨z6, hz6⟩ : ∃ z, nn v 6 2 = z := ⟨_, rfl⟩
  have HE6 := Lib.hid hz6
  rw [hz6] at HN6 hb6
  have wz6 : IntKind.u16.wrap (z6 : Int) = (z6 : Int) := by rw [IntKind.wrap_u16]; omega
  have HB6 := Lib.hid hb6
  clear hz6 hb6
  have HN8 : Hid (∀ W, Below w.heap.size w W → Calls Try.prog 35 #[.slice A n cp, .int .i64 8, .int .i64 4] W fun e w' => e = .returned (.int .u32 (nn v 8 4 : Nat)) ∧ W = w') := Lib.hid fun W hW => rn_any A n cp v 8 4 W hl hle (by omega) hx.2.2 (hr.below hW) (by omega) (by omega)
  have hb8 : nn v 8 4 < 4294967296 := nn_lt4 hx.2.2 8
  obtain ⟨z8, hz8⟩ : ∃ z, nn v 8 4 = z := ⟨_, rfl⟩
  have HE8 := Lib.hid hz8
  rw [hz8] at HN8 hb8
  have HB8 := Lib.hid hb8
  clear hz8 hb8
  have HA : Hid (12 < n → ∃ a, A = some a) := Lib.hid fun h => by
    have h0 : (bs v)[0]? = some ((bs v)[0]'(by simp [bs]; omega)) := List.getElem?_eq_getElem _
    obtain ⟨a, ha, _⟩ := hr 0 _ h0
    exact ⟨a, ha⟩
  have HT : Hid (RT w #[.int .u16 (k : Int), .int .u8 (f : Int), .slice A n cp] zlit (cv (bare ⟨k, f, v⟩) nol) _) := Lib.hid (RT.new w #[.int .u16 (k : Int), .int .u8 (f : Int), .slice A n cp] k f v)
  have HI := Lib.hid zlit_info
  have HO := Lib.hid zlit_one
  have wk : IntKind.u8.wrap (k : Int) = (k : Int) := by rw [IntKind.wrap_u8]; omega
  have dbig : decide ((255 : Int) < (k : Int)) = false := by simp; omega
  clear hl hr hx hk
  go_enter Try.func13, Try.ntmps13
  go_upto_region 4 with fail
  generalize World.alloc (World.alloc (World.alloc w _) _) _ = W1 at HT ⊢
  clear dbig wk
  have g2 := HT.out.1.1.cell 2
  simp at g2
  have k0 : W1.cell? ⟨w.heap.size + 1 + 1, 0, none⟩ = some (.int .u8 (k : Int)) := HT.out.2.c0
  obtain ⟨c0, hc0⟩ : ∃ c : Ck, c = bare ⟨k, f, v⟩ := ⟨_, rfl⟩
  rw [← hc0] at HT
  have HEc0 := Lib.hid hc0
  clear hc0
  by_cases h12 : 12 < n
  · have d12 : decide ((12 : Int) < (n : Int)) = true := by simp; omega
    go_wp2_with fail
    clear d12
    have hbw := HT.out.below
    (with_reducible refine (HN0.out _ hbw).mono ?_)
    rintro e w1 ⟨rfl, rfl⟩
    have k4 := HT.out.2.c4
    have f4 := HT.out.2.frozen 4
    go_upto_region 11 with fail
    have hT := HT.out.set 4 (.int .u32 (z0 : Int))
    rw [cv_tsn] at hT
    obtain ⟨c1, hcc1⟩ : ∃ c : Ck, c = { c0 with tsn := z0 } := ⟨_, rfl⟩
    rw [← hcc1] at hT
    have HEc1 := Lib.hid hcc1
    clear hcc1
    have HT' := Lib.hid hT
    clear hT hbw k4 f4 HT
    generalize World.setCell _ _ _ = W2 at HT' ⊢
    have HT := HT'
    clear HT'
    go_wp2_with fail
    have hbw := HT.out.below
    (with_reducible refine (HN4.out _ hbw).mono ?_)
    rintro e w1 ⟨rfl, rfl⟩
    have k7 := HT.out.2.c7
    have f7 := HT.out.2.frozen 7
    go_upto_region 12 with fail
    have hT := HT.out.set 7 (.int .u16 (z4 : Int))
    rw [cv_sid] at hT
    obtain ⟨c2, hcc2⟩ : ∃ c : Ck, c = { c1 with sid := z4 } := ⟨_, rfl⟩
    rw [← hcc2] at hT
    have HEc2 := Lib.hid hcc2
    clear hcc2
    have HT' := Lib.hid hT
    clear hT hbw k7 f7 HT
    generalize World.setCell _ _ _ = W3 at HT' ⊢
    have HT := HT'
    clear HT'
    go_wp2_with fail
    have hbw := HT.out.below
    (with_reducible refine (HN6.out _ hbw).mono ?_)
    rintro e w1 ⟨rfl, rfl⟩
    have k8 := HT.out.2.c8
    have f8 := HT.out.2.frozen 8
    go_upto_region 13 with fail
    have hT := HT.out.set 8 (.int .u16 (z6 : Int))
    rw [cv_ssn] at hT
    obtain ⟨c3, hcc3⟩ : ∃ c : Ck, c = { c2 with ssn := z6 } := ⟨_, rfl⟩
    rw [← hcc3] at hT
    have HEc3 := Lib.hid hcc3
    clear hcc3
    have HT' := Lib.hid hT
    clear hT hbw k8 f8 HT
    generalize World.setCell _ _ _ = W4 at HT' ⊢
    have HT := HT'
    clear HT'
    go_wp2_with fail
    have hbw := HT.out.below
    (with_reducible refine (HN8.out _ hbw).mono ?_)
    rintro e w1 ⟨rfl, rfl⟩
    have k9 := HT.out.2.c9
    have f9 := HT.out.2.frozen 9
    go_upto_region 14 with fail
    have hT := HT.out.set 9 (.int .u32 (z8 : Int))
    rw [cv_ppid] at hT
    obtain ⟨c4, hcc4⟩ : ∃ c : Ck, c = { c3 with ppid := z8 } := ⟨_, rfl⟩
    rw [← hcc4] at hT
    have HEc4 := Lib.hid hcc4
    clear hcc4
    have HT' := Lib.hid hT
    clear hT hbw k9 f9 HT
    generalize World.setCell _ _ _ = W5 at HT' ⊢
    have HT := HT'
    clear HT'
    obtain ⟨a, rfl⟩ := HA.out h12
    have q4 : ∀ W, (Instr.slice 23 (.slice (some a) n cp) (some (.int .i64 12)) none none).run Try.prog W = .ok (.slice (cutA (some a) cp 12) (n - 12) (cp - 12)) W := fun W => run_cut_l (P := Try.prog) Try.underlying23 sz8 (k := .i64) (some a) n cp 12 (by omega) W
    obtain ⟨ad, had⟩ : ∃ ad, cutA (some a) cp 12 = some ad := by unfold cutA; split <;> exact ⟨_, rfl⟩
    rw [had] at q4
    have hr4 : Row W5 (some ad) (bs (v.drop 12)) := by
      have := (HR.out.below HT.out.below).cut (c := cp) (lo := 12) (hi := n) hle
      rw [had] at this
      rwa [List.take_of_length_le (by rw [bs_len, HL.out]; exact Nat.le_refl _), show (bs v).drop 12 = bs (v.drop 12) by simp [bs]] at this
    have HR4 := Lib.hid hr4
    have HVL : Hid ((v.drop 12).length = n - 12) := Lib.hid (by rw [List.length_drop, HL.out])
    have HXD := Lib.hid (Byt.drop HX.out 12)
    clear had hr4
    have hlo := HT.out.2.lt
    go_upto_region 43 with (at_builtin; refine wpList_append_own _ rfl (.tmp 48) (.tmp 50) 23 rfl W5.heap.size 5 i0 (.int .u8 0) 1 1 Try.underlying23 HI8.out HZ0.out HZ1.out HZ2.out rfl (by omega) _ 0 [] rfl (World.ownsRow_made W5 #[] 0 (Nat.le_refl _) (by decide) rfl) ad (n - 12) (cp - 12) (bs (v.drop 12)) rfl (by rw [bs_len, HVL.out]; omega) (bcells (HR4.out.alloc _)) (bs_one _) (by unfold maxLen; omega) (by omega) (by simp) ?_; intro v' w2 hown hgr hv; obtain ⟨A', c', rfl⟩ := own_form hown; rw [Nat.zero_add, List.nil_append] at hown; have hbw : Below W5.heap.size W5 w2 := ((Below.refl _ _).alloc (Nat.le_refl _) _).grown hgr (by simp) (fun k hk => by injection hk with hk; exact Nat.le_of_eq hk); have HT2 := Lib.hid (HT.out.next hbw); have k10 := HT2.out.2.c10; have f10 := HT2.out.2.frozen 10; have HOW := Lib.hid hown; clear hown hgr hv hbw)
    have hT := HT2.out.set 10 (.slice A' (n - 12) c')
    rw [cv_da _ _ (v.drop 12)] at hT
    have ho := owns_put HOW.out (b := w.heap.size + 1 + 1) (i := 10) (u := .slice A' (n - 12) c') hlo
    generalize World.setCell _ _ _ = W6 at hT ho ⊢
    clear HT
    have HT := Lib.hid hT
    obtain ⟨c5, hc5⟩ : ∃ c : Ck, c = { c4 with da := v.drop 12 } := ⟨_, rfl⟩
    rw [← hc5] at HT
    have hce : c5 = { bare ⟨k, f, v⟩ with tsn := z0, sid := z4, ssn := z6, ppid := z8, da := v.drop 12 } := by rw [hc5, HEc4.out, HEc3.out, HEc2.out, HEc1.out, HEc0.out]
    have HC : Hid (ChF (w.heap.size + 1 + 1 + 1) W6 c5 (putD nol A' (n - 12) c')) := Lib.hid (by rw [hce]; exact (ch_data (c := { bare ⟨k, f, v⟩ with tsn := z0, sid := z4, ssn := z6, ppid := z8, da := v.drop 12 }) { HBO.out with tsn := HB0.out, sid := HB4.out, ssn := HB6.out, ppid := HB8.out, da := HXD.out } (show World.ownsRow W6 _ _ _ _ _ (bs (v.drop 12)) from ho) rfl rfl rfl rfl (by omega)).lower (by omega))
    have HTK : Hid (take ⟨k, f, v⟩ = mayO c5) := Lib.hid (by rw [HTR.out, if_pos (show 12 < v.length by rw [HL.out]; exact h12), hce, ← HE0.out, ← HE4.out, ← HE6.out, ← HE8.out]; rfl)
    clear hT ho HOW HT2 k10 f10 HTR hce hc5 q4
    clear k0 g2
    obtain ⟨c, hc⟩ : ∃ c : Ck, c = c5 := ⟨_, rfl⟩
    obtain ⟨s, hs⟩ : ∃ s : Ls, s = putD nol A' (n - 12) c' := ⟨_, rfl⟩
    rw [← hc] at HT HC HTK
    rw [← hs] at HT HC
    clear hc hs
    have HCI2 := Lib.hid (cvl_info c s)
    have HCI := Lib.hid (cv_info c s)
    have HCO := Lib.hid (cv_one c s)
    have HM := Lib.hid (rfMayL c s _ HC.out.ch)
    have t0 := HT.out.2.c0
    have t1 := HT.out.2.c1
    have t2 := HT.out.2.c2
    have t3 := HT.out.2.c3
    have t4 := HT.out.2.c4
    have t5 := HT.out.2.c5
    have t6 := HT.out.2.c6
    have t7 := HT.out.2.c7
    have t8 := HT.out.2.c8
    have t9 := HT.out.2.c9
    have t10 := HT.out.2.c10
    have t11 := HT.out.2.c11
    have t12 := HT.out.2.c12
    have t13 := HT.out.2.c13
    have t14 := HT.out.2.c14
    by_cases hm : may c
    · rw [mayB_true hm] at HM
      have HTK2 := Lib.hid (HTK.out.trans (mayO_yes hm))
      clear hm HTK
      go_wp2_with fail
      (with_reducible refine HM.out.mono ?_)
      rintro e W8 ⟨rfl, hb8⟩
      have HT8 := Lib.hid (HT.out.next hb8)
      have HC8 := Lib.hid (HC.out.next hb8)
      clear hb8 t0 t1 t2 t3 t4 t5 t6 t7 t8 t9 t10 t11 t12 t13 t14
      go_wp2_with (first
        | (refine wpList_load_row rfl 32 (.tmp 4) rfl (w.heap.size + 1 + 1) rfl 32 (cv c s) (0, 0) _ HT8.out.2 Try.underlying32 rfl HCI.out ?_)
        | (refine wpList_store_row rfl 32 (.tmp 2) (.tmp 146) rfl (w.heap.size + 1) (cv c s) rfl rfl 32 zlit HT8.out.1.2.1 HCI.out (cv_size _ _).symm HCO.out ?_))
      have hT9 := HT8.out.row (cv c s)
      have hC9 := HC8.out.rowF (g := w.heap.size + 1) (by omega) (cv c s)
      generalize World.setRow W8 _ _ = W9 at hT9 hC9 ⊢
      have hz := hT9.1.2.1
      refine bodyPost_ret (v := .tuple #[.agg (cv c s), .int .i64 0]) (by simp [results, Try.results13, go_sem, hz.c0, hz.c1, hz.c2, hz.c3, hz.c4, hz.c5, hz.c6, hz.c7, hz.c8, hz.c9, hz.c10, hz.c11, hz.c12, hz.c13, hz.c14, cv]) rfl (rt_some HTK2.out hT9 hC9)
    · rw [mayB_false hm] at HM
      have HTK2 := Lib.hid (HTK.out.trans (mayO_no hm))
      clear hm HTK
      have HTK := HTK2
      go_wp2_with fail
      (with_reducible refine HM.out.mono ?_)
      rintro e W8 ⟨rfl, hb8⟩
      have HT8 := Lib.hid (HT.out.next hb8)
      clear hb8 t0 t1 t2 t3 t4 t5 t6 t7 t8 t9 t10 t11 t12 t13 t14
      go_wp2_with ((refine wpList_store_row rfl 32 (.tmp 2) (.tmp 145) rfl (w.heap.size + 1) zlit rfl rfl 32 zlit HT8.out.1.2.1 HI.out rfl HO.out ?_))
      have hT9 := HT8.out.row zlit
      generalize World.setRow _ _ _ = W9 at hT9 ⊢
      have hz : Bk W9 (w.heap.size + 1) (cv zero nol) 32 := hT9.1.2.1
      refine bodyPost_ret (v := .tuple #[.agg (cv zero nol), .int .i64 50]) (by simp [results, Try.results13, go_sem, hz.c0, hz.c1, hz.c2, hz.c3, hz.c4, hz.c5, hz.c6, hz.c7, hz.c8, hz.c9, hz.c10, hz.c11, hz.c12, hz.c13, hz.c14, cv]) rfl (rt_none HTK.out hT9)
  · have d12 : decide ((12 : Int) < (n : Int)) = false := by simp; omega
    have HTK : Hid (take ⟨k, f, v⟩ = none) := Lib.hid (by rw [HTR.out, if_neg (show ¬ 12 < v.length by rw [HL.out]; exact h12)]; rfl)
    clear HTR
    go_wp2_with fail
    clear d12
    have hbw := HT.out.below
    (with_reducible refine (HN0.out _ hbw).mono ?_)
    rintro e w1 ⟨rfl, rfl⟩
    have k4 := HT.out.2.c4
    have f4 := HT.out.2.frozen 4
    go_upto_region 11 with fail
    have hT := HT.out.set 4 (.int .u32 (z0 : Int))
    rw [cv_tsn] at hT
    obtain ⟨c1, hcc1⟩ : ∃ c : Ck, c = { c0 with tsn := z0 } := ⟨_, rfl⟩
    rw [← hcc1] at hT
    have HEc1 := Lib.hid hcc1
    clear hcc1
    have HT' := Lib.hid hT
    clear hT hbw k4 f4 HT
    generalize World.setCell _ _ _ = W2 at HT' ⊢
    have HT := HT'
    clear HT'
    go_wp2_with fail
    have hbw := HT.out.below
    (with_reducible refine (HN4.out _ hbw).mono ?_)
    rintro e w1 ⟨rfl, rfl⟩
    have k7 := HT.out.2.c7
    have f7 := HT.out.2.frozen 7
    go_upto_region 12 with fail
    have hT := HT.out.set 7 (.int .u16 (z4 : Int))
    rw [cv_sid] at hT
    obtain ⟨c2, hcc2⟩ : ∃ c : Ck, c = { c1 with sid := z4 } := ⟨_, rfl⟩
    rw [← hcc2] at hT
    have HEc2 := Lib.hid hcc2
    clear hcc2
    have HT' := Lib.hid hT
    clear hT hbw k7 f7 HT
    generalize World.setCell _ _ _ = W3 at HT' ⊢
    have HT := HT'
    clear HT'
    go_wp2_with fail
    have hbw := HT.out.below
    (with_reducible refine (HN6.out _ hbw).mono ?_)
    rintro e w1 ⟨rfl, rfl⟩
    have k8 := HT.out.2.c8
    have f8 := HT.out.2.frozen 8
    go_upto_region 13 with fail
    have hT := HT.out.set 8 (.int .u16 (z6 : Int))
    rw [cv_ssn] at hT
    obtain ⟨c3, hcc3⟩ : ∃ c : Ck, c = { c2 with ssn := z6 } := ⟨_, rfl⟩
    rw [← hcc3] at hT
    have HEc3 := Lib.hid hcc3
    clear hcc3
    have HT' := Lib.hid hT
    clear hT hbw k8 f8 HT
    generalize World.setCell _ _ _ = W4 at HT' ⊢
    have HT := HT'
    clear HT'
    go_wp2_with fail
    have hbw := HT.out.below
    (with_reducible refine (HN8.out _ hbw).mono ?_)
    rintro e w1 ⟨rfl, rfl⟩
    have k9 := HT.out.2.c9
    have f9 := HT.out.2.frozen 9
    go_upto_region 14 with fail
    have hT := HT.out.set 9 (.int .u32 (z8 : Int))
    rw [cv_ppid] at hT
    obtain ⟨c4, hcc4⟩ : ∃ c : Ck, c = { c3 with ppid := z8 } := ⟨_, rfl⟩
    rw [← hcc4] at hT
    have HEc4 := Lib.hid hcc4
    clear hcc4
    have HT' := Lib.hid hT
    clear hT hbw k9 f9 HT
    generalize World.setCell _ _ _ = W5 at HT' ⊢
    have HT := HT'
    clear HT'
    go_upto_region 43 with fail
    go_wp2_with ((refine wpList_store_row rfl 32 (.tmp 2) (.tmp 145) rfl (w.heap.size + 1) zlit rfl rfl 32 zlit HT.out.1.2.1 HI.out rfl HO.out ?_))
    have hT9 := HT.out.row zlit
    generalize World.setRow _ _ _ = W9 at hT9 ⊢
    have hz : Bk W9 (w.heap.size + 1) (cv zero nol) 32 := hT9.1.2.1
    refine bodyPost_ret (v := .tuple #[.agg (cv zero nol), .int .i64 50]) (by simp [results, Try.results13, go_sem, hz.c0, hz.c1, hz.c2, hz.c3, hz.c4, hz.c5, hz.c6, hz.c7, hz.c8, hz.c9, hz.c10, hz.c11, hz.c12, hz.c13, hz.c14, cv]) rfl (rt_none HTK.out hT9)
end Go.Proofs.Ytbliipjiilmbcaa
