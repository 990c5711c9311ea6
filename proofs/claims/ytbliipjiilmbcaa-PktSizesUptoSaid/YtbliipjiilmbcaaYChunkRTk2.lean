/-
  The document's Take of a side.
-/
import Derived.Test.YtbliipjiilmbcaaYChunkRTk3
import Derived.Test.YtbliipjiilmbcaaYChunkRPm
set_option linter.unusedVariables false
set_option linter.unusedSimpArgs false
namespace Go.Proofs.Ytbliipjiilmbcaa
open Go.RowKit Wire Tlv Chunk Go.Shelf

set_option maxRecDepth 100000 in
set_option maxHeartbeats 4000000 in
theorem rTake2 (k f : Nat) (v : List Int) (A : Option Addr) (n cp : Nat) (w : World) (hx : (⟨k, f, v⟩ : Tv).ok) (hk : k = 2) (hl : v.length = n) (hn : n ≤ 65531) (hle : n ≤ cp) (hcm : cp ≤ maxLen) (hr : Row w A (bs v)) :
    Calls Try.prog 13 #[.agg #[.int .u16 (k : Int), .int .u8 (f : Int), .slice A n cp]] w (TakeOut w (take ⟨k, f, v⟩)) := by
  have d0 : ((k : Int) == 0) = false := by simp; omega
  have d1 : ((k : Int) == 1) = false := by simp; omega
  have d2 : ((k : Int) == 2) = true := by simp; omega
  have d3 : ((k : Int) == 3) = false := by simp; omega
  have d6 : ((k : Int) == 6) = false := by simp; omega
  have d9 : ((k : Int) == 9) = false := by simp; omega
  have d7 : ((k : Int) == 7) = false := by simp; omega
  have d8 : ((k : Int) == 8) = false := by simp; omega
  have d11 : ((k : Int) == 11) = false := by simp; omega
  have d14 : ((k : Int) == 14) = false := by simp; omega
  have hk2 : k ≤ 255 := by omega
  have HTR := Lib.hid ((take_mayO (x := ⟨k, f, v⟩) hk2).trans (by rw [raw_side (show (⟨k, f, v⟩ : Tv).k = 1 ∨ (⟨k, f, v⟩ : Tv).k = 2 by show k = 1 ∨ k = 2; omega)]))
  have HBO := Lib.hid (bare_ok hx hk2)
  have HL := Lib.hid hl
  have HX := Lib.hid hx.2.2
  have HR := Lib.hid hr
  have HCO : ∀ c : Ck, ∀ s : Ls, (cv c s).all (·.oneCell') = true := cv_one
  have HCOA := Lib.hid HCO
  have HCI : ∀ c : Ck, ∀ s : Ls, (Try.prog.info? 32).map (·.size) = some (cv c s).size := cv_info
  have HCIA := Lib.hid HCI
  clear HCO HCI hk2
  have HN0 : Hid (∀ W, Below w.heap.size w W → Calls Try.prog 35 #[.slice A n cp, .int .i64 0, .int .i64 4] W fun e w' => e = .returned (.int .u32 (nn v 0 4 : Nat)) ∧ W = w') := Lib.hid fun W hW => rn_any A n cp v 0 4 W hl hle (by omega) hx.2.2 (hr.below hW) (by omega) (by omega)
  have hb0 : nn v 0 4 < 4294967296 := nn_lt4 hx.2.2 0
  obtain ⟨z0, hz0⟩ : ∃ z, nn v 0 4 = z := ⟨_, rfl⟩
  have HE0 := Lib.hid hz0
  rw [hz0] at HN0 hb0
  have HB0 := Lib.hid hb0
  clear hz0 hb0
  have HN4 : Hid (∀ W, Below w.heap.size w W → Calls Try.prog 35 #[.slice A n cp, .int .i64 4, .int .i64 4] W fun e w' => e = .returned (.int .u32 (nn v 4 4 : Nat)) ∧ W = w') := Lib.hid fun W hW => rn_any A n cp v 4 4 W hl hle (by omega) hx.2.2 (hr.below hW) (by omega) (by omega)
  have hb4 : nn v 4 4 < 4294967296 := nn_lt4 hx.2.2 4
  obtain ⟨z4, hz4⟩ : ∃ z, nn v 4 4 = z := ⟨_, rfl⟩
  have HE4 := Lib.hid hz4
  rw [hz4] at HN4 hb4
  have HB4 := Lib.hid hb4
  clear hz4 hb4
  have HN8 : Hid (∀ W, Below w.heap.size w W → Calls Try.prog 35 #[.slice A n cp, .int .i64 8, .int .i64 2] W fun e w' => e = .returned (.int .u32 (nn v 8 2 : Nat)) ∧ W = w') := Lib.hid fun W hW => rn_any A n cp v 8 2 W hl hle (by omega) hx.2.2 (hr.below hW) (by omega) (by omega)
  have hb8 : nn v 8 2 < 65536 := nn_lt2 hx.2.2 8
  obtain ⟨z8, hz8⟩ : ∃ z, nn v 8 2 = z := ⟨_, rfl⟩
  have HE8 := Lib.hid hz8
  rw [hz8] at HN8 hb8
  have wz8 : IntKind.u16.wrap (z8 : Int) = (z8 : Int) := by rw [IntKind.wrap_u16]; omega
  have HB8 := Lib.hid hb8
  clear hz8 hb8
  have HN10 : Hid (∀ W, Below w.heap.size w W → Calls Try.prog 35 #[.slice A n cp, .int .i64 10, .int .i64 2] W fun e w' => e = .returned (.int .u32 (nn v 10 2 : Nat)) ∧ W = w') := Lib.hid fun W hW => rn_any A n cp v 10 2 W hl hle (by omega) hx.2.2 (hr.below hW) (by omega) (by omega)
  have hb10 : nn v 10 2 < 65536 := nn_lt2 hx.2.2 10
  obtain ⟨z10, hz10⟩ : ∃ z, nn v 10 2 = z := ⟨_, rfl⟩
  have HE10 := Lib.hid hz10
  rw [hz10] at HN10 hb10
  have wz10 : IntKind.u16.wrap (z10 : Int) = (z10 : Int) := by rw [IntKind.wrap_u16]; omega
  have HB10 := Lib.hid hb10
  clear hz10 hb10
  have HN12 : Hid (∀ W, Below w.heap.size w W → Calls Try.prog 35 #[.slice A n cp, .int .i64 12, .int .i64 4] W fun e w' => e = .returned (.int .u32 (nn v 12 4 : Nat)) ∧ W = w') := Lib.hid fun W hW => rn_any A n cp v 12 4 W hl hle (by omega) hx.2.2 (hr.below hW) (by omega) (by omega)
  have hb12 : nn v 12 4 < 4294967296 := nn_lt4 hx.2.2 12
  obtain ⟨z12, hz12⟩ : ∃ z, nn v 12 4 = z := ⟨_, rfl⟩
  have HE12 := Lib.hid hz12
  rw [hz12] at HN12 hb12
  have HB12 := Lib.hid hb12
  clear hz12 hb12
  have HA : Hid (16 ≤ n → ∃ a, A = some a) := Lib.hid fun h => by
    have h0 : (bs v)[0]? = some ((bs v)[0]'(by simp [bs]; omega)) := List.getElem?_eq_getElem _
    obtain ⟨a, ha, _⟩ := hr 0 _ h0
    exact ⟨a, ha⟩
  have HT : Hid (RT w #[.int .u16 (k : Int), .int .u8 (f : Int), .slice A n cp] zlit (cv (bare ⟨k, f, v⟩) nol) _) := Lib.hid (RT.new w #[.int .u16 (k : Int), .int .u8 (f : Int), .slice A n cp] k f v)
  have HI := Lib.hid zlit_info
  have HO := Lib.hid zlit_one
  have wk : IntKind.u8.wrap (k : Int) = (k : Int) := by rw [IntKind.wrap_u8]; omega
  have dbig : decide ((255 : Int) < (k : Int)) = false := by simp; omega
  clear hl hr hx hk
  go_enter Try.func13, Try.ntmps13
  go_upto_region 4 with fail
  generalize World.alloc (World.alloc (World.alloc w _) _) _ = W1 at HT ⊢
  clear dbig wk
  have g2 := HT.out.1.1.cell 2
  simp at g2
  have k0 : W1.cell? ⟨w.heap.size + 1 + 1, 0, none⟩ = some (.int .u8 (k : Int)) := HT.out.2.c0
  obtain ⟨c0, hc0⟩ : ∃ c : Ck, c = bare ⟨k, f, v⟩ := ⟨_, rfl⟩
  rw [← hc0] at HT
  have HEc0 := Lib.hid hc0
  clear hc0
  by_cases h16 : 16 ≤ n
  · have d16 : decide ((16 : Int) ≤ (n : Int)) = true := by simp; omega
    go_wp2_with fail
    clear d16
    have hbw := HT.out.below
    (with_reducible refine (HN0.out _ hbw).mono ?_)
    rintro e w1 ⟨rfl, rfl⟩
    have k2 := HT.out.2.c2
    have f2 := HT.out.2.frozen 2
    go_upto_region 20 with fail
    have hT := HT.out.set 2 (.int .u32 (z0 : Int))
    rw [cv_tag] at hT
    obtain ⟨c1, hcc1⟩ : ∃ c : Ck, c = { c0 with tag := z0 } := ⟨_, rfl⟩
    rw [← hcc1] at hT
    have HEc1 := Lib.hid hcc1
    clear hcc1
    have HT' := Lib.hid hT
    clear hT hbw k2 f2 HT
    generalize World.setCell _ _ _ = W2 at HT' ⊢
    have HT := HT'
    clear HT'
    go_wp2_with fail
    have hbw := HT.out.below
    (with_reducible refine (HN4.out _ hbw).mono ?_)
    rintro e w1 ⟨rfl, rfl⟩
    have k3 := HT.out.2.c3
    have f3 := HT.out.2.frozen 3
    go_upto_region 21 with fail
    have hT := HT.out.set 3 (.int .u32 (z4 : Int))
    rw [cv_rw] at hT
    obtain ⟨c2, hcc2⟩ : ∃ c : Ck, c = { c1 with rw := z4 } := ⟨_, rfl⟩
    rw [← hcc2] at hT
    have HEc2 := Lib.hid hcc2
    clear hcc2
    have HT' := Lib.hid hT
    clear hT hbw k3 f3 HT
    generalize World.setCell _ _ _ = W3 at HT' ⊢
    have HT := HT'
    clear HT'
    go_wp2_with fail
    have hbw := HT.out.below
    (with_reducible refine (HN8.out _ hbw).mono ?_)
    rintro e w1 ⟨rfl, rfl⟩
    have k5 := HT.out.2.c5
    have f5 := HT.out.2.frozen 5
    go_upto_region 22 with fail
    have hT := HT.out.set 5 (.int .u16 (z8 : Int))
    rw [cv_out] at hT
    obtain ⟨c3, hcc3⟩ : ∃ c : Ck, c = { c2 with out := z8 } := ⟨_, rfl⟩
    rw [← hcc3] at hT
    have HEc3 := Lib.hid hcc3
    clear hcc3
    have HT' := Lib.hid hT
    clear hT hbw k5 f5 HT
    generalize World.setCell _ _ _ = W4 at HT' ⊢
    have HT := HT'
    clear HT'
    go_wp2_with fail
    have hbw := HT.out.below
    (with_reducible refine (HN10.out _ hbw).mono ?_)
    rintro e w1 ⟨rfl, rfl⟩
    have k6 := HT.out.2.c6
    have f6 := HT.out.2.frozen 6
    go_upto_region 23 with fail
    have hT := HT.out.set 6 (.int .u16 (z10 : Int))
    rw [cv_inn] at hT
    obtain ⟨c4, hcc4⟩ : ∃ c : Ck, c = { c3 with inn := z10 } := ⟨_, rfl⟩
    rw [← hcc4] at hT
    have HEc4 := Lib.hid hcc4
    clear hcc4
    have HT' := Lib.hid hT
    clear hT hbw k6 f6 HT
    generalize World.setCell _ _ _ = W5 at HT' ⊢
    have HT := HT'
    clear HT'
    go_wp2_with fail
    have hbw := HT.out.below
    (with_reducible refine (HN12.out _ hbw).mono ?_)
    rintro e w1 ⟨rfl, rfl⟩
    have k4 := HT.out.2.c4
    have f4 := HT.out.2.frozen 4
    go_upto_region 24 with fail
    have hT := HT.out.set 4 (.int .u32 (z12 : Int))
    rw [cv_tsn] at hT
    obtain ⟨c5, hcc5⟩ : ∃ c : Ck, c = { c4 with tsn := z12 } := ⟨_, rfl⟩
    rw [← hcc5] at hT
    have HEc5 := Lib.hid hcc5
    clear hcc5
    have HT' := Lib.hid hT
    clear hT hbw k4 f4 HT
    generalize World.setCell _ _ _ = W6 at HT' ⊢
    have HT := HT'
    clear HT'
    obtain ⟨a, rfl⟩ := HA.out h16
    have q4 : ∀ W, (Instr.slice 23 (.slice (some a) n cp) (some (.int .i64 16)) none none).run Try.prog W = .ok (.slice (cutA (some a) cp 16) (n - 16) (cp - 16)) W := fun W => run_cut_l (P := Try.prog) Try.underlying23 sz8 (k := .i64) (some a) n cp 16 (by omega) W
    obtain ⟨ad, had⟩ : ∃ ad, cutA (some a) cp 16 = some ad := by unfold cutA; split <;> exact ⟨_, rfl⟩
    rw [had] at q4
    have hr4 : Row W6 (some ad) (bs (v.drop 16)) := by
      have := (HR.out.below HT.out.below).cut (c := cp) (lo := 16) (hi := n) hle
      rw [had] at this
      rwa [List.take_of_length_le (by rw [bs_len, HL.out]; exact Nat.le_refl _), show (bs v).drop 16 = bs (v.drop 16) by simp [bs]] at this
    have hce : c5 = { bare ⟨k, f, v⟩ with tag := z0, rw := z4, out := z8, inn := z10, tsn := z12 } := by rw [HEc5.out, HEc4.out, HEc3.out, HEc2.out, HEc1.out, HEc0.out]
    have hok5 : c5.ok := by rw [hce]; exact { HBO.out with tag := HB0.out, rw := HB4.out, out := HB8.out, inn := HB10.out, tsn := HB12.out }
    have hn5 : c5.ad = [] ∧ c5.da = [] ∧ c5.ga = [] ∧ c5.du = [] ∧ c5.ca = [] := by rw [hce]; exact ⟨rfl, rfl, rfl, rfl, rfl⟩
    obtain ⟨R, hR⟩ : ∃ R, R = prr c5 (ev false (v.drop 16)) := ⟨_, rfl⟩
    have HTK0 : Hid (take ⟨k, f, v⟩ = R.bind mayO) := Lib.hid (by
      rw [HTR.out, if_pos (show 16 ≤ v.length by rw [HL.out]; exact h16), hR, hce, ← HE0.out, ← HE4.out, ← HE8.out, ← HE10.out, ← HE12.out])
    have HPM : Hid (∀ W, Below W6.heap.size W6 W → Calls Try.prog 36 #[.agg (cv c5 nol), .slice (some ad) (n - 16) (cp - 16)] W (PmOut W R)) := Lib.hid fun W hW => by
      rw [hR]
      exact rparams_any c5 (v.drop 16) (some ad) (n - 16) (cp - 16) W hok5 hn5 (Byt.drop HX.out 16) (by rw [List.length_drop, HL.out]) (by omega) (by omega) (by omega) (hr4.below hW)
    have hsz : w.heap.size + 1 + 1 + 1 ≤ W6.heap.size := by have := HT.out.2.lt; omega
    have HTD : Hid (RT w _ zlit (cv c5 nol) W6.drew) := Lib.hid (HT.out.next (Below.refl _ _).drew)
    have hbd : Below W6.heap.size W6 W6.drew := (Below.refl _ _).drew
    clear had hr4 hce hok5 hn5 hR HTR HT k0 g2 h16
    go_upto_region 25 with fail
    refine wp_region_held_drew (S := (fun _ => True)) (by kernel_rfl) (trivial) (fun hHeld => ?_)
    refine wpAnyH_take (i := 1) (v := ?_) rfl (by kernel_rfl) (by kernel_rfl) (by kernel_rfl) (fun _ _ _ h => h) (Or.inl ⟨by rfl, ?_⟩) (by first | assumption | trivial) ?_
    rotate_left 1
    · (intro w9 hSw; go_simp; try (with_reducible rfl))
    try simp only [Act.put, List.setIfInBounds_toArray, List.set_cons_zero, List.set_cons_succ, List.getElem_toArray, List.getElem_cons_zero, List.getElem_cons_succ]
    refine wpAnyH_take (i := 2) (v := ?_) rfl (by kernel_rfl) (by kernel_rfl) (by kernel_rfl) (fun _ _ _ h => h) (Or.inl ⟨by rfl, ?_⟩) (by first | assumption | trivial) ?_
    rotate_left 1
    · (intro w9 hSw; go_simp; try (with_reducible rfl))
    try simp only [Act.put, List.setIfInBounds_toArray, List.set_cons_zero, List.set_cons_succ, List.getElem_toArray, List.getElem_cons_zero, List.getElem_cons_succ]
    refine wpAnyH_ready (rs := [0]) (by kernel_rfl) (by simp) ?_
    refine AllReadyH.cons rfl (fun K hK => ?_) AllReadyH.nil
    refine wp_load_row 32 (.tmp 4) rfl (w.heap.size + 1 + 1) rfl 32 (cv c5 nol) (0, 0) _ HTD.out.2 Try.underlying32 rfl (HCIA.out _ _) ?_
    refine hK.out _ _ (hHeld) (fun hHeld => ?_)
    clear hK K
    try simp only [Act.put, List.setIfInBounds_toArray, List.set_cons_zero, List.set_cons_succ, List.getElem_toArray, List.getElem_cons_zero, List.getElem_cons_succ]
    refine wpAnyH_ready (rs := [3]) (by kernel_rfl) (by simp) ?_
    refine AllReadyH.cons rfl (fun K hK => ?_) AllReadyH.nil
    go_simp
    go_at_call 36
    (with_reducible refine (HPM.out _ hbd).mono ?_)
    rintro e W2 ⟨c', s', rfl, hb2, hok⟩
    have HT2 := Lib.hid (HTD.out.next hb2)
    refine hK.out _ _ (hHeld) (fun hHeld => ?_)
    clear hK K
    try simp only [Act.put, List.setIfInBounds_toArray, List.set_cons_zero, List.set_cons_succ, List.getElem_toArray, List.getElem_cons_zero, List.getElem_cons_succ]
    refine wpAnyH_take (i := 4) (v := ?_) rfl (by kernel_rfl) (by kernel_rfl) (by kernel_rfl) (fun _ _ _ h => h) (Or.inl ⟨by rfl, ?_⟩) (by first | assumption | trivial) ?_
    rotate_left 1
    · (intro w9 hSw; go_simp; try (with_reducible rfl))
    try simp only [Act.put, List.setIfInBounds_toArray, List.set_cons_zero, List.set_cons_succ, List.getElem_toArray, List.getElem_cons_zero, List.getElem_cons_succ]
    refine wpAnyH_take (i := 5) (v := ?_) rfl (by kernel_rfl) (by kernel_rfl) (by kernel_rfl) (fun _ _ _ h => h) (Or.inl ⟨by rfl, ?_⟩) (by first | assumption | trivial) ?_
    rotate_left 1
    · (intro w9 hSw; go_simp; try (with_reducible rfl))
    try simp only [Act.put, List.setIfInBounds_toArray, List.set_cons_zero, List.set_cons_succ, List.getElem_toArray, List.getElem_cons_zero, List.getElem_cons_succ]
    refine wpAnyH_take (i := 6) (v := ?_) rfl (by kernel_rfl) (by kernel_rfl) (by kernel_rfl) (fun _ _ _ h => h) (Or.inl ⟨by rfl, ?_⟩) (by first | assumption | trivial) ?_
    rotate_left 1
    · (intro w9 hSw; go_simp; try (with_reducible rfl))
    try simp only [Act.put, List.setIfInBounds_toArray, List.set_cons_zero, List.set_cons_succ, List.getElem_toArray, List.getElem_cons_zero, List.getElem_cons_succ]
    refine wpAnyH_ready (rs := [7]) (by kernel_rfl) (by simp) ?_
    refine AllReadyH.cons rfl (fun K hK => ?_) AllReadyH.nil
    refine wp_store_row 32 (.tmp 4) (.tmp 82) rfl (w.heap.size + 1 + 1) (cv c' s') rfl rfl 32 (cv c5 nol) HT2.out.2 (HCIA.out _ _) (cv_size _ _).symm (HCOA.out _ _) ?_
    refine hK.out _ _ (hHeld) (fun hHeld => ?_)
    clear hK K
    try simp only [Act.put, List.setIfInBounds_toArray, List.set_cons_zero, List.set_cons_succ, List.getElem_toArray, List.getElem_cons_zero, List.getElem_cons_succ]
    refine wpAnyH_take (i := 8) (v := ?_) rfl (by kernel_rfl) (by kernel_rfl) (by kernel_rfl) (fun _ _ _ h => h) (Or.inl ⟨by rfl, ?_⟩) (by first | assumption | trivial) ?_
    rotate_left 1
    · (intro w9 hSw; go_simp; try (with_reducible rfl))
    try simp only [Act.put, List.setIfInBounds_toArray, List.set_cons_zero, List.set_cons_succ, List.getElem_toArray, List.getElem_cons_zero, List.getElem_cons_succ]
    refine wpAnyH_done (by kernel_rfl) ?_ _
    have hT3 := HT2.out.rowY (cv c' s')
    have hok3 : ∀ d, R = some d → c' = d ∧ ChF (w.heap.size + 1 + 1 + 1) (W2.setRow (w.heap.size + 1 + 1) (cv c' s')) d s' := fun d h => ⟨(hok d h).1, ((hok d h).2.lower (by simpa using hsz)).rowF (by omega) _⟩
    clear HTD HT2 hb2 hok hsz hbd
    generalize World.setRow _ _ _ = W3 at hT3 hok3 ⊢
    have HT := Lib.hid hT3
    clear hT3
    cases R with
    | none =>
      have HTK : Hid (take ⟨k, f, v⟩ = none) := Lib.hid (by rw [HTK0.out]; rfl)
      clear hok3 HTK0 HPM
      go_upto_region 43 with fail
      go_wp2_with ((refine wpList_store_row rfl 32 (.tmp 2) (.tmp 145) rfl (w.heap.size + 1) zlit rfl rfl 32 zlit HT.out.1.2.1 HI.out rfl HO.out ?_))
      have hT9 := HT.out.row zlit
      generalize World.setRow _ _ _ = W9 at hT9 ⊢
      have hz : Bk W9 (w.heap.size + 1) (cv zero nol) 32 := hT9.1.2.1
      refine bodyPost_ret (v := .tuple #[.agg (cv zero nol), .int .i64 50]) (by simp [results, Try.results13, go_sem, hz.c0, hz.c1, hz.c2, hz.c3, hz.c4, hz.c5, hz.c6, hz.c7, hz.c8, hz.c9, hz.c10, hz.c11, hz.c12, hz.c13, hz.c14, cv]) rfl (rt_none HTK.out hT9)
    | some d =>
      have HTK : Hid (take ⟨k, f, v⟩ = mayO d) := Lib.hid (by rw [HTK0.out]; rfl)
      obtain ⟨rfl, hcf⟩ := hok3 d rfl
      have HC := Lib.hid hcf
      clear hok3 hcf HTK0 HPM
      go_upto_region 43 with fail
      obtain ⟨c, hc⟩ : ∃ c : Ck, c = c' := ⟨_, rfl⟩
      obtain ⟨s, hs⟩ : ∃ s : Ls, s = s' := ⟨_, rfl⟩
      rw [← hc] at HT HC HTK
      rw [← hs] at HT HC
      clear hc hs
      have HCI2 := Lib.hid (cvl_info c s)
      have HCI := Lib.hid (cv_info c s)
      have HCO := Lib.hid (cv_one c s)
      have HM := Lib.hid (rfMayL c s _ HC.out.ch)
      have t0 := HT.out.2.c0
      have t1 := HT.out.2.c1
      have t2 := HT.out.2.c2
      have t3 := HT.out.2.c3
      have t4 := HT.out.2.c4
      have t5 := HT.out.2.c5
      have t6 := HT.out.2.c6
      have t7 := HT.out.2.c7
      have t8 := HT.out.2.c8
      have t9 := HT.out.2.c9
      have t10 := HT.out.2.c10
      have t11 := HT.out.2.c11
      have t12 := HT.out.2.c12
      have t13 := HT.out.2.c13
      have t14 := HT.out.2.c14
      by_cases hm : may c
      · rw [mayB_true hm] at HM
        have HTK2 := Lib.hid (HTK.out.trans (mayO_yes hm))
        clear hm HTK
        go_wp2_with fail
        (with_reducible refine HM.out.mono ?_)
        rintro e W8 ⟨rfl, hb8⟩
        have HT8 := Lib.hid (HT.out.next hb8)
        have HC8 := Lib.hid (HC.out.next hb8)
        clear hb8 t0 t1 t2 t3 t4 t5 t6 t7 t8 t9 t10 t11 t12 t13 t14
        go_wp2_with (first
          | (refine wpList_load_row rfl 32 (.tmp 4) rfl (w.heap.size + 1 + 1) rfl 32 (cv c s) (0, 0) _ HT8.out.2 Try.underlying32 rfl HCI.out ?_)
          | (refine wpList_store_row rfl 32 (.tmp 2) (.tmp 146) rfl (w.heap.size + 1) (cv c s) rfl rfl 32 zlit HT8.out.1.2.1 HCI.out (cv_size _ _).symm HCO.out ?_))
        have hT9 := HT8.out.row (cv c s)
        have hC9 := HC8.out.rowF (g := w.heap.size + 1) (by omega) (cv c s)
        generalize World.setRow W8 _ _ = W9 at hT9 hC9 ⊢
        have hz := hT9.1.2.1
        refine bodyPost_ret (v := .tuple #[.agg (cv c s), .int .i64 0]) (by simp [results, Try.results13, go_sem, hz.c0, hz.c1, hz.c2, hz.c3, hz.c4, hz.c5, hz.c6, hz.c7, hz.c8, hz.c9, hz.c10, hz.c11, hz.c12, hz.c13, hz.c14, cv]) rfl (rt_some HTK2.out hT9 hC9)
      · rw [mayB_false hm] at HM
        have HTK2 := Lib.hid (HTK.out.trans (mayO_no hm))
        clear hm HTK
        have HTK := HTK2
        go_wp2_with fail
        (with_reducible refine HM.out.mono ?_)
        rintro e W8 ⟨rfl, hb8⟩
        have HT8 := Lib.hid (HT.out.next hb8)
        clear hb8 t0 t1 t2 t3 t4 t5 t6 t7 t8 t9 t10 t11 t12 t13 t14
        go_wp2_with ((refine wpList_store_row rfl 32 (.tmp 2) (.tmp 145) rfl (w.heap.size + 1) zlit rfl rfl 32 zlit HT8.out.1.2.1 HI.out rfl HO.out ?_))
        have hT9 := HT8.out.row zlit
        generalize World.setRow _ _ _ = W9 at hT9 ⊢
        have hz : Bk W9 (w.heap.size + 1) (cv zero nol) 32 := hT9.1.2.1
        refine bodyPost_ret (v := .tuple #[.agg (cv zero nol), .int .i64 50]) (by simp [results, Try.results13, go_sem, hz.c0, hz.c1, hz.c2, hz.c3, hz.c4, hz.c5, hz.c6, hz.c7, hz.c8, hz.c9, hz.c10, hz.c11, hz.c12, hz.c13, hz.c14, cv]) rfl (rt_none HTK.out hT9)
  · have d16 : decide ((16 : Int) ≤ (n : Int)) = false := by simp; omega
    have HTK : Hid (take ⟨k, f, v⟩ = none) := Lib.hid (by rw [HTR.out, if_neg (show ¬ 16 ≤ v.length by rw [HL.out]; exact h16)]; rfl)
    clear HTR
    go_wp2_with fail
    clear d16
    have hbw := HT.out.below
    (with_reducible refine (HN0.out _ hbw).mono ?_)
    rintro e w1 ⟨rfl, rfl⟩
    have k2 := HT.out.2.c2
    have f2 := HT.out.2.frozen 2
    go_upto_region 20 with fail
    have hT := HT.out.set 2 (.int .u32 (z0 : Int))
    rw [cv_tag] at hT
    obtain ⟨c1, hcc1⟩ : ∃ c : Ck, c = { c0 with tag := z0 } := ⟨_, rfl⟩
    rw [← hcc1] at hT
    have HEc1 := Lib.hid hcc1
    clear hcc1
    have HT' := Lib.hid hT
    clear hT hbw k2 f2 HT
    generalize World.setCell _ _ _ = W2 at HT' ⊢
    have HT := HT'
    clear HT'
    go_wp2_with fail
    have hbw := HT.out.below
    (with_reducible refine (HN4.out _ hbw).mono ?_)
    rintro e w1 ⟨rfl, rfl⟩
    have k3 := HT.out.2.c3
    have f3 := HT.out.2.frozen 3
    go_upto_region 21 with fail
    have hT := HT.out.set 3 (.int .u32 (z4 : Int))
    rw [cv_rw] at hT
    obtain ⟨c2, hcc2⟩ : ∃ c : Ck, c = { c1 with rw := z4 } := ⟨_, rfl⟩
    rw [← hcc2] at hT
    have HEc2 := Lib.hid hcc2
    clear hcc2
    have HT' := Lib.hid hT
    clear hT hbw k3 f3 HT
    generalize World.setCell _ _ _ = W3 at HT' ⊢
    have HT := HT'
    clear HT'
    go_wp2_with fail
    have hbw := HT.out.below
    (with_reducible refine (HN8.out _ hbw).mono ?_)
    rintro e w1 ⟨rfl, rfl⟩
    have k5 := HT.out.2.c5
    have f5 := HT.out.2.frozen 5
    go_upto_region 22 with fail
    have hT := HT.out.set 5 (.int .u16 (z8 : Int))
    rw [cv_out] at hT
    obtain ⟨c3, hcc3⟩ : ∃ c : Ck, c = { c2 with out := z8 } := ⟨_, rfl⟩
    rw [← hcc3] at hT
    have HEc3 := Lib.hid hcc3
    clear hcc3
    have HT' := Lib.hid hT
    clear hT hbw k5 f5 HT
    generalize World.setCell _ _ _ = W4 at HT' ⊢
    have HT := HT'
    clear HT'
    go_wp2_with fail
    have hbw := HT.out.below
    (with_reducible refine (HN10.out _ hbw).mono ?_)
    rintro e w1 ⟨rfl, rfl⟩
    have k6 := HT.out.2.c6
    have f6 := HT.out.2.frozen 6
    go_upto_region 23 with fail
    have hT := HT.out.set 6 (.int .u16 (z10 : Int))
    rw [cv_inn] at hT
    obtain ⟨c4, hcc4⟩ : ∃ c : Ck, c = { c3 with inn := z10 } := ⟨_, rfl⟩
    rw [← hcc4] at hT
    have HEc4 := Lib.hid hcc4
    clear hcc4
    have HT' := Lib.hid hT
    clear hT hbw k6 f6 HT
    generalize World.setCell _ _ _ = W5 at HT' ⊢
    have HT := HT'
    clear HT'
    go_wp2_with fail
    have hbw := HT.out.below
    (with_reducible refine (HN12.out _ hbw).mono ?_)
    rintro e w1 ⟨rfl, rfl⟩
    have k4 := HT.out.2.c4
    have f4 := HT.out.2.frozen 4
    go_upto_region 24 with fail
    have hT := HT.out.set 4 (.int .u32 (z12 : Int))
    rw [cv_tsn] at hT
    obtain ⟨c5, hcc5⟩ : ∃ c : Ck, c = { c4 with tsn := z12 } := ⟨_, rfl⟩
    rw [← hcc5] at hT
    have HEc5 := Lib.hid hcc5
    clear hcc5
    have HT' := Lib.hid hT
    clear hT hbw k4 f4 HT
    generalize World.setCell _ _ _ = W6 at HT' ⊢
    have HT := HT'
    clear HT'
    go_upto_region 43 with fail
    go_wp2_with ((refine wpList_store_row rfl 32 (.tmp 2) (.tmp 145) rfl (w.heap.size + 1) zlit rfl rfl 32 zlit HT.out.1.2.1 HI.out rfl HO.out ?_))
    have hT9 := HT.out.row zlit
    generalize World.setRow _ _ _ = W9 at hT9 ⊢
    have hz : Bk W9 (w.heap.size + 1) (cv zero nol) 32 := hT9.1.2.1
    refine bodyPost_ret (v := .tuple #[.agg (cv zero nol), .int .i64 50]) (by simp [results, Try.results13, go_sem, hz.c0, hz.c1, hz.c2, hz.c3, hz.c4, hz.c5, hz.c6, hz.c7, hz.c8, hz.c9, hz.c10, hz.c11, hz.c12, hz.c13, hz.c14, cv]) rfl (rt_none HTK.out hT9)
end Go.Proofs.Ytbliipjiilmbcaa
