/-
  The document's Take.
-/
import Derived.Test.YtbliipjiilmbcaaYP1d
set_option linter.unusedVariables false
set_option linter.unusedSimpArgs false
namespace Go.Proofs.Ytbliipjiilmbcaa
open Go.RowKit Wire Tlv Chunk Go.Shelf

set_option maxRecDepth 100000 in
set_option maxHeartbeats 4000000 in
theorem rTake14 (k f : Nat) (v : List Int) (A : Option Addr) (n cp : Nat) (w : World) (hx : (⟨k, f, v⟩ : Tv).ok) (hk : k = 14) (hl : v.length = n) (hn : n ≤ 65531) (hle : n ≤ cp) (hcm : cp ≤ maxLen) (hr : Row w A (bs v)) :
    Calls Try.prog 13 #[.agg #[.int .u16 (k : Int), .int .u8 (f : Int), .slice A n cp]] w (TakeOut w (take ⟨k, f, v⟩)) := by
  have d0 : ((k : Int) == 0) = false := by simp; omega
  have d1 : ((k : Int) == 1) = false := by simp; omega
  have d2 : ((k : Int) == 2) = false := by simp; omega
  have d3 : ((k : Int) == 3) = false := by simp; omega
  have d6 : ((k : Int) == 6) = false := by simp; omega
  have d9 : ((k : Int) == 9) = false := by simp; omega
  have d7 : ((k : Int) == 7) = false := by simp; omega
  have d8 : ((k : Int) == 8) = false := by simp; omega
  have d11 : ((k : Int) == 11) = false := by simp; omega
  have d14 : ((k : Int) == 14) = true := by simp; omega
  have HTR := Lib.hid ((take_mayO (x := ⟨k, f, v⟩) (by show k ≤ 255; omega)).trans (by rw [raw_none (show k = 8 ∨ k = 11 ∨ k = 14 by omega)]))
  have HBO := Lib.hid (bare_ok hx (by show k ≤ 255; omega))
  have HL := Lib.hid hl
  have HT : Hid (RT w #[.int .u16 (k : Int), .int .u8 (f : Int), .slice A n cp] zlit (cv (bare ⟨k, f, v⟩) nol) _) := Lib.hid (RT.new w #[.int .u16 (k : Int), .int .u8 (f : Int), .slice A n cp] k f v)
  have HI := Lib.hid zlit_info
  have HO := Lib.hid zlit_one
  have wk : IntKind.u8.wrap (k : Int) = (k : Int) := by rw [IntKind.wrap_u8]; omega
  have dbig : decide ((255 : Int) < (k : Int)) = false := by simp; omega
  clear hl hle hcm hr hx hk
  go_enter Try.func13, Try.ntmps13
  go_upto_region 4 with fail
  generalize World.alloc (World.alloc (World.alloc w _) _) _ = W1 at HT ⊢
  clear dbig wk
  have g2 := HT.out.1.1.cell 2
  simp at g2
  have k0 : W1.cell? ⟨w.heap.size + 1 + 1, 0, none⟩ = some (.int .u8 (k : Int)) := HT.out.2.c0
  by_cases h4 : n = 0
  · have dn : ((n : Int) == 0) = true := by simp; omega
    have HTK : Hid (take ⟨k, f, v⟩ = mayO (bare ⟨k, f, v⟩)) := Lib.hid (by rw [HTR.out, if_pos (show v.length = 0 by rw [HL.out]; exact h4)]; rfl)
    clear h4 HTR
    go_upto_region 43 with fail
    have HC : Hid (ChF (w.heap.size + 1 + 1 + 1) W1 (bare ⟨k, f, v⟩) nol) := Lib.hid (ch_none _ HBO.out rfl rfl rfl rfl rfl)
    clear k0 g2
    obtain ⟨c, hc⟩ : ∃ c : Ck, c = bare ⟨k, f, v⟩ := ⟨_, rfl⟩
    obtain ⟨s, hs⟩ : ∃ s : Ls, s = nol := ⟨_, rfl⟩
    rw [← hc] at HT HC HTK
    rw [← hs] at HT HC
    clear hc hs
    have HCI2 := Lib.hid (cvl_info c s)
    have HCI := Lib.hid (cv_info c s)
    have HCO := Lib.hid (cv_one c s)
    have HM := Lib.hid (rfMayL c s _ HC.out.ch)
    have t0 := HT.out.2.c0
    have t1 := HT.out.2.c1
    have t2 := HT.out.2.c2
    have t3 := HT.out.2.c3
    have t4 := HT.out.2.c4
    have t5 := HT.out.2.c5
    have t6 := HT.out.2.c6
    have t7 := HT.out.2.c7
    have t8 := HT.out.2.c8
    have t9 := HT.out.2.c9
    have t10 := HT.out.2.c10
    have t11 := HT.out.2.c11
    have t12 := HT.out.2.c12
    have t13 := HT.out.2.c13
    have t14 := HT.out.2.c14
    by_cases hm : may c
    · rw [mayB_true hm] at HM
      have HTK2 := Lib.hid (HTK.out.trans (mayO_yes hm))
      clear hm HTK
      go_wp2_with fail
      (with_reducible refine HM.out.mono ?_)
      rintro e W8 ⟨rfl, hb8⟩
      have HT8 := Lib.hid (HT.out.next hb8)
      have HC8 := Lib.hid (HC.out.next hb8)
      clear hb8 t0 t1 t2 t3 t4 t5 t6 t7 t8 t9 t10 t11 t12 t13 t14
      go_wp2_with (first
        | (refine wpList_load_row rfl 32 (.tmp 4) rfl (w.heap.size + 1 + 1) rfl 32 (cv c s) (0, 0) _ HT8.out.2 Try.underlying32 rfl HCI.out ?_)
        | (refine wpList_store_row rfl 32 (.tmp 2) (.tmp 146) rfl (w.heap.size + 1) (cv c s) rfl rfl 32 zlit HT8.out.1.2.1 HCI.out (cv_size _ _).symm HCO.out ?_))
      have hT9 := HT8.out.row (cv c s)
      have hC9 := HC8.out.rowF (g := w.heap.size + 1) (by omega) (cv c s)
      generalize World.setRow W8 _ _ = W9 at hT9 hC9 ⊢
      have hz := hT9.1.2.1
      refine bodyPost_ret (v := .tuple #[.agg (cv c s), .int .i64 0]) (by simp [results, Try.results13, go_sem, hz.c0, hz.c1, hz.c2, hz.c3, hz.c4, hz.c5, hz.c6, hz.c7, hz.c8, hz.c9, hz.c10, hz.c11, hz.c12, hz.c13, hz.c14, cv]) rfl (rt_some HTK2.out hT9 hC9)
    · rw [mayB_false hm] at HM
      have HTK2 := Lib.hid (HTK.out.trans (mayO_no hm))
      clear hm HTK
      have HTK := HTK2
      go_wp2_with fail
      (with_reducible refine HM.out.mono ?_)
      rintro e W8 ⟨rfl, hb8⟩
      have HT8 := Lib.hid (HT.out.next hb8)
      clear hb8 t0 t1 t2 t3 t4 t5 t6 t7 t8 t9 t10 t11 t12 t13 t14
      go_wp2_with ((refine wpList_store_row rfl 32 (.tmp 2) (.tmp 145) rfl (w.heap.size + 1) zlit rfl rfl 32 zlit HT8.out.1.2.1 HI.out rfl HO.out ?_))
      have hT9 := HT8.out.row zlit
      generalize World.setRow _ _ _ = W9 at hT9 ⊢
      have hz : Bk W9 (w.heap.size + 1) (cv zero nol) 32 := hT9.1.2.1
      refine bodyPost_ret (v := .tuple #[.agg (cv zero nol), .int .i64 50]) (by simp [results, Try.results13, go_sem, hz.c0, hz.c1, hz.c2, hz.c3, hz.c4, hz.c5, hz.c6, hz.c7, hz.c8, hz.c9, hz.c10, hz.c11, hz.c12, hz.c13, hz.c14, cv]) rfl (rt_none HTK.out hT9)
  · have dn : ((n : Int) == 0) = false := by simp; omega
    have HTK : Hid (take ⟨k, f, v⟩ = none) := Lib.hid (by rw [HTR.out, if_neg (show ¬ v.length = 0 by rw [HL.out]; exact h4)]; rfl)
    clear h4 HTR
    go_upto_region 43 with fail
    go_wp2_with ((refine wpList_store_row rfl 32 (.tmp 2) (.tmp 145) rfl (w.heap.size + 1) zlit rfl rfl 32 zlit HT.out.1.2.1 HI.out rfl HO.out ?_))
    have hT9 := HT.out.row zlit
    generalize World.setRow _ _ _ = W9 at hT9 ⊢
    have hz : Bk W9 (w.heap.size + 1) (cv zero nol) 32 := hT9.1.2.1
    refine bodyPost_ret (v := .tuple #[.agg (cv zero nol), .int .i64 50]) (by simp [results, Try.results13, go_sem, hz.c0, hz.c1, hz.c2, hz.c3, hz.c4, hz.c5, hz.c6, hz.c7, hz.c8, hz.c9, hz.c10, hz.c11, hz.c12, hz.c13, hz.c14, cv]) rfl (rt_none HTK.out hT9)
end Go.Proofs.Ytbliipjiilmbcaa
