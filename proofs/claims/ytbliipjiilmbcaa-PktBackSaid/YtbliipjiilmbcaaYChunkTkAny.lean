/-
  What chunk.Take does, given what the method 'any' does.
-/
import Derived.Test.YtbliipjiilmbcaaYP1c
import Derived.BigRegion
namespace Go.Proofs.Ytbliipjiilmbcaa
open Go.RowKit Wire Tlv Chunk

set_option maxRecDepth 100000 in
set_option maxHeartbeats 4000000 in
theorem ckTake_any (x : Tv) (A : Option Addr) (n cp : Nat) (w : World) (hx : x.ok) (hk : x.k ≤ 255) (hl : x.v.length = n) (hn : n ≤ 65531) (hle : n ≤ cp) (hcm : cp ≤ maxLen) (hr : Row w A (bs x.v)) (F : Nat) (heg : ∀ args w, (callFunc F args).run Try.prog w = .ok (.enter F args) w) (hrk : rk x.k = F)
    (hread : ∀ W b A n cp, Rr w b (r0 x) nol A n cp W → Calls Try.prog F #[.pointer (some ⟨b, 0, none⟩)] W (FOut w b x W)) :
    Calls Try.prog 12 #[.agg #[.int .u16 (x.k : Int), .int .u8 (x.f : Int), .slice A n cp]] w (TakeOut w (take x)) := by
  have HT : Hid (T3 w x A n cp _) := Lib.hid (T3.new w x A n cp)
  have HX := Lib.hid hx
  have HL := Lib.hid hl
  have HLE := Lib.hid hle
  have HCM := Lib.hid hcm
  have HR := Lib.hid hr
  have HRD := Lib.hid hread
  have HRK : Hid (∀ W b, W.cell? ⟨b, 1, none⟩ = some (.int .u8 (x.k : Int)) → Calls Try.prog 34 #[.pointer (some ⟨b, 0, none⟩)] W fun e w' => e = .returned (.func (.func F) #[.pointer (some ⟨b, 0, none⟩)] #[]) ∧ W = w') := Lib.hid fun W b hc => by rw [← hrk]; exact reading_any W b x.k hc
  have HI := Lib.hid zlit_info
  have HO := Lib.hid zlit_one
  have wk : IntKind.u8.wrap (x.k : Int) = (x.k : Int) := by rw [IntKind.wrap_u8]; omega
  have d1 : decide ((255 : Int) < (x.k : Int)) = false := by simp; omega
  have d2 : decide ((65531 : Int) < (n : Int)) = false := by simp; omega
  clear hx hl hle hcm hr hread hrk
  go_enter Try.func12, Try.ntmps12
  go_upto_region 4 with fail
  generalize World.alloc (World.alloc (World.alloc w _) _) _ = W1 at HT ⊢
  clear d1 d2
  have g0 := HT.out.1.1.cell 0
  have g1 := HT.out.1.1.cell 1
  simp at g0 g1
  have k1 := HT.out.2.r1
  have k2 := HT.out.2.r2
  have f1 := HT.out.2.frozen 1
  have f2 := HT.out.2.frozen 2
  have HS := Lib.hid HT.out.set
  go_region
  clear g0 g1 k1 k2 f1 f2 wk
  generalize World.drew _ = W2 at HS ⊢
  have hrr : Rr w (w.heap.size + 1 + 1) (r0 x) nol A n cp W2 := ⟨HS.out.2, by omega, HS.out.1.2.2, HR.out, HL.out, HLE.out, HCM.out, HX.out.2.2, hn⟩
  have HRR := Lib.hid hrr
  have hk1 := hrr.bk.r1
  have HK1 : Hid (W2.cell? ⟨w.heap.size + 1 + 1, 1, none⟩ = some (.int .u8 (x.k : Int))) := hk1
  clear hrr hk1
  go_wp2_with fail
  (with_reducible refine (HRK.out _ _ HK1.out).mono ?_)
  rintro e W3 ⟨rfl, rfl⟩
  go_wp2_with fail
  (with_reducible refine (HRD.out _ _ _ _ _ HRR.out).mono ?_)
  rintro e W3 ⟨rfl, r, s, A3, n3, c3, hr3, ho3, hch, hfin⟩
  have hT3 := HS.out.1.ot ho3 (by omega)
  have HT3 := Lib.hid hT3
  have HCH := Lib.hid hch
  have HF := Lib.hid hfin
  have HB3 := Lib.hid hr3.bk
  have hl3 := hr3.len
  have HL3 := Lib.hid hl3
  have q16 := hr3.bk.r16
  have q0 := hr3.bk.r0
  have hsm3 := hr3.sm
  clear hT3 hch hfin hr3 ho3 hl3
  by_cases hgood : r.bad = false ∧ r.l = []
  · have hn0 : n3 = 0 := by rw [← HL3.out, hgood.2]; rfl
    rw [hgood.1] at q16
    rw [hn0] at q0
    have hcf := HCH.out hgood.1 hgood.2
    have hc := hcf.ch
    have HC := Lib.hid hcf
    have hlo : w.heap.size + 1 < W2.heap.size := HS.out.1.2.1.lt
    clear hcf
    have hfe := fin_ok hgood.1 hgood.2
    rw [HF.out] at hfe
    have HM := Lib.hid (ckMay_lit r.c s W3 hc)
    have t1 := HB3.out.r1
    have t2 := HB3.out.r2
    have t3 := HB3.out.r3
    have t4 := HB3.out.r4
    have t5 := HB3.out.r5
    have t6 := HB3.out.r6
    have t7 := HB3.out.r7
    have t8 := HB3.out.r8
    have t9 := HB3.out.r9
    have t10 := HB3.out.r10
    have t11 := HB3.out.r11
    have t12 := HB3.out.r12
    have t13 := HB3.out.r13
    have t14 := HB3.out.r14
    have t15 := HB3.out.r15
    by_cases hm : may r.c
    · rw [mayB_true hm] at HM
      rw [if_pos hm] at hfe
      have HFE := Lib.hid hfe
      clear hm hfe hc hgood hn0
      go_wp2_with fail
      (with_reducible refine HM.out.mono ?_)
      rintro e W4 ⟨rfl, hb4⟩
      have HT4 := Lib.hid (HT3.out.next hb4)
      have HB4 := Lib.hid (HB3.out.next hb4)
      have HC4 := Lib.hid (HC.out.next hb4)
      have HRG := Lib.hid (cv_range HB4.out)
      have HCI := Lib.hid (cvl_info r.c s)
      have HCI2 := Lib.hid (cv_info r.c s)
      have HCO := Lib.hid (cv_one r.c s)
      clear hb4 t1 t2 t3 t4 t5 t6 t7 t8 t9 t10 t11 t12 t13 t14 t15 q16 q0
      go_wp2_with (first
        | (refine wpList_load_mid rfl 32 (.tmp 46) rfl (w.heap.size + 1 + 1) 1 rfl (cv r.c s).toList _ HRG.out Try.underlying32 rfl HCI.out ?_)
        | (refine wpList_store_row rfl 32 (.tmp 2) (.tmp 47) rfl (w.heap.size + 1) (cv r.c s) rfl rfl 32 zlit HT4.out.2.1 HCI2.out (cv_size _ _).symm HCO.out ?_))
      have hT5 := HT4.out.row (cv r.c s)
      have hC5 := (HC4.out.rowF hlo (cv r.c s)).lower (show w.heap.size ≤ _ by omega)
      generalize W4.setRow _ _ = W5 at hT5 hC5 ⊢
      have hz := hT5.2.1
      rw [HFE.out]
      refine bodyPost_ret (v := .tuple #[.agg (cv r.c s), .int .i64 0]) (by simp [results, Try.results12, go_sem, hz.c0, hz.c1, hz.c2, hz.c3, hz.c4, hz.c5, hz.c6, hz.c7, hz.c8, hz.c9, hz.c10, hz.c11, hz.c12, hz.c13, hz.c14, cv]) rfl ⟨s, rfl, hC5, hT5.2.2⟩
    · rw [mayB_false hm] at HM
      rw [if_neg hm] at hfe
      have HFE := Lib.hid hfe
      clear hm hfe hc hgood hn0
      go_wp2_with fail
      (with_reducible refine HM.out.mono ?_)
      rintro e W4 ⟨rfl, hb4⟩
      have HT4 := Lib.hid (HT3.out.next hb4)
      clear hb4 t1 t2 t3 t4 t5 t6 t7 t8 t9 t10 t11 t12 t13 t14 t15 q16 q0
      go_wp2_with ((refine wpList_store_row rfl 32 (.tmp 2) (.tmp 45) rfl (w.heap.size + 1) zlit rfl rfl 32 zlit HT4.out.2.1 HI.out rfl HO.out ?_))
      have hT5 := HT4.out.row zlit
      generalize W4.setRow _ _ = W5 at hT5 ⊢
      have hz : Bk W5 (w.heap.size + 1) (cv zero nol) 32 := hT5.2.1
      rw [HFE.out]
      refine bodyPost_ret (v := .tuple #[.agg (cv zero nol), .int .i64 50]) (by simp [results, Try.results12, go_sem, hz.c0, hz.c1, hz.c2, hz.c3, hz.c4, hz.c5, hz.c6, hz.c7, hz.c8, hz.c9, hz.c10, hz.c11, hz.c12, hz.c13, hz.c14, cv]) rfl ⟨rfl, hT5.2.2⟩
  · have hfe : take x = none := by
      rw [← HF.out]
      by_cases hb : r.bad = true
      · exact fin_bad hb
      · exact fin_left (fun e => hgood ⟨by simpa using hb, e⟩)
    have HFE := Lib.hid hfe
    have hcase : r.bad = true ∨ (r.bad = false ∧ 0 < n3) := by
      by_cases hb : r.bad = true
      · exact .inl hb
      · refine .inr ⟨by simpa using hb, ?_⟩
        rw [← HL3.out]
        exact List.length_pos_iff.2 (fun e => hgood ⟨by simpa using hb, e⟩)
    clear hfe hgood
    rcases hcase with hb | ⟨hb, hp⟩
    all_goals
      rw [hb] at q16
      clear hb
      go_wp2_with ((refine wpList_store_row rfl 32 (.tmp 2) (.tmp 45) rfl (w.heap.size + 1) zlit rfl rfl 32 zlit HT3.out.2.1 HI.out rfl HO.out ?_))
      have hT5 := HT3.out.row zlit
      generalize W3.setRow _ _ = W5 at hT5 ⊢
      have hz : Bk W5 (w.heap.size + 1) (cv zero nol) 32 := hT5.2.1
      rw [HFE.out]
      refine bodyPost_ret (v := .tuple #[.agg (cv zero nol), .int .i64 50]) (by simp [results, Try.results12, go_sem, hz.c0, hz.c1, hz.c2, hz.c3, hz.c4, hz.c5, hz.c6, hz.c7, hz.c8, hz.c9, hz.c10, hz.c11, hz.c12, hz.c13, hz.c14, cv]) rfl ⟨rfl, hT5.2.2⟩
end Go.Proofs.Ytbliipjiilmbcaa
