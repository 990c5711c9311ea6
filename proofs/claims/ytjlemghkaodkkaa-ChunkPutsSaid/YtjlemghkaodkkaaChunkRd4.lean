/-
  The reader of layer 5: piece, nothing, data, as they read a value.
-/
import Derived.Test.YtjlemghkaodkkaaChunkRd3
namespace Go.Proofs.Ytjlemghkaodkkaa
open Go.RowKit Wire Tlv Chunk

set_option maxHeartbeats 400000 in
theorem nothing_f (w W : World) (b : Nat) (x : Tv) (A : Option Addr) (n cap : Nat) (hx : x.ok) (hk : x.k = 8 ∨ x.k = 11 ∨ x.k = 14) (h : Rr w b (r0 x) nol A n cap W) :
    Calls Try.prog 50 #[.pointer (some ⟨b, 0, none⟩)] W (FOut w b x W) := by
  have HR := Lib.hid h
  have htk : fin (r0 x) = take x := by
    rw [take_raw (by omega), raw_none hk]
    by_cases hl : x.v.length = 0
    · rw [if_pos hl, fin_ok rfl (List.eq_nil_of_length_eq_zero hl)]
      rfl
    · rw [if_neg hl, fin_left (by show x.v ≠ []; intro e; rw [e] at hl; exact hl rfl)]
      rfl
  have HTK := Lib.hid htk
  have HC := Lib.hid (ch_none W.heap.size (W := W) (bare_ok hx (by omega)) rfl rfl rfl rfl rfl)
  clear h htk
  go_enter Try.func50, Try.ntmps50
  go_wp2_with fail
  go_end0
  exact ⟨rfl, _, _, _, _, _, HR.out, Ot.refl _ _, fun _ _ => HC.out, HTK.out⟩
theorem data_f (w W : World) (b : Nat) (x : Tv) (A : Option Addr) (n cap : Nat) (hx : x.ok) (hk255 : x.k ≤ 255) (hk : ¬ (x.k = 0 ∨ x.k = 1 ∨ x.k = 2 ∨ x.k = 3 ∨ x.k = 6 ∨ x.k = 9 ∨ x.k = 7 ∨ x.k = 8 ∨ x.k = 11 ∨ x.k = 14)) (h : Rr w b (r0 x) nol A n cap W) :
    Calls Try.prog 51 #[.pointer (some ⟨b, 0, none⟩)] W (FOut w b x W) := by
  refine (data_r w W b (r0 x) nol A n cap h).mono ?_
  rintro e W' ⟨A', n', c', rfl, hr, hob, hot⟩
  refine ⟨rfl, _, _, _, _, _, hr, hot, fun _ _ => ?_, ?_⟩
  · have hb := bare_ok hx hk255
    exact ch_data (c := { bare x with da := x.v }) { hb with da := hx.2.2 } hob rfl rfl rfl rfl (by have := hob.1; have h2 := h.len; have h3 := h.sm; show n' ≤ 100000; simp only [r0, bs_len] at h2 this; omega)
  · rw [take_raw hk255, raw_data hk, fin_ok rfl rfl]
    rfl
set_option maxRecDepth 100000 in
set_option maxHeartbeats 1000000 in
theorem piece_f (w W : World) (b : Nat) (x : Tv) (A : Option Addr) (n cap : Nat) (hx : x.ok) (hk : x.k = 0) (h : Rr w b (r0 x) nol A n cap W) :
    Calls Try.prog 45 #[.pointer (some ⟨b, 0, none⟩)] W (FOut w b x W) := by
  have HR := Lib.hid h
  have HF4 := Lib.hid fun r W A n cap h => four_r w W b r nol A n cap h
  have HF2 := Lib.hid fun r W A n cap h => two_r w W b r nol A n cap h
  have HFD := Lib.hid fun r W A n cap h => data_r w W b r nol A n cap h
  have hby := h.byt
  have hsm := h.sm
  have hln := h.len
  have HL := Lib.hid hln
  have HBY := Lib.hid hby
  clear h hby hln
  go_enter Try.func45, Try.ntmps45
  go_wp2_with fail
  (with_reducible refine (HF4.out _ _ _ _ _ HR.out).mono ?_)
  rintro e W1 ⟨A1, n1, c1, rfl, hr1, ho1⟩
  have hlt1 := Rt.n4_lt HBY.out
  obtain ⟨e1, e1v⟩ := Rt.n4_eq (r0 x)
  generalize hv1 : (r0 x).n4.1 = v1 at *
  have f5 := hr1.bk.frozen 5
  have g5 := hr1.bk.r5
  have HR1 := Lib.hid (hr1.put 5 (.int .u32 (v1 : Int)) _ (rv_tsn _ _ _ _ _ _ v1))
  have HO1 := Lib.hid (ho1.set 5 (.int .u32 (v1 : Int)))
  generalize hq1 : (⟨(r0 x).n4.2.l, { (r0 x).n4.2.c with tsn := v1 }, (r0 x).n4.2.bad⟩ : Rt) = q1 at HR1
  have HE1 : Hid (q1 = ⟨x.v.drop 4, { bare x with tsn := v1 }, decide (x.v.length < 4)⟩) := Lib.hid (by rw [← hq1, e1]; rfl)
  have HV1 := Lib.hid e1v
  have HLT1 := Lib.hid hlt1
  clear hr1 ho1 e1 e1v hlt1 hv1 hq1
  go_wp2_with fail
  (with_reducible refine (HF2.out _ _ _ _ _ HR1.out).mono ?_)
  rintro e W2 ⟨A2, n2, c2, rfl, hr2, ho2⟩
  have hlt2 := Rt.n2_lt HR1.out.byt
  have e2 := Rt.n2_eq q1
  generalize hv2 : q1.n2.1 = v2 at *
  have f8 := hr2.bk.frozen 8
  have g8 := hr2.bk.r8
  have HR2 := Lib.hid (hr2.put 8 (.int .u16 (v2 : Int)) _ (rv_sid _ _ _ _ _ _ v2))
  have HO2 := Lib.hid ((HO1.out.trans ho2).set 8 (.int .u16 (v2 : Int)))
  generalize hq2 : (⟨q1.n2.2.l, { q1.n2.2.c with sid := v2 }, q1.n2.2.bad⟩ : Rt) = q2 at HR2
  have HE2 : Hid (q2 = ⟨x.v.drop 6, { bare x with tsn := v1, sid := v2 }, decide (x.v.length < 6)⟩) := Lib.hid (by
    rw [← hq2, e2, HE1.out]
    simp only [List.drop_drop, List.length_drop]
    congr 1
    rw [Bool.eq_iff_iff]; simp; omega)
  have HV2 : Hid (6 ≤ x.v.length → v2 = nn x.v 4 2) := Lib.hid fun hl => by
    rw [← hv2, e2, HE1.out]
    simp only [List.length_drop]
    rw [if_neg (by omega), nn_at (by omega)]
  have HLT2 := Lib.hid hlt2
  clear hr2 ho2 e2 hlt2 hv2 hq2 f5 g5
  go_wp2_with fail
  (with_reducible refine (HF2.out _ _ _ _ _ HR2.out).mono ?_)
  rintro e W3 ⟨A3, n3, c3, rfl, hr3, ho3⟩
  have hlt3 := Rt.n2_lt HR2.out.byt
  have e3 := Rt.n2_eq q2
  generalize hv3 : q2.n2.1 = v3 at *
  have f9 := hr3.bk.frozen 9
  have g9 := hr3.bk.r9
  have HR3 := Lib.hid (hr3.put 9 (.int .u16 (v3 : Int)) _ (rv_ssn _ _ _ _ _ _ v3))
  have HO3 := Lib.hid ((HO2.out.trans ho3).set 9 (.int .u16 (v3 : Int)))
  generalize hq3 : (⟨q2.n2.2.l, { q2.n2.2.c with ssn := v3 }, q2.n2.2.bad⟩ : Rt) = q3 at HR3
  have HE3 : Hid (q3 = ⟨x.v.drop 8, { bare x with tsn := v1, sid := v2, ssn := v3 }, decide (x.v.length < 8)⟩) := Lib.hid (by
    rw [← hq3, e3, HE2.out]
    simp only [List.drop_drop, List.length_drop]
    congr 1
    rw [Bool.eq_iff_iff]; simp; omega)
  have HV3 : Hid (8 ≤ x.v.length → v3 = nn x.v 6 2) := Lib.hid fun hl => by
    rw [← hv3, e3, HE2.out]
    simp only [List.length_drop]
    rw [if_neg (by omega), nn_at (by omega)]
  have HLT3 := Lib.hid hlt3
  clear hr3 ho3 e3 hlt3 hv3 hq3 f8 g8
  go_wp2_with fail
  (with_reducible refine (HF4.out _ _ _ _ _ HR3.out).mono ?_)
  rintro e W4 ⟨A4, n4, c4, rfl, hr4, ho4⟩
  have hlt4 := Rt.n4_lt HR3.out.byt
  obtain ⟨e4, e4v⟩ := Rt.n4_eq q3
  generalize hv4 : q3.n4.1 = v4 at *
  have f10 := hr4.bk.frozen 10
  have g10 := hr4.bk.r10
  have HR4 := Lib.hid (hr4.put 10 (.int .u32 (v4 : Int)) _ (rv_ppid _ _ _ _ _ _ v4))
  have HO4 := Lib.hid ((HO3.out.trans ho4).set 10 (.int .u32 (v4 : Int)))
  generalize hq4 : (⟨q3.n4.2.l, { q3.n4.2.c with ppid := v4 }, q3.n4.2.bad⟩ : Rt) = q4 at HR4
  have HE4 : Hid (q4 = ⟨x.v.drop 12, { bare x with tsn := v1, sid := v2, ssn := v3, ppid := v4 }, decide (x.v.length < 12)⟩) := Lib.hid (by
    rw [← hq4, e4, HE3.out]
    simp only [List.drop_drop, List.length_drop]
    congr 1
    rw [Bool.eq_iff_iff]; simp; omega)
  have HV4 : Hid (12 ≤ x.v.length → v4 = nn x.v 8 4) := Lib.hid fun hl => by
    rw [e4v (by rw [HE3.out]; simp; omega), HE3.out, nn_at (by omega)]
  have HLT4 := Lib.hid hlt4
  clear hr4 ho4 e4 e4v hlt4 hv4 hq4 f9 g9
  go_wp2_with fail
  (with_reducible refine (HFD.out _ _ _ _ _ HR4.out).mono ?_)
  rintro e W5 ⟨A5, n5, c5, rfl, hr5, hob5, ho5⟩
  have HR5 := Lib.hid hr5
  have HOB := Lib.hid hob5
  have hsz := HO4.out.size
  have HO5 := Lib.hid (HO4.out.trans ho5)
  clear hr5 hob5 ho5 f10 g10
  go_wp2_with fail
  go_end0
  refine ⟨rfl, _, _, _, _, _, HR5.out, HO5.out, fun _ _ => ?_, ?_⟩
  · have hb := bare_ok hx (by omega)
    have ho := HOB.out
    have hl := HOB.out.1
    have hcl : ({ q4.c with da := q4.l } : Ck) = { bare x with tsn := v1, sid := v2, ssn := v3, ppid := v4, da := x.v.drop 12 } := by rw [HE4.out]
    show ChF W.heap.size W5 ({ q4.c with da := q4.l } : Ck) _
    rw [hcl]
    have hq4l : q4.l = x.v.drop 12 := by rw [HE4.out]
    rw [hq4l] at ho hl
    refine (ch_data (c := { bare x with tsn := v1, sid := v2, ssn := v3, ppid := v4, da := x.v.drop 12 }) ?_ ho rfl rfl rfl rfl (by have h2 := HL.out; simp only [r0] at h2; rw [bs_len, List.length_drop] at hl; omega)).lower hsz
    exact { hb with tsn := HLT1.out, sid := HLT2.out, ssn := HLT3.out, ppid := HLT4.out, da := Byt.drop hx.2.2 12 }
  · rw [HE4.out, take_raw (by omega), raw_piece hk]
    by_cases h12 : x.v.length < 12
    · rw [fin_bad (by simp [h12]), if_neg (by omega)]
      rfl
    · rw [fin_ok (by simp [h12]) rfl]
      have k1 : v1 = nn x.v 0 4 := by rw [HV1.out (by show 4 ≤ x.v.length; omega), nn_at (by omega), List.drop_zero]; rfl
      rw [k1, HV2.out (by omega), HV3.out (by omega), HV4.out (by omega)]
      by_cases h13 : 12 < x.v.length
      · rw [if_pos h13]
        rfl
      · rw [if_neg h13, if_neg]
        · rfl
        · intro hm
          have := hm.1.has (.inl (by show x.k = 0; exact hk))
          apply this
          show (x.v.drop 12).length = 0
          simp; omega
end Go.Proofs.Ytjlemghkaodkkaa
