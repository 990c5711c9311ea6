/-
  RtoBounds: the walk.
-/
import Derived.Test.YtfjeoioejdkdpaaRtHead
namespace Go.Proofs.Ytfjeoioejdkdpaa
set_option maxRecDepth 4000
open Go.RowKit Rt
set_option linter.unusedVariables false
set_option linter.unusedSimpArgs false

set_option maxHeartbeats 4000000 in
theorem rtoBounds_walk (c : Cf) (A : Option Addr) (n cap : Nat) (qs : List Q2) (w0 : World) (hc : c.Wf) (hq : DosIn w0 A n cap qs) : Calls Try.prog 9 #[.agg (cv c), .slice A n cap] w0 fun e w' => e = .returned (.bool true) ∧ Below w0.heap.size w0 w' := by
  obtain ⟨hl, hcap, hcm, hr⟩ := hq
  have HL := Lib.hid hl
  have HR := Lib.hid hr
  have H0 : Hid (Cn w0 c (w0.alloc (.cells (cv c) 78))) := Lib.hid ⟨Bk.new _ _ _, (Below.refl _ _).alloc (Nat.le_refl _) _⟩
  have CM := Lib.hid (may_any c hc)
  have hk := chk_may c hc
  have HC := Lib.hid hc
  have hv1 := w64u hc.rn
  have hv2 := w64u hc.rx
  clear hl hr hc
  by_cases hn : 2000 < n
  · have hz : decide ((2000 : Int) < (n : Int)) = true := decide_eq_true (by omega)
    clear CM hk hn hcap hcm HC hv1 hv2
    go_enter Try.func9, Try.ntmps9
    unfold cv at H0 ⊢
    go_wp2_with fail
    refine (works_any _).mono ?_
    rintro e w4 ⟨rfl, h4⟩
    have H4 := Lib.hid (bnext H0.out.2 h4)
    clear H0 h4
    go_wp2_with fail
    go_ret
    exact ⟨rfl, H4.out⟩
  have hz : decide ((2000 : Int) < (n : Int)) = false := decide_eq_false (by omega)
  have hn2 : n ≤ 2000 := by omega
  clear hn hcap hcm
  obtain ⟨b, hb⟩ : ∃ b, may c = b := ⟨_, rfl⟩
  rw [hb] at hk CM
  cases b
  · clear hk hb HC hv1 hv2
    go_enter Try.func9, Try.ntmps9
    unfold cv at H0 CM ⊢
    go_wp2_with fail
    refine (CM.out _).mono ?_
    rintro e w1 ⟨rfl, h1⟩
    have H1 := Lib.hid (H0.out.next h1)
    clear H0 h1 CM
    go_wp2_with fail
    refine (works_any _).mono ?_
    rintro e w4 ⟨rfl, h4⟩
    have H4 := Lib.hid (bnext H1.out.2 h4)
    clear H1 h4
    go_wp2_with fail
    go_ret
    exact ⟨rfl, H4.out⟩
  have CN := Lib.hid fun W => new_ok c HC.out W hk
  have HW := Lib.hid (may_wf hb)
  have HOK := Lib.hid (t0_ok hb)
  clear hk hb
  go_enter Try.func9, Try.ntmps9
  unfold cv at H0 CM CN ⊢
  go_wp2_with fail
  refine (CM.out _).mono ?_
  rintro e w1 ⟨rfl, h1⟩
  have H1 := Lib.hid (H0.out.next h1)
  clear H0 h1 CM
  obtain ⟨c0, c1, c2, c3, c4, c5, c6, c7, c8, c9, c10, c11, c12⟩ := Bk.cfg H1.out.1
  go_wp2_with fail
  refine (CN.out _).mono ?_
  rintro e w2 ⟨g, rfl, hg, ht, h2⟩
  have H2 : Hid (Ct w0 c g (t0 c) w2) := Lib.hid ⟨ht, by have := H1.out.1.lt; omega, H1.out.next h2⟩
  clear H1 h2 CN ht hg c0 c1 c2 c3 c4 c5 c6 c7 c8 c9 c10 c11 c12
  have HRN : Hid (c.rn = ((t0 c).lo : Int)) := Lib.hid (by have := HW.out; show c.rn = ((c.rn.toNat : Nat) : Int); omega)
  have HRX : Hid (c.rx = ((t0 c).hi : Int)) := Lib.hid (by have := HW.out; show c.rx = ((c.rx.toNat : Nat) : Int); omega)
  have HSD : Hid ((t0 c).sd = false) := Lib.hid rfl
  generalize t0 c = tt at H2 HOK HRN HRX HSD
  go_wp2_with fail
  go_loopw [7, 8, 30] (fun v7 v8 v30 wr => ∃ (k low high : Nat) (t : T), v30 = .int .i64 k ∧ v7 = .int .u64 (low : Int) ∧ v8 = .int .u64 (high : Int) ∧ k ≤ n ∧ Hid (t.Ok ∧ t.lo = tt.lo ∧ t.hi = tt.hi ∧ t.Btw low high ∧ low ≤ 9223372036854775808 ∧ high ≤ 4294967296) ∧ Hid (Ct w0 c g t wr)) (fun _ _ v30 _ => n - (intOf v30).toNat)
  case atStart => exact ⟨0, 9223372036854775808, 0, tt, rfl, rfl, rfl, Nat.zero_le _, Lib.hid ⟨HOK.out, rfl, rfl, fun h => (by rw [HSD.out] at h; cases h), Nat.le_refl _, Nat.zero_le _⟩, H2⟩
  case round =>
    obtain ⟨k, low, high, t, rfl, rfl, rfl, hk, HT, HC⟩ := hrel
    clear H2 HOK HSD
    by_cases hlt : k < n
    · have hkl : k < qs.length := by rw [HL.out]; exact hlt
      obtain ⟨a, rfl, hd0, hd1⟩ := dos_at (HR.out.below HC.out.2.2.2) hkl
      obtain ⟨⟨q0, q1⟩, hqq⟩ : ∃ q, qs[k] = q := ⟨_, rfl⟩
      rw [hqq] at hd0 hd1
      simp only at hd0 hd1
      clear hqq hkl
      have HX1 := Lib.hid (Cx.new HC.out q0 q1)
      go_upto_region 10 with fail
      generalize hx : wr.heap.size = x at HX1 ⊢
      generalize hW : World.alloc wr _ = W1 at HX1 ⊢
      clear hx hW hd0 hd1
      have x0 := HX1.out.2.2.cell 0
      have x1 := HX1.out.2.2.cell 1
      simp at x0 x1
      have HOK2 := Lib.hid HT.out.1
      have hbk := back_more HT.out.1
      go_wp2_with fail
      refine (value_any HX1.out.1.1).mono ?_
      rintro e w ⟨rfl, rfl⟩
      cases q0
      · clear hbk
        go_wp2_with fail
        refine (HX1.out.samp HOK2.out q1).mono ?_
        rintro e W2 ⟨rfl, h2⟩
        have HX2 := Lib.hid h2
        have HT2 : Hid ((t.sample q1).Ok ∧ (t.sample q1).lo = tt.lo ∧ (t.sample q1).hi = tt.hi ∧ (t.sample q1).Btw (min low (min q1 4294967296)) (max high (min q1 4294967296)) ∧ (t.sample q1).sd = true ∧ min low (min q1 4294967296) ≤ 9223372036854775808 ∧ max high (min q1 4294967296) ≤ 4294967296) := Lib.hid ⟨sample_ok HT.out.1 q1, (sample_same t q1).1.trans HT.out.2.1, (sample_same t q1).2.1.trans HT.out.2.2.1, btw_sample HT.out.2.2.2.1 q1, (sample_same t q1).2.2, by have := HT.out.2.2.2.2.1; omega, by have := HT.out.2.2.2.2.2; omega⟩
        clear h2 HX1 HOK2 HT HC x0 x1
        generalize t.sample q1 = t2 at HX2 HT2
        have x1 := HX2.out.2.2.cell 1
        simp at x1
        have m1 : (if q1 < low then (q1 : Int) else (low : Int)) = ((min q1 low : Nat) : Int) := by split <;> omega
        have m2 : (if 4294967296 < min q1 low then (4294967296 : Int) else ((min q1 low : Nat) : Int)) = ((min low (min q1 4294967296) : Nat) : Int) := by split <;> omega
        have m3 : (if 4294967296 < q1 then (4294967296 : Int) else (q1 : Int)) = ((min q1 4294967296 : Nat) : Int) := by split <;> omega
        have m4 : (if high < min q1 4294967296 then ((min q1 4294967296 : Nat) : Int) else (high : Int)) = ((max high (min q1 4294967296) : Nat) : Int) := by split <;> omega
        have i2 : (if (4294967296 : Int) < ((min q1 low : Nat) : Int) then (4294967296 : Int) else ((min q1 low : Nat) : Int)) = ((min low (min q1 4294967296) : Nat) : Int) := by split <;> omega
        have i3 : (if (4294967296 : Int) < (q1 : Int) then (4294967296 : Int) else (q1 : Int)) = ((min q1 4294967296 : Nat) : Int) := by split <;> omega
        have i4 : (if (high : Int) < ((min q1 4294967296 : Nat) : Int) then ((min q1 4294967296 : Nat) : Int) else (high : Int)) = ((max high (min q1 4294967296) : Nat) : Int) := by split <;> omega
        generalize min q1 low = la at m1 m2 i2
        generalize min low (min q1 4294967296) = low2 at m2 i2 HT2
        generalize max high (min q1 4294967296) = high2 at m4 i4 HT2
        generalize min q1 4294967296 = qm at m3 m4 i3 i4
        go_upto_region 16 with fail
        go_region
        clear m1 m2 m3 m4 i2 i3 i4 x1
        have HX3 := Lib.hid (HX2.out.1.drew)
        clear HX2
        generalize W2.drew = W3 at HX3 ⊢
        have hsm := btw_smooth HT2.out.2.2.2.1 HT2.out.2.2.2.2.1
        have HSM := Lib.hid (smooth_any HX3.out.1 HT2.out.1.2.2.2.2.1)
        have hq2 : ¬ t2.s / 8 < low2 ∧ ¬ high2 < t2.s / 8 := by omega
        generalize t2.s / 8 = sm at hsm hq2 HSM
        obtain ⟨hq2, hq3⟩ := hq2
        have hp1 : ¬ (t2.v : Int) < c.rn := by have := HRN.out; have := HT2.out.2.1; have := HT2.out.1.2.1; omega
        have hp2 : ¬ c.rx < (t2.v : Int) := by have := HRX.out; have := HT2.out.2.2.1; have := HT2.out.1.2.2.1; omega
        have HV := Lib.hid (value_any HX3.out.1)
        have HV2 := Lib.hid fun q => value_any (HX3.out.drewN q).1
        obtain ⟨c0, c1, c2, c3, c4, c5, c6, c7, c8, c9, c10, c11, c12⟩ := Bk.cfg HX3.out.2.2.1
        clear c0 c1 c2 c3 c4 c5 c8 c9 c10 c11 c12 hsm
        go_wp2_with (go_at_call 38; refine HSM.out.mono ?_; rintro e w ⟨rfl, rfl⟩)
        go_quiet ((go_at_call 37; exact Calls.quiet_of_same ((HV2.out _).mono fun _ _ ⟨h1, h2⟩ => ⟨h1, h2.symm⟩)))
        go_wp2_with fail
        go_roundw
        case rel => exact ⟨k + 1, low2, high2, t2, by go_num, rfl, rfl, by omega, Lib.hid ⟨HT2.out.1, HT2.out.2.1, HT2.out.2.2.1, HT2.out.2.2.2.1, HT2.out.2.2.2.2.2.1, HT2.out.2.2.2.2.2.2⟩, Lib.hid (HX3.out.drewN _)⟩
        case measure => simp [intOf] <;> omega
      · go_wp2_with fail
        refine (HX1.out.bk HOK2.out).mono ?_
        rintro e W2 ⟨rfl, h2⟩
        have HX2 := Lib.hid h2.1
        have HT2 : Hid ((t.back).Ok ∧ (t.back).lo = tt.lo ∧ (t.back).hi = tt.hi ∧ (t.back).Btw low high ∧ low ≤ 9223372036854775808 ∧ high ≤ 4294967296) := Lib.hid ⟨back_ok HT.out.1, HT.out.2.1, HT.out.2.2.1, btw_back HT.out.2.2.2.1, HT.out.2.2.2.2⟩
        have hbk2 : ¬ t.back.v < t.v := by omega
        clear h2 HX1 HOK2 HT HC x0 x1 hbk
        generalize t.back = t2 at HX2 HT2 hbk2
        have hp1 : ¬ (t2.v : Int) < c.rn := by have := HRN.out; have := HT2.out.2.1; have := HT2.out.1.2.1; omega
        have hp2 : ¬ c.rx < (t2.v : Int) := by have := HRX.out; have := HT2.out.2.2.1; have := HT2.out.1.2.2.1; omega
        have HV := Lib.hid (value_any HX2.out.1)
        have HV2 := Lib.hid fun q => value_any (HX2.out.drewN q).1
        obtain ⟨c0, c1, c2, c3, c4, c5, c6, c7, c8, c9, c10, c11, c12⟩ := Bk.cfg HX2.out.2.2.1
        clear c0 c1 c2 c3 c4 c5 c8 c9 c10 c11 c12
        go_wp2_with (go_at_call 37; refine HV.out.mono ?_; rintro e w ⟨rfl, rfl⟩)
        go_quiet ((go_at_call 37; exact Calls.quiet_of_same ((HV2.out _).mono fun _ _ ⟨h1, h2⟩ => ⟨h1, h2.symm⟩)))
        go_wp2_with fail
        go_roundw
        case rel => exact ⟨k + 1, low, high, t2, by go_num, rfl, rfl, by omega, HT2, Lib.hid (HX2.out.drewN _)⟩
        case measure => simp [intOf] <;> omega
    · clear HT HW hv1 hv2 HRN HRX
      go_wp2_with fail
      refine (works_any _).mono ?_
      rintro e w4 ⟨rfl, h4⟩
      have H4 := Lib.hid (bnext HC.out.2.2.2 h4)
      clear HC h4
      go_wp2_with fail
      go_ret
      exact ⟨rfl, H4.out⟩
end Go.Proofs.Ytfjeoioejdkdpaa
