/-
  RtoSteady: the walk.
-/
import Derived.Test.YtfjeoioejdkdpaaRtHead
namespace Go.Proofs.Ytfjeoioejdkdpaa
set_option maxRecDepth 4000
open Go.RowKit Rt
set_option linter.unusedVariables false
set_option linter.unusedSimpArgs false

namespace Rt
theorem bound_any {w : World} {b : Nat} {c : Cf} (h : Bk w b (cv c) 78) (lo hi n : Nat) (h1 : c.rn = (lo : Int)) (h2 : c.rx = (hi : Int)) (hl : lo ≤ 65536) (hh : hi ≤ 65536) : Calls Try.prog 45 #[.int .u64 (n : Int), .pointer (some ⟨b, 0, none⟩)] w fun e w' => e = .returned (.int .u64 ((clamp lo hi n : Nat) : Int)) ∧ w = w' := by
  obtain ⟨c0, c1, c2, c3, c4, c5, c6, c7, c8, c9, c10, c11, c12⟩ := Bk.cfg h
  rw [h1] at c6
  rw [h2] at c7
  clear h c0 c1 c2 c3 c4 c5 c8 c9 c10 c11 c12 h1 h2
  have e1 : IntKind.u64.wrap (lo : Int) = (lo : Int) := u64n (by omega)
  have e2 : IntKind.u64.wrap (hi : Int) = (hi : Int) := u64n (by omega)
  have hm : (n < lo ∧ hi < lo ∧ clamp lo hi n = hi) ∨ (n < lo ∧ ¬ hi < lo ∧ clamp lo hi n = lo) ∨ (¬ n < lo ∧ hi < n ∧ clamp lo hi n = hi) ∨ (¬ n < lo ∧ ¬ hi < n ∧ clamp lo hi n = n) := by unfold clamp; omega
  generalize clamp lo hi n = v at hm ⊢
  clear hl hh
  rcases hm with ⟨l1, l2, rfl⟩ | ⟨l1, l2, rfl⟩ | ⟨l1, l2, rfl⟩ | ⟨l1, l2, rfl⟩
  all_goals
    go_enter Try.func45, Try.ntmps45
    go_wp2_with fail
    go_ret
    exact ⟨rfl, rfl⟩
end Rt
set_option maxHeartbeats 4000000 in
theorem rtoSteady_walk (c : Cf) (A : Option Addr) (n cap : Nat) (qs : List Q2) (r : Int) (w0 : World) (hc : c.Wf) (hq : DosIn w0 A n cap qs) (hr : (Lit.int .u64 r).wf = true) : Calls Try.prog 10 #[.agg (cv c), .slice A n cap, .int .u64 r] w0 fun e w' => e = .returned (.bool true) ∧ Below w0.heap.size w0 w' := by
  obtain ⟨r, rfl⟩ : ∃ m : Nat, r = m := ⟨r.toNat, by have := wf_u64 hr; omega⟩
  clear hr
  obtain ⟨hl, hcap, hcm, hr⟩ := hq
  have HL := Lib.hid hl
  have HR := Lib.hid hr
  have H0 : Hid (Cn w0 c (w0.alloc (.cells (cv c) 78))) := Lib.hid ⟨Bk.new _ _ _, (Below.refl _ _).alloc (Nat.le_refl _) _⟩
  have CM := Lib.hid (may_any c hc)
  have hk := chk_may c hc
  have HC := Lib.hid hc
  clear hl hr hc
  by_cases hn : 100 < n
  · have hz : decide ((100 : Int) < (n : Int)) = true := decide_eq_true (by omega)
    clear CM hk hn hcap hcm HC
    go_enter Try.func10, Try.ntmps10
    unfold cv at H0 ⊢
    go_wp2_with fail
    refine (works_any _).mono ?_
    rintro e w4 ⟨rfl, h4⟩
    have H4 := Lib.hid (bnext H0.out.2 h4)
    clear H0 h4
    go_wp2_with fail
    go_ret
    exact ⟨rfl, H4.out⟩
  have hz : decide ((100 : Int) < (n : Int)) = false := decide_eq_false (by omega)
  have hn2 : n ≤ 100 := by omega
  clear hn hcap hcm
  obtain ⟨b, hb⟩ : ∃ b, may c = b := ⟨_, rfl⟩
  rw [hb] at hk CM
  cases b
  · clear hk hb HC
    go_enter Try.func10, Try.ntmps10
    unfold cv at H0 CM ⊢
    go_wp2_with fail
    refine (CM.out _).mono ?_
    rintro e w1 ⟨rfl, h1⟩
    have H1 := Lib.hid (H0.out.next h1)
    clear H0 h1 CM
    go_wp2_with fail
    refine (works_any _).mono ?_
    rintro e w4 ⟨rfl, h4⟩
    have H4 := Lib.hid (bnext H1.out.2 h4)
    clear H1 h4
    go_wp2_with fail
    go_ret
    exact ⟨rfl, H4.out⟩
  have CN := Lib.hid fun W => new_ok c HC.out W hk
  have HW := Lib.hid (may_wf hb)
  have HOK := Lib.hid (t0_ok hb)
  clear hk hb
  go_enter Try.func10, Try.ntmps10
  unfold cv at H0 CM CN ⊢
  go_wp2_with fail
  refine (CM.out _).mono ?_
  rintro e w1 ⟨rfl, h1⟩
  have H1 := Lib.hid (H0.out.next h1)
  clear H0 h1 CM
  obtain ⟨c0, c1, c2, c3, c4, c5, c6, c7, c8, c9, c10, c11, c12⟩ := Bk.cfg H1.out.1
  go_wp2_with fail
  refine (CN.out _).mono ?_
  rintro e w2 ⟨g, rfl, hg, ht, h2⟩
  have H2 : Hid (Ct w0 c g (t0 c) w2) := Lib.hid ⟨ht, by have := H1.out.1.lt; omega, H1.out.next h2⟩
  clear H1 h2 CN ht hg c0 c1 c2 c3 c4 c5 c6 c7 c8 c9 c10 c11 c12
  have HRN : Hid (c.rn = ((t0 c).lo : Int)) := Lib.hid (by have := HW.out; show c.rn = ((c.rn.toNat : Nat) : Int); omega)
  have HRX : Hid (c.rx = ((t0 c).hi : Int)) := Lib.hid (by have := HW.out; show c.rx = ((c.rx.toNat : Nat) : Int); omega)
  generalize t0 c = tt at H2 HOK HRN HRX
  clear HW
  go_wp2_with fail
  go_loopw [30] (fun v30 wr => ∃ (k : Nat) (t : T), v30 = .int .i64 k ∧ k ≤ n ∧ Hid (t.Ok ∧ t.lo = tt.lo ∧ t.hi = tt.hi) ∧ Hid (Ct w0 c g t wr)) (fun v30 _ => n - (intOf v30).toNat)
  case atStart => exact ⟨0, tt, rfl, Nat.zero_le _, Lib.hid ⟨HOK.out, rfl, rfl⟩, H2⟩
  case round =>
    obtain ⟨k, t, rfl, hk, HT, HC⟩ := hrel
    clear H2 HOK
    by_cases hlt : k < n
    · have hkl : k < qs.length := by rw [HL.out]; exact hlt
      obtain ⟨a, rfl, hd0, hd1⟩ := dos_at (HR.out.below HC.out.2.2.2) hkl
      obtain ⟨⟨q0, q1⟩, hqq⟩ : ∃ q, qs[k] = q := ⟨_, rfl⟩
      rw [hqq] at hd0 hd1
      simp only at hd0 hd1
      clear hqq hkl
      have HX1 := Lib.hid (Cx.new HC.out q0 q1)
      go_upto_region 9 with fail
      generalize hx : wr.heap.size = x at HX1 ⊢
      generalize hW : World.alloc wr _ = W1 at HX1 ⊢
      clear hx hW hd0 hd1
      have x0 := HX1.out.2.2.cell 0
      have x1 := HX1.out.2.2.cell 1
      simp at x0 x1
      cases q0
      · go_wp2_with fail
        refine (HX1.out.samp HT.out.1 q1).mono ?_
        rintro e W2 ⟨rfl, h2⟩
        have HX2 := Lib.hid h2.1
        clear h2 HX1 x0 x1
        go_wp2_with fail
        go_roundw
        case rel => exact ⟨k + 1, t.sample q1, by go_num, by omega, Lib.hid ⟨sample_ok HT.out.1 q1, (sample_same t q1).1.trans HT.out.2.1, (sample_same t q1).2.1.trans HT.out.2.2⟩, HX2⟩
        case measure => simp [intOf] <;> omega
      · go_wp2_with fail
        refine (HX1.out.bk HT.out.1).mono ?_
        rintro e W2 ⟨rfl, h2⟩
        have HX2 := Lib.hid h2.1
        clear h2 HX1 x0 x1
        go_wp2_with fail
        go_roundw
        case rel => exact ⟨k + 1, t.back, by go_num, by omega, Lib.hid ⟨back_ok HT.out.1, HT.out.2.1, HT.out.2.2⟩, HX2⟩
        case measure => simp [intOf] <;> omega
    · go_wp2_with fail
      go_loopw [43] (fun v43 wr => ∃ k : Nat, v43 = .int .i64 k ∧ k ≤ 400 ∧ Hid (Ct w0 c g (mny r k t) wr)) (fun v43 _ => 400 - (intOf v43).toNat)
      case atStart => exact ⟨0, rfl, Nat.zero_le _, HC⟩
      case round =>
        obtain ⟨j, rfl, hj, HJ⟩ := hrel
        clear HC
        by_cases hj4 : j < 400
        · have hz4 : decide ((j : Int) < 400) = true := decide_eq_true (by omega)
          go_wp2_with fail
          refine (HJ.out.samp (mny_ok r j HT.out.1) r).mono ?_
          rintro e W2 ⟨rfl, h2⟩
          rw [← mny_snoc] at h2
          have HX2 := Lib.hid h2
          clear h2 HJ
          go_wp2_with fail
          go_roundw
          case rel => exact ⟨j + 1, by go_num, by omega, HX2⟩
          case measure => simp [intOf] <;> omega
        · have hz4 : decide ((j : Int) < 400) = false := decide_eq_false (by omega)
          obtain rfl : j = 400 := by omega
          obtain ⟨vn, hv1, hv2, hv3⟩ := steady HT.out.1 r
          rw [HT.out.2.1, HT.out.2.2] at hv3
          have HV := Lib.hid (value_any HJ.out.1)
          rw [hv3] at HV
          have HB0 : Hid (tt.lo ≤ 65536 ∧ tt.hi ≤ 65536) := Lib.hid (by have := HT.out.2.1; have := HT.out.2.2; have := HT.out.1.2.1; have := HT.out.1.2.2.1; have := HT.out.1.2.2.2.1; omega)
          have HB1 := Lib.hid (bound_any HJ.out.2.2.1 tt.lo tt.hi (min r 4294967296) HRN.out HRX.out HB0.out.1 HB0.out.2)
          have HB2 := Lib.hid (bound_any HJ.out.2.2.1 tt.lo tt.hi (min r 4294967296 + 10) HRN.out HRX.out HB0.out.1 HB0.out.2)
          have hge : clamp tt.lo tt.hi (min r 4294967296) ≤ clamp tt.lo tt.hi vn := clamp_mono hv1
          have hle : clamp tt.lo tt.hi vn ≤ clamp tt.lo tt.hi (min r 4294967296 + 10) := clamp_mono hv2
          have e10 : IntKind.u64.wrap (((min r 4294967296 : Nat) : Int) + 10) = ((min r 4294967296 + 10 : Nat) : Int) := u64e (by omega) (by omega)
          clear hv1 hv2 hv3
          have hmn : (4294967296 < r ∧ min r 4294967296 = 4294967296) ∨ (¬ 4294967296 < r ∧ min r 4294967296 = r) := by omega
          generalize clamp tt.lo tt.hi vn = cn at HV hge hle
          generalize clamp tt.lo tt.hi (min r 4294967296) = cq at HB1 hge
          generalize clamp tt.lo tt.hi (min r 4294967296 + 10) = ct at HB2 hle
          generalize min r 4294967296 = q at HB1 HB2 e10 hmn
          generalize q + 10 = q10 at HB2 e10
          clear HT HL HR HRN HRX HB0 hj hlt hk hj4
          go_upto_region 17 with fail
          go_cut [2] from 49 to 50 (fun v2 W => v2 = .int .u64 (q : Int) ∧ W = wr)
          case first =>
            rcases hmn with ⟨hmn, rfl⟩ | ⟨hmn, rfl⟩
            all_goals
              go_wp2_with fail
              go_meet
              case rel => exact ⟨rfl, rfl⟩
          case rest =>
            obtain ⟨rfl, rfl⟩ := hcut
            clear hmn
            go_wp2_with (first
              | (go_at_call 37; (with_reducible refine HV.out.mono ?_); rintro e w ⟨rfl, rfl⟩)
              | (go_at_call 45; (with_reducible refine HB1.out.mono ?_); rintro e w ⟨rfl, rfl⟩)
              | (go_at_call 45; (with_reducible refine HB2.out.mono ?_); rintro e w ⟨rfl, rfl⟩))
            refine (works_any _).mono ?_
            rintro e w4 ⟨rfl, h4⟩
            have H4 := Lib.hid (bnext HJ.out.2.2.2 h4)
            clear HJ h4
            go_wp2_with fail
            go_ret
            exact ⟨rfl, H4.out⟩
end Go.Proofs.Ytfjeoioejdkdpaa
