/-
  What the document's value does: a chunk of gaps.
-/
import Derived.Test.YtbliipjiilmbcaaYP2c
namespace Go.Proofs.Ytbliipjiilmbcaa
open Go.RowKit Wire Tlv Chunk

theorem ga_lt {c : Ck} (h : c.ok) : ∀ g ∈ c.ga, g.1 < 65536 ∧ g.2 < 65536 := h.ga
set_option maxRecDepth 100000 in
set_option maxHeartbeats 4000000 in
theorem rvalue3 (c : Ck) (s : Ls) (w : World) (hk : c.kd = 3) (hm : may c) (h : Ch w c s) :
    Calls Try.prog 59 #[.agg (cv c s)] w (RvOut w c) := by
  have HU : Hid (U1 w (cv c s) _) := Lib.hid (U1.new w (cv c s))
  have HC : Hid (Ch _ c s) := Lib.hid (h.alloc (.cells (cv c s) 32))
  obtain ⟨i0, hi0, hz0, hz1, hz2⟩ := info_parts Try_info8
  have HI := Lib.hid hi0
  have HZ0 := Lib.hid hz0
  have HZ1 := Lib.hid hz1
  have HZ2 := Lib.hid hz2
  clear hi0 hz0 hz1 hz2
  have Rtsn := Lib.hid fun w1 W hW => rb_out4 w1 c.tsn h.ok.tsn W hW
  have Rrw := Lib.hid fun w1 W hW => rb_out4 w1 c.rw h.ok.rw W hW
  have hf := hm.1
  have hgn : s.gn ≤ 64 := by have := hf.ga64; have := h.z.g; omega
  have hun : s.un ≤ 16 := by have := hf.du16; have := h.z.u; omega
  have Rgn := Lib.hid fun w1 W hW => rb_out2 w1 s.gn (by omega) W hW
  have Run := Lib.hid fun w1 W hW => rb_out2 w1 s.un (by omega) W hW
  have wgn : IntKind.u32.wrap (s.gn : Int) = (s.gn : Int) := by rw [IntKind.wrap_u32]; omega
  have wun : IntKind.u32.wrap (s.un : Int) = (s.un : Int) := by rw [IntKind.wrap_u32]; omega
  have HV := Lib.hid (val_plain (c := c) (by omega) (nil_of (by have := hf.inn; simp only [hIn] at this; omega)) (nil_of (by have := hf.ca; simp only [hCa] at this; omega)))
  have HD := Lib.hid (nil_of (l := c.da) (by have := hf.da; simp only [hDa] at this; omega))
  have HNM := Lib.hid (show nums c = be 4 c.tsn ++ (be 4 c.rw ++ (be 2 s.gn ++ (be 2 s.un ++ (gb c.ga ++ ub c.du)))) by rw [← h.z.g, ← h.z.u]; simp [nums, hk])
  have HGL := Lib.hid h.z.g
  have HUL := Lib.hid h.z.u
  have HGA := Lib.hid h.ok.ga
  have HDU := Lib.hid h.ok.du
  clear hm hf h
  go_enter Try.func59, Try.ntmps59
  go_upto_region 3 with fail
  generalize World.alloc w _ = W1 at HU HC ⊢
  have hlt := HU.out.1.lt
  have HBK := Lib.hid fun (W : World) (hW : Below W1.heap.size W1 W) => HU.out.1.nextB hW hlt
  have a0 := HU.out.1.c0
  rw [hk] at a0
  go_upto_region 23 with fail
  clear a0
  have z4 := HU.out.1.c4
  have z3 := HU.out.1.c3
  go_cut [4] from 97 to 103 (fun v4 W => ∃ A c', v4 = .slice A 8 c' ∧ Hid (Own W1 W A 8 c' (be 4 c.tsn ++ be 4 c.rw)))
  case first =>
    have hbd : Below W1.heap.size W1 W1.drew := (Below.refl _ _).drew
    go_region_law (first
      | (refine step_append_lies _ rfl (.tmp 99) (.tmp 102) 23 rfl W1.heap.size 5 i0 (.int .u8 0) 1 1 Try.underlying23 HI.out HZ0.out HZ1.out HZ2.out rfl (by decide) _ _ _ rfl (by first | exact hP'.1 | exact hP.1) ⟨gQ, 0, none⟩ 4 4 (bs (be 4 c.rw)) rfl (by rw [bs_len, be_len]) (by first | exact bcells hQ'.row | exact bcells hQ.row) (bs_one _) (by omega) (by unfold maxLen; omega) (by omega) (by first | exact hP'.2.size | exact hP.2.size) _ rfl ?_; intro g9 cap9 w10 hown10 hgrow10 hat10 _)
      | (go_simp; go_at_call 85; (with_reducible refine (Rtsn.out W1 _ ?_).mono ?_); assumption; rintro e wP ⟨gP, rfl, hP, hkP, hbP⟩; have yQ := (HBK.out _ hbP).c3; (try have hQ' := hQ.next hkP))
      | (go_simp; go_at_call 85; (with_reducible refine (Rrw.out W1 _ ?_).mono ?_); assumption; rintro e wQ ⟨gQ, rfl, hQ, hkQ, hbQ⟩; have yP := (HBK.out _ hbQ).c4; (try have hP' := hP.next hkQ)))
    all_goals
      rw [bs_app] at hown10
      have HN : Hid (Own W1 w10 (some ⟨g9, 0, none⟩) 8 cap9 (be 4 c.tsn ++ be 4 c.rw)) := by first | exact Lib.hid (grown_own hP' hown10 hgrow10) | exact Lib.hid (grown_own hP hown10 hgrow10)
      go_wp2_with fail
      go_meet
      case rel => exact ⟨_, _, rfl, HN⟩
  case rest =>
  obtain ⟨A0, c0, rfl, HO0⟩ := hcut
  go_upto_region 24 with fail
  have z12 := (HBK.out _ HO0.out.2).c12
  go_wp2_with fail
  have hbw := HO0.out.2
  (with_reducible refine (Rgn.out W1 _ hbw).mono ?_)
  rintro e V0 ⟨q0, rfl, ho0, hk0, hb0⟩
  have HP0 := Lib.hid (HO0.out.next hk0)
  have HQ0 := Lib.hid ho0
  clear ho0 hk0 hb0 hbw z12
  go_upto_region 25 with (at_builtin; refine wpList_append_lies _ rfl (.tmp 104) (.tmp 109) 23 rfl W1.heap.size 5 i0 (.int .u8 0) 1 1 Try.underlying23 HI.out HZ0.out HZ1.out HZ2.out rfl (by decide) _ _ _ rfl HP0.out.1 ⟨q0, 0, none⟩ 2 2 (bs (be 2 s.gn)) rfl (by rw [bs_len, be_len]) (bcells HQ0.out.row) (bs_one _) (by omega) (by unfold maxLen; omega) (by omega) HP0.out.2.size _ rfl ?_; intro g9 cap9 w10 hown10 hgrow10 hat10 _; rw [bs_app] at hown10; have HO1 : Hid (Own W1 w10 (some ⟨g9, 0, none⟩) 10 cap9 (be 4 c.tsn ++ be 4 c.rw ++ be 2 s.gn)) := Lib.hid (grown_own HP0.out hown10 hgrow10); clear hown10 hgrow10 hat10)
  go_upto_region 25 with fail
  have z13 := (HBK.out _ HO1.out.2).c13
  go_wp2_with fail
  have hbw := HO1.out.2
  (with_reducible refine (Run.out W1 _ hbw).mono ?_)
  rintro e V1 ⟨q1, rfl, ho1, hk1, hb1⟩
  have HP1 := Lib.hid (HO1.out.next hk1)
  have HQ1 := Lib.hid ho1
  clear ho1 hk1 hb1 hbw z13
  go_upto_region 26 with (at_builtin; refine wpList_append_lies _ rfl (.tmp 111) (.tmp 116) 23 rfl W1.heap.size 5 i0 (.int .u8 0) 1 1 Try.underlying23 HI.out HZ0.out HZ1.out HZ2.out rfl (by decide) _ _ _ rfl HP1.out.1 ⟨q1, 0, none⟩ 2 2 (bs (be 2 s.un)) rfl (by rw [bs_len, be_len]) (bcells HQ1.out.row) (bs_one _) (by omega) (by unfold maxLen; omega) (by omega) HP1.out.2.size _ rfl ?_; intro g9 cap9 w10 hown10 hgrow10 hat10 _; rw [bs_app] at hown10; have HO2 : Hid (Own W1 w10 (some ⟨g9, 0, none⟩) 12 cap9 (be 4 c.tsn ++ be 4 c.rw ++ be 2 s.gn ++ be 2 s.un)) := Lib.hid (grown_own HP1.out hown10 hgrow10); clear hown10 hgrow10 hat10)
  obtain ⟨base, hbase⟩ : ∃ base, be 4 c.tsn ++ be 4 c.rw ++ be 2 s.gn ++ be 2 s.un = base := ⟨_, rfl⟩
  rw [hbase] at HO2
  have HBASE : Hid (base ++ gb c.ga ++ ub c.du = nums c) := Lib.hid (by rw [← hbase, HNM.out]; simp [List.append_assoc])
  clear hbase HO0 HO1 wgn wun
  have y12 := (HBK.out _ HO2.out.2).c12
  go_wp2_with fail
  clear y12
  go_loopw [4, 7] (fun v i wr => ∃ (k n : Nat) (A : Option Addr) (c' : Nat), k ≤ s.gn ∧ i = .int .i64 (k : Int) ∧ v = .slice A n c' ∧ Hid (n = 12 + 4 * k) ∧ Hid (Own W1 wr A n c' (base ++ gb (c.ga.take k)))) (fun _ i _ => s.gn - (intOf i).toNat)
  case atStart => exact ⟨0, 12, _, _, by omega, rfl, rfl, Lib.hid rfl, by rw [List.take_zero]; exact Lib.hid (by have := HO2.out; simpa [gb] using this)⟩
  case round =>
    clear HO2
    obtain ⟨k, n, A, c', hk1, rfl, rfl, hm, hown⟩ := hrel
    have hnb : n ≤ 400 := by have := hm.out; omega
    have z12 := (HBK.out _ hown.out.2).c12
    by_cases hlt1 : k < s.gn
    · have hkl : k < c.ga.length := by rw [HGL.out]; exact hlt1
      have HG := Lib.hid fun (W : World) (hW : Below W1.heap.size W1 W) => gap_at (HC.out.gr.below hW) hkl
      obtain ⟨a, hA, k0, k1⟩ := HG.out _ (hown.out.2.mono (Nat.le_refl _))
      have HA := Lib.hid hA
      rw [hA] at z12
      have HT : Hid (gb (c.ga.take (k + 1)) = gb (c.ga.take k) ++ (be 2 (c.ga[k]).1 ++ be 2 (c.ga[k]).2)) := Lib.hid (by rw [List.take_succ_eq_append_getElem hkl, gb_snoc])
      have hx := HGA.out _ (List.getElem_mem hkl)
      generalize c.ga[k] = g at *
      obtain ⟨g1, g2⟩ := g
      simp only at k0 HT hx
      have wg1 : IntKind.u32.wrap (g1 : Int) = (g1 : Int) := by rw [IntKind.wrap_u32]; omega
      have wg2 : IntKind.u32.wrap (g2 : Int) = (g2 : Int) := by rw [IntKind.wrap_u32]; omega
      have hbw := hown.out.2
      clear k1 hA
      go_wp2_with fail
      (with_reducible refine (rb_out2 W1 g1 hx.1 _ hbw).mono ?_)
      rintro e V ⟨q, rfl, ho, hkV, hbV⟩
      have HP := Lib.hid (hown.out.next hkV)
      have HQ := Lib.hid ho
      clear ho hkV hbV hbw k0 z12
      go_upto_region 30 with (at_builtin; refine wpList_append_lies _ rfl (.tmp 125) (.tmp 133) 23 rfl W1.heap.size 5 i0 (.int .u8 0) 1 1 Try.underlying23 HI.out HZ0.out HZ1.out HZ2.out rfl (by decide) _ _ _ rfl HP.out.1 ⟨q, 0, none⟩ 2 2 (bs (be 2 g1)) rfl (by rw [bs_len, be_len]) (bcells HQ.out.row) (bs_one _) (by omega) (by unfold maxLen; omega) (by omega) HP.out.2.size _ rfl ?_; intro g9 cap9 w10 hown10 hgrow10 hat10 _; rw [bs_app] at hown10; have HO6 : Hid (Own W1 w10 (some ⟨g9, 0, none⟩) (n + 2) cap9 (base ++ gb (c.ga.take k) ++ be 2 g1)) := Lib.hid (grown_own HP.out hown10 hgrow10); clear hown10 hgrow10 hat10)
      clear HP HQ
      have z12 := (HBK.out _ HO6.out.2).c12
      obtain ⟨a2, hA2, k0, k1⟩ := HG.out _ (HO6.out.2.mono (Nat.le_refl _))
      have hA3 := HA.out
      rw [hA2] at hA3
      injection hA3 with hA3
      subst hA3
      rw [hA2] at z12
      try simp only at k0 k1
      have hbw := HO6.out.2
      clear hA2 k0
      go_wp2_with fail
      (with_reducible refine (rb_out2 W1 g2 hx.2 _ hbw).mono ?_)
      rintro e V2 ⟨q2, rfl, ho, hkV, hbV⟩
      have HP := Lib.hid (HO6.out.next hkV)
      have HQ := Lib.hid ho
      clear ho hkV hbV hbw k1 z12
      go_wp2_with (at_builtin; refine wpList_append_lies _ rfl (.tmp 135) (.tmp 143) 23 rfl W1.heap.size 5 i0 (.int .u8 0) 1 1 Try.underlying23 HI.out HZ0.out HZ1.out HZ2.out rfl (by decide) _ _ _ rfl HP.out.1 ⟨q2, 0, none⟩ 2 2 (bs (be 2 g2)) rfl (by rw [bs_len, be_len]) (bcells HQ.out.row) (bs_one _) (by omega) (by unfold maxLen; omega) (by omega) HP.out.2.size _ rfl ?_; intro g19 cap19 w20 hown20 hgrow20 hat20 _; rw [bs_app] at hown20; have HO7 : Hid (Own W1 w20 (some ⟨g19, 0, none⟩) (n + 2 + 2) cap19 (base ++ gb (c.ga.take (k + 1)))) := Lib.hid (by rw [HT.out]; have := grown_own HP.out hown20 hgrow20; simpa [List.append_assoc] using this); clear hown20 hgrow20 hat20)
      go_roundw
      case rel => exact ⟨k + 1, n + 2 + 2, _, _, by omega, by go_num, rfl, Lib.hid (by have := hm.out; omega), HO7⟩
      case measure => simp [intOf]; omega
    · have HT : Hid (gb (c.ga.take k) = gb c.ga) := Lib.hid (by rw [List.take_of_length_le (by rw [HGL.out]; omega)])
      have HO5 : Hid (Own W1 wr A n c' (base ++ gb c.ga)) := Lib.hid (by rw [← HT.out]; exact hown.out)
      have HN : Hid (n = 12 + 4 * s.gn) := Lib.hid (by have := hm.out; have : k = s.gn := by omega
                                                       omega)
      have z13 := (HBK.out _ HO5.out.2).c13
      clear hown HT hm
      go_wp2_with fail
      clear z13
      go_loopw [4, 8] (fun v i wr => ∃ (j m' : Nat) (A : Option Addr) (c' : Nat), j ≤ s.un ∧ i = .int .i64 (j : Int) ∧ v = .slice A m' c' ∧ Hid (m' = n + 4 * j) ∧ Hid (Own W1 wr A m' c' (base ++ gb c.ga ++ ub (c.du.take j)))) (fun _ i _ => s.un - (intOf i).toNat)
      case atStart => exact ⟨0, n, _, _, by omega, rfl, rfl, Lib.hid rfl, by rw [List.take_zero]; exact Lib.hid (by have := HO5.out; simpa [ub] using this)⟩
      case round =>
        clear HO5
        obtain ⟨j, m', A', c'', hj1, rfl, rfl, hm', hown⟩ := hrel
        have hmb : m' ≤ 600 := by have := hm'.out; omega
        have z13 := (HBK.out _ hown.out.2).c13
        by_cases hlt2 : j < s.un
        · have hkl : j < c.du.length := by rw [HUL.out]; exact hlt2
          obtain ⟨a, hA, k0⟩ := num_at (HC.out.ur.below (hown.out.2.mono (Nat.le_refl _))) hkl
          rw [hA] at z13
          have HT : Hid (ub (c.du.take (j + 1)) = ub (c.du.take j) ++ be 4 (c.du[j])) := Lib.hid (by rw [List.take_succ_eq_append_getElem hkl, ub_snoc])
          have hx := HDU.out _ (List.getElem_mem hkl)
          generalize c.du[j] = x at *
          have hbw := hown.out.2
          clear hA
          go_wp2_with fail
          (with_reducible refine (rb_out4 W1 x hx _ hbw).mono ?_)
          rintro e V ⟨q, rfl, ho, hkV, hbV⟩
          have HP := Lib.hid (hown.out.next hkV)
          have HQ := Lib.hid ho
          clear ho hkV hbV hbw k0 z13
          go_wp2_with (at_builtin; refine wpList_append_lies _ rfl (.tmp 152) (.tmp 158) 23 rfl W1.heap.size 5 i0 (.int .u8 0) 1 1 Try.underlying23 HI.out HZ0.out HZ1.out HZ2.out rfl (by decide) _ _ _ rfl HP.out.1 ⟨q, 0, none⟩ 4 4 (bs (be 4 x)) rfl (by rw [bs_len, be_len]) (bcells HQ.out.row) (bs_one _) (by omega) (by unfold maxLen; omega) (by omega) HP.out.2.size _ rfl ?_; intro g9 cap9 w10 hown10 hgrow10 hat10 _; rw [bs_app] at hown10; have HO7 : Hid (Own W1 w10 (some ⟨g9, 0, none⟩) (m' + 4) cap9 (base ++ gb c.ga ++ ub (c.du.take (j + 1)))) := Lib.hid (by rw [HT.out]; have := grown_own HP.out hown10 hgrow10; simpa [List.append_assoc] using this); clear hown10 hgrow10 hat10)
          go_roundw
          case rel => exact ⟨j + 1, m' + 4, _, _, by omega, by go_num, rfl, Lib.hid (by have := hm'.out; omega), HO7⟩
          case measure => simp [intOf]; omega
        · have HF : Hid (Own W1 wr A' m' c'' (nums c)) := Lib.hid (by
            have := hown.out
            rw [List.take_of_length_le (by rw [HUL.out]; omega), HBASE.out] at this
            exact this)
          clear hown
          go_wp2_with fail
          go_ret2
          exact ⟨_, _, _, nums c, 0, rfl, own_lift HF.out HU.out.2, .inl ⟨rfl, by rw [HV.out, HD.out, List.append_nil]⟩, by omega, own_zc HF.out⟩
end Go.Proofs.Ytbliipjiilmbcaa
