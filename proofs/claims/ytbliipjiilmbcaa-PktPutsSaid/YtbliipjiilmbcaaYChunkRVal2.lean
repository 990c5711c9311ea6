/-
  What the document's value does: the kinds with parameters, and with lists.
-/
import Derived.Test.YtbliipjiilmbcaaYP2c
import Derived.Deep.RegionHeld3
namespace Go.Proofs.Ytbliipjiilmbcaa
open Go.RowKit Wire Tlv Chunk

def p5 (a : Nat) : Tv := ⟨5, 0, be 4 a⟩
def pc (x : Nat × List Int) : Tv := ⟨x.1, 0, x.2⟩
theorem val_init {c : Ck} (hk : c.kd = 1) (hd : c.da = []) (hc : c.ca = []) : val c = nums c ++ cat false (c.ad.map p5) := by
  unfold val body pars
  rw [if_neg (by omega), if_neg (by omega), hd, hc]
  simp
  rfl
theorem val_ack {c : Ck} (hk : c.kd = 2) (hc : c.ca = []) : val c = (nums c ++ cat false (c.ad.map p5)) ++ tb false ⟨7, 0, c.da⟩ := by
  unfold val body pars
  rw [if_pos hk, if_pos hk, hc]
  simp [cat]
  rfl
theorem val_causes {c : Ck} (hk : c.kd = 6 ∨ c.kd = 9) (hd : c.da = []) (ha : c.ad = []) : val c = cat false (c.ca.map pc) := by
  have hn : nums c = [] := by unfold nums; rw [if_neg (by omega), if_neg (by omega), if_neg (by omega), if_neg (by omega)]
  unfold val body pars
  rw [if_neg (by omega), if_neg (by omega), hd, ha, hn]
  simp [cat]
  rfl
theorem cat_snoc (ch : Bool) (l : List Tv) (x : Tv) : cat ch (l ++ [x]) = cat ch l ++ tb ch x := by simp [cat]
def bnd (k : Nat) : Nat := 20 + k * 65540
theorem bnd_zero : 16 ≤ bnd 0 := by unfold bnd; omega
theorem bnd_le {k : Nat} (h : k ≤ 3) : bnd k ≤ 300000 := by unfold bnd; omega
theorem bnd_step {k n n2 : Nat} (h : n ≤ bnd k) (h2 : n2 ≤ n + 65540) : n2 ≤ bnd (k + 1) := by
  have e : bnd (k + 1) = bnd k + 65540 := by unfold bnd; rw [Nat.add_mul, Nat.one_mul, Nat.add_assoc]
  rw [e]
  exact Nat.le_trans h2 (Nat.add_le_add_right h 65540)
theorem bnd_big {k : Nat} (h : k ≤ 5000) : bnd k ≤ 400000000 := by unfold bnd; omega
theorem p5_len (a : Nat) : (tb false (p5 a)).length = 8 := by rw [tb_len]; simp [p5, be_len, whl]
set_option maxRecDepth 100000 in
set_option maxHeartbeats 4000000 in
theorem rvalue1 (c : Ck) (s : Ls) (w : World) (hk : c.kd = 1) (hm : may c) (h : Ch w c s) :
    Calls Try.prog 59 #[.agg (cv c s)] w (RvOut w c) := by
  have HU : Hid (U1 w (cv c s) _) := Lib.hid (U1.new w (cv c s))
  have HC : Hid (Ch _ c s) := Lib.hid (h.alloc (.cells (cv c s) 32))
  obtain ⟨i0, hi0, hz0, hz1, hz2⟩ := info_parts Try_info8
  have HI := Lib.hid hi0
  have HZ0 := Lib.hid hz0
  have HZ1 := Lib.hid hz1
  have HZ2 := Lib.hid hz2
  clear hi0 hz0 hz1 hz2
  have Rtag := Lib.hid fun w1 W hW => rb_out4 w1 c.tag h.ok.tag W hW
  have Rrw := Lib.hid fun w1 W hW => rb_out4 w1 c.rw h.ok.rw W hW
  have Rout := Lib.hid fun w1 W hW => rb_out2 w1 c.out h.ok.out W hW
  have Rinn := Lib.hid fun w1 W hW => rb_out2 w1 c.inn h.ok.inn W hW
  have Rtsn := Lib.hid fun w1 W hW => rb_out4 w1 c.tsn h.ok.tsn W hW
  have wout : IntKind.u32.wrap (c.out : Int) = (c.out : Int) := by rw [IntKind.wrap_u32]; have := h.ok.out; omega
  have winn : IntKind.u32.wrap (c.inn : Int) = (c.inn : Int) := by rw [IntKind.wrap_u32]; have := h.ok.inn; omega
  have hf := hm.1
  have ha3 : s.an ≤ 3 := by have := hf.ad3; have := h.z.a; omega
  have HV := Lib.hid (val_init (c := c) hk (nil_of (by have := hf.da; simp only [hDa] at this; omega)) (nil_of (by have := hf.ca; simp only [hCa] at this; omega)))
  have HNM := Lib.hid (show nums c = be 4 c.tag ++ (be 4 c.rw ++ (be 2 c.out ++ (be 2 c.inn ++ be 4 c.tsn))) by simp [nums, hk])
  have HAL := Lib.hid h.z.a
  have HAD := Lib.hid h.ok.ad
  have HDB := Lib.hid h.ok.da
  have hKD := Lib.hid hk
  clear hm hf h
  go_enter Try.func59, Try.ntmps59
  go_upto_region 3 with fail
  generalize World.alloc w _ = W1 at HU HC ⊢
  have hlt := HU.out.1.lt
  have HBK := Lib.hid fun (W : World) (hW : Below W1.heap.size W1 W) => HU.out.1.nextB hW hlt
  have a0 := HU.out.1.c0
  rw [hk] at a0
  go_upto_region 11 with fail
  clear a0
  have z2 := HU.out.1.c2
  have z3 := HU.out.1.c3
  go_cut [4] from 41 to 47 (fun v4 W => ∃ A c', v4 = .slice A 8 c' ∧ Hid (Own W1 W A 8 c' (be 4 c.tag ++ be 4 c.rw)))
  case first =>
    have hbd : Below W1.heap.size W1 W1.drew := (Below.refl _ _).drew
    go_region_law (first
      | (refine step_append_lies _ rfl (.tmp 43) (.tmp 46) 23 rfl W1.heap.size 5 i0 (.int .u8 0) 1 1 Try.underlying23 HI.out HZ0.out HZ1.out HZ2.out rfl (by decide) _ _ _ rfl (by first | exact hP'.1 | exact hP.1) ⟨gQ, 0, none⟩ 4 4 (bs (be 4 c.rw)) rfl (by rw [bs_len, be_len]) (by first | exact bcells hQ'.row | exact bcells hQ.row) (bs_one _) (by omega) (by unfold maxLen; omega) (by omega) (by first | exact hP'.2.size | exact hP.2.size) _ rfl ?_; intro g9 cap9 w10 hown10 hgrow10 hat10 _)
      | (go_simp; go_at_call 85; (with_reducible refine (Rtag.out W1 _ ?_).mono ?_); assumption; rintro e wP ⟨gP, rfl, hP, hkP, hbP⟩; have yQ := (HBK.out _ hbP).c3; (try have hQ' := hQ.next hkP))
      | (go_simp; go_at_call 85; (with_reducible refine (Rrw.out W1 _ ?_).mono ?_); assumption; rintro e wQ ⟨gQ, rfl, hQ, hkQ, hbQ⟩; have yP := (HBK.out _ hbQ).c2; (try have hP' := hP.next hkQ)))
    all_goals
      rw [bs_app] at hown10
      have HN : Hid (Own W1 w10 (some ⟨g9, 0, none⟩) 8 cap9 (be 4 c.tag ++ be 4 c.rw)) := by first | exact Lib.hid (grown_own hP' hown10 hgrow10) | exact Lib.hid (grown_own hP hown10 hgrow10)
      go_wp2_with fail
      go_meet
      case rel => exact ⟨_, _, rfl, HN⟩
  case rest =>
  obtain ⟨A0, c0, rfl, HO0⟩ := hcut
  go_upto_region 12 with fail
  have z5 := (HBK.out _ HO0.out.2).c5
  go_wp2_with fail
  have hbw := HO0.out.2
  (with_reducible refine (Rout.out W1 _ hbw).mono ?_)
  rintro e V0 ⟨q0, rfl, ho0, hk0, hb0⟩
  have HP0 := Lib.hid (HO0.out.next hk0)
  have HQ0 := Lib.hid ho0
  clear ho0 hk0 hb0 hbw z5
  go_upto_region 13 with (at_builtin; refine wpList_append_lies _ rfl (.tmp 48) (.tmp 52) 23 rfl W1.heap.size 5 i0 (.int .u8 0) 1 1 Try.underlying23 HI.out HZ0.out HZ1.out HZ2.out rfl (by decide) _ _ _ rfl HP0.out.1 ⟨q0, 0, none⟩ 2 2 (bs (be 2 c.out)) rfl (by rw [bs_len, be_len]) (bcells HQ0.out.row) (bs_one _) (by omega) (by unfold maxLen; omega) (by omega) HP0.out.2.size _ rfl ?_; intro g9 cap9 w10 hown10 hgrow10 hat10 _; rw [bs_app] at hown10; have HO1 : Hid (Own W1 w10 (some ⟨g9, 0, none⟩) 10 cap9 (be 4 c.tag ++ be 4 c.rw ++ be 2 c.out)) := Lib.hid (grown_own HP0.out hown10 hgrow10); clear hown10 hgrow10 hat10)
  go_upto_region 13 with fail
  have z6 := (HBK.out _ HO1.out.2).c6
  go_wp2_with fail
  have hbw := HO1.out.2
  (with_reducible refine (Rinn.out W1 _ hbw).mono ?_)
  rintro e V1 ⟨q1, rfl, ho1, hk1, hb1⟩
  have HP1 := Lib.hid (HO1.out.next hk1)
  have HQ1 := Lib.hid ho1
  clear ho1 hk1 hb1 hbw z6
  go_upto_region 14 with (at_builtin; refine wpList_append_lies _ rfl (.tmp 54) (.tmp 58) 23 rfl W1.heap.size 5 i0 (.int .u8 0) 1 1 Try.underlying23 HI.out HZ0.out HZ1.out HZ2.out rfl (by decide) _ _ _ rfl HP1.out.1 ⟨q1, 0, none⟩ 2 2 (bs (be 2 c.inn)) rfl (by rw [bs_len, be_len]) (bcells HQ1.out.row) (bs_one _) (by omega) (by unfold maxLen; omega) (by omega) HP1.out.2.size _ rfl ?_; intro g9 cap9 w10 hown10 hgrow10 hat10 _; rw [bs_app] at hown10; have HO2 : Hid (Own W1 w10 (some ⟨g9, 0, none⟩) 12 cap9 (be 4 c.tag ++ be 4 c.rw ++ be 2 c.out ++ be 2 c.inn)) := Lib.hid (grown_own HP1.out hown10 hgrow10); clear hown10 hgrow10 hat10)
  go_upto_region 14 with fail
  have z4 := (HBK.out _ HO2.out.2).c4
  go_wp2_with fail
  have hbw := HO2.out.2
  (with_reducible refine (Rtsn.out W1 _ hbw).mono ?_)
  rintro e V2 ⟨q2, rfl, ho2, hk2, hb2⟩
  have HP2 := Lib.hid (HO2.out.next hk2)
  have HQ2 := Lib.hid ho2
  clear ho2 hk2 hb2 hbw z4
  go_upto_region 15 with (at_builtin; refine wpList_append_lies _ rfl (.tmp 60) (.tmp 63) 23 rfl W1.heap.size 5 i0 (.int .u8 0) 1 1 Try.underlying23 HI.out HZ0.out HZ1.out HZ2.out rfl (by decide) _ _ _ rfl HP2.out.1 ⟨q2, 0, none⟩ 4 4 (bs (be 4 c.tsn)) rfl (by rw [bs_len, be_len]) (bcells HQ2.out.row) (bs_one _) (by omega) (by unfold maxLen; omega) (by omega) HP2.out.2.size _ rfl ?_; intro g9 cap9 w10 hown10 hgrow10 hat10 _; rw [bs_app] at hown10; have HO3 : Hid (Own W1 w10 (some ⟨g9, 0, none⟩) 16 cap9 (be 4 c.tag ++ be 4 c.rw ++ be 2 c.out ++ be 2 c.inn ++ be 4 c.tsn)) := Lib.hid (grown_own HP2.out hown10 hgrow10); clear hown10 hgrow10 hat10)
  obtain ⟨base, hbase⟩ : ∃ base, be 4 c.tag ++ be 4 c.rw ++ be 2 c.out ++ be 2 c.inn ++ be 4 c.tsn = base := ⟨_, rfl⟩
  rw [hbase] at HO3
  have HBASE : Hid (base = nums c) := Lib.hid (by rw [← hbase, HNM.out]; simp [List.append_assoc])
  clear hbase HO0 HO1 HO2 wout winn
  go_wp2_with fail
  go_loopw [4, 6] (fun v i wr => ∃ (k n : Nat) (A : Option Addr) (c' : Nat), k ≤ s.an ∧ Hid (n ≤ bnd k) ∧ i = .int .i64 (k : Int) ∧ v = .slice A n c' ∧ Hid (Own W1 wr A n c' (base ++ cat false ((c.ad.take k).map p5)))) (fun _ i _ => s.an - (intOf i).toNat)
  case atStart => exact ⟨0, 16, _, _, by omega, Lib.hid bnd_zero, rfl, rfl, by rw [List.take_zero, List.map_nil]; exact Lib.hid (by have := HO3.out; simpa [cat] using this)⟩
  case round =>
    clear HO3
    obtain ⟨k, n, A, c', hk1, hnb, rfl, rfl, hown⟩ := hrel
    have hnb' : n ≤ 300000 := Nat.le_trans hnb.out (bnd_le (by omega))
    have z11 := (HBK.out _ hown.out.2).c11
    by_cases hlt1 : k < s.an
    · have hkl : k < c.ad.length := by rw [HAL.out]; exact hlt1
      obtain ⟨a, hA, k0⟩ := num_at (HC.out.ar.below (hown.out.2.mono (Nat.le_refl _))) hkl
      rw [hA] at z11
      have hx := HAD.out _ (List.getElem_mem hkl)
      have HT : Hid ((c.ad.take (k + 1)).map p5 = (c.ad.take k).map p5 ++ [p5 (c.ad[k])]) := Lib.hid (by rw [List.take_succ_eq_append_getElem hkl, List.map_append]; rfl)
      generalize c.ad[k] = x at *
      have hbw := hown.out.2
      go_wp2_with fail
      (with_reducible refine (rb_out4 W1 x hx _ hbw).mono ?_)
      rintro e V ⟨q, rfl, ho, hkV, hbV⟩
      have hP := rparam_any W1 V A n c' _ 5 (be 4 x) (some ⟨q, 0, none⟩) 4 4 (hown.out.next hkV) (by omega) ⟨by show 5 < 65536; omega, by show 0 < 256; omega, be_byt _ _⟩ (be_len _ _) (by omega) ho.row (fun h => by cases h)
      rw [tp_ok (x := ⟨5, 0, be 4 x⟩) (by simp [fit]) (by simp [be_len])] at hP
      have HP := Lib.hid hP
      clear hP ho hkV hbV hbw k0 hA
      go_wp2_with fail
      refine HP.out.mono ?_
      rintro e V2 ⟨A2, n2, c2, rfl, ho2, hn2⟩
      have HO2 : Hid (Own W1 V2 A2 n2 c2 (base ++ cat false ((c.ad.take (k + 1)).map p5))) := Lib.hid (by rw [HT.out, cat_snoc, ← List.append_assoc]; exact ho2)
      clear ho2 z11
      go_wp2_with fail
      go_roundw
      case rel => exact ⟨k + 1, n2, _, _, by omega, Lib.hid (bnd_step hnb.out hn2), by go_num, rfl, HO2⟩
      case measure => simp [intOf]; omega
    · have HF : Hid (Own W1 wr A n c' (nums c ++ cat false (c.ad.map p5))) := Lib.hid (by
        have := hown.out
        rw [List.take_of_length_le (by rw [HAL.out]; omega), HBASE.out] at this
        exact this)
      have y0 := (HBK.out _ hown.out.2).c0
      rw [hKD.out] at y0
      clear hown
      go_wp2_with fail
      go_ret2
      exact ⟨_, _, _, _, 0, rfl, own_lift HF.out HU.out.2, .inl ⟨rfl, by rw [HV.out]⟩, by omega, own_zc HF.out⟩
set_option maxRecDepth 100000 in
set_option maxHeartbeats 4000000 in
theorem rvalue2 (c : Ck) (s : Ls) (w : World) (hk : c.kd = 2) (hm : may c) (h : Ch w c s) :
    Calls Try.prog 59 #[.agg (cv c s)] w (RvOut w c) := by
  have HU : Hid (U1 w (cv c s) _) := Lib.hid (U1.new w (cv c s))
  have HC : Hid (Ch _ c s) := Lib.hid (h.alloc (.cells (cv c s) 32))
  obtain ⟨i0, hi0, hz0, hz1, hz2⟩ := info_parts Try_info8
  have HI := Lib.hid hi0
  have HZ0 := Lib.hid hz0
  have HZ1 := Lib.hid hz1
  have HZ2 := Lib.hid hz2
  clear hi0 hz0 hz1 hz2
  have Rtag := Lib.hid fun w1 W hW => rb_out4 w1 c.tag h.ok.tag W hW
  have Rrw := Lib.hid fun w1 W hW => rb_out4 w1 c.rw h.ok.rw W hW
  have Rout := Lib.hid fun w1 W hW => rb_out2 w1 c.out h.ok.out W hW
  have Rinn := Lib.hid fun w1 W hW => rb_out2 w1 c.inn h.ok.inn W hW
  have Rtsn := Lib.hid fun w1 W hW => rb_out4 w1 c.tsn h.ok.tsn W hW
  have wout : IntKind.u32.wrap (c.out : Int) = (c.out : Int) := by rw [IntKind.wrap_u32]; have := h.ok.out; omega
  have winn : IntKind.u32.wrap (c.inn : Int) = (c.inn : Int) := by rw [IntKind.wrap_u32]; have := h.ok.inn; omega
  have hf := hm.1
  have ha3 : s.an ≤ 3 := by have := hf.ad3; have := h.z.a; omega
  have HV := Lib.hid (val_ack (c := c) hk (nil_of (by have := hf.ca; simp only [hCa] at this; omega)))
  have HNM := Lib.hid (show nums c = be 4 c.tag ++ (be 4 c.rw ++ (be 2 c.out ++ (be 2 c.inn ++ be 4 c.tsn))) by simp [nums, hk])
  have HAL := Lib.hid h.z.a
  have HAD := Lib.hid h.ok.ad
  have HDB := Lib.hid h.ok.da
  have hKD := Lib.hid hk
  clear hm hf h
  go_enter Try.func59, Try.ntmps59
  go_upto_region 3 with fail
  generalize World.alloc w _ = W1 at HU HC ⊢
  have hlt := HU.out.1.lt
  have HBK := Lib.hid fun (W : World) (hW : Below W1.heap.size W1 W) => HU.out.1.nextB hW hlt
  have a0 := HU.out.1.c0
  rw [hk] at a0
  go_upto_region 11 with fail
  clear a0
  have z2 := HU.out.1.c2
  have z3 := HU.out.1.c3
  go_cut [4] from 41 to 47 (fun v4 W => ∃ A c', v4 = .slice A 8 c' ∧ Hid (Own W1 W A 8 c' (be 4 c.tag ++ be 4 c.rw)))
  case first =>
    have hbd : Below W1.heap.size W1 W1.drew := (Below.refl _ _).drew
    go_region_law (first
      | (refine step_append_lies _ rfl (.tmp 43) (.tmp 46) 23 rfl W1.heap.size 5 i0 (.int .u8 0) 1 1 Try.underlying23 HI.out HZ0.out HZ1.out HZ2.out rfl (by decide) _ _ _ rfl (by first | exact hP'.1 | exact hP.1) ⟨gQ, 0, none⟩ 4 4 (bs (be 4 c.rw)) rfl (by rw [bs_len, be_len]) (by first | exact bcells hQ'.row | exact bcells hQ.row) (bs_one _) (by omega) (by unfold maxLen; omega) (by omega) (by first | exact hP'.2.size | exact hP.2.size) _ rfl ?_; intro g9 cap9 w10 hown10 hgrow10 hat10 _)
      | (go_simp; go_at_call 85; (with_reducible refine (Rtag.out W1 _ ?_).mono ?_); assumption; rintro e wP ⟨gP, rfl, hP, hkP, hbP⟩; have yQ := (HBK.out _ hbP).c3; (try have hQ' := hQ.next hkP))
      | (go_simp; go_at_call 85; (with_reducible refine (Rrw.out W1 _ ?_).mono ?_); assumption; rintro e wQ ⟨gQ, rfl, hQ, hkQ, hbQ⟩; have yP := (HBK.out _ hbQ).c2; (try have hP' := hP.next hkQ)))
    all_goals
      rw [bs_app] at hown10
      have HN : Hid (Own W1 w10 (some ⟨g9, 0, none⟩) 8 cap9 (be 4 c.tag ++ be 4 c.rw)) := by first | exact Lib.hid (grown_own hP' hown10 hgrow10) | exact Lib.hid (grown_own hP hown10 hgrow10)
      go_wp2_with fail
      go_meet
      case rel => exact ⟨_, _, rfl, HN⟩
  case rest =>
  obtain ⟨A0, c0, rfl, HO0⟩ := hcut
  go_upto_region 12 with fail
  have z5 := (HBK.out _ HO0.out.2).c5
  go_wp2_with fail
  have hbw := HO0.out.2
  (with_reducible refine (Rout.out W1 _ hbw).mono ?_)
  rintro e V0 ⟨q0, rfl, ho0, hk0, hb0⟩
  have HP0 := Lib.hid (HO0.out.next hk0)
  have HQ0 := Lib.hid ho0
  clear ho0 hk0 hb0 hbw z5
  go_upto_region 13 with (at_builtin; refine wpList_append_lies _ rfl (.tmp 48) (.tmp 52) 23 rfl W1.heap.size 5 i0 (.int .u8 0) 1 1 Try.underlying23 HI.out HZ0.out HZ1.out HZ2.out rfl (by decide) _ _ _ rfl HP0.out.1 ⟨q0, 0, none⟩ 2 2 (bs (be 2 c.out)) rfl (by rw [bs_len, be_len]) (bcells HQ0.out.row) (bs_one _) (by omega) (by unfold maxLen; omega) (by omega) HP0.out.2.size _ rfl ?_; intro g9 cap9 w10 hown10 hgrow10 hat10 _; rw [bs_app] at hown10; have HO1 : Hid (Own W1 w10 (some ⟨g9, 0, none⟩) 10 cap9 (be 4 c.tag ++ be 4 c.rw ++ be 2 c.out)) := Lib.hid (grown_own HP0.out hown10 hgrow10); clear hown10 hgrow10 hat10)
  go_upto_region 13 with fail
  have z6 := (HBK.out _ HO1.out.2).c6
  go_wp2_with fail
  have hbw := HO1.out.2
  (with_reducible refine (Rinn.out W1 _ hbw).mono ?_)
  rintro e V1 ⟨q1, rfl, ho1, hk1, hb1⟩
  have HP1 := Lib.hid (HO1.out.next hk1)
  have HQ1 := Lib.hid ho1
  clear ho1 hk1 hb1 hbw z6
  go_upto_region 14 with (at_builtin; refine wpList_append_lies _ rfl (.tmp 54) (.tmp 58) 23 rfl W1.heap.size 5 i0 (.int .u8 0) 1 1 Try.underlying23 HI.out HZ0.out HZ1.out HZ2.out rfl (by decide) _ _ _ rfl HP1.out.1 ⟨q1, 0, none⟩ 2 2 (bs (be 2 c.inn)) rfl (by rw [bs_len, be_len]) (bcells HQ1.out.row) (bs_one _) (by omega) (by unfold maxLen; omega) (by omega) HP1.out.2.size _ rfl ?_; intro g9 cap9 w10 hown10 hgrow10 hat10 _; rw [bs_app] at hown10; have HO2 : Hid (Own W1 w10 (some ⟨g9, 0, none⟩) 12 cap9 (be 4 c.tag ++ be 4 c.rw ++ be 2 c.out ++ be 2 c.inn)) := Lib.hid (grown_own HP1.out hown10 hgrow10); clear hown10 hgrow10 hat10)
  go_upto_region 14 with fail
  have z4 := (HBK.out _ HO2.out.2).c4
  go_wp2_with fail
  have hbw := HO2.out.2
  (with_reducible refine (Rtsn.out W1 _ hbw).mono ?_)
  rintro e V2 ⟨q2, rfl, ho2, hk2, hb2⟩
  have HP2 := Lib.hid (HO2.out.next hk2)
  have HQ2 := Lib.hid ho2
  clear ho2 hk2 hb2 hbw z4
  go_upto_region 15 with (at_builtin; refine wpList_append_lies _ rfl (.tmp 60) (.tmp 63) 23 rfl W1.heap.size 5 i0 (.int .u8 0) 1 1 Try.underlying23 HI.out HZ0.out HZ1.out HZ2.out rfl (by decide) _ _ _ rfl HP2.out.1 ⟨q2, 0, none⟩ 4 4 (bs (be 4 c.tsn)) rfl (by rw [bs_len, be_len]) (bcells HQ2.out.row) (bs_one _) (by omega) (by unfold maxLen; omega) (by omega) HP2.out.2.size _ rfl ?_; intro g9 cap9 w10 hown10 hgrow10 hat10 _; rw [bs_app] at hown10; have HO3 : Hid (Own W1 w10 (some ⟨g9, 0, none⟩) 16 cap9 (be 4 c.tag ++ be 4 c.rw ++ be 2 c.out ++ be 2 c.inn ++ be 4 c.tsn)) := Lib.hid (grown_own HP2.out hown10 hgrow10); clear hown10 hgrow10 hat10)
  obtain ⟨base, hbase⟩ : ∃ base, be 4 c.tag ++ be 4 c.rw ++ be 2 c.out ++ be 2 c.inn ++ be 4 c.tsn = base := ⟨_, rfl⟩
  rw [hbase] at HO3
  have HBASE : Hid (base = nums c) := Lib.hid (by rw [← hbase, HNM.out]; simp [List.append_assoc])
  clear hbase HO0 HO1 HO2 wout winn
  go_wp2_with fail
  go_loopw [4, 6] (fun v i wr => ∃ (k n : Nat) (A : Option Addr) (c' : Nat), k ≤ s.an ∧ Hid (n ≤ bnd k) ∧ i = .int .i64 (k : Int) ∧ v = .slice A n c' ∧ Hid (Own W1 wr A n c' (base ++ cat false ((c.ad.take k).map p5)))) (fun _ i _ => s.an - (intOf i).toNat)
  case atStart => exact ⟨0, 16, _, _, by omega, Lib.hid bnd_zero, rfl, rfl, by rw [List.take_zero, List.map_nil]; exact Lib.hid (by have := HO3.out; simpa [cat] using this)⟩
  case round =>
    clear HO3
    obtain ⟨k, n, A, c', hk1, hnb, rfl, rfl, hown⟩ := hrel
    have hnb' : n ≤ 300000 := Nat.le_trans hnb.out (bnd_le (by omega))
    have z11 := (HBK.out _ hown.out.2).c11
    by_cases hlt1 : k < s.an
    · have hkl : k < c.ad.length := by rw [HAL.out]; exact hlt1
      obtain ⟨a, hA, k0⟩ := num_at (HC.out.ar.below (hown.out.2.mono (Nat.le_refl _))) hkl
      rw [hA] at z11
      have hx := HAD.out _ (List.getElem_mem hkl)
      have HT : Hid ((c.ad.take (k + 1)).map p5 = (c.ad.take k).map p5 ++ [p5 (c.ad[k])]) := Lib.hid (by rw [List.take_succ_eq_append_getElem hkl, List.map_append]; rfl)
      generalize c.ad[k] = x at *
      have hbw := hown.out.2
      go_wp2_with fail
      (with_reducible refine (rb_out4 W1 x hx _ hbw).mono ?_)
      rintro e V ⟨q, rfl, ho, hkV, hbV⟩
      have hP := rparam_any W1 V A n c' _ 5 (be 4 x) (some ⟨q, 0, none⟩) 4 4 (hown.out.next hkV) (by omega) ⟨by show 5 < 65536; omega, by show 0 < 256; omega, be_byt _ _⟩ (be_len _ _) (by omega) ho.row (fun h => by cases h)
      rw [tp_ok (x := ⟨5, 0, be 4 x⟩) (by simp [fit]) (by simp [be_len])] at hP
      have HP := Lib.hid hP
      clear hP ho hkV hbV hbw k0 hA
      go_wp2_with fail
      refine HP.out.mono ?_
      rintro e V2 ⟨A2, n2, c2, rfl, ho2, hn2⟩
      have HO2 : Hid (Own W1 V2 A2 n2 c2 (base ++ cat false ((c.ad.take (k + 1)).map p5))) := Lib.hid (by rw [HT.out, cat_snoc, ← List.append_assoc]; exact ho2)
      clear ho2 z11
      go_wp2_with fail
      go_roundw
      case rel => exact ⟨k + 1, n2, _, _, by omega, Lib.hid (bnd_step hnb.out hn2), by go_num, rfl, HO2⟩
      case measure => simp [intOf]; omega
    · have HF : Hid (Own W1 wr A n c' (nums c ++ cat false (c.ad.map p5))) := Lib.hid (by
        have := hown.out
        rw [List.take_of_length_le (by rw [HAL.out]; omega), HBASE.out] at this
        exact this)
      have y0 := (HBK.out _ hown.out.2).c0
      rw [hKD.out] at y0
      clear hown
      have y10 := (HBK.out _ HF.out.2).c10
      obtain ⟨B, bn, bc, hv, hl, hnc, hcm, hnr, hr, hz⟩ := HC.out.dr.next (HF.out.2.mono (Nat.le_refl _))
      injection hv with h1 h2 h3
      have hP := rparam_any W1 wr A n c' _ 7 c.da s.dA s.dn s.dc HF.out (by omega) ⟨by show 7 < 65536; omega, by show 0 < 256; omega, HDB.out⟩ (by rw [h2]; exact hl) (by omega) (by rw [h1]; exact hr) (by rw [h1, h2, h3]; exact hz)
      have hdl : c.da.length = s.dn := by rw [h2]; exact hl
      by_cases hlong : 65531 < c.da.length
      · rw [tp_long (x := ⟨7, 0, c.da⟩) (by simp [fit]) hlong] at hP
        have HP := Lib.hid hP
        have HLN : Hid (65531 < (val c).length) := Lib.hid (by
          rw [HV.out, List.length_append, tb_len]
          have := whl_le (4 + c.da.length)
          simp only
          omega)
        clear hP hl hr hz h1 h2 h3 hdl hlong
        go_wp2_with fail
        refine HP.out.mono ?_
        rintro e V2 ⟨A2, n2, c2, rfl, ho2, hn2⟩
        have HO2 := Lib.hid ho2
        clear ho2
        go_wp2_with fail
        go_ret2
        exact ⟨_, _, _, _, 3, rfl, own_lift HO2.out HU.out.2, .inr ⟨rfl, HLN.out⟩, by omega, own_zc HO2.out⟩
      · rw [tp_ok (x := ⟨7, 0, c.da⟩) (by simp [fit]) (by simp only; omega)] at hP
        have HP := Lib.hid hP
        clear hP hl hr hz h1 h2 h3 hdl hlong
        go_wp2_with fail
        refine HP.out.mono ?_
        rintro e V2 ⟨A2, n2, c2, rfl, ho2, hn2⟩
        have HO2 := Lib.hid ho2
        clear ho2
        go_wp2_with fail
        go_ret2
        exact ⟨_, _, _, _, 0, rfl, own_lift HO2.out HU.out.2, .inl ⟨rfl, by rw [HV.out]⟩, by omega, own_zc HO2.out⟩
end Go.Proofs.Ytbliipjiilmbcaa
