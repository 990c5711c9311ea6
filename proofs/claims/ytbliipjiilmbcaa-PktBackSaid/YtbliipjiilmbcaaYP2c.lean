/-
  What the document's value does.
-/
import Derived.Test.YtbliipjiilmbcaaYP1b
import Derived.Test.YtbliipjiilmbcaaYP1c
import Derived.Deep.RegionLaw
namespace Go.Proofs.Ytbliipjiilmbcaa
open Go.RowKit Wire Tlv Chunk

/-- What a call of b leaves. -/
def BOut (w1 : World) (n : Nat) (l : List Int) (W : World) (e : Ending) (W' : World) : Prop :=
  ∃ g, e = .returned (.slice (some ⟨g, 0, none⟩) n n) ∧ Own w1 W' (some ⟨g, 0, none⟩) n n l ∧ Below W.heap.size W W' ∧ Below w1.heap.size w1 W'
theorem rb_out4 (w1 : World) (x : Nat) (hx : x < 4294967296) (W : World) (hW : Below w1.heap.size w1 W) : Calls Try.prog 85 #[.int .u32 (x : Int), .int .i64 4] W (BOut w1 4 (be 4 x) W) := by
  refine (rb_any x 4 W hx (by omega)).mono ?_
  rintro e W' ⟨rfl, ho⟩
  exact ⟨_, rfl, own_lift ho hW, ho.2, bnext' hW ho.2⟩
theorem rb_out2 (w1 : World) (x : Nat) (hx : x < 65536) (W : World) (hW : Below w1.heap.size w1 W) : Calls Try.prog 85 #[.int .u32 (x : Int), .int .i64 2] W (BOut w1 2 (be 2 x) W) := by
  refine (rb_any x 2 W (by omega) (by omega)).mono ?_
  rintro e W' ⟨rfl, ho⟩
  exact ⟨_, rfl, own_lift ho hW, ho.2, bnext' hW ho.2⟩
/-- What the document's value leaves. -/
def RvOut (w : World) (c : Ck) (e : Ending) (w' : World) : Prop := ∃ A n c' l er, e = .returned (.tuple #[.slice A n c', .int .i64 er]) ∧ Own w w' A n c' l ∧ ((er = 0 ∧ l = val c) ∨ (er = 3 ∧ 65531 < (val c).length)) ∧ n ≤ 140737488355328 ∧ Zc A n c'
theorem val_plain {c : Ck} (hk : c.kd ≠ 2) (ha : c.ad = []) (hc : c.ca = []) : val c = nums c ++ c.da := by
  unfold val body pars
  rw [if_neg hk, if_neg hk, ha, hc]
  simp [cat]
theorem nil_of {α : Type} {l : List α} (h : l.length = 0) : l = [] := List.eq_nil_of_length_eq_zero h
theorem grown_own {w1 W W' : World} {A A' : Option Addr} {n n' c c' : Nat} {l : List Int} {l' : List Int} (h : Own w1 W A n c l) (ho : W'.ownsRow w1.heap.size 5 1 (.slice A' n' c') n' (bs l')) (hg : W.grownBy W' (Value.slice A n c).ownBlock) : Own w1 W' A' n' c' l' :=
  ⟨ho, h.2.grown hg h.2.size (fun k hk => (h.1.lt k hk).1)⟩
set_option maxRecDepth 100000 in
set_option maxHeartbeats 4000000 in
theorem rvalue0 (c : Ck) (s : Ls) (w : World) (hk : c.kd = 0) (hm : may c) (h : Ch w c s) :
    Calls Try.prog 59 #[.agg (cv c s)] w (RvOut w c) := by
  have HU : Hid (U1 w (cv c s) _) := Lib.hid (U1.new w (cv c s))
  have HC : Hid (Ch _ c s) := Lib.hid (h.alloc (.cells (cv c s) 32))
  obtain ⟨i0, hi0, hz0, hz1, hz2⟩ := info_parts Try_info8
  have HI := Lib.hid hi0
  have HZ0 := Lib.hid hz0
  have HZ1 := Lib.hid hz1
  have HZ2 := Lib.hid hz2
  clear hi0 hz0 hz1 hz2
  have Rtsn := Lib.hid fun w1 W hW => rb_out4 w1 c.tsn h.ok.tsn W hW
  have Rsid := Lib.hid fun w1 W hW => rb_out2 w1 c.sid h.ok.sid W hW
  have Rssn := Lib.hid fun w1 W hW => rb_out2 w1 c.ssn h.ok.ssn W hW
  have Rppid := Lib.hid fun w1 W hW => rb_out4 w1 c.ppid h.ok.ppid W hW
  have wsid : IntKind.u32.wrap (c.sid : Int) = (c.sid : Int) := by rw [IntKind.wrap_u32]; have := h.ok.sid; omega
  have wssn : IntKind.u32.wrap (c.ssn : Int) = (c.ssn : Int) := by rw [IntKind.wrap_u32]; have := h.ok.ssn; omega
  have hf := hm.1
  have HV := Lib.hid (val_plain (c := c) (by omega) (nil_of (by have := hf.inn; simp only [hIn] at this; omega)) (nil_of (by have := hf.ca; simp only [hCa] at this; omega)))
  have HNM := Lib.hid (show nums c = be 4 c.tsn ++ (be 2 c.sid ++ (be 2 c.ssn ++ be 4 c.ppid)) by simp [nums, hk])
  clear hm hf h
  go_enter Try.func59, Try.ntmps59
  go_upto_region 3 with fail
  generalize World.alloc w _ = W1 at HU HC ⊢
  have hlt := HU.out.1.lt
  have HBK := Lib.hid fun (W : World) (hW : Below W1.heap.size W1 W) => HU.out.1.nextB hW hlt
  have a0 := HU.out.1.c0
  rw [hk] at a0
  go_upto_region 5 with fail
  clear a0
  have z4 := HU.out.1.c4
  have z7 := HU.out.1.c7
  go_cut [4] from 14 to 21 (fun v4 W => ∃ A c', v4 = .slice A 6 c' ∧ Hid (Own W1 W A 6 c' (be 4 c.tsn ++ be 2 c.sid)))
  case first =>
    have hbd : Below W1.heap.size W1 W1.drew := (Below.refl _ _).drew
    go_region_law (first
      | (refine step_append_lies _ rfl (.tmp 16) (.tmp 20) 23 rfl W1.heap.size 5 i0 (.int .u8 0) 1 1 Try.underlying23 HI.out HZ0.out HZ1.out HZ2.out rfl (by decide) _ _ _ rfl (by first | exact hP'.1 | exact hP.1) ⟨gQ, 0, none⟩ 2 2 (bs (be 2 c.sid)) rfl (by rw [bs_len, be_len]) (by first | exact bcells hQ'.row | exact bcells hQ.row) (bs_one _) (by omega) (by unfold maxLen; omega) (by omega) (by first | exact hP'.2.size | exact hP.2.size) _ rfl ?_; intro g9 cap9 w10 hown10 hgrow10 hat10 _)
      | (go_simp; go_at_call 85; (with_reducible refine (Rtsn.out W1 _ ?_).mono ?_); assumption; rintro e wP ⟨gP, rfl, hP, hkP, hbP⟩; have yQ := (HBK.out _ hbP).c7; (try have hQ' := hQ.next hkP))
      | (go_simp; go_at_call 85; (with_reducible refine (Rsid.out W1 _ ?_).mono ?_); assumption; rintro e wQ ⟨gQ, rfl, hQ, hkQ, hbQ⟩; have yP := (HBK.out _ hbQ).c4; (try have hP' := hP.next hkQ)))
    all_goals
      rw [bs_app] at hown10
      have HN : Hid (Own W1 w10 (some ⟨g9, 0, none⟩) 6 cap9 (be 4 c.tsn ++ be 2 c.sid)) := by first | exact Lib.hid (grown_own hP' hown10 hgrow10) | exact Lib.hid (grown_own hP hown10 hgrow10)
      go_wp2_with fail
      go_meet
      case rel => exact ⟨_, _, rfl, HN⟩
  case rest =>
  obtain ⟨A0, c0, rfl, HO0⟩ := hcut
  go_upto_region 6 with fail
  have z8 := (HBK.out _ HO0.out.2).c8
  go_wp2_with fail
  have hbw := HO0.out.2
  (with_reducible refine (Rssn.out W1 _ hbw).mono ?_)
  rintro e V0 ⟨q0, rfl, ho0, hk0, hb0⟩
  have HP0 := Lib.hid (HO0.out.next hk0)
  have HQ0 := Lib.hid ho0
  clear ho0 hk0 hb0 hbw z8
  go_upto_region 7 with (at_builtin; refine wpList_append_lies _ rfl (.tmp 22) (.tmp 26) 23 rfl W1.heap.size 5 i0 (.int .u8 0) 1 1 Try.underlying23 HI.out HZ0.out HZ1.out HZ2.out rfl (by decide) _ _ _ rfl HP0.out.1 ⟨q0, 0, none⟩ 2 2 (bs (be 2 c.ssn)) rfl (by rw [bs_len, be_len]) (bcells HQ0.out.row) (bs_one _) (by omega) (by unfold maxLen; omega) (by omega) HP0.out.2.size _ rfl ?_; intro g9 cap9 w10 hown10 hgrow10 hat10 _; rw [bs_app] at hown10; have HO1 : Hid (Own W1 w10 (some ⟨g9, 0, none⟩) 8 cap9 (be 4 c.tsn ++ be 2 c.sid ++ be 2 c.ssn)) := Lib.hid (grown_own HP0.out hown10 hgrow10); clear hown10 hgrow10 hat10)
  go_upto_region 7 with fail
  have z9 := (HBK.out _ HO1.out.2).c9
  go_wp2_with fail
  have hbw := HO1.out.2
  (with_reducible refine (Rppid.out W1 _ hbw).mono ?_)
  rintro e V1 ⟨q1, rfl, ho1, hk1, hb1⟩
  have HP1 := Lib.hid (HO1.out.next hk1)
  have HQ1 := Lib.hid ho1
  clear ho1 hk1 hb1 hbw z9
  go_upto_region 8 with (at_builtin; refine wpList_append_lies _ rfl (.tmp 28) (.tmp 31) 23 rfl W1.heap.size 5 i0 (.int .u8 0) 1 1 Try.underlying23 HI.out HZ0.out HZ1.out HZ2.out rfl (by decide) _ _ _ rfl HP1.out.1 ⟨q1, 0, none⟩ 4 4 (bs (be 4 c.ppid)) rfl (by rw [bs_len, be_len]) (bcells HQ1.out.row) (bs_one _) (by omega) (by unfold maxLen; omega) (by omega) HP1.out.2.size _ rfl ?_; intro g9 cap9 w10 hown10 hgrow10 hat10 _; rw [bs_app] at hown10; have HO2 : Hid (Own W1 w10 (some ⟨g9, 0, none⟩) 12 cap9 (be 4 c.tsn ++ be 2 c.sid ++ be 2 c.ssn ++ be 4 c.ppid)) := Lib.hid (grown_own HP1.out hown10 hgrow10); clear hown10 hgrow10 hat10)
  have z10 := (HBK.out _ HO2.out.2).c10
  have hvb := HC.out.dr.next (HO2.out.2.mono (Nat.le_refl _))
  obtain ⟨A, n, cc, hv, hl, hnc, hcm, hnr, hr, hz⟩ := hvb
  injection hv with hA hn hc
  subst hA; subst hn; subst hc
  have HL := Lib.hid hl
  have HR := Lib.hid hr
  have HZ := Lib.hid hz
  have hsz := HO2.out.2.size
  clear hl hr hz hcm
  rcases hdA : s.dA with _ | a
  · obtain ⟨e1, e2⟩ := HZ.out hdA
    have hd0 : c.da = [] := List.eq_nil_of_length_eq_zero (by rw [HL.out, e1])
    rw [hdA, e1, e2] at z10
    have HD0 := Lib.hid hd0
    clear e1 e2 hd0 hdA
    go_wp2_with (at_builtin; refine wpList_append_own_none rfl (.tmp 33) (.tmp 35) 23 rfl W1.heap.size 5 i0 1 Try.underlying23 HI.out _ _ _ rfl HO2.out.1 rfl ?_)
    go_ret2
    exact ⟨_, _, _, (be 4 c.tsn ++ be 2 c.sid ++ be 2 c.ssn ++ be 4 c.ppid), 0, rfl, own_lift HO2.out HU.out.2, .inl ⟨rfl, by rw [HV.out, HD0.out, List.append_nil, HNM.out]; simp [List.append_assoc]⟩, by omega, own_zc HO2.out⟩
  · rw [hdA] at z10 HR
    clear hdA
    go_wp2_with (at_builtin; refine wpList_append_own _ rfl (.tmp 33) (.tmp 35) 23 rfl W1.heap.size 5 i0 (.int .u8 0) 1 1 Try.underlying23 HI.out HZ0.out HZ1.out HZ2.out rfl (by decide) _ _ _ rfl HO2.out.1 a s.dn s.dc (bs c.da) rfl (by rw [bs_len, HL.out, Nat.mul_one]) (bcells HR.out) (bs_one _) (by unfold maxLen; omega) (by omega) hsz ?_; intro v' w3 hown hgr hv; obtain ⟨A', c', rfl⟩ := own_form hown; rw [bs_app] at hown; have HN := Lib.hid (grown_own HO2.out hown hgr); clear hown hgr)
    go_ret2
    exact ⟨_, _, _, _, 0, rfl, own_lift HN.out HU.out.2, .inl ⟨rfl, by rw [HV.out, HNM.out]; simp [List.append_assoc]⟩, by omega, own_zc HN.out⟩
set_option maxRecDepth 100000 in
set_option maxHeartbeats 4000000 in
theorem rvalue7 (c : Ck) (s : Ls) (w : World) (hk : c.kd = 7) (hm : may c) (h : Ch w c s) :
    Calls Try.prog 59 #[.agg (cv c s)] w (RvOut w c) := by
  have HU : Hid (U1 w (cv c s) _) := Lib.hid (U1.new w (cv c s))
  have HC : Hid (Ch _ c s) := Lib.hid (h.alloc (.cells (cv c s) 32))
  obtain ⟨i0, hi0, hz0, hz1, hz2⟩ := info_parts Try_info8
  have HI := Lib.hid hi0
  have HZ0 := Lib.hid hz0
  have HZ1 := Lib.hid hz1
  have HZ2 := Lib.hid hz2
  clear hi0 hz0 hz1 hz2
  have Rtsn := Lib.hid fun w1 W hW => rb_out4 w1 c.tsn h.ok.tsn W hW
  have hf := hm.1
  have HV := Lib.hid (val_plain (c := c) (by omega) (nil_of (by have := hf.inn; simp only [hIn] at this; omega)) (nil_of (by have := hf.ca; simp only [hCa] at this; omega)))
  have HD := Lib.hid (nil_of (l := c.da) (by have := hf.da; simp only [hDa] at this; omega))
  have HNM := Lib.hid (show nums c = be 4 c.tsn by simp [nums, hk])
  clear hm hf h
  go_enter Try.func59, Try.ntmps59
  go_upto_region 3 with fail
  generalize World.alloc w _ = W1 at HU HC ⊢
  have hlt := HU.out.1.lt
  have HBK := Lib.hid fun (W : World) (hW : Below W1.heap.size W1 W) => HU.out.1.nextB hW hlt
  have a0 := HU.out.1.c0
  rw [hk] at a0
  have z4 := HU.out.1.c4
  go_wp2_with fail
  (with_reducible refine (Rtsn.out W1 _ (Below.refl _ _)).mono ?_)
  rintro e V ⟨q, rfl, ho, hk1, hb⟩
  have HO := Lib.hid ho
  clear ho hk1 hb
  go_wp2_with fail
  go_ret2
  exact ⟨_, _, _, be 4 c.tsn, 0, rfl, own_lift HO.out HU.out.2, .inl ⟨rfl, by rw [HV.out, HD.out, List.append_nil, HNM.out]⟩, by omega, own_zc HO.out⟩
set_option maxRecDepth 100000 in
set_option maxHeartbeats 4000000 in
theorem rvalueN (c : Ck) (s : Ls) (w : World) (hk : ¬ (c.kd = 0 ∨ c.kd = 1 ∨ c.kd = 2 ∨ c.kd = 3 ∨ c.kd = 6 ∨ c.kd = 9 ∨ c.kd = 7)) (hm : may c) (h : Ch w c s) :
    Calls Try.prog 59 #[.agg (cv c s)] w (RvOut w c) := by
  have HU : Hid (U1 w (cv c s) _) := Lib.hid (U1.new w (cv c s))
  have HC : Hid (Ch _ c s) := Lib.hid (h.alloc (.cells (cv c s) 32))
  obtain ⟨i0, hi0, hz0, hz1, hz2⟩ := info_parts Try_info8
  have HI := Lib.hid hi0
  have HZ0 := Lib.hid hz0
  have HZ1 := Lib.hid hz1
  have HZ2 := Lib.hid hz2
  clear hi0 hz0 hz1 hz2
  have hf := hm.1
  have HV := Lib.hid (val_plain (c := c) (by omega) (nil_of (by have := hf.inn; simp only [hIn] at this; omega)) (nil_of (by have := hf.ca; simp only [hCa] at this; omega)))
  have HNM := Lib.hid (show nums c = [] by unfold nums; rw [if_neg (by omega), if_neg (by omega), if_neg (by omega), if_neg (by omega)])
  have d0 : ((c.kd : Int) == 0) = false := by simp; omega
  have d1 : ((c.kd : Int) == 1) = false := by simp; omega
  have d2 : ((c.kd : Int) == 2) = false := by simp; omega
  have d3 : ((c.kd : Int) == 3) = false := by simp; omega
  have d6 : ((c.kd : Int) == 6) = false := by simp; omega
  have d7 : ((c.kd : Int) == 7) = false := by simp; omega
  have d9 : ((c.kd : Int) == 9) = false := by simp; omega
  clear hm hf h
  go_enter Try.func59, Try.ntmps59
  go_upto_region 3 with fail
  generalize World.alloc w _ = W1 at HU HC ⊢
  have hlt := HU.out.1.lt
  have HBK := Lib.hid fun (W : World) (hW : Below W1.heap.size W1 W) => HU.out.1.nextB hW hlt
  have a0 := HU.out.1.c0
  have HO0 := Lib.hid (own_nil W1)
  go_upto_region 45 with fail
  have z10 := (HBK.out _ HO0.out.2).c10
  have hvb := HC.out.dr.next (HO0.out.2.mono (Nat.le_refl _))
  obtain ⟨A, n, cc, hv, hl, hnc, hcm, hnr, hr, hz⟩ := hvb
  injection hv with hA hn hc
  subst hA; subst hn; subst hc
  have HL := Lib.hid hl
  have HR := Lib.hid hr
  have HZ := Lib.hid hz
  have hsz := HO0.out.2.size
  clear hl hr hz hcm
  rcases hdA : s.dA with _ | a
  · obtain ⟨e1, e2⟩ := HZ.out hdA
    have hd0 : c.da = [] := List.eq_nil_of_length_eq_zero (by rw [HL.out, e1])
    rw [hdA, e1, e2] at z10
    have HD0 := Lib.hid hd0
    clear e1 e2 hd0 hdA
    go_wp2_with (at_builtin; refine wpList_append_own_none rfl (.tmp 201) (.tmp 203) 23 rfl W1.heap.size 5 i0 1 Try.underlying23 HI.out _ _ _ rfl HO0.out.1 rfl ?_)
    go_ret2
    exact ⟨_, _, _, [], 0, rfl, own_lift HO0.out HU.out.2, .inl ⟨rfl, by rw [HV.out, HD0.out, List.append_nil, HNM.out]⟩, by omega, own_zc HO0.out⟩
  · rw [hdA] at z10 HR
    clear hdA
    go_wp2_with (at_builtin; refine wpList_append_own _ rfl (.tmp 201) (.tmp 203) 23 rfl W1.heap.size 5 i0 (.int .u8 0) 1 1 Try.underlying23 HI.out HZ0.out HZ1.out HZ2.out rfl (by decide) _ _ _ rfl HO0.out.1 a s.dn s.dc (bs c.da) rfl (by rw [bs_len, HL.out, Nat.mul_one]) (bcells HR.out) (bs_one _) (by unfold maxLen; omega) (by omega) hsz ?_; intro v' w3 hown hgr hv; obtain ⟨A', c', rfl⟩ := own_form hown; rw [bs_app, Nat.zero_add] at hown; have HN := Lib.hid (grown_own HO0.out hown hgr); clear hown hgr)
    go_ret2
    exact ⟨_, _, _, _, 0, rfl, own_lift HN.out HU.out.2, .inl ⟨rfl, by rw [HV.out, HNM.out]⟩, by omega, own_zc HN.out⟩
end Go.Proofs.Ytbliipjiilmbcaa
