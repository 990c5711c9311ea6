/-
  The walk of PktBack.
-/
import Derived.Test.YtbliipjiilmbcaaYP4h
import Derived.Test.YtbliipjiilmbcaaYP3f
namespace Go.Proofs.Ytbliipjiilmbcaa
open Go.RowKit Wire Tlv Chunk Pkt

set_option maxRecDepth 100000 in
set_option maxHeartbeats 8000000 in
theorem pktBack_main (f t g : Nat) (A : Option Addr) (n c : Nat) (ks : List Cq) (at_ : Int) (tu : Nat) (w : World) (hf : f < 65536) (ht : t < 65536) (hg : g < 4294967296) (hl : ks.length = n) (hn : n ≤ 1000000000000) (h : Rk w A ks)
    (hat : -9223372036854775808 ≤ at_ ∧ at_ < 9223372036854775808) (htu : tu < 256) :
    Calls Try.prog 9 #[.agg (pkl f t g A n c), .int .i64 at_, .int .u8 (tu : Int)] w fun e w' => e = .returned (.bool true) ∧ Below w.heap.size w w' := by
  have HP : Hid (Pq w (pkl f t g A n c) _) := Lib.hid (Pq.new w (pkl f t g A n c))
  have HK := Lib.hid pkknown_any
  have HH := Lib.hid h
  have HL := Lib.hid hl
  have HAT := Lib.hid hat
  have CG := Lib.hid fun W (hW : Below w.heap.size w W) => rpGreat_any f t g ks A n c W (h.next hW) hl hn
  have CP := Lib.hid fun W (hW : Below w.heap.size w W) (hn : n ≤ 300) => pktPut_any f t g ks A n c W hf ht hg (h.next hW) hl (by omega)
  have hok : ∀ c ∈ ks.map (·.1), c.ok := fun c hc => by
    obtain ⟨q, hq, rfl⟩ := List.mem_map.1 hc
    exact (h.2 q hq).ok
  have HBK := Lib.hid fun h0 => ptk_back hf ht hg hok h0
  have HLN := Lib.hid fun h0 => pput_len (f := f) (t := t) (g := g) (ks := ks.map (·.1)) h0
  have HNO := Lib.hid fun h0 => pput_none (f := f) (t := t) (g := g) (ks := ks.map (·.1)) h0
  have HTN := Lib.hid fun h0 p c u => ptk_turned (f := f) (t := t) (g := g) (ks := ks.map (·.1)) hf ht hg hok h0 (p := p) (c := c) (u := u)
  have HBY := Lib.hid (pput_byt f t g hok)
  generalize hpp : pput f t g (ks.map (·.1)) = p at CP HBK HLN HNO HTN HBY
  obtain ⟨L, err⟩ := p
  clear h hf ht hg hl hn hat hok hpp
  go_enter Try.func9, Try.ntmps9
  go_upto_region 1 with fail
  generalize World.alloc w _ = W1 at HP ⊢
  go_wp2_with fail
  refine (HK.out _).mono ?_
  rintro e W2 ⟨rfl, hb2⟩
  have HP2 := Lib.hid (HP.out.next hb2)
  have hbw := HP2.out.2
  clear hb2 HP
  go_wp2_with (refine wpList_load_row rfl 52 (.tmp 3) rfl w.heap.size rfl 52 (pkl f t g A n c) (0, 0) _ HP2.out.1 Try.underlying52 rfl (pk_info _ _ _ _ _ _) ?_)
  (with_reducible refine (CG.out _ hbw).mono ?_)
  rintro e W3 ⟨bg, rfl, hgr, hb3⟩
  have HP3 := Lib.hid (HP2.out.next hb3)
  have HGR := Lib.hid hgr
  clear hb3 hbw HP2 hgr CG HK
  cases bg
  case true =>
    go_wp2_with fail
    go_ret
    exact ⟨rfl, HP3.out.2⟩
  have hn300 : n ≤ 300 := by first | exact (HGR.out rfl).1 | exact (HGR.out trivial).1
  have hbw := HP3.out.2
  go_wp2_with (refine wpList_load_row rfl 52 (.tmp 3) rfl w.heap.size rfl 52 (pkl f t g A n c) (0, 0) _ HP3.out.1 Try.underlying52 rfl (pk_info _ _ _ _ _ _) ?_)
  (with_reducible refine (CP.out _ hbw hn300).mono ?_)
  rintro e W4 ⟨bA, bn, bc, rfl, ho4⟩
  have HP4 := Lib.hid (HP3.out.next ho4.2)
  have HO4 := Lib.hid (own_base ho4.1 HP3.out.2.size)
  have HLB := Lib.hid ho4.len
  clear ho4 HP3 hbw HGR CP
  by_cases herr : err = 0
  case neg =>
    have hd : (err != 0) = true := by simpa using herr
    have hz : bn = 0 := by
      rw [← HLB.out, show L = [] from HNO.out herr]
      rfl
    subst hz
    clear herr
    go_wp2_with fail
    go_ret
    exact ⟨rfl, HP4.out.2⟩
  subst herr
  have HBK2 := Lib.hid (HBK.out rfl)
  have HLN2 := Lib.hid (HLN.out rfl)
  have HTN2 := Lib.hid (HTN.out rfl)
  clear HNO HBK HLN HTN
  have HW0 := Lib.hid (Wq.start (f := f) (t := t) (g := g) (A := A) (n := n) (c := c) HP4.out.1 HO4.out HP4.out.2)
  have hst := pkstore_new f t g A n c W4
  have hV : Bk (W4.alloc (.cells (pkl f t g A n c) 52)) W4.heap.size (pkl f t g A n c) 52 := Bk.new _ _ _
  have HV := Lib.hid hV
  clear hV
  go_upto_region 10 with (refine wpList_load_row rfl 52 (.tmp 3) rfl w.heap.size rfl 52 (pkl f t g A n c) (0, 0) _ HP4.out.1 Try.underlying52 rfl (pk_info _ _ _ _ _ _) ?_)
  clear hst HP4 HO4
  have k3 := (mem_cell HV.out).2
  have f3 := HV.out.frozen 3
  obtain ⟨gp, hgp⟩ : ∃ gp, gp = W4.heap.size := ⟨_, rfl⟩
  rw [← hgp] at HW0 HV k3 f3
  try rw [← hgp]
  generalize hW5 : W4.alloc (.cells (pkl f t g A n c) 52) = W5 at HW0 HV k3 f3 ⊢
  clear hW5 hgp
  go_upto_region 12 with fail
  generalize hW6 : W5.setCell ⟨gp, 3, none⟩ (.slice none 0 0) = W6 at HW0 ⊢
  clear hW6 k3 f3 HV
  obtain ⟨B, hB⟩ : ∃ B, B = gp + 1 := ⟨_, rfl⟩
  rw [← hB] at HW0
  clear hB
  have HX0 := Lib.hid (mem_cell HW0.out.bx).2
  have x3 := HX0.out
  have HS0 : Hid (12 = 12 + szs (ks.take 0)) := Lib.hid rfl
  have HU0 : Hid (upto (ks.map (·.1)) = ([] : List Cq).map (·.1) ++ (if false = true then [] else upto ((ks.drop 0).map (·.1)))) := Lib.hid rfl
  have HM0 : Hid (∀ q ∈ ([] : List Cq), q ∈ ks) := Lib.hid (fun q hq => by simp at hq)
  obtain ⟨iC, hi0, hz0, hz1, hz2⟩ := info_parts Try_infoChunk
  have HI0 := Lib.hid hi0
  have HI1 := Lib.hid hz0
  have HI2 := Lib.hid hz1
  have HI3 := Lib.hid hz2
  clear hi0 hz0 hz1 hz2
  go_wp2_with fail
  clear x3
  go_loopw [9, 11, 13, 34] (fun z e _ i wr => ∃ (k m : Nat) (b : Bool) (Aw : Option Addr) (nw cw : Nat) (wk : List Cq), k ≤ n ∧ i = .int .i64 (k : Int) ∧ z = .int .i64 (m : Int) ∧ e = .bool b ∧ m ≤ bnd k ∧ nw ≤ k ∧ Hid (m = 12 + szs (ks.take k)) ∧ Hid (upto (ks.map (·.1)) = wk.map (·.1) ++ (if b = true then [] else upto ((ks.drop k).map (·.1)))) ∧ Hid (∀ q ∈ wk, q ∈ ks) ∧ Hid (Wq w f t g A n c B gp Aw nw cw wk bA bn bc L wr)) (fun _ _ _ i _ => n - (intOf i).toNat)
  case atStart => exact ⟨0, 12, false, none, 0, 0, [], by omega, rfl, rfl, rfl, by unfold bnd; omega, by omega, HS0, HU0, HM0, HW0⟩
  case round =>
    clear HS0 HU0 HM0 HW0 HX0
    obtain ⟨k, m, b, Aw, nw, cw, wk, hk, rfl, rfl, rfl, hmb, hnk, HS, HU, HM, HW⟩ := hrel
    by_cases hlt : k < n
    · have hkl : k < ks.length := by rw [HL.out]; exact hlt
      obtain ⟨a, rfl, hc, hch⟩ := (HH.out.next HW.out.bl).at hkl
      have hsz := szs_snoc hkl
      have hdr := upto_drop hkl
      have hmem : ks[k] ∈ ks := List.getElem_mem hkl
      have HU1 : upto (ks.map (·.1)) = wk.map (·.1) ++ (if b = true then [] else if ends ks[k].1.kd = true then [] else ks[k].1 :: upto ((ks.drop (k + 1)).map (·.1))) := by rw [← hdr]; exact HU.out
      have HU1 := Lib.hid HU1
      have HSZ := Lib.hid hsz
      have HC := Lib.hid hc
      have HCH := Lib.hid hch
      have HMM := Lib.hid hmem
      clear hsz hdr hc hch hmem HU
      generalize ks[k] = q at HU1 HSZ HC HCH HMM
      obtain ⟨qc, qs⟩ := q
      have hst := store_new qc qs wr
      go_upto_region 15 with (refine wpList_load_at rfl 32 (.tmp 36) rfl (a.add (k * 15)) rfl (cv qc qs) _ HC.out Try.underlying32 rfl (cv_info _ _) ?_)
      clear hst
      have hal : Below wr.heap.size wr (wr.alloc (.cells (cv qc qs) 32)) := (Below.refl _ _).alloc (Nat.le_refl _) _
      have HW1 := Lib.hid (HW.out.next hal)
      have HCH1 := Lib.hid (HCH.out.next hal)
      have HQ1 : Hid (Bk (wr.alloc (.cells (cv qc qs) 32)) wr.heap.size (cv qc qs) 32) := Lib.hid (Bk.new _ _ _)
      clear hal HW HCH HC
      generalize hV1 : wr.alloc (.cells (cv qc qs) 32) = V1 at HW1 HCH1 HQ1 ⊢
      clear hV1
      generalize wr.heap.size = gq at HQ1 ⊢
      have CS := Lib.hid (pSize_any qc qs V1 HCH1.out)
      have hlc := cput_le qc
      generalize (cput qc).1.length = lc at CS hlc HSZ
      have hkd := HCH1.out.ok.kd
      go_wp2_with (refine wpList_load_row rfl 32 (.tmp 13) rfl gq rfl 32 (cv qc qs) (0, 0) _ HQ1.out Try.underlying32 rfl (cv_info _ _) ?_)
      (with_reducible refine CS.out.mono ?_)
      rintro e V2 ⟨rfl, hb2⟩
      have HW2 := Lib.hid (HW1.out.next hb2)
      have HQ2 := Lib.hid (HQ1.out.next hb2)
      clear hb2 HW1 HQ1 HCH1 CS
      have hmb2 := bnd_step hmb (show m + lc ≤ m + 65540 by omega)
      have hm4 : m + lc ≤ 400000000 := Nat.le_trans hmb2 (bnd_big (by omega))
      have HS2 : Hid (m + lc = 12 + szs (ks.take (k + 1))) := Lib.hid (by rw [HSZ.out, HS.out]; omega)
      clear hmb HS HSZ
      cases b
      case true =>
        have HU2 : Hid (upto (ks.map (·.1)) = wk.map (·.1) ++ (if true = true then [] else upto ((ks.drop (k + 1)).map (·.1)))) := Lib.hid (by rw [HU1.out, if_pos rfl, if_pos rfl])
        clear HU1
        go_wp2_with fail
        go_roundw
        case rel => exact ⟨k + 1, m + lc, true, Aw, nw, cw, wk, by omega, by go_num, by go_num, rfl, hmb2, by omega, HS2, HU2, HM, HW2⟩
        case measure => simp [intOf]; omega
      have H1 := Lib.hid fun w => ckKnown_any qc.kd w
      have H2 := Lib.hid fun w => ckSkips_any qc.kd w hkd
      have he : ends qc.kd = (!kn qc.kd && !(!kn qc.kd && decide (128 ≤ qc.kd))) := by
        unfold ends
        cases kn qc.kd
        · by_cases h : qc.kd < 128
          · simp [h]
          · simp [h]; omega
        · rfl
      rw [he] at HU1
      clear he hkd
      generalize (!kn qc.kd && decide (128 ≤ qc.kd)) = b2 at H2 HU1
      generalize kn qc.kd = b1 at H1 HU1
      have c0 := HQ2.out.c0
      cases b1
      all_goals cases b2
      case false.false =>
        have HU2 : Hid (upto (ks.map (·.1)) = wk.map (·.1) ++ (if true = true then [] else upto ((ks.drop (k + 1)).map (·.1)))) := Lib.hid (by rw [HU1.out]; simp)
        clear HU1
        go_wp2_with (first
          | (go_at_call 31; (with_reducible refine (H1.out _).mono ?_); rintro e w' ⟨rfl, rfl⟩)
          | (go_at_call 32; (with_reducible refine (H2.out _).mono ?_); rintro e w' ⟨rfl, rfl⟩))
        clear c0
        go_roundw
        case rel => exact ⟨k + 1, m + lc, true, Aw, nw, cw, wk, by omega, by go_num, by go_num, rfl, hmb2, by omega, HS2, HU2, HM, HW2⟩
        case measure => simp [intOf]; omega
      all_goals
        have HU2 : Hid (upto (ks.map (·.1)) = (wk ++ [(qc, qs)]).map (·.1) ++ (if false = true then [] else upto ((ks.drop (k + 1)).map (·.1)))) := Lib.hid (by rw [HU1.out]; simp)
        have HM2 : Hid (∀ q ∈ wk ++ [(qc, qs)], q ∈ ks) := Lib.hid (fun q hq => by
          rcases List.mem_append.1 hq with hq | hq
          · exact HM.out q hq
          · simp at hq; subst hq; exact HMM.out)
        clear HU1
        go_upto_region 18 with (first
          | (go_at_call 31; (with_reducible refine (H1.out _).mono ?_); rintro e w' ⟨rfl, rfl⟩)
          | (go_at_call 32; (with_reducible refine (H2.out _).mono ?_); rintro e w' ⟨rfl, rfl⟩))
        have c1 := HQ2.out.c1
        have c2 := HQ2.out.c2
        have c3 := HQ2.out.c3
        have c4 := HQ2.out.c4
        have c5 := HQ2.out.c5
        have c6 := HQ2.out.c6
        have c7 := HQ2.out.c7
        have c8 := HQ2.out.c8
        have c9 := HQ2.out.c9
        have c10 := HQ2.out.c10
        have c11 := HQ2.out.c11
        have c12 := HQ2.out.c12
        have c13 := HQ2.out.c13
        have c14 := HQ2.out.c14
        have k3 := (mem_cell HW2.out.pk).2
        have hal : Below V2.heap.size V2 (V2.alloc (.cells #[.int .u8 (qc.kd : Int), .int .u8 (qc.fl : Int), .int .u32 (qc.tag : Int), .int .u32 (qc.rw : Int), .int .u32 (qc.tsn : Int), .int .u16 (qc.out : Int), .int .u16 (qc.inn : Int), .int .u16 (qc.sid : Int), .int .u16 (qc.ssn : Int), .int .u32 (qc.ppid : Int), .slice qs.dA qs.dn qs.dc, .slice qs.aA qs.an qs.ac, .slice qs.gA qs.gn qs.gc, .slice qs.uA qs.un qs.uc, .slice qs.cA qs.cn qs.cc] 32)) := (Below.refl _ _).alloc (Nat.le_refl _) _
        have HW3 := Lib.hid (HW2.out.next hal)
        have hnew : Row (V2.alloc (.cells #[.int .u8 (qc.kd : Int), .int .u8 (qc.fl : Int), .int .u32 (qc.tag : Int), .int .u32 (qc.rw : Int), .int .u32 (qc.tsn : Int), .int .u16 (qc.out : Int), .int .u16 (qc.inn : Int), .int .u16 (qc.sid : Int), .int .u16 (qc.ssn : Int), .int .u32 (qc.ppid : Int), .slice qs.dA qs.dn qs.dc, .slice qs.aA qs.an qs.ac, .slice qs.gA qs.gn qs.gc, .slice qs.uA qs.un qs.uc, .slice qs.cA qs.cn qs.cc] 32)) (some ⟨V2.heap.size, 0, none⟩) (cv qc qs).toList := (Bk.new V2 #[.int .u8 (qc.kd : Int), .int .u8 (qc.fl : Int), .int .u32 (qc.tag : Int), .int .u32 (qc.rw : Int), .int .u32 (qc.tsn : Int), .int .u16 (qc.out : Int), .int .u16 (qc.inn : Int), .int .u16 (qc.sid : Int), .int .u16 (qc.ssn : Int), .int .u32 (qc.ppid : Int), .slice qs.dA qs.dn qs.dc, .slice qs.aA qs.an qs.ac, .slice qs.gA qs.gn qs.gc, .slice qs.uA qs.un qs.uc, .slice qs.cA qs.cn qs.cc] 32).row
        have HNEW := Lib.hid (bcells hnew)
        have HHY : Hid (∀ v ∈ (cv qc qs).toList, v.oneCell' = true) := Lib.hid (cv_cell _ _)
        have hn3 : nw ≤ 300 := by omega
        clear hal hnew H1 H2
        go_wp2_with (at_builtin; refine wpList_append_lies _ rfl (.tmp 58) (.tmp 60) 50 rfl B 32 iC _ 15 152 Try.underlying50 HI0.out HI1.out HI2.out HI3.out rfl (by decide) _ nw _ rfl HW3.out.ow ⟨V2.heap.size, 0, none⟩ 1 1 (cv qc qs).toList rfl rfl HNEW.out HHY.out (by omega) (by unfold maxLen; omega) (by omega) HW3.out.bw _ rfl ?_; intro g14 cap14 w10 hown10 hgrow10 _ _; have HN := Lib.hid (HW3.out.snoc (q := (qc, qs)) hown10 hgrow10); have hpk10 : Bk w10 gp (pkl f t g Aw nw cw) 52 := (hgrow10.block _ HW3.out.pk.lt (fun e => by have := (HW3.out.ow.lt _ e.symm).1; have := HW3.out.gb; omega)).trans HW3.out.pk; have k3' := (mem_cell hpk10).2; have f3 := hpk10.frozen 3; clear hown10 hgrow10 hpk10 HW3 HNEW HHY)
        go_roundw
        case rel => exact ⟨k + 1, m + lc, false, _, nw + 1, cap14, wk ++ [(qc, qs)], by omega, by go_num, by go_num, rfl, hmb2, by omega, HS2, HU2, HM2, HN⟩
        case measure => simp [intOf]; omega
    · have hk0 : n = k := by omega
      subst hk0
      have hU : upto (ks.map (·.1)) = wk.map (·.1) := by
        rw [HU.out, List.drop_eq_nil_of_le (by rw [HL.out]; exact Nat.le_refl _)]
        cases b <;> simp [upto]
      have hm : bn = m := by
        have h1 := HLN2.out.1
        have h2 := HS.out
        rw [List.take_of_length_le (by rw [HL.out]; exact Nat.le_refl _), szs_all] at h2
        rw [h2, ← HLB.out]
        exact h1
      subst hm
      have h15 : bn ≤ 1500 := by rw [← HLB.out]; exact HLN2.out.2
      have d1 : decide ((1500 : Int) < (bn : Int)) = false := by simp; omega
      have hwl : wk.length = nw := by
        have := HW.out.ow.1
        rw [kcs_len] at this
        omega
      obtain ⟨_, hcap1, hcap2⟩ := owns_none HW.out.bo
      have hT := pTake_any bA bn bc L wr HLB.out (by omega) hcap1 hcap2 HBY.out (row_of_owns HW.out.bo)
      have HCAP := Lib.hid (And.intro hcap1 hcap2)
      clear HU HS hcap1 hcap2 hmb hk hlt
      by_cases hnil : upto (ks.map (·.1)) = []
      · rw [show ptk L = _ from HBK2.out.1 hnil] at hT
        have HT : Hid (Calls Try.prog 26 #[.slice bA bn bc] wr fun e w' => ∃ A n c ks, e = .returned (.tuple #[.agg (pkl 0 0 0 A n c), .int .i64 60]) ∧ ks.map (·.1) = [] ∧ ks.length = n ∧ Rk w' A ks ∧ n ≤ 100000 ∧ Below wr.heap.size wr w') := Lib.hid hT
        have hz : nw = 0 := by
          rw [hnil] at hU
          rw [← hwl]
          simpa using (len_of hU.symm rfl)
        subst hz
        clear hT hU hwl hnil
        go_wp2_with fail
        (with_reducible refine HT.out.mono ?_)
        rintro e V1 ⟨A5, n5, c5, k5, rfl, hk5, hl5, _, _, hb5⟩
        have hz5 : 0 = n5 := (len_of hk5 hl5).symm
        subst hz5
        have hst := pkstore_new 0 0 0 A5 0 c5 V1
        have hal : Below V1.heap.size V1 (V1.alloc (.cells (pkl 0 0 0 A5 0 c5) 52)) := (Below.refl _ _).alloc (Nat.le_refl _) _
        have HW2 := Lib.hid ((HW.out.next hb5).next hal)
        have HQ2 : Hid (Bk (V1.alloc (.cells (pkl 0 0 0 A5 0 c5) 52)) V1.heap.size (pkl 0 0 0 A5 0 c5) 52) := Lib.hid (Bk.new _ _ _)
        clear hk5 hl5 hb5 hal HW HT
        go_upto_region 23 with fail
        clear hst
        generalize hV2 : V1.alloc (.cells (pkl 0 0 0 A5 0 c5) 52) = V2 at HW2 HQ2 ⊢
        clear hV2
        generalize V1.heap.size = gq at HQ2 ⊢
        have k3 := (mem_cell HW2.out.pk).2
        have q3 := (mem_cell HQ2.out).2
        go_wp2_with fail
        go_ret
        exact ⟨rfl, HW2.out.bl⟩
      rw [show ptk L = _ from HBK2.out.2 hnil] at hT
      have HT : Hid (Calls Try.prog 26 #[.slice bA bn bc] wr fun e w' => ∃ A n c k5, e = .returned (.tuple #[.agg (pkl f t g A n c), .int .i64 0]) ∧ k5.map (·.1) = upto (ks.map (·.1)) ∧ k5.length = n ∧ Rk w' A k5 ∧ n ≤ 100000 ∧ Below wr.heap.size wr w') := Lib.hid hT
      have hnz : nw ≠ 0 := fun e => hnil (by
        rw [hU]
        rw [e] at hwl
        rw [List.eq_nil_of_length_eq_zero hwl]
        rfl)
      have dn : ((nw : Int) == 0) = false := by simpa using hnz
      have HU := Lib.hid hU
      have HWL := Lib.hid hwl
      clear hT hU hwl hnil hnz
      go_wp2_with fail
      (with_reducible refine HT.out.mono ?_)
      rintro e V1 ⟨A5, n5, c5, k5, rfl, hk5, hl5, hr5, hm5, hb5⟩
      have hz5 : nw = n5 := by rw [← hl5, ← HWL.out]; exact (len_of HU.out.symm rfl).trans (len_of hk5 rfl).symm
      subst hz5
      have HEQ := Lib.hid (hk5.trans HU.out)
      have HL5 := Lib.hid hl5
      have HM5 := Lib.hid hm5
      have hst := pkstore_new f t g A5 nw c5 V1
      have hal : Below V1.heap.size V1 (V1.alloc (.cells (pkl f t g A5 nw c5) 52)) := (Below.refl _ _).alloc (Nat.le_refl _) _
      have HW2 := Lib.hid ((HW.out.next hb5).next hal)
      have HR2 := Lib.hid (hr5.next hal)
      have HQ2 : Hid (Bk (V1.alloc (.cells (pkl f t g A5 nw c5) 52)) V1.heap.size (pkl f t g A5 nw c5) 52) := Lib.hid (Bk.new _ _ _)
      clear hk5 hl5 hr5 hm5 hb5 hal HW HT
      go_upto_region 23 with fail
      clear hst
      generalize hV2 : V1.alloc (.cells (pkl f t g A5 nw c5) 52) = V2 at HW2 HQ2 HR2 ⊢
      clear hV2
      generalize V1.heap.size = gq at HQ2 ⊢
      have HRW : Hid (Rk V2 Aw wk) := Lib.hid ⟨row_of_owns HW2.out.ow, fun q hq => (HH.out.2 q (HM.out q hq)).next HW2.out.bl⟩
      have HSM : Hid (Calls Try.prog 28 #[.agg #[.int .u16 (f : Int), .int .u16 (t : Int), .int .u32 (g : Int), .slice A5 nw c5], .agg #[.int .u16 (f : Int), .int .u16 (t : Int), .int .u32 (g : Int), .slice Aw nw cw]] V2 fun e w' => e = .returned (.bool true) ∧ Below V2.heap.size V2 w') := Lib.hid (pSame_any f t g k5 wk A5 Aw nw c5 cw V2 HR2.out HRW.out HL5.out HEQ.out (by have := HM5.out; omega))
      obtain ⟨k2, k3⟩ := mem_cell HW2.out.pk
      obtain ⟨k0, k1⟩ := mem_head HW2.out.pk
      obtain ⟨q2, q3⟩ := mem_cell HQ2.out
      obtain ⟨q0, q1⟩ := mem_head HQ2.out
      go_wp2_with fail
      (with_reducible refine HSM.out.mono ?_)
      rintro e V3 ⟨rfl, hb3⟩
      have HW3 := Lib.hid (HW2.out.next hb3)
      clear hb3 HW2 HQ2 HR2 HRW HSM k0 k1 k2 k3 q0 q1 q2 q3
      go_upto_region 27 with fail
      by_cases t0 : tu = 0
      · subst t0
        go_wp2_with fail
        go_ret
        exact ⟨rfl, HW3.out.bl⟩
      have d3 : ((tu : Int) == 0) = false := by simp; omega
      by_cases a0 : at_ < 0
      · have d4 : decide (at_ < 0) = true := by simpa using a0
        go_wp2_with fail
        go_ret
        exact ⟨rfl, HW3.out.bl⟩
      have d4 : decide (at_ < 0) = false := by simpa using a0
      by_cases a2 : (bn : Int) ≤ at_
      · have d5 : decide ((bn : Int) ≤ at_) = true := by simpa using a2
        go_wp2_with fail
        go_ret
        exact ⟨rfl, HW3.out.bl⟩
      obtain ⟨p, rfl⟩ := Int.eq_ofNat_of_zero_le (show 0 ≤ at_ by omega)
      have hpn : p < bn := by omega
      have d5 : decide (bn ≤ p) = false := by simp; omega
      have d4' : decide ((p : Int) < 0) = false := by simp
      obtain ⟨gb, rfl⟩ := owns_blk HW3.out.bo (by omega)
      have hpL : p < L.length := by rw [HLB.out]; exact hpn
      obtain ⟨cc, hcc, hc2⟩ := Byt.at HBY.out hpL
      have hcell : V3.cell? ⟨gb, p, none⟩ = some (.int .u8 (cc : Int)) := by
        rw [HW3.out.bo.cellAt p (by omega), ← hcc]
        simp [bs, List.getD_eq_getElem?_getD, List.getElem?_eq_getElem hpL]
      have hfz := HW3.out.bo.frozenAt p
      have HPT := Lib.hid (HTN2.out p cc tu hpL hcc hc2 htu t0)
      have HST := Lib.hid (HW3.out.bo.stored p (.int .u8 ((cc ^^^ tu : Nat) : Int)))
      have HSB := Lib.hid (set_byt HBY.out p (cc ^^^ tu) (Nat.xor_lt_two_pow (n := 8) hc2 htu))
      have hx := u8_xor_nat cc tu hc2 htu
      have HX := Lib.hid hx
      clear hx hcc hc2 a0 d4
      go_upto_region 30 with fail
      clear hcell hfz
      rw [HX.out]
      have ho9 := HST.out.1
      rw [bs_set] at ho9
      have hb9 := HW3.out.bl.setCell (p := ⟨gb, p, none⟩) (HW3.out.bo.lt gb rfl).1 (.int .u8 ((cc ^^^ tu : Nat) : Int))
      have HO9 := Lib.hid ho9
      have HB9 := Lib.hid hb9
      clear ho9 hb9 HST HX HW3
      generalize hW9 : V3.setCell ⟨gb, p, none⟩ (.int .u8 ((cc ^^^ tu : Nat) : Int)) = W9 at HO9 HB9 ⊢
      clear hW9
      have hT := pTake_any (some ⟨gb, 0, none⟩) bn bc (L.set p ((cc ^^^ tu : Nat) : Int)) W9 (by rw [List.length_set]; exact HLB.out) (by omega) HCAP.out.1 HCAP.out.2 HSB.out (row_of_owns HO9.out)
      rw [HPT.out] at hT
      have HT : Hid (Calls Try.prog 26 #[.slice (some ⟨gb, 0, none⟩) bn bc] W9 fun e w' => ∃ A n c k5, e = .returned (.tuple #[.agg (pkl 0 0 0 A n c), .int .i64 31]) ∧ k5.map (·.1) = [] ∧ k5.length = n ∧ Rk w' A k5 ∧ n ≤ 100000 ∧ Below W9.heap.size W9 w') := Lib.hid hT
      clear hT HPT HSB
      go_wp2_with fail
      (with_reducible refine HT.out.mono ?_)
      rintro e W10 ⟨A9, n9, c9, k9, rfl, _, _, _, _, hb10⟩
      have HB10 := Lib.hid (bnext' HB9.out hb10)
      clear hb10
      go_wp2_with fail
      go_ret
      exact ⟨rfl, HB10.out⟩
theorem pktBack_walk (f t g : Nat) (A : Option Addr) (n c : Nat) (ks : List Cq) (a1 a2 : Int) (w : World) (hp : f < 65536 ∧ t < 65536 ∧ g < 4294967296 ∧ ks.length = n ∧ n ≤ 1000000000000 ∧ Rk w A ks) (w1 : (Lit.int .i64 a1).wf = true) (w2 : (Lit.int .u8 a2).wf = true) :
    Calls Try.prog 9 #[.agg (pkl f t g A n c), .int .i64 a1, .int .u8 a2] w fun e w' => e = .returned (.bool true) ∧ Below w.heap.size w w' := by
  obtain ⟨hf, ht, hg, hl, hn, h⟩ := hp
  have h2 := wf_u8 w2
  have h1 : -9223372036854775808 ≤ a1 ∧ a1 < 9223372036854775808 := by
    simp [Lit.wf, IntKind.min, IntKind.max, IntKind.signed, IntKind.bits] at w1
    omega
  obtain ⟨tu, rfl⟩ := Int.eq_ofNat_of_zero_le h2.1
  exact pktBack_main f t g A n c ks a1 tu w hf ht hg hl hn h h1 (by omega)
end Go.Proofs.Ytbliipjiilmbcaa
