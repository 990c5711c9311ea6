/-
  A whole message is dealt with.
-/
import Derived.Test.YtednkcjmlpgipaaYIxGoOn
namespace Go.Proofs.Ytednkcjmlpgipaa
set_option maxRecDepth 4000
open Go.RowKit Go.Maps
namespace Ix
set_option linter.unusedVariables false
set_option linter.unusedSimpArgs false
open Fg (Pc Ms mv JA JA_fr)

section
variable {W w : World} {x : Nat} {b : Ib} {wh : Nat} {L : List Me} {R : List As}
theorem IW.boxed (h : IW W w x b wh L R) (cs : Array Value) (t : TypeId) : IW W (w.alloc (.cells cs t)) x b wh L (BkA w.heap.size cs t :: R) := by
  obtain ⟨i, hN, hf⟩ := h
  exact ⟨i, (hN.box cs t).perm (by unfold Iv.parts; exact List.perm_middle (l₁ := [_, _, _, _, _, _, _]).symm), hf⟩
theorem IW.unbox {a : As} (h : IW W w x b wh L (a :: R)) : IW W w x b wh L R := by
  obtain ⟨i, hN, hf⟩ := h
  exact ⟨i, (hN.perm (by unfold Iv.parts; exact List.perm_middle (l₁ := [_, _, _, _, _, _, _]))).drop, hf⟩
/-- The bytes that are whole are stored. -/
theorem IW.setw (h : IW W w x b wh L R) (n : Nat) : IW W (w.setCell ⟨x, 7, none⟩ (.int .i64 (n : Int))) x b n L R := by
  obtain ⟨i, hN, hf⟩ := h
  exact ⟨i, hN.store (k := 0) rfl 7 _, hf⟩
theorem IW.cells (h : IW W w x b wh L R) : ∃ i : Iv, i.Fit b L ∧ Nw W w (i.parts x b wh L R) ∧ Bk w x (xc b.room b.most i.s i.j i.vn i.m i.v wh) 101 := by
  obtain ⟨i, hN, hf⟩ := h
  exact ⟨i, hf, hN, hN.bk (k := 0) rfl⟩
theorem IW.bk7 {g : Nat} {cs : Array Value} {t : TypeId} (h : IW W w x b wh L (BkA g cs t :: R)) : Bk w g cs t := by
  obtain ⟨i, hN, _⟩ := h
  exact hN.bk (k := 7) rfl
theorem IW.bk8 {a : As} {g : Nat} {cs : Array Value} {t : TypeId} (h : IW W w x b wh L (a :: BkA g cs t :: R)) : Bk w g cs t := by
  obtain ⟨i, hN, _⟩ := h
  exact hN.bk (k := 8) rfl
theorem IW.whx (h : IW W w x b wh L R) (he : wh = b.whole) : IX W w x b L R := by
  subst he
  exact h
set_option maxHeartbeats 4000000 in
theorem deal_any (h : IX W w x b L R) (ok : b.Core) (hlen : b.rd.length + b.ws.length ≤ 1100000) (hwb : b.whole ≤ 10000000) (me : Me) (hm : me ∈ L) (h1 : 1 ≤ me.1.d.length) (h2 : me.1.d.length ≤ 10000000) (hms : me.1.s < b.nx.length) (ssn : Nat) (hss : ssn < 65536) :
    Calls Try.prog 55 #[.pointer (some ⟨x, 0, none⟩), .agg #[.int .u16 (me.1.s : Int), .bool me.1.u, .int .u32 (me.1.p : Int), .slice me.2.1 me.2.2.1 me.2.2.2], .int .u16 (ssn : Int)] w fun e w' => e = .returned (.tuple #[]) ∧ IX W w' x (b.deal me.1 ssn) L R := by
  have HD : Hid (b.deal me.1 ssn = if me.1.u then { b with rd := b.rd ++ [me.1] } else if ssn = b.nxt me.1.s then goOn (b.ws.length + 1) b me.1 else if (alook wkey b.ws (me.1.s * 65536 + ssn)).isNone && bf16 (b.nxt me.1.s) ssn then { b with ws := b.ws ++ [(me.1, ssn)] } else b) := Lib.hid rfl
  have hdl : me.1.d.length = me.2.2.1 := by
    obtain ⟨i, _, hf⟩ := h
    exact hf.dat me hm
  have hq := deal_ok ok h1 hms hss
  generalize b.deal me.1 ssn = T at HD hq ⊢
  have HQ := Lib.hid hq
  obtain ⟨q, hqq⟩ : ∃ q, b.whole = q := ⟨_, rfl⟩
  have HI : Hid (IW W w x b q L R) := Lib.hid (by rw [← hqq]; exact h)
  rw [hqq] at hwb
  have HQQ := Lib.hid hqq
  have HOK := Lib.hid ok
  have HLEN := Lib.hid hlen
  have HWB := Lib.hid hwb
  have HM := Lib.hid hm
  have HDL := Lib.hid hdl
  have HMS := Lib.hid hms
  have H1 := Lib.hid h1
  have H2 : Hid (me.2.2.1 ≤ 10000000) := Lib.hid (by rw [← hdl]; exact h2)
  have HSS := Lib.hid hss
  have HG : Hid b.Go := Lib.hid ⟨ok.ws, ok.nx, ok.nxs, ok.al, hlen⟩
  clear h ok hlen hwb hm h1 h2 hms hdl hq hqq
  obtain ⟨⟨es, eu, ep, ed⟩, eA, ek, ec⟩ := me
  simp only at HD HMS HDL H1 H2 ⊢
  go_enter Try.func55, Try.ntmps55
  go_upto_region 1 with fail
  have HI1 := Lib.hid (HI.out.boxed (mv es eu ep eA ek ec) 39)
  unfold mv at HI1
  clear HI
  generalize w.alloc (.cells #[.int .u16 (es : Int), .bool eu, .int .u32 (ep : Int), .slice eA ek ec] 39) = w1 at HI1 ⊢
  generalize w.heap.size = g at HI1 ⊢
  have hbg := HI1.out.bk7
  have g0 : w1.cell? ⟨g, 0, none⟩ = some (.int .u16 (es : Int)) := hbg.cell 0
  clear hbg
  go_upto_region 2 with fail
  have HI2 := Lib.hid (HI1.out.boxed #[.int .u16 (es : Int), .int .u16 (ssn : Int)] 151)
  clear HI1 g0
  generalize w1.alloc (.cells #[.int .u16 (es : Int), .int .u16 (ssn : Int)] 151) = w2 at HI2 ⊢
  generalize w1.heap.size = ga at HI2 ⊢
  have hbg := HI2.out.bk8
  have g1 : w2.cell? ⟨g, 1, none⟩ = some (.bool eu) := hbg.cell 1
  clear hbg
  cases eu with
  | true =>
    have hT : T = { b with rd := b.rd ++ [⟨es, true, ep, ed⟩] } := HD.out
    have hwh : q + ek = T.whole := by
      rw [hT, ← HQQ.out]
      unfold Ib.whole
      simp only [bsum_app]
      have := HDL.out
      omega
    have HWH := Lib.hid hwh
    have HT := Lib.hid hT
    clear hT hwh HD HQ HG
    obtain ⟨i, hf, hN, hbx⟩ := HI2.out.cells
    have hbg := HI2.out.bk8
    have HF := Lib.hid hf
    have HN := Lib.hid hN
    have hlr : i.rM.length = b.rd.length := by rw [← hf.rd, List.length_map]
    have HLR : Hid (i.rM.length ≤ 2000000) := Lib.hid (by have := HLEN.out; omega)
    obtain ⟨ps, pj, pm, pvn, pv, wM, rM⟩ := i
    simp only at HLR
    have c6 : w2.drew.cell? ⟨x, 6, none⟩ = some pv := hbx.drew.cell 6
    have c6' : ∀ o, (w2.alloc o).cell? ⟨x, 6, none⟩ = some pv := fun o => (hbx.alloc o).cell 6
    have g0 : w2.drew.cell? ⟨g, 0, none⟩ = some (.int .u16 (es : Int)) := hbg.drew.cell 0
    have g1' : w2.drew.cell? ⟨g, 1, none⟩ = some (.bool true) := hbg.drew.cell 1
    have g2 : w2.drew.cell? ⟨g, 2, none⟩ = some (.int .u32 (ep : Int)) := hbg.drew.cell 2
    have g3 : w2.drew.cell? ⟨g, 3, none⟩ = some (.slice eA ek ec) := hbg.drew.cell 3
    clear hf hlr hbx hbg hN HI2
    go_upto_region 3 with fail
    first | go_region_law (first | (refine qu_reg rfl (.tmp 18) (.tmp 20) rfl pv rM rfl (by obtain ⟨F, hq, _⟩ := (HN.out.next ((Below.refl _ _).alloc (Nat.le_refl _) _).drew).at (k := 5) rfl; exact hq.1) w2.heap.size 1 (⟨es, true, ep, ed⟩, (eA, ek, ec)) rfl (Row.drew (Row.new w2 _ _ _)) HLR.out ?_; intro A' c' w9 hq9 hg9 hat9; have HN9 := Lib.hid (Nw.quApp (HN.out.next ((Below.refl _ _).alloc (Nat.le_refl _) _).drew) (k := 5) rfl hq9 hg9 hat9); have hb9 := HN9.out.bk (k := 0) rfl; have x9 : w9.cell? ⟨x, 6, none⟩ = some pv := hb9.cell 6; have f9 := hb9.frozen 6; clear hq9 hg9 hat9 hb9)) | fail
    all_goals
      have HC : Hid (IW W (w9.setCell ⟨x, 6, none⟩ (.slice A' (rM.length + 1) c')) x T q L (BkA ga #[.int .u16 (es : Int), .int .u16 (ssn : Int)] 151 :: BkA g #[.int .u16 (es : Int), .bool true, .int .u32 (ep : Int), .slice eA ek ec] 39 :: R)) := Lib.hid (by
        refine ⟨⟨ps, pj, pm, pvn, .slice A' (rM.length + 1) c', wM, rM ++ [(⟨es, true, ep, ed⟩, (eA, ek, ec))]⟩, ?_, ?_⟩
        · rw [HT.out]
          exact HN9.out.store (k := 0) rfl 6 _
        · rw [HT.out]
          refine ⟨HF.out.ws, ?_, HF.out.inw, fun e he => ?_, HF.out.dat⟩
          · simp only [List.map_append, List.map_cons, List.map_nil]
            rw [show rM.map (·.1) = b.rd from HF.out.rd]
          · rcases List.mem_append.1 he with h3 | h3
            · exact HF.out.inr e h3
            · simp only [List.mem_singleton] at h3
              rw [h3]
              exact HM.out)
      clear HN HN9 x9 f9 c6 c6' g0 g1 g1' g2 g3 HF HLR HT
      generalize w9.setCell ⟨x, 6, none⟩ (.slice A' (rM.length + 1) c') = w10 at HC ⊢
      obtain ⟨i8, hf8, hN8, hb8⟩ := HC.out.cells
      have x7 : w10.cell? ⟨x, 7, none⟩ = some (.int .i64 (q : Int)) := hb8.cell 7
      have x7' : w10.drew.cell? ⟨x, 7, none⟩ = some (.int .i64 (q : Int)) := hb8.cell 7
      have fx7 := hb8.frozen 7
      have fx7' := hb8.drew.frozen 7
      have hbg8 := HC.out.bk8
      have g3 : w10.cell? ⟨g, 3, none⟩ = some (.slice eA ek ec) := hbg8.cell 3
      have g3' : w10.drew.cell? ⟨g, 3, none⟩ = some (.slice eA ek ec) := hbg8.cell 3
      have hw : IntKind.i64.wrap ((q : Int) + (ek : Int)) = ((q + ek : Nat) : Int) := by
        have h1 := HWB.out
        have h2 := H2.out
        simp [IntKind.wrap, IntKind.signed, IntKind.bits]
        omega
      have HSW := Lib.hid (HC.out.setw (q + ek))
      clear hf8 hN8 hb8 hbg8
      go_upto_region 8 with fail
      go_region
      all_goals
        go_wp2_with fail
        go_end0
        exact ⟨rfl, ((HSW.out.unbox.unbox).next (Below.refl _ _).drew).whx HWH.out⟩
  | false =>
    obtain ⟨i, hf, hN, hbx⟩ := HI2.out.cells
    have hbg := HI2.out.bk8
    have hba := HI2.out.bk7
    obtain ⟨F, hir, _⟩ := hN.at (k := 3) rfl
    have hsn : es < b.nx.length := HMS.out
    obtain ⟨gn, cn, hvn⟩ := ir_zero hir.1 (Nat.lt_of_le_of_lt (Nat.zero_le _) hsn)
    have hirc := hir.1
    rw [hvn] at hirc
    have hir2 := ir_get (l := b.nx) hirc rfl hsn
    have c4 : w2.drew.cell? ⟨x, 4, none⟩ = some i.vn := hbx.drew.cell 4
    rw [hvn] at c4
    have g0 : w2.drew.cell? ⟨g, 0, none⟩ = some (.int .u16 (es : Int)) := hbg.drew.cell 0
    have n0 : w2.drew.cell? ⟨gn, es, none⟩ = some (.int .u16 ((b.nx.getD es 0 : Nat) : Int)) := hir2.1
    obtain ⟨nv, hnv⟩ : ∃ nv, b.nx.getD es 0 = nv := ⟨_, rfl⟩
    have hnx : b.nxt es = nv := hnv
    rw [hnv] at n0
    have HNX := Lib.hid hnx
    have hnl : nv < 65536 := by rw [← hnx]; exact nxt_lt HOK.out es
    clear hf hN hbx hbg hba hir hirc hir2 hvn hnv hnx
    by_cases heq : ssn = nv
    · have hz : ((ssn : Int) == (nv : Int)) = true := by simp; omega
      have hT : T = goOn (b.ws.length + 1) b ⟨es, false, ep, ed⟩ := by
        have h1 := HD.out
        rw [if_neg (by simp), if_pos (by rw [HNX.out]; exact heq)] at h1
        exact h1
      have hgk := goOn_ok (b.ws.length + 1) b ⟨es, false, ep, ed⟩ HOK.out.ws HOK.out.nx HOK.out.nxs HOK.out.al HOK.out.rd H1.out HMS.out (by omega)
      have hwh : q + ek = T.whole := by
        have h1 := hgk.1
        have h2 := HDL.out
        have h3 := HQQ.out
        rw [← hT] at h1
        simp only at h1
        omega
      have HWH := Lib.hid hwh
      have hcg : Calls Try.prog 86 #[.pointer (some ⟨x, 0, none⟩), .agg #[.int .u16 (es : Int), .bool false, .int .u32 (ep : Int), .slice eA ek ec]] w2.drew fun e w' => e = .returned (.tuple #[]) ∧ IW W w' x (goOn (b.ws.length + 1) b ⟨es, false, ep, ed⟩) q L (BkA ga #[.int .u16 (es : Int), .int .u16 (ssn : Int)] 151 :: BkA g #[.int .u16 (es : Int), .bool false, .int .u32 (ep : Int), .slice eA ek ec] 39 :: R) := goOn_any (HI2.out.next (Below.refl _ _).drew) HG.out (⟨es, false, ep, ed⟩, (eA, ek, ec)) HM.out HMS.out
      rw [← hT] at hcg
      have CG := Lib.hid hcg
      have hbg := HI2.out.bk8
      have b0 : w2.drew.cell? ⟨g, 0, none⟩ = some (.int .u16 (es : Int)) := hbg.drew.cell 0
      have b1 : w2.drew.cell? ⟨g, 1, none⟩ = some (.bool false) := hbg.drew.cell 1
      have b2 : w2.drew.cell? ⟨g, 2, none⟩ = some (.int .u32 (ep : Int)) := hbg.drew.cell 2
      have b3 : w2.drew.cell? ⟨g, 3, none⟩ = some (.slice eA ek ec) := hbg.drew.cell 3
      clear hT hwh hgk hcg hbg heq HI2 HD HQ
      go_upto_region 4 with fail
      go_region
      all_goals
        go_wp2_with fail
        refine CG.out.mono ?_
        rintro e w5 ⟨rfl, h5⟩
        have HC := Lib.hid h5
        clear h5 CG b0 b1 b2 b3 c4 g0 n0 g1 hz
        obtain ⟨i8, hf8, hN8, hb8⟩ := HC.out.cells
        have x7 : w5.cell? ⟨x, 7, none⟩ = some (.int .i64 (q : Int)) := hb8.cell 7
        have x7' : w5.drew.cell? ⟨x, 7, none⟩ = some (.int .i64 (q : Int)) := hb8.cell 7
        have fx7 := hb8.frozen 7
        have fx7' := hb8.drew.frozen 7
        have hbg8 := HC.out.bk8
        have g3 : w5.cell? ⟨g, 3, none⟩ = some (.slice eA ek ec) := hbg8.cell 3
        have g3' : w5.drew.cell? ⟨g, 3, none⟩ = some (.slice eA ek ec) := hbg8.cell 3
        have hw : IntKind.i64.wrap ((q : Int) + (ek : Int)) = ((q + ek : Nat) : Int) := by
          have h1 := HWB.out
          have h2 := H2.out
          simp [IntKind.wrap, IntKind.signed, IntKind.bits]
          omega
        have HSW := Lib.hid (HC.out.setw (q + ek))
        clear hf8 hN8 hb8 hbg8
        go_upto_region 8 with fail
        go_region
        all_goals
          go_wp2_with fail
          go_end0
          exact ⟨rfl, ((HSW.out.unbox.unbox).next (Below.refl _ _).drew).whx HWH.out⟩
    · have hz : ((ssn : Int) == (nv : Int)) = false := by simp; omega
      have hcw := mayWait_any (x := x) (L := L) (HI2.out.next (Below.refl w2.heap.size w2).drew |>.whx HQQ.out.symm) HOK.out es ssn HMS.out HSS.out
      rw [HNX.out] at hcw
      obtain ⟨fr, hfr⟩ : ∃ fr, ((alook wkey b.ws (es * 65536 + ssn)).isNone && bf16 nv ssn) = fr := ⟨_, rfl⟩
      rw [hfr] at hcw
      have hT : T = if fr = true then { b with ws := b.ws ++ [(⟨es, false, ep, ed⟩, ssn)] } else b := by
        have h1 := HD.out
        rw [if_neg (by simp), if_neg (by rw [HNX.out]; exact heq), HNX.out, hfr] at h1
        exact h1
      have HT := Lib.hid hT
      have HFR := Lib.hid hfr
      have CW := Lib.hid hcw
      have hba := HI2.out.bk7
      have a0 : w2.drew.cell? ⟨ga, 0, none⟩ = some (.int .u16 (es : Int)) := hba.drew.cell 0
      have a1 : w2.drew.cell? ⟨ga, 1, none⟩ = some (.int .u16 (ssn : Int)) := hba.drew.cell 1
      clear hcw hfr hT hba heq HD HQ HG
      go_upto_region 4 with fail
      go_region
      all_goals
        go_wp2_with fail
        refine CW.out.mono ?_
        rintro e w5 ⟨rfl, hb5⟩
        have HI5 := Lib.hid ((HI2.out.next (Below.refl w2.heap.size w2).drew).next hb5)
        clear hb5 CW a0 a1 c4 g0 n0 g1 hz HI2
        cases fr with
        | false =>
          go_wp2_with fail
          try simp only [Exit.inBlock, Exit.then]
          refine bodyPost_ret (results_none rfl _ _ _) rfl ?_
          have h1 : T = b := by rw [HT.out]; rfl
          rw [h1]
          exact ⟨rfl, HI5.out.unbox.unbox.whx HQQ.out.symm⟩
        | true =>
          have hT : T = { b with ws := b.ws ++ [(⟨es, false, ep, ed⟩, ssn)] } := by rw [HT.out]; rfl
          have hwh : q + ek = T.whole := by
            rw [hT, ← HQQ.out]
            unfold Ib.whole
            simp only [List.map_append, List.map_cons, List.map_nil, bsum_app]
            have := HDL.out
            omega
          have HWH := Lib.hid hwh
          have HT2 := Lib.hid hT
          obtain ⟨i, hf, hN, hbx⟩ := HI5.out.cells
          have hbg := HI5.out.bk8
          have hba := HI5.out.bk7
          have HF := Lib.hid hf
          obtain ⟨ps, pj, pm, pvn, pv, wM, rM⟩ := i
          have hnone : alook wkey b.ws (es * 65536 + ssn) = none := by
            have h1 := HFR.out
            simp only [Bool.and_eq_true] at h1
            simpa using h1.1
          have hnone2 : alook ekey wM (es * 65536 + ssn) = none := by
            rw [← HF.out.ws, alook_map (key := ekey) ekey_plain, Option.map_eq_none_iff] at hnone
            exact hnone
          have hwl : wM.length = b.ws.length := by rw [← HF.out.ws]; simp
          obtain ⟨w6, hp6, hN6, _⟩ := Nw.amPut (M := MT) hN.drew (k := 4) rfl ((⟨es, false, ep, ed⟩, (eA, ek, ec)), ssn) (by show es * 65536 + ssn < 4294967296; have := HOK.out.nx; have := HMS.out; have := HSS.out; omega) hnone2 (by show wM.length < 1000000000; have := HLEN.out; omega)
          have hp7 : (Instr.mapUpdate 99 (.map (some pm)) (.agg #[.int .u16 (es : Int), .int .u16 (ssn : Int)]) (.agg #[.int .u16 (es : Int), .bool false, .int .u32 (ep : Int), .slice eA ek ec])).run Try.prog w5.drew = .ok () w6 := by
            rw [← kvT_at HSS.out]
            exact hp6
          have c5 : w5.drew.cell? ⟨x, 5, none⟩ = some (.map (some pm)) := hbx.drew.cell 5
          have a0 : w5.drew.cell? ⟨ga, 0, none⟩ = some (.int .u16 (es : Int)) := hba.drew.cell 0
          have a1 : w5.drew.cell? ⟨ga, 1, none⟩ = some (.int .u16 (ssn : Int)) := hba.drew.cell 1
          have b0 : w5.drew.cell? ⟨g, 0, none⟩ = some (.int .u16 (es : Int)) := hbg.drew.cell 0
          have b1 : w5.drew.cell? ⟨g, 1, none⟩ = some (.bool false) := hbg.drew.cell 1
          have b2 : w5.drew.cell? ⟨g, 2, none⟩ = some (.int .u32 (ep : Int)) := hbg.drew.cell 2
          have b3 : w5.drew.cell? ⟨g, 3, none⟩ = some (.slice eA ek ec) := hbg.drew.cell 3
          have HC : Hid (IW W w6 x T q L (BkA ga #[.int .u16 (es : Int), .int .u16 (ssn : Int)] 151 :: BkA g #[.int .u16 (es : Int), .bool false, .int .u32 (ep : Int), .slice eA ek ec] 39 :: R)) := Lib.hid (by
            refine ⟨⟨ps, pj, pm, pvn, pv, wM ++ [((⟨es, false, ep, ed⟩, (eA, ek, ec)), ssn)], rM⟩, ?_, ?_⟩
            · rw [HT2.out]
              exact hN6
            · rw [HT2.out]
              refine ⟨?_, HF.out.rd, fun e he => ?_, HF.out.inr, HF.out.dat⟩
              · show List.map eplain (wM ++ [((((⟨es, false, ep, ed⟩ : Ms), (eA, ek, ec)) : Me), ssn)]) = b.ws ++ [((⟨es, false, ep, ed⟩ : Ms), ssn)]
                rw [List.map_append, show wM.map eplain = b.ws from HF.out.ws]
                rfl
              · rcases List.mem_append.1 he with h3 | h3
                · exact HF.out.inw e h3
                · simp only [List.mem_singleton] at h3
                  rw [h3]
                  exact HM.out)
          clear hT hwh hf hN hbx hbg hba hnone hnone2 hwl hp6 hN6 HI5
          go_upto_region 7 with fail
          go_region
          clear hp7 c5 a0 a1 b0 b1 b2 b3
          obtain ⟨i8, hf8, hN8, hb8⟩ := HC.out.cells
          have x7 : w6.cell? ⟨x, 7, none⟩ = some (.int .i64 (q : Int)) := hb8.cell 7
          have x7' : w6.drew.cell? ⟨x, 7, none⟩ = some (.int .i64 (q : Int)) := hb8.cell 7
          have fx7 := hb8.frozen 7
          have fx7' := hb8.drew.frozen 7
          have hbg8 := HC.out.bk8
          have g3 : w6.cell? ⟨g, 3, none⟩ = some (.slice eA ek ec) := hbg8.cell 3
          have g3' : w6.drew.cell? ⟨g, 3, none⟩ = some (.slice eA ek ec) := hbg8.cell 3
          have hw : IntKind.i64.wrap ((q : Int) + (ek : Int)) = ((q + ek : Nat) : Int) := by
            have h1 := HWB.out
            have h2 := H2.out
            simp [IntKind.wrap, IntKind.signed, IntKind.bits]
            omega
          have HSW := Lib.hid (HC.out.setw (q + ek))
          clear hf8 hN8 hb8 hbg8
          go_upto_region 8 with fail
          go_region
          all_goals
            go_wp2_with fail
            go_end0
            exact ⟨rfl, ((HSW.out.unbox.unbox).next (Below.refl _ _).drew).whx HWH.out⟩
end
end Ix
end Go.Proofs.Ytednkcjmlpgipaa
