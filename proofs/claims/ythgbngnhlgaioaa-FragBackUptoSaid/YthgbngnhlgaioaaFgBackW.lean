/-
  FragBack: the walk.
-/
import Derived.Test.YthgbngnhlgaioaaFgBackT
import Derived.BigRegion
namespace Go.Proofs.Ythgbngnhlgaioaa
set_option maxRecDepth 4000
open Go.RowKit Go.Maps
open Fg
set_option linter.unusedVariables false
set_option linter.unusedSimpArgs false

/-- What loop 1 has built of the first k messages. -/
structure L1 (W w : World) (t0 : Nat) (qs : List Sq) (k : Nat) (v7 v8 v9 : Value) (rs : List Pq) (of : List Nat) : Prop where
  mem : BI W w v7 v8 v9 rs of ((qs.take k).map fun q => q.mq.cnt)
  bl : Built ((qs.take k).map Sq.mq) t0 (rs.map (·.1)) of
  gr : great rs = false
  ok : ∀ q ∈ qs.take k, 1 ≤ q.z ∧ 1 ≤ q.k
theorem fw_lt' (t q : Nat) : fw t q < 4294967296 := fw_lt t q
set_option maxRecDepth 100000 in
set_option maxHeartbeats 4000000 in
theorem fragBack_main (A : Option Addr) (n c : Nat) (qs : List Sq) (t0 : Nat) (A2 : Option Addr) (n2 c2 : Nat) (tu : List Nat) (B : Nat) (W : World) (hp : SsIn B W A n c qs) (hB : B ≤ 1048576) (ht0 : t0 < 4294967296) (hl2 : tu.length = n2) (hr2 : Row W A2 (ns .u16 tu)) (hm2 : ∀ x ∈ tu, x < 65536) :
    Calls Try.prog 3 #[.slice A n c, .int .u32 (t0 : Int), .slice A2 n2 c2] W fun e w' => e = .returned (.bool true) ∧ Below W.heap.size W w' := by
  obtain ⟨hl, hnc, hcm, hr, hq⟩ := hp
  have HL := Lib.hid hl
  have HR := Lib.hid hr
  have HQ := Lib.hid (fun q hq' => (hq q hq').up hB)
  have HT0 := Lib.hid ht0
  have HL2 := Lib.hid hl2
  have HR2 := Lib.hid hr2
  have HM2 := Lib.hid hm2
  clear hl hr hq hnc hcm hB ht0 hl2 hr2 hm2
  go_enter Try.func3, Try.ntmps3
  go_wp2_with fail
  refine (Fg.known_any W).mono ?_
  rintro e w1 ⟨rfl, hb1⟩
  have HB1 := Lib.hid hb1
  clear hb1
  by_cases hn : 60 < n
  · have hz : decide ((60 : Int) < (n : Int)) = true := decide_eq_true (by omega)
    clear hn
    go_wp2_with fail
    go_ret
    exact ⟨rfl, HB1.out⟩
  have hz : decide ((60 : Int) < (n : Int)) = false := decide_eq_false (by omega)
  have hn60 : n ≤ 60 := by omega
  clear hn
  by_cases hn2 : 200 < n2
  · have hz2 : decide ((200 : Int) < (n2 : Int)) = true := decide_eq_true (by omega)
    clear hn2
    go_wp2_with fail
    go_ret
    exact ⟨rfl, HB1.out⟩
  have hz2 : decide ((200 : Int) < (n2 : Int)) = false := decide_eq_false (by omega)
  have hn200 : n2 ≤ 200 := by omega
  clear hn2
  have H0 : Hid (L1 W w1 t0 qs 0 (.slice none 0 0) (.slice none 0 0) (.slice none 0 0) [] []) := Lib.hid ⟨bi_nil HB1.out, built_nil t0, rfl, fun q hq => by simp at hq⟩
  clear HB1
  go_wp2_with fail
  clear hz hz2
  go_loopw [1, 7, 8, 9, 41] (fun v1 v7 v8 v9 v wr => ∃ (k T : Nat) (rs : List Pq) (of : List Nat), v = .int .i64 k ∧ k ≤ n ∧ v1 = .int .u32 (T : Int) ∧ Hid (T = fw t0 rs.length) ∧ Hid (L1 W wr t0 qs k v7 v8 v9 rs of)) (fun _ _ _ _ v _ => n - (intOf v).toNat)
  case atStart => exact ⟨0, t0, [], [], rfl, Nat.zero_le _, rfl, Lib.hid (by have := HT0.out; simp only [List.length_nil, fw]; omega), H0⟩
  case round =>
    obtain ⟨k, T, rs, of, rfl, hk, rfl, HT, H1⟩ := hrel
    clear H0
    by_cases hlt : k < n
    · have hkq : k < qs.length := by rw [HL.out]; exact hlt
      obtain ⟨ad, rfl, f0, f1, f2, f3, f4, f5⟩ := sf_at (HR.out.below H1.out.mem.bel) hkq
      have HQK := Lib.hid (HQ.out _ (List.getElem_mem hkq))
      have HX : Hid (qs[k]? = some qs[k]) := Lib.hid (List.getElem?_eq_getElem hkq)
      generalize qs[k] = q at f0 f1 f2 f3 f4 f5 HQK HX
      obtain ⟨s, u, p, Aq, m, cq, d, sn, z⟩ := q
      simp only at f0 f1 f2 f3 f4 f5
      clear hkq
      go_upto_region 11 with fail
      have HP5 : Hid (Bk (wr.alloc (.cells #[.int .u16 (s : Int), .bool u, .int .u32 (p : Int), .slice Aq m cq, .int .u16 (sn : Int), .int .i64 z] 33)) wr.heap.size #[.int .u16 (s : Int), .bool u, .int .u32 (p : Int), .slice Aq m cq, .int .u16 (sn : Int), .int .i64 z] 33) := Lib.hid (Bk.new _ _ _)
      have H5 := Lib.hid (H1.out.mem.next (Fg.bAlloc wr (.cells #[.int .u16 (s : Int), .bool u, .int .u32 (p : Int), .slice Aq m cq, .int .u16 (sn : Int), .int .i64 z] 33)))
      have HBL := Lib.hid H1.out.bl
      have HGR := Lib.hid H1.out.gr
      have HOK := Lib.hid H1.out.ok
      clear f0 f1 f2 f3 f4 f5 H1
      generalize wr.alloc (.cells #[.int .u16 (s : Int), .bool u, .int .u32 (p : Int), .slice Aq m cq, .int .u16 (sn : Int), .int .i64 z] 33) = w5 at HP5 H5 ⊢
      generalize wr.heap.size = gx at HP5 ⊢
      have g0 := HP5.out.cell 0
      have g1 := HP5.out.cell 1
      have g2 := HP5.out.cell 2
      have g3 := HP5.out.cell 3
      have g4 := HP5.out.cell 4
      have g5 := HP5.out.cell 5
      simp at g0 g1 g2 g3 g4 g5
      by_cases herr : m = 0 ∨ z < 1
      · go_wp2_with fail
        refine (cut_err s u p Aq m cq z w5 herr).mono ?_
        rintro e w6 ⟨rfl, hb6⟩
        have HB6 := Lib.hid (bnext H5.out.bel hb6)
        have HP6 := Lib.hid (HP5.out.next hb6)
        clear hb6 g0 g1 g2 g3 g4 g5 HP5 H5
        have g3 := HP6.out.cell 3
        have g5 := HP6.out.cell 5
        simp at g3 g5
        by_cases hm0 : m = 0
        · subst hm0
          clear herr
          go_wp2_with fail
          go_ret
          exact ⟨rfl, HB6.out⟩
        · have hz1 : z < 1 := by omega
          have y1 : ((m : Int) == 0) = false := by rw [beq_eq_false_iff_ne]; omega
          have y2 : decide (z < 1) = true := decide_eq_true hz1
          clear herr hm0 hz1
          go_wp2_with fail
          go_ret
          exact ⟨rfl, HB6.out⟩
      · obtain ⟨y, rfl⟩ : ∃ y : Nat, z = y := ⟨z.toNat, by omega⟩
        have hy1 : 1 ≤ y := by omega
        have hm1 : 0 < m := by omega
        have C6 := Lib.hid (cut_any s u p Aq m cq d y w5 HQK.out.len (by have := HQK.out.bulk; simp only at this; omega) hm1 HQK.out.cap hy1 (by have := wf_i64 HQK.out.z; simp only at this; omega) (HQK.out.row.below H5.out.bel))
        have HY := Lib.hid hy1
        have HM1 := Lib.hid hm1
        clear herr hy1 hm1
        go_wp2_with fail
        refine C6.out.mono ?_
        rintro e w6 ⟨A6, N, c6, ls, rfl, hl6, hm6, hp6, hb6⟩
        have hN : N ≤ 1048576 := by
          have h1 := congrArg List.length hm6
          simp [cutL] at h1
          have h2 := cutN_le (l := d) (sz := y) (by have := HQK.out.len; have := HM1.out; simp only at *; omega) HY.out
          have h3 := HQK.out.bulk
          have h4 := HQK.out.len
          simp only at h3 h4
          omega
        have HLS : Hid (ls.length = N ∧ ls.map (·.1) = cutL u s p d y) := Lib.hid ⟨hl6, hm6⟩
        have HP6 := Lib.hid hp6
        have H6 := Lib.hid (H5.out.next hb6)
        have HL6 : Hid (L2 w5.heap.size w6.heap.size w6 w6 gx #[.int .u16 (s : Int), .bool u, .int .u32 (p : Int), .slice Aq m cq, .int .u16 (sn : Int), .int .i64 (y : Int)] u7 u8) := Lib.hid ⟨Kp.refl _ _, HP5.out.next hb6, fun g hg => .inl (H5.out.all.own.lt g hg).2, fun g hg => .inl (World.ownsRow.lt H5.out.ofs g hg).2, Nat.le_refl _⟩
        clear hl6 hm6 hp6 hb6 C6 g0 g1 g2 g3 g4 g5 HP5
        go_wp2_with fail
        go_loopw [1, 7, 8, 68] (fun v1 v7 v8 v wr => ∃ (j T' : Nat) (rs' : List Pq) (of' : List Nat), v = .int .i64 j ∧ j ≤ N ∧ v1 = .int .u32 (T' : Int) ∧ Hid (T' = fw t0 (rs.length + j)) ∧ Hid (rs'.map (·.1) = rs.map (·.1) ++ ((⟨s, u, p, d, sn, y⟩ : Mq).ps t0 rs.length).take j ∧ of' = of ++ List.replicate j k ∧ rs'.length = rs.length + j) ∧ Hid (BI W wr v7 v8 u9 rs' of' ((qs.take k).map fun q => q.mq.cnt)) ∧ Hid (L2 w5.heap.size w6.heap.size w6 wr gx #[.int .u16 (s : Int), .bool u, .int .u32 (p : Int), .slice Aq m cq, .int .u16 (sn : Int), .int .i64 (y : Int)] v7 v8)) (fun _ _ _ v _ => N - (intOf v).toNat)
        case atStart => exact ⟨0, T, rs, of, rfl, Nat.zero_le _, rfl, HT, Lib.hid ⟨by simp, by simp, rfl⟩, H6, HL6⟩
        case round =>
          obtain ⟨j, T', rs', of', rfl, hj, rfl, HT', HRS, HBI, HL2'⟩ := hrel
          clear H6 HL6
          by_cases hlt2 : j < N
          · have hjl : j < ls.length := by rw [HLS.out.1]; exact hlt2
            have hps := HL2'.out.ps HP6.out
            obtain ⟨al, rfl, f0, f1, f2, f3, f4, f5⟩ := pf_at (ps_row hps HLS.out.1) hjl
            have HV := Lib.hid (hps.dat _ (List.getElem_mem hjl))
            have HXJ : Hid (ls[j]? = some ls[j]) := Lib.hid (List.getElem?_eq_getElem hjl)
            generalize ls[j] = q at f0 f1 f2 f3 f4 f5 HV HXJ
            obtain ⟨⟨tq, fq, sq, nq, pq, dq⟩, Bq, mq, ccq⟩ := q
            simp only at f0 f1 f2 f3 f4 f5
            clear hjl hps
            go_upto_region 17 with fail
            have HY7 : Hid (Bk (wr.alloc (.cells #[.int .u32 (tq : Int), .int .u8 (fq : Int), .int .u16 (sq : Int), .int .u16 (nq : Int), .int .u32 (pq : Int), .slice Bq mq ccq] 38)) wr.heap.size #[.int .u32 (tq : Int), .int .u8 (fq : Int), .int .u16 (sq : Int), .int .u16 (nq : Int), .int .u32 (pq : Int), .slice Bq mq ccq] 38) := Lib.hid (Bk.new _ _ _)
            have HB7 := Lib.hid (Fg.bAlloc wr (.cells #[.int .u32 (tq : Int), .int .u8 (fq : Int), .int .u16 (sq : Int), .int .u16 (nq : Int), .int .u32 (pq : Int), .slice Bq mq ccq] 38))
            clear f0 f1 f2 f3 f4 f5
            have HGY : Hid (wr.heap.size = wr.heap.size) := Lib.hid rfl
            obtain ⟨gy, hgy⟩ : ∃ gy, wr.heap.size = gy := ⟨_, rfl⟩
            rw [hgy] at HY7 ⊢
            have HGY := Lib.hid hgy
            clear hgy
            generalize wr.alloc (.cells #[.int .u32 (tq : Int), .int .u8 (fq : Int), .int .u16 (sq : Int), .int .u16 (nq : Int), .int .u32 (pq : Int), .slice Bq mq ccq] 38) = w7 at HB7 HY7 ⊢
            have g4 := (HL2'.out.next HB7.out).bx.cell 4
            simp at g4
            have z0 := HY7.out.frozen 0
            have z3 := HY7.out.frozen 3
            have c0 := HY7.out.cell 0
            have c3 := HY7.out.cell 3
            simp at c0 c3
            have hgxy : gx ≠ gy := fun e => by
              have h1 := HL2'.out.bx.lt
              have := HGY.out
              omega
            go_region
            have HB8 : Hid (Below wr.heap.size wr (((w7.setCell ⟨gy, 0, none⟩ (.int .u32 (T' : Int))).setCell ⟨gy, 3, none⟩ (.int .u16 (sn : Int))).drew)) := Lib.hid (((HB7.out.setCell (p := ⟨gy, 0, none⟩) (by have := HGY.out; show wr.heap.size ≤ gy; omega) _).setCell (p := ⟨gy, 3, none⟩) (by have := HGY.out; show wr.heap.size ≤ gy; omega) _).drew)
            have HY8 : Hid (Bk (((w7.setCell ⟨gy, 0, none⟩ (.int .u32 (T' : Int))).setCell ⟨gy, 3, none⟩ (.int .u16 (sn : Int))).drew) gy #[.int .u32 (T' : Int), .int .u8 (fq : Int), .int .u16 (sq : Int), .int .u16 (sn : Int), .int .u32 (pq : Int), .slice Bq mq ccq] 38) := Lib.hid (((HY7.out.set 0 _).set 3 _).drew)
            clear g4 z0 z3 c0 c3 hgxy HB7 HY7
            generalize ((w7.setCell ⟨gy, 0, none⟩ (.int .u32 (T' : Int))).setCell ⟨gy, 3, none⟩ (.int .u16 (sn : Int))).drew = w8 at HB8 HY8 ⊢
            have HBI8 := Lib.hid (HBI.out.next HB8.out)
            have HL8 := Lib.hid (HL2'.out.next HB8.out)
            have HV8 : Hid (Vq W.heap.size w8 (⟨T', fq, sq, sn, pq, dq⟩, (Bq, mq, ccq))) := Lib.hid ⟨(HV.out.next HB8.out).1, own_base (HV.out.next HB8.out).2 H5.out.bel.size⟩
            have HRL : Hid (rs'.length ≤ 1500000) := Lib.hid (by have h1 := HRS.out.2.2; have h2 := (great_not HGR.out).2; omega)
            have HOL : Hid (of'.length ≤ 1500000) := Lib.hid (by
              have h1 := congrArg List.length HRS.out.2.1
              have h2 := HBL.out.len
              have h3 := HBL.out.len2
              have h4 := (great_not HGR.out).2
              rw [List.length_append, List.length_replicate] at h1
              rw [List.length_map] at h2
              omega)
            have g0 := HY8.out.cell 0
            have g1 := HY8.out.cell 1
            have g2 := HY8.out.cell 2
            have g3 := HY8.out.cell 3
            have g4 := HY8.out.cell 4
            have g5 := HY8.out.cell 5
            simp at g0 g1 g2 g3 g4 g5
            have hTl : T' < 4294967296 := by rw [HT'.out]; exact fw_lt _ _
            have hw : IntKind.u32.wrap ((T' : Int) + 1) = ((fw T' 1 : Nat) : Int) := wrap_fw
            have HT2 : Hid (fw T' 1 = fw t0 (rs.length + (j + 1))) := Lib.hid (by rw [HT'.out, fw_fw]; rfl)
            have hT2l := fw_lt T' 1
            generalize fw T' 1 = T2 at hw HT2 hT2l
            go_upto_region 20 with (at_builtin; first
              | (refine ps_app rfl (.tmp 79) (.tmp 81) rfl W.heap.size _ rs' rfl (HBI8.out.next (Fg.bAlloc _ _)).all (⟨T', fq, sq, sn, pq, dq⟩, (Bq, mq, ccq)) (HV8.out.next (Fg.bAlloc _ _)) _ _ _ rfl (Bk.new _ _ _) (by have := HRL.out; omega) (HBI8.out.next (Fg.bAlloc _ _)).bel.size ?_; intro ga ca w9 hps9 hg9 hat9; have HBI9 := Lib.hid ((HBI8.out.next (Fg.bAlloc _ _)).pushAll hps9 hg9); have HL9 := Lib.hid ((HL8.out.next (Fg.bAlloc _ _)).push7 (n := rs'.length + 1) (c := ca) (HBI8.out.next (Fg.bAlloc _ _)).all.own (by decide) hg9 hat9); clear hps9 hg9 hat9)
              | (refine nr_app rfl (.tmp 83) (.tmp 85) rfl W.heap.size _ of' rfl (HBI9.out.next (Fg.bAlloc _ _)).ofs k _ _ _ rfl (Bk.new _ _ _) (by have := HOL.out; omega) (HBI9.out.next (Fg.bAlloc _ _)).bel.size ?_; intro gb cb w10 hnr hg10 hat10; have HBI10 := Lib.hid ((HBI9.out.next (Fg.bAlloc _ _)).pushOf hnr hg10 hat10); have HL10 := Lib.hid ((HL9.out.next (Fg.bAlloc _ _)).push8 (n := of'.length + 1) (c := cb) (HBI9.out.next (Fg.bAlloc _ _)).ofs (by decide) hg10 hat10); clear hnr hg10 hat10))
            have HRS2 := Lib.hid (l2_next (x := ⟨s, u, p, d, sn, y⟩) HRS.out.1 HLS.out.2 HXJ.out HT'.out)
            have HOF2 : Hid (of' ++ [k] = of ++ List.replicate (j + 1) k) := Lib.hid (by rw [HRS.out.2.1, List.append_assoc, List.replicate_succ'])
            have HLE2 : Hid ((rs' ++ [((⟨T', fq, sq, sn, pq, dq⟩, (Bq, mq, ccq)) : Pq)]).length = rs.length + (j + 1)) := Lib.hid (by rw [List.length_append, HRS.out.2.2]; rfl)
            clear g0 g1 g2 g3 g4 g5 hw hTl
            go_wp2_with fail
            go_roundw
            case rel => exact ⟨j + 1, T2, _, _, by go_num, by omega, rfl, HT2, Lib.hid ⟨HRS2.out, HOF2.out, HLE2.out⟩, HBI10, HL10⟩
            case measure => simp [intOf] <;> omega
          · obtain rfl : j = N := by omega
            have HNC : Hid (j = (⟨s, u, p, Aq, m, cq, d, sn, (y : Int)⟩ : Sq).mq.cnt) := Lib.hid (by
              have h1 := congrArg List.length HLS.out.2
              rw [List.length_map, HLS.out.1] at h1
              rw [h1]
              simp [cutL, Sq.mq, Mq.cnt])
            have HBL2 := Lib.hid (bl_more (q := ⟨s, u, p, Aq, m, cq, d, sn, (y : Int)⟩) HX.out HBL.out HNC.out HRS.out.1)
            have HLF2 := Lib.hid (lf_more HX.out HNC.out)
            have HMO : Hid (∀ q ∈ rs', q.2.2.1 ≤ 140737488355328) := Lib.hid fun q hq => by
              have h1 := rs_most (x := ⟨s, u, p, d, sn, y⟩) (great_not HGR.out).1 (fun r hr => ((H5.out.all.dat r hr).1)) (by have h2 := HQK.out.bulk; have h3 := HQK.out.len; simp only at h2 h3; show d.length ≤ _; omega) (t0 := t0) (by rw [HRS.out.1]; congr 1; exact ps_all HNC.out) q hq
              have h2 := (HBI.out.all.dat q hq).1
              omega
            have HRL : Hid (rs'.length ≤ 1500000) := Lib.hid (by have h1 := HRS.out.2.2; have h2 := (great_not HGR.out).2; omega)
            have HLL : Hid (((qs.take k).map fun q => q.mq.cnt).length = k) := Lib.hid (by simp; have := HL.out; omega)
            generalize hlf : ((qs.take k).map fun q => q.mq.cnt) = lf at HBI HLF2 HLL
            clear hlf
            go_upto_region 22 with (at_builtin; refine nr_app rfl (.tmp 88) (.tmp 91) rfl W.heap.size _ lf rfl (HBI.out.next (Fg.bAlloc _ _)).lfs j _ _ _ rfl (Bk.new _ _ _) (by have := HLL.out; omega) (HBI.out.next (Fg.bAlloc _ _)).bel.size ?_; intro gc cc w10 hnr hg10 hat10; have HBI10 := Lib.hid ((HBI.out.next (Fg.bAlloc _ _)).pushLf hnr hg10 hat10); clear hnr hg10 hat10)
            obtain ⟨A7, c7, h7⟩ := own_form HBI10.out.all.own
            obtain ⟨n7, hn7⟩ : ∃ n7, rs'.length = n7 := ⟨_, rfl⟩
            rw [hn7] at h7
            subst h7
            have CG := Lib.hid (great_any A7 n7 c7 rs' w10 hn7 (by have := HRL.out; omega) (ps_row HBI10.out.all hn7) HMO.out)
            clear hn7
            cases hg : great rs' with
            | true =>
              rw [hg] at CG
              clear hg
              go_wp2_with fail
              refine CG.out.mono ?_
              rintro e w ⟨rfl, rfl⟩
              clear CG
              go_wp2_with fail
              go_ret
              exact ⟨rfl, HBI10.out.bel⟩
            | false =>
              rw [hg] at CG
              have HN1 : Hid (L1 W w10 t0 qs (k + 1) (.slice A7 n7 c7) u8 (.slice (some ⟨gc, 0, none⟩) (lf.length + 1) cc) rs' of') := Lib.hid ⟨by rw [← HLF2.out]; exact HBI10.out, by rw [HRS.out.2.1]; exact HBL2.out, hg, fun q hq => by
                rw [List.take_add_one, HX.out] at hq
                rcases List.mem_append.1 hq with h | h
                · exact HOK.out q h
                · simp only [Option.toList_some, List.mem_singleton] at h
                  subst h
                  have h1 := HY.out
                  have h2 := HM1.out
                  exact ⟨by show (1 : Int) ≤ (y : Int); omega, h2⟩⟩
              have HTN : Hid (T' = fw t0 rs'.length) := Lib.hid (by rw [HT'.out, HRS.out.2.2])
              clear hg
              go_wp2_with fail
              refine CG.out.mono ?_
              rintro e w ⟨rfl, rfl⟩
              clear CG
              go_wp2_with fail
              go_roundw
              case rel => exact ⟨k + 1, T', rs', of', by go_num, by omega, rfl, HTN, HN1⟩
              case measure => simp [intOf] <;> omega
    · obtain rfl : k = n := by omega
      have hqn : qs.take k = qs := List.take_of_length_le (by rw [HL.out]; omega)
      have HBI : Hid (BI W wr u7 u8 u9 rs of (qs.map fun q => q.mq.cnt)) := Lib.hid (by have := H1.out.mem; rw [hqn] at this; exact this)
      have HBL : Hid (Built (qs.map Sq.mq) t0 (rs.map (·.1)) of) := Lib.hid (by have := H1.out.bl; rw [hqn] at this; exact this)
      have HGR := Lib.hid (great_not H1.out.gr)
      have HOK : Hid (∀ q ∈ qs, 1 ≤ q.z ∧ 1 ≤ q.k) := Lib.hid (by have := H1.out.ok; rw [hqn] at this; exact this)
      clear hqn H1
      obtain ⟨N, hN⟩ : ∃ N, rs.length = N := ⟨_, rfl⟩
      have HN := Lib.hid hN
      have hN60 : N ≤ 60 := by have := HGR.out.2; omega
      clear hN
      have HON : Hid (of.length = N) := Lib.hid (by have h2 := HBL.out.len; have h3 := HBL.out.len2; have := HN.out; rw [List.length_map] at h2; omega)
      obtain ⟨A7, c7, h7⟩ := own_form HBI.out.all.own
      rw [HN.out] at h7
      subst h7
      obtain ⟨A8, c8, h8⟩ := own_form HBI.out.ofs
      rw [HON.out] at h8
      subst h8
      have HI0 : Hid (BI W wr (.slice A7 N c7) (.slice A8 N c8) u9 ((List.range N).map (rsP rs)) ((List.range N).map (ofP of)) (qs.map fun q => q.mq.cnt)) := Lib.hid (by
        have e1 : (List.range N).map (rsP rs) = rs := by rw [← HN.out]; exact map_range rs pq0
        have e2 : (List.range N).map (ofP of) = of := by rw [← HON.out]; exact map_range of 0
        rw [e1, e2]
        exact HBI.out)
      clear HBI
      generalize hlf : (qs.map fun q => q.mq.cnt) = lf at HI0
      have HLF := Lib.hid hlf
      clear hlf
      go_wp2_with fail
      go_loopw [98] (fun v wr => ∃ (i : Nat) (S : List Nat), v = .int .i64 i ∧ i ≤ n2 ∧ Hid (S.Perm (List.range N)) ∧ Hid (BI W wr (.slice A7 N c7) (.slice A8 N c8) u9 (S.map (rsP rs)) (S.map (ofP of)) lf)) (fun v _ => n2 - (intOf v).toNat)
      case atStart => exact ⟨0, List.range N, rfl, Nat.zero_le _, Lib.hid (List.Perm.refl _), HI0⟩
      case round =>
        obtain ⟨i, S, rfl, hi2, HS, HBI⟩ := hrel
        clear HI0
        by_cases hlt2 : i < n2
        · have hkt : i < tu.length := by rw [HL2.out]; exact hlt2
          obtain ⟨a2, rfl, hct⟩ := (HR2.out.below HBI.out.bel) i _ (ns_get hkt)
          have htt := HM2.out (tu.getD i 0) (by
            have : tu.getD i 0 = tu[i] := by simp [List.getD, hkt]
            rw [this]; exact List.getElem_mem hkt)
          generalize tu.getD i 0 = t at hct htt
          clear hkt
          by_cases hiN : i < N
          · have hz3 : decide ((i : Int) < (N : Int)) = true := decide_eq_true (by omega)
            have hmod : ((t : Int)).tmod (N : Int) = ((t % N : Nat) : Int) := rfl
            have hkN : t % N < N := Nat.mod_lt _ (by omega)
            have HSL : Hid (S.length = N) := Lib.hid (by rw [HS.out.length_eq]; simp)
            generalize t % N = kk at hmod hkN
            go_upto_region 30 with fail
            obtain ⟨g7, rfl⟩ := ps_some HBI.out.all (by rw [List.length_map, HSL.out]) (by omega)
            obtain ⟨g8, rfl⟩ := nr_some HBI.out.ofs (by rw [List.length_map, HSL.out]) (by omega)
            have hiS : i < S.length := by rw [HSL.out]; exact hiN
            have hkS : kk < S.length := by rw [HSL.out]; exact hkN
            have BS := Lib.hid (fun x y a b hx hy ha hb => bi_swap HBI.out HSL.out hiS hkS (x := x) (y := y) (a := a) (b := b) hx hy ha hb)
            have HSP := Lib.hid ((swp_perm hiS hkS).trans HS.out)
            have PX := pcells HBI.out.all (by rw [List.length_map, HSL.out]) (i := kk) (by rw [List.length_map]; exact hkS) (q := rsP rs S[kk]) (by simp)
            have PY := pcells HBI.out.all (by rw [List.length_map, HSL.out]) (i := i) (by rw [List.length_map]; exact hiS) (q := rsP rs S[i]) (by simp)
            have QX := ncell HBI.out.ofs (by rw [List.length_map, HSL.out]) (i := kk) (by rw [List.length_map]; exact hkS) (y := ofP of S[kk]) (by simp)
            have QY := ncell HBI.out.ofs (by rw [List.length_map, HSL.out]) (i := i) (by rw [List.length_map]; exact hiS) (y := ofP of S[i]) (by simp)
            have BS2 := Lib.hid (BS.out _ _ _ _ rfl rfl rfl rfl)
            clear BS
            have hg78 : ¬ g7 = g8 := fun e => by
              rcases owns_apart HBI.out.all.own HBI.out.ofs (by decide) with h | h
              · cases h
              · exact h (by rw [e]; rfl)
            have hg87 : ¬ g8 = g7 := fun e => hg78 e.symm
            generalize rsP rs S[kk] = x at PX BS2
            generalize rsP rs S[i] = y at PY BS2
            generalize ofP of S[kk] = a at QX BS2
            generalize ofP of S[i] = b at QY BS2
            obtain ⟨x0, x1, x2, x3, x4, x5, hfz⟩ := PX
            obtain ⟨y0, y1, y2, y3, y4, y5, _⟩ := PY
            obtain ⟨q0, hfz8⟩ := QX
            obtain ⟨q1, _⟩ := QY
            obtain ⟨⟨xt, xf, xs, xn, xp, xd⟩, xB, xm, xc⟩ := x
            obtain ⟨⟨yt, yf, ys, yn, yp, yd⟩, yB, ym, yc⟩ := y
            simp only at x0 x1 x2 x3 x4 x5 y0 y1 y2 y3 y4 y5
            have z0 := hfz (i * 6)
            have z1 := hfz (i * 6 + 1)
            have z2 := hfz (i * 6 + 2)
            have z3 := hfz (i * 6 + 3)
            have z4 := hfz (i * 6 + 4)
            have z5 := hfz (i * 6 + 5)
            have u0 := hfz (kk * 6)
            have u1 := hfz (kk * 6 + 1)
            have u2' := hfz (kk * 6 + 2)
            have u3 := hfz (kk * 6 + 3)
            have u4 := hfz (kk * 6 + 4)
            have u5 := hfz (kk * 6 + 5)
            have t1 := hfz8 i
            have t2 := hfz8 kk
            clear hfz hfz8
            by_cases hik : i = kk
            · subst hik
              clear z0 z1 z2 z3 z4 z5 t1
              obtain rfl : xt = yt := by have := x0.symm.trans y0; simp at this; omega
              obtain rfl : xf = yf := by have := x1.symm.trans y1; simp at this; omega
              obtain rfl : xs = ys := by have := x2.symm.trans y2; simp at this; omega
              obtain rfl : xn = yn := by have := x3.symm.trans y3; simp at this; omega
              obtain rfl : xp = yp := by have := x4.symm.trans y4; simp at this; omega
              obtain ⟨rfl, rfl, rfl⟩ : xB = yB ∧ xm = ym ∧ xc = yc := by have := x5.symm.trans y5; simpa using this
              obtain rfl : a = b := by have := q0.symm.trans q1; simp at this; omega
              clear y0 y1 y2 y3 y4 y5 q1
              go_region
              all_goals
                clear x0 x1 x2 x3 x4 x5 q0 u0 u1 u2' u3 u4 u5 t2 hg78 hg87
                have BS3 := Lib.hid (BS2.out.next (Below.refl _ _).drew)
                unfold putP set6 at BS3
                simp only at BS3
                go_wp2_with fail
                go_roundw
                case rel => exact ⟨i + 1, _, by go_num, by omega, HSP, BS3⟩
                case measure => simp [intOf] <;> omega
            have hik2 : ¬ kk = i := fun e => hik e.symm
            have e1 : ¬ (i * 6 = kk * 6 + 1) := by omega
            have e1' : ¬ (i * 6 + 1 = kk * 6) := by omega
            have d1 : ¬ (kk * 6 = i * 6 + 1) := by omega
            have d1' : ¬ (kk * 6 + 1 = i * 6) := by omega
            have e2 : ¬ (i * 6 = kk * 6 + 2) := by omega
            have e2' : ¬ (i * 6 + 2 = kk * 6) := by omega
            have d2 : ¬ (kk * 6 = i * 6 + 2) := by omega
            have d2' : ¬ (kk * 6 + 2 = i * 6) := by omega
            have e3 : ¬ (i * 6 = kk * 6 + 3) := by omega
            have e3' : ¬ (i * 6 + 3 = kk * 6) := by omega
            have d3 : ¬ (kk * 6 = i * 6 + 3) := by omega
            have d3' : ¬ (kk * 6 + 3 = i * 6) := by omega
            have e4 : ¬ (i * 6 = kk * 6 + 4) := by omega
            have e4' : ¬ (i * 6 + 4 = kk * 6) := by omega
            have d4 : ¬ (kk * 6 = i * 6 + 4) := by omega
            have d4' : ¬ (kk * 6 + 4 = i * 6) := by omega
            have e5 : ¬ (i * 6 = kk * 6 + 5) := by omega
            have e5' : ¬ (i * 6 + 5 = kk * 6) := by omega
            have d5 : ¬ (kk * 6 = i * 6 + 5) := by omega
            have d5' : ¬ (kk * 6 + 5 = i * 6) := by omega
            go_region
            all_goals
              clear x0 x1 x2 x3 x4 x5 y0 y1 y2 y3 y4 y5 q0 q1 z0 z1 z2 z3 z4 z5 u0 u1 u2' u3 u4 u5 t1 t2 e1 e1' d1 d1' e2 e2' d2 d2' e3 e3' d3 d3' e4 e4' d4 d4' e5 e5' d5 d5' hg78 hg87 hik hik2
              have BS3 := Lib.hid (BS2.out.next (Below.refl _ _).drew)
              unfold putP set6 at BS3
              simp only at BS3
              go_wp2_with fail
              go_roundw
              case rel => exact ⟨i + 1, _, by go_num, by omega, HSP, BS3⟩
              case measure => simp [intOf] <;> omega
          · have hz3 : decide ((i : Int) < (N : Int)) = false := decide_eq_false (by omega)
            go_wp2_with fail
            go_roundw
            case rel => exact ⟨i + 1, S, by go_num, by omega, HS, HBI⟩
            case measure => simp [intOf] <;> omega
        · obtain rfl : i = n2 := by omega
          have HSL : Hid (S.length = N) := Lib.hid (by rw [HS.out.length_eq]; simp)
          have HLAY : Hid (Lay N t0 (fun q => (rs.map (·.1)).getD q p0) (ofP of) (st (qs.map Sq.mq)) (fun m => st (qs.map Sq.mq) (m + 1)) (fun m => ((qs.map Sq.mq).getD m m0).s) (fun m => ((qs.map Sq.mq).getD m m0).n) (fun m => ((qs.map Sq.mq).getD m m0).p) (fun m => ((qs.map Sq.mq).getD m m0).u)) := Lib.hid (by
            have h1 := HBL.out.lay (by have h1 := HN.out; rw [List.length_map]; omega) HT0.out
            rw [List.length_map, HN.out] at h1
            exact h1)
          have HLFK : Hid (lf.length = k) := Lib.hid (by rw [← HLF.out, List.length_map, HL.out])
          obtain ⟨A9, c9, h9⟩ := own_form HBI.out.lfs
          rw [HLFK.out] at h9
          subst h9
          have C4 := Lib.hid (new_any wr)
          go_wp2_with fail
          refine C4.out.mono ?_
          rintro e w4 ⟨j, F, rfl, hj, hnew, hb4⟩
          obtain ⟨w0, hw0⟩ : ∃ w0, w0 = wr := ⟨_, rfl⟩
          subst hw0
          have HB4 : Hid (B4 W w0 w4 (.slice A7 N c7) (.slice A8 N c8) (.slice A9 k c9) (S.map (rsP rs)) (S.map (ofP of)) (lfl k (st (qs.map Sq.mq)) (fun m => st (qs.map Sq.mq) (m + 1)) (came S 0)) j [] F) := Lib.hid (by
            have e : lf = lfl k (st (qs.map Sq.mq)) (fun m => st (qs.map Sq.mq) (m + 1)) (came S 0) := by
              have e0 : came S 0 = fun _ => false := by funext q; simp [came]
              rw [← HLF.out, lfl_nil, HL.out, e0]
            rw [← e]
            exact b4_start HBI.out hb4 hj hnew)
          have HSZ : Hid (w0.heap.size ≤ w4.heap.size) := Lib.hid hb4.size
          have HSE : Hid (Sees N t0 (fun q => (rs.map (·.1)).getD q p0) (kpt (ofP of) (st (qs.map Sq.mq)) (fun m => st (qs.map Sq.mq) (m + 1)) (came S 0)) []) := Lib.hid (by
            have e0 : came S 0 = fun _ => false := by funext q; simp [came]
            rw [e0]
            exact sees_nil)
          clear hj hnew hb4 C4 HBI
          go_wp2_with fail
          go_loopw [144] (fun v wr => ∃ (i : Nat) (K : List Pc) (F : Nat → Prop), v = .int .i64 i ∧ i ≤ N ∧ Hid (Sees N t0 (fun q => (rs.map (·.1)).getD q p0) (kpt (ofP of) (st (qs.map Sq.mq)) (fun m => st (qs.map Sq.mq) (m + 1)) (came S i)) K) ∧ Hid (K.length ≤ i ∧ held K ≤ 20000 * i) ∧ Hid (w0.heap.size ≤ wr.heap.size) ∧ Hid (B4 W w0 wr (.slice A7 N c7) (.slice A8 N c8) (.slice A9 k c9) (S.map (rsP rs)) (S.map (ofP of)) (lfl k (st (qs.map Sq.mq)) (fun m => st (qs.map Sq.mq) (m + 1)) (came S i)) j K F)) (fun v _ => N - (intOf v).toNat)
          case atStart => exact ⟨0, [], F, rfl, Nat.zero_le _, HSE, Lib.hid ⟨Nat.le_refl _, by simp [held]⟩, HSZ, HB4⟩
          case round =>
            obtain ⟨i2, K, F2, rfl, hi3, HSE, HKL, HSZ, HB4⟩ := hrel
            by_cases hlt4 : i2 < N
            · have hiS : i2 < S.length := by rw [HSL.out]; exact hlt4
              obtain ⟨g7, rfl⟩ := ps_some HB4.out.mem.all (by rw [List.length_map, HSL.out]) (by omega)
              obtain ⟨g8, rfl⟩ := nr_some HB4.out.mem.ofs (by rw [List.length_map, HSL.out]) (by omega)
              obtain ⟨cc, hcc⟩ : ∃ cc, S[i2] = cc := ⟨_, rfl⟩
              have HCN : Hid (cc < N) := Lib.hid (by rw [← hcc]; exact came_lt HS.out hiS)
              have HNOT : Hid (came S i2 cc = false) := Lib.hid (by have := came_not HS.out hiS; rw [hcc] at this; exact this)
              have HNX : Hid (came S (i2 + 1) = fun q => came S i2 q || q == cc) := Lib.hid (by rw [came_next hiS, hcc])
              have hcl : cc < (rs.map (·.1)).length := by rw [List.length_map, HN.out]; exact HCN.out
              have HMK : Hid (ofP of cc < k) := Lib.hid (by have h1 := (HBL.out.at_ cc hcl).1; rw [List.length_map, HL.out] at h1; exact h1)
              have PX := pcells HB4.out.mem.all (by rw [List.length_map, HSL.out]) (i := i2) (by rw [List.length_map]; exact hiS) (q := rsP rs cc) (by simp [hcc])
              have QX := ncell HB4.out.mem.ofs (by rw [List.length_map, HSL.out]) (i := i2) (by rw [List.length_map]; exact hiS) (y := ofP of cc) (by simp [hcc])
              have HV := Lib.hid (HB4.out.mem.all.dat (rsP rs cc) (List.mem_map.2 ⟨S[i2], List.getElem_mem hiS, by rw [hcc]⟩))
              have HE := Lib.hid (rsP_fst rs cc)
              have HOKX : Hid ((rsP rs cc).1.Ok) := Lib.hid (by rw [rsP_fst]; exact built_ok HBL.out HQ.out hcl)
              have HX2 := Lib.hid (rs_tot HGR.out.1 (c := cc) (by rw [HN.out]; exact HCN.out))
              have HAP : Hid (Apart K) := Lib.hid (by obtain ⟨_, _, ⟨_, _, _, _, hap, _⟩, _⟩ := HB4.out.jn; exact hap)
              have HST := Lib.hid (Fg.step HLAY.out HSE.out HAP.out HCN.out HNOT.out)
              have HCX : Hid (S[i2]? = some cc) := Lib.hid (by rw [List.getElem?_eq_getElem hiS, hcc])
              have HMEM : Hid (rsP rs cc ∈ S.map (rsP rs)) := Lib.hid (List.mem_map.2 ⟨S[i2], List.getElem_mem hiS, by rw [hcc]⟩)
              have HTOP := Lib.hid (lft_top HLAY.out (ar := fun q => came S i2 q || q == cc) HCN.out)
              have HLS2 := Lib.hid (lfl_set HLAY.out HCN.out (M := k) (ar := came S i2) (fun m hm r h1 h2 => built_of HBL.out (by rw [List.length_map, HL.out]; exact hm) h1 h2))
              clear hcc hcl hiS
              generalize rsP rs cc = x at PX HV HE HOKX HX2 HMEM
              obtain ⟨x0, x1, x2, x3, x4, x5, _⟩ := PX
              obtain ⟨q0, _⟩ := QX
              obtain ⟨⟨xt, xf, xs, xn, xp, xd⟩, xB, xm, xc⟩ := x
              simp only at x0 x1 x2 x3 x4 x5
              go_upto_region 36 with fail
              have HY5 : Hid (Bk (wr.alloc (.cells #[.int .u32 (xt : Int), .int .u8 (xf : Int), .int .u16 (xs : Int), .int .u16 (xn : Int), .int .u32 (xp : Int), .slice xB xm xc] 38)) wr.heap.size #[.int .u32 (xt : Int), .int .u8 (xf : Int), .int .u16 (xs : Int), .int .u16 (xn : Int), .int .u32 (xp : Int), .slice xB xm xc] 38) := Lib.hid (Bk.new _ _ _)
              have HB5 := Lib.hid (HB4.out.next (Fg.bAlloc wr (.cells #[.int .u32 (xt : Int), .int .u8 (xf : Int), .int .u16 (xs : Int), .int .u16 (xn : Int), .int .u32 (xp : Int), .slice xB xm xc] 38)))
              have HSZ5 : Hid (w0.heap.size ≤ (wr.alloc (.cells #[.int .u32 (xt : Int), .int .u8 (xf : Int), .int .u16 (xs : Int), .int .u16 (xn : Int), .int .u32 (xp : Int), .slice xB xm xc] 38)).heap.size) := Lib.hid (Nat.le_trans HSZ.out (Fg.bAlloc wr (.cells #[.int .u32 (xt : Int), .int .u8 (xf : Int), .int .u16 (xs : Int), .int .u16 (xn : Int), .int .u32 (xp : Int), .slice xB xm xc] 38)).size)
              have HV5 := Lib.hid (HV.out.next (Fg.bAlloc wr (.cells #[.int .u32 (xt : Int), .int .u8 (xf : Int), .int .u16 (xs : Int), .int .u16 (xn : Int), .int .u32 (xp : Int), .slice xB xm xc] 38)))
              have HNF : Hid (¬ F2 wr.heap.size) := Lib.hid fun hf => by have := JB.lt HB4.out.jn hf; omega
              clear x0 x1 x2 x3 x4 x5
              generalize wr.alloc (.cells #[.int .u32 (xt : Int), .int .u8 (xf : Int), .int .u16 (xs : Int), .int .u16 (xn : Int), .int .u32 (xp : Int), .slice xB xm xc] 38) = w5 at HY5 HB5 HSZ5 HV5 ⊢
              generalize wr.heap.size = gy at HY5 HNF ⊢
              have g0 := HY5.out.cell 0
              have g1 := HY5.out.cell 1
              have g2 := HY5.out.cell 2
              have g3 := HY5.out.cell 3
              have g4 := HY5.out.cell 4
              have g5 := HY5.out.cell 5
              simp at g0 g1 g2 g3 g4 g5
              have hxm : xm ≤ 20000 := HX2.out
              have C6 := Lib.hid (put_any w5 F2 j K ⟨xt, xf, xs, xn, xp, xd⟩ xB xm xc HB5.out.jn HOKX.out HV5.out.1 (by omega) (row_of_own HV5.out.2) (by have := HKL.out; omega) (by have := HKL.out; omega))
              unfold pv at C6
              go_wp2_with fail
              refine C6.out.mono ?_
              clear C6
              rintro e w6 ⟨F', hnew, hj6, hkp, ht⟩
              have HKE := Lib.hid (put_keeps ⟨xt, xf, xs, xn, xp, xd⟩ HAP.out HOKX.out.t (by have := HKL.out; omega))
              have hx1 : (⟨xt, xf, xs, xn, xp, xd⟩ : Pc) = (rs.map (·.1)).getD cc p0 := HE.out
              have HB6 := Lib.hid (HB5.out.put hnew hj6 hkp HSZ5.out)
              have HY6 : Hid (Bk w6 gy _ _) := Lib.hid ((hkp.block gy HY5.out.lt HNF.out).trans HY5.out)
              have HSZ6 := Lib.hid (Nat.le_trans HSZ5.out hkp.size)
              by_cases hz : lft (st (qs.map Sq.mq)) (fun m => st (qs.map Sq.mq) (m + 1)) (fun q => came S i2 q || q == cc) (ofP of cc) = 0
              · obtain ⟨K', hp, hs2⟩ := HST.out.1 hz
                have hmq : ofP of cc < qs.length := by rw [HL.out]; exact HMK.out
                have hok := HOK.out _ (List.getElem_mem hmq)
                have hby := HBL.out.bytes (m := ofP of cc) (by rw [List.length_map]; exact hmq) (by rw [mq_at hmq]; show 1 ≤ (qs[ofP of cc].z).toNat; have := hok.1; omega)
                rw [← hx1, hby, mq_at hmq] at hp
                clear hby hok
                have HQI := Lib.hid (HQ.out _ (List.getElem_mem hmq))
                have HQX : Hid (qs[ofP of cc]? = some qs[ofP of cc]) := Lib.hid (List.getElem?_eq_getElem hmq)
                generalize qs[ofP of cc] = qm at hp HQI HQX
                obtain ⟨s, u, p, Aq, kq, cq, d, n', z⟩ := qm
                simp only [Sq.mq] at hp
                clear hmq
                have hts := told_some ht (m := ⟨s, u, p, d⟩) (s := n') (by rw [hp])
                simp only at hts
                obtain ⟨AM, nM, cM, rfl, hMn, hMc, hMr, hMz, B0, hB0, _, hMo⟩ := hts
                have HMO := Lib.hid hMo
                have HMN := Lib.hid hMn
                have HJ6 : Hid (B4 W w0 w6 _ _ _ _ _ _ j K' F') := Lib.hid (by have := HB6.out; rw [hp] at this; exact this)
                have HKP : Hid (K'.length ≤ K.length ∧ held K' ≤ held K + xd.length) := Lib.hid (by have := HKE.out; rw [hp] at this; exact keeps_some this)
                have HLO := Lib.hid (lft_one HLAY.out HCN.out HNOT.out)
                have HGL := Lib.hid (lfl_get (lo := st (qs.map Sq.mq)) (hi := fun m => st (qs.map Sq.mq) (m + 1)) (ar := came S i2) HMK.out)
                have HS2 := Lib.hid hs2
                clear ht hnew hj6 hkp HB6 HB5 HST HKE hMn hMc hMr hMz hB0 hMo hp hs2
                go_upto_region 37 with fail
                have HB7 := Lib.hid (HJ6.out.next (Fg.bAlloc w6 (.cells #[.int .u16 (s : Int), .bool u, .int .u32 (p : Int), .slice AM nM cM] 31)))
                have HMX : Hid (Bk (w6.alloc (.cells #[.int .u16 (s : Int), .bool u, .int .u32 (p : Int), .slice AM nM cM] 31)) w6.heap.size #[.int .u16 (s : Int), .bool u, .int .u32 (p : Int), .slice AM nM cM] 31) := Lib.hid (Bk.new _ _ _)
                have HMO7 := Lib.hid (own_below HMO.out (Fg.bAlloc w6 (.cells #[.int .u16 (s : Int), .bool u, .int .u32 (p : Int), .slice AM nM cM] 31)))
                have HSZ7 := Lib.hid (Nat.le_trans HSZ6.out (Fg.bAlloc w6 (.cells #[.int .u16 (s : Int), .bool u, .int .u32 (p : Int), .slice AM nM cM] 31)).size)
                clear HJ6 HY6 HSZ6 HMO g0 g1 g2 g3 g4 g5 q0
                generalize w6.alloc (.cells #[.int .u16 (s : Int), .bool u, .int .u32 (p : Int), .slice AM nM cM] 31) = w7 at HB7 HMX HMO7 HSZ7 ⊢
                generalize w6.heap.size = gm at HMX ⊢
                obtain ⟨g9, rfl⟩ := nr_some HB7.out.mem.lfs (lfl_len _ _ _ _) (by have := HMK.out; omega)
                obtain ⟨q0, qf⟩ := ncell HB7.out.mem.ofs (by rw [List.length_map, HSL.out]) (i := i2) (by rw [List.length_map, HSL.out]; exact hlt4) (y := ofP of cc) (sm_at HCX.out _ _)
                obtain ⟨r0, rf⟩ := ncell HB7.out.mem.lfs (lfl_len _ _ _ _) (i := ofP of cc) (by rw [lfl_len]; exact HMK.out) rfl
                rw [HGL.out] at r0
                have rf0 := rf (ofP of cc)
                have hmk : ofP of cc < k := HMK.out
                rw [← HLO.out, hz] at r0
                have HBC := Lib.hid (fun y => HB7.out.count (lfl_len _ _ _ _) (ofP of cc) y)
                have HZ := Lib.hid hz
                clear qf rf hz
                generalize hmm : ofP of cc = mm at q0 r0 rf0 hmk HBC HQX
                have HMM := Lib.hid hmm
                clear hmm
                go_upto_region 38 with fail
                have HB8 := Lib.hid (HBC.out 0)
                have HMX8 : Hid (Bk (w7.setCell ⟨g9, mm, none⟩ (.int .i64 0)) gm _ _) := Lib.hid (HMX.out.other (fun e => by
                  have h1 := own_off HB7.out.mem.lfs HMX.out (by decide)
                  exact h1 (by rw [e]; rfl)) mm (.int .i64 0))
                have HMO8 := Lib.hid (World.ownsRow.kept HMO7.out (setc_grown w7 g9 mm (.int .i64 0)) (owns_apart HMO7.out HB7.out.mem.lfs (by decide)))
                have HSZ8 : Hid (w0.heap.size ≤ (w7.setCell ⟨g9, mm, none⟩ (.int .i64 0)).heap.size) := Lib.hid (by simp [World.setCell]; exact HSZ7.out)
                clear HBC HB7 HMX HMO7 HSZ7 q0 r0 rf0
                generalize w7.setCell ⟨g9, mm, none⟩ (.int .i64 0) = w8 at HB8 HMX8 HMO8 HSZ8 ⊢
                obtain ⟨q0, _⟩ := ncell HB8.out.mem.ofs (by rw [List.length_map, HSL.out]) (i := i2) (by rw [List.length_map, HSL.out]; exact hlt4) (y := mm) (by rw [← HMM.out]; exact sm_at HCX.out _ _)
                obtain ⟨r0, _⟩ := ncell HB8.out.mem.lfs (by rw [List.length_set, lfl_len]) (i := mm) (by rw [List.length_set, lfl_len]; exact hmk) (y := 0) (by simp)
                have r00 : w8.cell? ⟨g9, mm, none⟩ = some (.int .i64 0) := r0
                obtain ⟨sa, rfl, s0, s1, s2, s3, s4, s5⟩ := sf_at (HR.out.below HB8.out.mem.bel) (i := mm) (by rw [HL.out]; exact hmk)
                rw [(List.getElem?_eq_some_iff.1 HQX.out).2] at s0 s1 s2 s3 s4 s5
                simp only at s0 s1 s2 s3 s4 s5
                clear r0
                go_upto_region 41 with fail
                have HB9 := Lib.hid (HB8.out.next (Fg.bAlloc w8 (.cells #[.int .u16 (s : Int), .bool u, .int .u32 (p : Int), .slice Aq kq cq, .int .u16 (n' : Int), .int .i64 z] 33)))
                have HWX : Hid (Bk (w8.alloc (.cells #[.int .u16 (s : Int), .bool u, .int .u32 (p : Int), .slice Aq kq cq, .int .u16 (n' : Int), .int .i64 z] 33)) w8.heap.size #[.int .u16 (s : Int), .bool u, .int .u32 (p : Int), .slice Aq kq cq, .int .u16 (n' : Int), .int .i64 z] 33) := Lib.hid (Bk.new _ _ _)
                have HMX9 := Lib.hid (HMX8.out.next (Fg.bAlloc w8 (.cells #[.int .u16 (s : Int), .bool u, .int .u32 (p : Int), .slice Aq kq cq, .int .u16 (n' : Int), .int .i64 z] 33)))
                have HMO9 := Lib.hid (own_below HMO8.out (Fg.bAlloc w8 (.cells #[.int .u16 (s : Int), .bool u, .int .u32 (p : Int), .slice Aq kq cq, .int .u16 (n' : Int), .int .i64 z] 33)))
                have HSZ9 := Lib.hid (Nat.le_trans HSZ8.out (Fg.bAlloc w8 (.cells #[.int .u16 (s : Int), .bool u, .int .u32 (p : Int), .slice Aq kq cq, .int .u16 (n' : Int), .int .i64 z] 33)).size)
                clear HB8 HMX8 HMO8 HSZ8 q0 r00 s0 s1 s2 s3 s4 s5
                generalize w8.alloc (.cells #[.int .u16 (s : Int), .bool u, .int .u32 (p : Int), .slice Aq kq cq, .int .u16 (n' : Int), .int .i64 z] 33) = w9 at HB9 HWX HMX9 HMO9 HSZ9 ⊢
                generalize w8.heap.size = gw at HWX ⊢
                have m0 := HMX9.out.cell 0
                have m1 := HMX9.out.cell 1
                have m2 := HMX9.out.cell 2
                have m3 := HMX9.out.cell 3
                have g0 := HWX.out.cell 0
                have g1 := HWX.out.cell 1
                have g2 := HWX.out.cell 2
                have g3 := HWX.out.cell 3
                have g4 := HWX.out.cell 4
                simp at m0 m1 m2 m3 g0 g1 g2 g3 g4
                have hnn : ((n' : Int) != (n' : Int)) = false := by simp
                have CS := Lib.hid (sameMessage_any s u p d AM nM cM Aq kq cq w9 HMN.out HQI.out.len (row_of_own HMO9.out) (HQI.out.row.below HB9.out.mem.bel))
                unfold mv at CS
                go_wp2_with fail
                refine CS.out.mono ?_
                clear CS m0 m1 m2 m3 g0 g1 g2 g3 g4
                rintro e w10 ⟨rfl, hb10⟩
                have HB10 := Lib.hid (HB9.out.next hb10)
                have HSZ10 := Lib.hid (Nat.le_trans HSZ9.out hb10.size)
                have HKL2 : Hid (K'.length ≤ i2 + 1 ∧ held K' ≤ 20000 * (i2 + 1)) := Lib.hid (by have := HKL.out; have h2 := HV5.out.1; have h3 := HKP.out; simp only at h2 ⊢; omega)
                have HSE2 : Hid (Sees N t0 (fun q => (rs.map (·.1)).getD q p0) (kpt (ofP of) (st (qs.map Sq.mq)) (fun m => st (qs.map Sq.mq) (m + 1)) (came S (i2 + 1))) K') := Lib.hid (by rw [HNX.out]; exact HS2.out)
                have HFIN : Hid (B4 W w0 w10 (.slice (some ⟨g7, 0, none⟩) N c7) (.slice (some ⟨g8, 0, none⟩) N c8) (.slice (some ⟨g9, 0, none⟩) k c9) (S.map (rsP rs)) (S.map (ofP of)) (lfl k (st (qs.map Sq.mq)) (fun m => st (qs.map Sq.mq) (m + 1)) (came S (i2 + 1))) j K' F') := Lib.hid (by
                  have h1 := HB10.out
                  have h2 := HLS2.out
                  rw [HZ.out, HMM.out] at h2
                  rw [HNX.out, ← h2]
                  exact h1)
                clear hb10 HB9 HB10 hnn
                go_wp2_with fail
                go_roundw
                case rel => exact ⟨i2 + 1, K', F', by go_num, by omega, HSE2, HKL2, HSZ10, HFIN⟩
                case measure => simp [intOf] <;> omega
              · obtain ⟨hp, hs2, hdup⟩ := HST.out.2 hz
                rw [← hx1] at hp hs2 hdup
                obtain rfl := told_none ht (by rw [hp])
                have HJ6 : Hid (B4 W w0 w6 _ _ _ _ _ _ j (K ++ [⟨xt, xf, xs, xn, xp, xd⟩]) F') := Lib.hid (by have := HB6.out; rw [hp] at this; exact this)
                have HLO := Lib.hid (lft_one HLAY.out HCN.out HNOT.out)
                have HGL := Lib.hid (lfl_get (lo := st (qs.map Sq.mq)) (hi := fun m => st (qs.map Sq.mq) (m + 1)) (ar := came S i2) HMK.out)
                have HZ := Lib.hid hz
                clear ht hnew hj6 hkp HB6 HB5 HST HKE
                go_upto_region 37 with fail
                have HB7 := Lib.hid (HJ6.out.next (Fg.bAlloc w6 (.cells #[.int .u16 0, .bool false, .int .u32 0, .slice none 0 0] 31)))
                have HY7 := Lib.hid (HY6.out.next (Fg.bAlloc w6 (.cells #[.int .u16 0, .bool false, .int .u32 0, .slice none 0 0] 31)))
                have HSZ7 := Lib.hid (Nat.le_trans HSZ6.out (Fg.bAlloc w6 (.cells #[.int .u16 0, .bool false, .int .u32 0, .slice none 0 0] 31)).size)
                clear HJ6 HY6 HSZ6 g0 g1 g2 g3 g4 g5 q0
                generalize w6.alloc (.cells #[.int .u16 0, .bool false, .int .u32 0, .slice none 0 0] 31) = w7 at HB7 HY7 HSZ7 ⊢
                obtain ⟨g9, rfl⟩ := nr_some HB7.out.mem.lfs (lfl_len _ _ _ _) (by have := HMK.out; omega)
                obtain ⟨q0, qf⟩ := ncell HB7.out.mem.ofs (by rw [List.length_map, HSL.out]) (i := i2) (by rw [List.length_map, HSL.out]; exact hlt4) (y := ofP of cc) (sm_at HCX.out _ _)
                obtain ⟨r0, rf⟩ := ncell HB7.out.mem.lfs (lfl_len _ _ _ _) (i := ofP of cc) (by rw [lfl_len]; exact HMK.out) rfl
                rw [HGL.out] at r0
                have rf0 := rf (ofP of cc)
                have hmk : ofP of cc < k := HMK.out
                obtain ⟨L', hL'⟩ : ∃ L', lft (st (qs.map Sq.mq)) (fun m => st (qs.map Sq.mq) (m + 1)) (fun q => came S i2 q || q == cc) (ofP of cc) = L' := ⟨_, rfl⟩
                rw [← HLO.out, hL'] at r0
                have HBC := Lib.hid (fun y => HB7.out.count (lfl_len _ _ _ _) (ofP of cc) y)
                have HL' := Lib.hid hL'
                have hLz : 0 < L' := by omega
                have hLb : L' ≤ 1000000 := by have h1 := HTOP.out; have h2 := HL'.out; omega
                clear hL' qf rf hz
                generalize hmm : ofP of cc = mm at q0 r0 rf0 hmk HBC
                have HMM := Lib.hid hmm
                clear hmm
                go_upto_region 38 with fail
                have HB8 := Lib.hid (HBC.out L')
                have HY8 : Hid (Bk (w7.setCell ⟨g9, mm, none⟩ (.int .i64 (L' : Int))) gy _ _) := Lib.hid (HY7.out.other (fun e => by
                  have h1 := own_off HB7.out.mem.lfs HY7.out (by decide)
                  exact h1 (by rw [e]; rfl)) mm (.int .i64 (L' : Int)))
                have HSZ8 : Hid (w0.heap.size ≤ (w7.setCell ⟨g9, mm, none⟩ (.int .i64 (L' : Int))).heap.size) := Lib.hid (by simp [World.setCell]; exact HSZ7.out)
                clear HBC HB7 HY7 HSZ7 q0 r0 rf0
                generalize w7.setCell ⟨g9, mm, none⟩ (.int .i64 (L' : Int)) = w8 at HB8 HY8 HSZ8 ⊢
                obtain ⟨q0, _⟩ := ncell HB8.out.mem.ofs (by rw [List.length_map, HSL.out]) (i := i2) (by rw [List.length_map, HSL.out]; exact hlt4) (y := mm) (by rw [← HMM.out]; exact sm_at HCX.out _ _)
                obtain ⟨r0, _⟩ := ncell HB8.out.mem.lfs (by rw [List.length_set, lfl_len]) (i := mm) (by rw [List.length_set, lfl_len]; exact hmk) (y := L') (by simp)
                have y1 : ((L' : Int) == 0) = false := by rw [beq_eq_false_iff_ne]; omega
                obtain ⟨sa, rfl, s0, s1, s2, s3, s4, s5⟩ := sf_at (HR.out.below HB8.out.mem.bel) (i := mm) (by rw [HL.out]; exact hmk)
                go_upto_region 44 with fail
                have hmq : mm < qs.length := by rw [HL.out]; exact hmk
                have HB9 := Lib.hid (HB8.out.next (Fg.bAlloc w8 (.cells #[.int .u16 (qs[mm].s : Int), .bool qs[mm].u, .int .u32 (qs[mm].p : Int), .slice qs[mm].A qs[mm].k qs[mm].c, .int .u16 (qs[mm].n : Int), .int .i64 qs[mm].z] 33)))
                have HY9 := Lib.hid (HY8.out.next (Fg.bAlloc w8 (.cells #[.int .u16 (qs[mm].s : Int), .bool qs[mm].u, .int .u32 (qs[mm].p : Int), .slice qs[mm].A qs[mm].k qs[mm].c, .int .u16 (qs[mm].n : Int), .int .i64 qs[mm].z] 33)))
                have HSZ9 := Lib.hid (Nat.le_trans HSZ8.out (Fg.bAlloc w8 (.cells #[.int .u16 (qs[mm].s : Int), .bool qs[mm].u, .int .u32 (qs[mm].p : Int), .slice qs[mm].A qs[mm].k qs[mm].c, .int .u16 (qs[mm].n : Int), .int .i64 qs[mm].z] 33)).size)
                clear HB8 HY8 HSZ8 q0 r0 s0 s1 s2 s3 s4 s5
                generalize w8.alloc (.cells #[.int .u16 (qs[mm].s : Int), .bool qs[mm].u, .int .u32 (qs[mm].p : Int), .slice qs[mm].A qs[mm].k qs[mm].c, .int .u16 (qs[mm].n : Int), .int .i64 qs[mm].z] 33) = w9 at HB9 HY9 HSZ9 ⊢
                have g0 := HY9.out.cell 0
                have g1 := HY9.out.cell 1
                have g2 := HY9.out.cell 2
                have g3 := HY9.out.cell 3
                have g4 := HY9.out.cell 4
                have g5 := HY9.out.cell 5
                simp at g0 g1 g2 g3 g4 g5
                have C9 := Lib.hid (put_any w9 F' j (K ++ [⟨xt, xf, xs, xn, xp, xd⟩]) ⟨xt, xf, xs, xn, xp, xd⟩ xB xm xc HB9.out.jn HOKX.out HV5.out.1 (by omega) (row_of_own (HB9.out.mem.all.dat _ HMEM.out).2) (by have := HKL.out; rw [List.length_append, List.length_singleton]; omega) (by have := HKL.out; have h2 := HV5.out.1; rw [held_app]; simp only at h2 ⊢; omega))
                rw [hdup] at C9
                unfold pv at C9
                go_wp2_with fail
                refine C9.out.mono ?_
                clear C9 g0 g1 g2 g3 g4 g5
                rintro e w10 ⟨F'', hnew, hj10, hkp, ht⟩
                obtain rfl := told_none ht rfl
                have HB10 := Lib.hid ((HB9.out.put hnew hj10 hkp HSZ9.out).next (Fg.bAlloc w10 (.cells #[.int .u16 0, .bool false, .int .u32 0, .slice none 0 0] 31)))
                have HSZ10 := Lib.hid (Nat.le_trans (Nat.le_trans HSZ9.out hkp.size) (Fg.bAlloc w10 (.cells #[.int .u16 0, .bool false, .int .u32 0, .slice none 0 0] 31)).size)
                have HKL2 : Hid ((K ++ [⟨xt, xf, xs, xn, xp, xd⟩] : List Pc).length ≤ i2 + 1 ∧ held (K ++ [⟨xt, xf, xs, xn, xp, xd⟩]) ≤ 20000 * (i2 + 1)) := Lib.hid (by have := HKL.out; have h2 := HV5.out.1; rw [held_app, List.length_append, List.length_singleton]; simp only at h2 ⊢; omega)
                have HSE2 : Hid (Sees N t0 (fun q => (rs.map (·.1)).getD q p0) (kpt (ofP of) (st (qs.map Sq.mq)) (fun m => st (qs.map Sq.mq) (m + 1)) (came S (i2 + 1))) (K ++ [⟨xt, xf, xs, xn, xp, xd⟩])) := Lib.hid (by rw [HNX.out]; exact hs2)
                have HFIN : Hid (B4 W w0 (w10.alloc (.cells #[.int .u16 0, .bool false, .int .u32 0, .slice none 0 0] 31)) (.slice (some ⟨g7, 0, none⟩) N c7) (.slice (some ⟨g8, 0, none⟩) N c8) (.slice (some ⟨g9, 0, none⟩) k c9) (S.map (rsP rs)) (S.map (ofP of)) (lfl k (st (qs.map Sq.mq)) (fun m => st (qs.map Sq.mq) (m + 1)) (came S (i2 + 1))) j (K ++ [⟨xt, xf, xs, xn, xp, xd⟩]) F'') := Lib.hid (by
                  have h1 := HB10.out
                  have h2 := HLS2.out
                  rw [HL'.out, HMM.out] at h2
                  rw [HNX.out, ← h2]
                  exact h1)
                clear ht hnew hj10 hkp HB9 HB10 hs2 hp hdup
                go_wp2_with fail
                go_roundw
                case rel => exact ⟨i2 + 1, _, F'', by go_num, by omega, HSE2, HKL2, HSZ10, HFIN⟩
                case measure => simp [intOf] <;> omega
            · obtain rfl : i2 = N := by omega
              have hK : K = [] := sees_end HLAY.out HSE.out (by have h1 := came_all HS.out; rw [HSL.out] at h1; exact h1)
              subst hK
              have CH := Lib.hid (held_any wr F2 j [] HB4.out.jn)
              have CL := Lib.hid (len_any wr F2 j [] HB4.out.jn)
              go_wp2_with (first
                | (go_at_call 13; (with_reducible refine CH.out.mono ?_); rintro e w ⟨rfl, rfl⟩)
                | (go_at_call 14; (with_reducible refine CL.out.mono ?_); rintro e w ⟨rfl, rfl⟩))
              go_ret
              exact ⟨rfl, HB4.out.mem.bel⟩
end Go.Proofs.Ythgbngnhlgaioaa
