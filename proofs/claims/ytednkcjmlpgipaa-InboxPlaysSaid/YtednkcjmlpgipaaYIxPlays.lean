/-
  InboxPlays: the walk.
-/
import Derived.Test.YtednkcjmlpgipaaYP1j
import Derived.Deep.CutBlock
import Derived.Deep.CutRange
import Derived.Deep.RegionHeld3
import Derived.Deep.WholeRow
import Derived.Handy
namespace Go.Proofs.Ytednkcjmlpgipaa
set_option maxRecDepth 4000
open Go.RowKit Go.Maps
namespace Ix
open Fg
set_option linter.unusedVariables false
set_option linter.unusedSimpArgs false

set_option maxHeartbeats 8000000 in
theorem inboxPlays_main (n : Nat) (room most : Int) (c : Nat) (A : Option Addr) (len cap : Nat) (qs : List Dq) (W : World) (hn : n < 65536) (hc : c < 4294967296) (hp : DosIn W A len cap qs) :
    Calls Try.prog 3 #[.int .u16 (n : Int), .int .i64 room, .int .i64 most, .int .u32 (c : Int), .slice A len cap] W fun e w' => e = .returned (.bool true) ∧ Below W.heap.size W w' := by
  obtain ⟨hl, hnc, hcm, hr, hq⟩ := hp
  have HL := Lib.hid hl
  have HR := Lib.hid hr
  have HQ := Lib.hid hq
  have HLN : Hid (len ≤ 140737488355328) := Lib.hid (by omega)
  have HN := Lib.hid hn
  have HC := Lib.hid hc
  clear hl hr hq hnc hcm hn hc
  go_enter Try.func3, Try.ntmps3
  go_wp2_with fail
  refine (known_any W).mono ?_
  rintro e w1 ⟨rfl, hb1⟩
  have HB1 := Lib.hid hb1
  clear hb1
  go_wp2_with fail
  refine (heavy_any A len cap qs w1 HL.out HLN.out (HR.out.below HB1.out) (fun q hq => by have h1 := (HQ.out q hq).2.cap; have h2 := (HQ.out q hq).2.most; omega)).mono ?_
  rintro e w2 ⟨hh, hb2⟩
  have HB2 : Hid (Below W.heap.size W w2) := Lib.hid (bnext' HB1.out hb2)
  clear hb2 HB1
  rcases hh with rfl | ⟨rfl, hlight⟩
  · go_wp2_with fail
    go_ret
    exact ⟨rfl, HB2.out⟩
  have HLT := Lib.hid hlight
  clear hlight
  go_wp2_with fail
  refine (Bo.new (Nw.start' HB2.out) n room most c HN.out HC.out).mono ?_
  rintro e w3 ⟨x, rfl, h3⟩
  have H3 := Lib.hid h3
  clear h3
  go_wp2_with fail
  refine H3.out.mono ?_
  rintro e w4 ⟨y, rfl, h4⟩
  have H4 := Lib.hid h4
  clear h4 H3
  go_wp2_with fail
  have hl2 : len ≤ 200 := by have := HLT.out.len; have := HL.out; omega
  have HO4 := Lib.hid (new_ok n room most c HN.out HC.out)
  go_loopw [37] (fun v37 wr => ∃ (k : Nat) (b : Ib) (L M : List Me), v37 = .int .i64 k ∧ k ≤ len ∧ Hid (Bo W wr x y b b L M []) ∧ Hid b.Ok ∧ Hid (b.K.length ≤ k)) (fun v37 _ => len - (intOf v37).toNat)
  case atStart => exact ⟨0, _, _, _, rfl, Nat.zero_le _, H4, HO4, Lib.hid (Nat.le_refl _)⟩
  case round =>
    obtain ⟨k, b, L, M, rfl, hk, HI, HO, HK⟩ := hrel
    clear H4 HO4
    by_cases hlt : k < len
    · have hkq : k < qs.length := by rw [HL.out]; exact hlt
      obtain ⟨ad, rfl, f0, f1, f2, f3, f4, f5, f6⟩ := dfl_at (HR.out.below HI.out.below) hkq
      have HQK := Lib.hid (HQ.out _ (List.getElem_mem hkq))
      have HDN := Lib.hid (Nat.le_trans (mem_dtot (List.getElem_mem hkq)) HLT.out.tot)
      generalize qs[k] = q at f0 f1 f2 f3 f4 f5 f6 HQK HDN
      obtain ⟨kd, ⟨t, f, s, m, p, l⟩, B, dn, dc⟩ := q
      simp only at f0 f1 f2 f3 f4 f5 f6 HQK HDN
      clear hkq
      go_upto_region 9 with fail
      have HI1 : Hid (Bo W (wr.alloc (.cells #[.int .i64 kd, .int .u32 (t : Int), .int .u8 (f : Int), .int .u16 (s : Int), .int .u16 (m : Int), .int .u32 (p : Int), .slice B dn dc] 35)) x y b b L M _) := Lib.hid (HI.out.box #[.int .i64 kd, .int .u32 (t : Int), .int .u8 (f : Int), .int .u16 (s : Int), .int .u16 (m : Int), .int .u32 (p : Int), .slice B dn dc] 35)
      clear f0 f1 f2 f3 f4 f5 f6 HI
      generalize wr.alloc (.cells #[.int .i64 kd, .int .u32 (t : Int), .int .u8 (f : Int), .int .u16 (s : Int), .int .u16 (m : Int), .int .u32 (p : Int), .slice B dn dc] 35) = wa at HI1 ⊢
      generalize wr.heap.size = g at HI1 ⊢
      have g0 : wa.cell? ⟨g, 0, none⟩ = some (.int .i64 kd) := HI1.out.bk0.cell 0
      go_upto_block 2 with fail
      clear g0
      go_cut [15, 16, 17, 18, 19, 20] from 43 to 115 (fun v15 v16 v17 v18 v19 v20 wx => ∃ (b2 : Ib) (L2 M2 : List Me), Hid (Bo W wx x y b2 b2 L2 M2 [BkA g #[.int .i64 kd, .int .u32 (t : Int), .int .u8 (f : Int), .int .u16 (s : Int), .int .u16 (m : Int), .int .u32 (p : Int), .slice B dn dc] 35]) ∧ Hid (b2.Ok ∧ b2.K.length ≤ k + 1))
      case first =>
        by_cases h0 : kd = 0
        · subst h0
          have hpd := HQK.out.2
          have hdl : dn ≤ 20000 := HDN.out
          have HPD := Lib.hid hpd
          have hwd : Below wa.heap.size wa wa.drew := (Below.refl _ _).drew
          have HS : Hid (∀ w7, Below wa.heap.size wa w7 → w7.cell? ⟨g, 1, none⟩ = some (.int .u32 (t : Int)) ∧ w7.cell? ⟨g, 2, none⟩ = some (.int .u8 (f : Int)) ∧ w7.cell? ⟨g, 3, none⟩ = some (.int .u16 (s : Int)) ∧ w7.cell? ⟨g, 4, none⟩ = some (.int .u16 (m : Int)) ∧ w7.cell? ⟨g, 5, none⟩ = some (.int .u32 (p : Int)) ∧ w7.cell? ⟨g, 6, none⟩ = some (.slice B dn dc)) := Lib.hid fun w7 hb => ⟨(HI1.out.next hb).bk0.cell 1, (HI1.out.next hb).bk0.cell 2, (HI1.out.next hb).bk0.cell 3, (HI1.out.next hb).bk0.cell 4, (HI1.out.next hb).bk0.cell 5, (HI1.out.next hb).bk0.cell 6⟩
          have hs := HS.out _ hwd
          have HP0 := Lib.hid (add_ok HO.out (x := ⟨t, f, s, m, p, l⟩) hpd.ok)
          have HPL := Lib.hid (add_klen b ⟨t, f, s, m, p, l⟩ HO.out.st hpd.ok.t)
          have hkl : b.K.length ≤ 800 := by have := HK.out; omega
          have CX : Hid (Calls Try.prog 11 #[.pointer (some ⟨x, 0, none⟩), .agg #[.int .u32 (t : Int), .int .u8 (f : Int), .int .u16 (s : Int), .int .u16 (m : Int), .int .u32 (p : Int), .slice B dn dc]] wa.drew fun e w' => e = .returned (.int .i64 ((b.add ⟨t, f, s, m, p, l⟩).2 : Nat)) ∧ ∃ L', Bo W w' x y (b.add ⟨t, f, s, m, p, l⟩).1 b L' M [BkA g #[.int .i64 0, .int .u32 (t : Int), .int .u8 (f : Int), .int .u16 (s : Int), .int .u16 (m : Int), .int .u32 (p : Int), .slice B dn dc] 35]) := Lib.hid ((HI1.out.next hwd).add HO.out (q := (⟨t, f, s, m, p, l⟩, (B, dn, dc))) hpd (by show dn ≤ 4000000; omega))
          have CY : Hid (∀ w2 b2 L2, Bo W w2 x y b2 b L2 M [BkA g #[.int .i64 0, .int .u32 (t : Int), .int .u8 (f : Int), .int .u16 (s : Int), .int .u16 (m : Int), .int .u32 (p : Int), .slice B dn dc] 35] → Calls Try.prog 12 #[.pointer (some ⟨y, 0, none⟩), .agg #[.int .u32 (t : Int), .int .u8 (f : Int), .int .u16 (s : Int), .int .u16 (m : Int), .int .u32 (p : Int), .slice B dn dc]] w2 fun e w' => e = .returned (.int .i64 ((b.add ⟨t, f, s, m, p, l⟩).2 : Nat)) ∧ ∃ M', Bo W w' x y b2 (b.add ⟨t, f, s, m, p, l⟩).1 L2 M' [BkA g #[.int .i64 0, .int .u32 (t : Int), .int .u8 (f : Int), .int .u16 (s : Int), .int .u16 (m : Int), .int .u32 (p : Int), .slice B dn dc] 35]) := Lib.hid fun w2 b2 L2 h => h.dadd HO.out hkl (q := (⟨t, f, s, m, p, l⟩, (B, dn, dc))) HPD.out (by show dn ≤ 4000000; omega)
          clear hpd hdl HQK HDN HPD hkl
          generalize b.add ⟨t, f, s, m, p, l⟩ = P at HP0 HPL CX CY
          obtain ⟨b2, rc⟩ := P
          simp only at HP0 HPL CX CY
          have g0 : wa.cell? ⟨g, 0, none⟩ = some (.int .i64 0) := HI1.out.bk0.cell 0
          go_upto_region 11 with fail
          clear g0
          first | go_region_held3 (fun W => W.cell? ⟨g, 1, none⟩ = some (.int .u32 (t : Int)) ∧ W.cell? ⟨g, 2, none⟩ = some (.int .u8 (f : Int)) ∧ W.cell? ⟨g, 3, none⟩ = some (.int .u16 (s : Int)) ∧ W.cell? ⟨g, 4, none⟩ = some (.int .u16 (m : Int)) ∧ W.cell? ⟨g, 5, none⟩ = some (.int .u32 (p : Int)) ∧ W.cell? ⟨g, 6, none⟩ = some (.slice B dn dc)) (first | exact hs | exact HS.out _ (by assumption) | exact HS5.out _ (by first | exact Below.refl _ _ | assumption) | exact HS6.out _ (by first | exact Below.refl _ _ | assumption)) ((first
            | (go_at_call 11; (with_reducible refine CX.out.mono ?_); rintro e w5 ⟨rfl, L5, h5⟩; have HS5 : Hid (∀ w9, Below w5.heap.size w5 w9 → w9.cell? ⟨g, 1, none⟩ = some (.int .u32 (t : Int)) ∧ w9.cell? ⟨g, 2, none⟩ = some (.int .u8 (f : Int)) ∧ w9.cell? ⟨g, 3, none⟩ = some (.int .u16 (s : Int)) ∧ w9.cell? ⟨g, 4, none⟩ = some (.int .u16 (m : Int)) ∧ w9.cell? ⟨g, 5, none⟩ = some (.int .u32 (p : Int)) ∧ w9.cell? ⟨g, 6, none⟩ = some (.slice B dn dc)) := Lib.hid fun w9 hb => ⟨(h5.next hb).bk0.cell 1, (h5.next hb).bk0.cell 2, (h5.next hb).bk0.cell 3, (h5.next hb).bk0.cell 4, (h5.next hb).bk0.cell 5, (h5.next hb).bk0.cell 6⟩; have H5 := Lib.hid h5; clear h5)
            | (go_at_call 12; (with_reducible refine (CY.out _ _ _ H5.out).mono ?_); rintro e w6 ⟨rfl, M6, h6⟩; have HS6 : Hid (∀ w9, Below w6.heap.size w6 w9 → w9.cell? ⟨g, 1, none⟩ = some (.int .u32 (t : Int)) ∧ w9.cell? ⟨g, 2, none⟩ = some (.int .u8 (f : Int)) ∧ w9.cell? ⟨g, 3, none⟩ = some (.int .u16 (s : Int)) ∧ w9.cell? ⟨g, 4, none⟩ = some (.int .u16 (m : Int)) ∧ w9.cell? ⟨g, 5, none⟩ = some (.int .u32 (p : Int)) ∧ w9.cell? ⟨g, 6, none⟩ = some (.slice B dn dc)) := Lib.hid fun w9 hb => ⟨(h6.next hb).bk0.cell 1, (h6.next hb).bk0.cell 2, (h6.next hb).bk0.cell 3, (h6.next hb).bk0.cell 4, (h6.next hb).bk0.cell 5, (h6.next hb).bk0.cell 6⟩; have H6 := Lib.hid h6; clear h6))) | fail
          all_goals
            go_wp2_with fail
            go_meet
            case rel => exact ⟨b2, L5, M6, Lib.hid (H6.out.next (by first | exact Below.refl _ _ | exact (Below.refl _ _).drew)), Lib.hid ⟨HP0.out.1, by have := HPL.out; have := HK.out; omega⟩⟩
        by_cases h1 : kd = 1
        · subst h1
          clear HQK HDN
          have g0 : wa.cell? ⟨g, 0, none⟩ = some (.int .i64 1) := HI1.out.bk0.cell 0
          go_upto_region 14 with fail
          clear g0
          go_wp2_with fail
          refine (HI1.out.recv HO.out).mono ?_
          rintro e w5 (⟨hrd, rfl, h5⟩ | ⟨m1, l1, A1, k1, n1, hrd, hme, rfl, h5⟩)
          · have HRD := Lib.hid hrd
            have H5 := Lib.hid h5
            clear h5 hrd HI1
            go_upto_region 15 with fail
            have H6 := Lib.hid (H5.out.box #[.int .u16 0, .bool false, .int .u32 0, .slice none 0 0] 39)
            clear H5
            generalize World.alloc w5 _ = w6 at H6 ⊢
            generalize w5.heap.size = g5 at H6 ⊢
            go_wp2_with fail
            refine H6.out.drecv.mono ?_
            rintro e w7 (⟨hrd2, rfl, h7⟩ | ⟨m2, l2, A2, k2, n2, hrd2, hme2, rfl, h7⟩)
            · have H7 := Lib.hid h7
              clear h7 H6 hrd2
              go_upto_region 16 with fail
              have H8 := Lib.hid (H7.out.box #[.int .u16 0, .bool false, .int .u32 0, .slice none 0 0] 39)
              clear H7
              generalize World.alloc w7 _ = w8 at H8 ⊢
              generalize w7.heap.size = g7 at H8 ⊢
              have q0 : w8.cell? ⟨g7, 0, none⟩ = some (.int .u16 0) := H8.out.bk0.cell 0
              have q1 : w8.cell? ⟨g7, 1, none⟩ = some (.bool false) := H8.out.bk0.cell 1
              have q2 : w8.cell? ⟨g7, 2, none⟩ = some (.int .u32 0) := H8.out.bk0.cell 2
              have q3 : w8.cell? ⟨g7, 3, none⟩ = some (.slice none 0 0) := H8.out.bk0.cell 3
              have r0 : w8.cell? ⟨g5, 0, none⟩ = some (.int .u16 0) := H8.out.bk1.cell 0
              have r1 : w8.cell? ⟨g5, 1, none⟩ = some (.bool false) := H8.out.bk1.cell 1
              have r2 : w8.cell? ⟨g5, 2, none⟩ = some (.int .u32 0) := H8.out.bk1.cell 2
              have r3 : w8.cell? ⟨g5, 3, none⟩ = some (.slice none 0 0) := H8.out.bk1.cell 3
              have CS := Lib.hid (sameMessage_any 0 false 0 [] none 0 0 none 0 0 w8 rfl rfl (Row.nil_ _ _) (Row.nil_ _ _))
              unfold mv at CS
              go_wp2_with fail
              refine CS.out.mono ?_
              rintro e w9 ⟨rfl, hb9⟩
              have H9 := Lib.hid (H8.out.next hb9)
              clear CS H8 hb9 q0 q1 q2 q3 r0 r1 r2 r3
              go_wp2_with fail
              go_meet
              case rel => exact ⟨b, L, M, Lib.hid H9.out.less.less, Lib.hid ⟨HO.out, by have := HK.out; omega⟩⟩
            · exfalso
              rw [HRD.out] at hrd2
              cases hrd2
          · have HRD := Lib.hid hrd
            have HME := Lib.hid hme
            have H5 := Lib.hid h5
            clear h5 hrd hme HI1
            go_upto_region 15 with fail
            have H6 := Lib.hid (H5.out.box #[.int .u16 (m1.s : Int), .bool m1.u, .int .u32 (m1.p : Int), .slice A1 k1 n1] 39)
            clear H5
            generalize World.alloc w5 _ = w6 at H6 ⊢
            generalize w5.heap.size = g5 at H6 ⊢
            go_wp2_with fail
            refine H6.out.drecv.mono ?_
            rintro e w7 (⟨hrd2, rfl, h7⟩ | ⟨m2, l2, A2, k2, n2, hrd2, hme2, rfl, h7⟩)
            · exfalso
              rw [HRD.out] at hrd2
              cases hrd2
            · rw [HRD.out] at hrd2
              injection hrd2 with e1 e2
              subst e1
              subst e2
              have H7 := Lib.hid h7
              have HM2 := Lib.hid hme2
              clear h7 H6 hme2
              go_upto_region 16 with fail
              have H8 := Lib.hid (H7.out.box #[.int .u16 (m1.s : Int), .bool m1.u, .int .u32 (m1.p : Int), .slice A2 k2 n2] 39)
              clear H7
              generalize World.alloc w7 _ = w8 at H8 ⊢
              generalize w7.heap.size = g7 at H8 ⊢
              have q0 : w8.cell? ⟨g7, 0, none⟩ = some (.int .u16 (m1.s : Int)) := H8.out.bk0.cell 0
              have q1 : w8.cell? ⟨g7, 1, none⟩ = some (.bool m1.u) := H8.out.bk0.cell 1
              have q2 : w8.cell? ⟨g7, 2, none⟩ = some (.int .u32 (m1.p : Int)) := H8.out.bk0.cell 2
              have q3 : w8.cell? ⟨g7, 3, none⟩ = some (.slice A2 k2 n2) := H8.out.bk0.cell 3
              have r0 : w8.cell? ⟨g5, 0, none⟩ = some (.int .u16 (m1.s : Int)) := H8.out.bk1.cell 0
              have r1 : w8.cell? ⟨g5, 1, none⟩ = some (.bool m1.u) := H8.out.bk1.cell 1
              have r2 : w8.cell? ⟨g5, 2, none⟩ = some (.int .u32 (m1.p : Int)) := H8.out.bk1.cell 2
              have r3 : w8.cell? ⟨g5, 3, none⟩ = some (.slice A1 k1 n1) := H8.out.bk1.cell 3
              have hr1 := H8.out.row1 HME.out
              have hr2 := H8.out.row2 HM2.out
              have CS := Lib.hid (sameMessage_any m1.s m1.u m1.p m1.d A1 k1 n1 A2 k2 n2 w8 hr1.2 hr2.2 hr1.1 hr2.1)
              unfold mv at CS
              have hrc := recv_ok HO.out
              have hrb : b.recv.1 = { b with rd := l1 } := by unfold Ib.recv; rw [HRD.out]
              rw [hrb] at hrc
              obtain ⟨bb, hbb⟩ : ∃ bb, ({ b with rd := l1 } : Ib) = bb := ⟨_, rfl⟩
              have hbk : bb.K = b.K := by rw [← hbb]
              rw [hbb] at hrc H8
              have HRC := Lib.hid hrc.1
              have HBK := Lib.hid hbk
              clear hr1 hr2 hrc hrb hbb hbk HME HM2 HRD
              go_wp2_with fail
              refine CS.out.mono ?_
              rintro e w9 ⟨rfl, hb9⟩
              have H9 := Lib.hid (H8.out.next hb9)
              clear CS H8 hb9 q0 q1 q2 q3 r0 r1 r2 r3
              go_wp2_with fail
              go_meet
              case rel => exact ⟨bb, L, M, Lib.hid H9.out.less.less, Lib.hid ⟨HRC.out, by rw [HBK.out]; have := HK.out; omega⟩⟩
        by_cases h2 : kd = 2
        · subst h2
          clear HQK HDN
          have g0 : wa.cell? ⟨g, 0, none⟩ = some (.int .i64 2) := HI1.out.bk0.cell 0
          have hgl := Gp.gaps_len b.st
          have hdl := HO.out.st.2.2.1
          have hok2 : (b.setSt { b.st with ds := [] }).Ok := setSt_ok HO.out ⟨HO.out.st.1, HO.out.st.2.1, Nat.zero_le _, fun t ht => by simp at ht⟩
          have hk2 : (b.setSt { b.st with ds := [] }).K = b.K := rfl
          have CS := Lib.hid (HI1.out.sacks HO.out HO.out)
          obtain ⟨bb, hbb⟩ : ∃ bb, b.setSt { b.st with ds := [] } = bb := ⟨_, rfl⟩
          rw [hbb] at CS hok2 hk2
          have HOK2 := Lib.hid hok2
          have HK2 := Lib.hid hk2
          obtain ⟨gl, hg1⟩ : ∃ gl, b.st.gaps = gl := ⟨_, rfl⟩
          obtain ⟨dl, hd1⟩ : ∃ dl, b.st.ds = dl := ⟨_, rfl⟩
          obtain ⟨cu, hcu⟩ : ∃ cu, b.st.cum = cu := ⟨_, rfl⟩
          obtain ⟨rn, hrn⟩ : ∃ rn, b.rwnd = rn := ⟨_, rfl⟩
          rw [hg1] at CS hgl
          rw [hd1] at CS hdl
          rw [hcu, hrn] at CS
          obtain ⟨n1, hn1⟩ : ∃ n1, gl.length = n1 := ⟨_, rfl⟩
          obtain ⟨n2, hn2⟩ : ∃ n2, dl.length = n2 := ⟨_, rfl⟩
          rw [hn1] at CS hgl
          rw [hn2] at CS hdl
          have HN1 := Lib.hid hn1
          have HN2 := Lib.hid hn2
          clear hok2 hk2 hbb hg1 hd1 hcu hrn hn1 hn2
          go_upto_region 19 with fail
          clear g0
          go_wp2_with fail
          refine CS.out.mono ?_
          rintro e w5 ⟨A1, c1, A2, c2, rfl, h5⟩
          have CT := Lib.hid h5
          clear h5 CS HI1
          go_wp2_with fail
          refine CT.out.mono ?_
          rintro e w6 ⟨B1, d1, B2, d2, rfl, hr1, hr2, hr3, hr4, h6⟩
          have H6 := Lib.hid h6
          have HR1 := Lib.hid hr1
          have HR2 := Lib.hid hr2
          have HR3 := Lib.hid hr3
          have HR4 := Lib.hid hr4
          clear h6 hr1 hr2 hr3 hr4 CT
          go_upto_region 20 with fail
          have hsz : (w6.alloc (.cells #[.int .u8 3, .int .u8 0, .int .u32 0, .int .u32 (rn : Int), .int .u32 (cu : Int), .int .u16 0, .int .u16 0, .int .u16 0, .int .u16 0, .int .u32 0, .slice none 0 0, .slice none 0 0, .slice A1 n1 c1, .slice A2 n2 c2, .slice none 0 0] 47)).heap.size = w6.heap.size + 1 := by simp
          have h8 := (H6.out.box #[.int .u8 3, .int .u8 0, .int .u32 0, .int .u32 (rn : Int), .int .u32 (cu : Int), .int .u16 0, .int .u16 0, .int .u16 0, .int .u16 0, .int .u32 0, .slice none 0 0, .slice none 0 0, .slice A1 n1 c1, .slice A2 n2 c2, .slice none 0 0] 47).box #[.int .u8 3, .int .u8 0, .int .u32 0, .int .u32 (rn : Int), .int .u32 (cu : Int), .int .u16 0, .int .u16 0, .int .u16 0, .int .u16 0, .int .u32 0, .slice none 0 0, .slice none 0 0, .slice B1 n1 d1, .slice B2 n2 d2, .slice none 0 0] 47
          rw [hsz] at h8
          have H8 := Lib.hid h8
          have hba : Below w6.heap.size w6 ((w6.alloc (.cells #[.int .u8 3, .int .u8 0, .int .u32 0, .int .u32 (rn : Int), .int .u32 (cu : Int), .int .u16 0, .int .u16 0, .int .u16 0, .int .u16 0, .int .u32 0, .slice none 0 0, .slice none 0 0, .slice A1 n1 c1, .slice A2 n2 c2, .slice none 0 0] 47)).alloc (.cells #[.int .u8 3, .int .u8 0, .int .u32 0, .int .u32 (rn : Int), .int .u32 (cu : Int), .int .u16 0, .int .u16 0, .int .u16 0, .int .u16 0, .int .u32 0, .slice none 0 0, .slice none 0 0, .slice B1 n1 d1, .slice B2 n2 d2, .slice none 0 0] 47)) := ((Below.refl _ _).alloc (Nat.le_refl _) _).alloc (by simp) _
          have HQ1 := Lib.hid (HR1.out.below hba)
          have HQ2 := Lib.hid (HR2.out.below hba)
          have HQ3 := Lib.hid (HR3.out.below hba)
          have HQ4 := Lib.hid (HR4.out.below hba)
          clear h8 hsz hba H6 HR1 HR2 HR3 HR4
          generalize World.alloc (World.alloc w6 _) _ = w8 at H8 HQ1 HQ2 HQ3 HQ4 ⊢
          generalize w6.heap.size = g5 at H8 ⊢
          generalize g5 + 1 = g7 at H8 ⊢
          have r0 : w8.cell? ⟨g5, 0, none⟩ = some (.int .u8 3) := H8.out.bk1.cell 0
          have r3 : w8.cell? ⟨g5, 3, none⟩ = some (.int .u32 (rn : Int)) := H8.out.bk1.cell 3
          have r4 : w8.cell? ⟨g5, 4, none⟩ = some (.int .u32 (cu : Int)) := H8.out.bk1.cell 4
          have r12 : w8.cell? ⟨g5, 12, none⟩ = some (.slice A1 n1 c1) := H8.out.bk1.cell 12
          have q0 : w8.cell? ⟨g7, 0, none⟩ = some (.int .u8 3) := H8.out.bk0.cell 0
          have q3 : w8.cell? ⟨g7, 3, none⟩ = some (.int .u32 (rn : Int)) := H8.out.bk0.cell 3
          have q4 : w8.cell? ⟨g7, 4, none⟩ = some (.int .u32 (cu : Int)) := H8.out.bk0.cell 4
          have q12 : w8.cell? ⟨g7, 12, none⟩ = some (.slice B1 n1 d1) := H8.out.bk0.cell 12
          have C1 := Lib.hid (sgaps_same A1 B1 n1 c1 d1 gl w8 HN1.out (by omega) HQ1.out HQ3.out)
          go_wp2_with fail
          refine C1.out.mono ?_
          rintro e w9 ⟨rfl, hb9⟩
          have H9 := Lib.hid (H8.out.next hb9)
          have C2 := Lib.hid (tsns_same A2 B2 n2 c2 d2 dl w9 HN2.out (by omega) (HQ2.out.below hb9) (HQ4.out.below hb9))
          clear C1 H8 hb9 HQ1 HQ2 HQ3 HQ4 r0 r3 r4 r12 q0 q3 q4 q12
          have r13 : w9.cell? ⟨g5, 13, none⟩ = some (.slice A2 n2 c2) := H9.out.bk1.cell 13
          have q13 : w9.cell? ⟨g7, 13, none⟩ = some (.slice B2 n2 d2) := H9.out.bk0.cell 13
          go_wp2_with fail
          refine C2.out.mono ?_
          rintro e w10 ⟨rfl, hb10⟩
          have H10 := Lib.hid (H9.out.next hb10)
          clear C2 H9 hb10 r13 q13
          go_wp2_with fail
          go_meet
          case rel => exact ⟨bb, L, M, Lib.hid H10.out.less.less, Lib.hid ⟨HOK2.out, by rw [HK2.out]; have := HK.out; omega⟩⟩
        · go_wp2_with fail
          go_meet
          case rel => exact ⟨b, L, M, HI1, Lib.hid ⟨HO.out, by have := HK.out; omega⟩⟩
      case rest =>
        obtain ⟨b2, L2, M2, HJ, HP⟩ := hcut
        clear HI1 HQK HDN HO HK
        obtain ⟨s2, Ar, nr, hld⟩ := HJ.out.loads
        obtain ⟨cu, hcu⟩ : ∃ cu, b2.st.cum = cu := ⟨_, rfl⟩
        obtain ⟨rl, hrl⟩ : ∃ rl, b2.rd.length = rl := ⟨_, rfl⟩
        obtain ⟨hh, hhh⟩ : ∃ hh, b2.held = hh := ⟨_, rfl⟩
        obtain ⟨rn, hrn⟩ : ∃ rn, b2.rwnd = rn := ⟨_, rfl⟩
        have D1 : Hid (∀ w', Below wc.heap.size wc w' → Calls Try.prog 20 #[.pointer (some ⟨x, 0, none⟩)] w' fun e w'' => e = .returned (.int .u32 (cu : Int)) ∧ w' = w'') := Lib.hid fun w' hb => by rw [← hcu]; exact (HJ.out.next hb).cum
        have D2 : Hid (∀ w', Below wc.heap.size wc w' → Calls Try.prog 21 #[.pointer (some ⟨x, 0, none⟩)] w' fun e w'' => e = .returned (.int .i64 (rl : Int)) ∧ w' = w'') := Lib.hid fun w' hb => by rw [← hrl]; exact (HJ.out.next hb).ready
        have D3 : Hid (∀ w', Below wc.heap.size wc w' → Calls Try.prog 22 #[.pointer (some ⟨x, 0, none⟩)] w' fun e w'' => e = .returned (.int .i64 (hh : Int)) ∧ Below w'.heap.size w' w'') := Lib.hid fun w' hb => by rw [← hhh]; exact (HJ.out.next hb).held HP.out.1
        have D4 : Hid (∀ w', Below wc.heap.size wc w' → Calls Try.prog 23 #[.pointer (some ⟨y, 0, none⟩)] w' fun e w'' => e = .returned (.int .i64 (hh : Int)) ∧ w' = w'') := Lib.hid fun w' hb => by rw [← hhh]; exact (HJ.out.next hb).dheld HP.out.1
        have D5 : Hid (∀ w', Below wc.heap.size wc w' → Calls Try.prog 24 #[.pointer (some ⟨x, 0, none⟩)] w' fun e w'' => e = .returned (.int .u32 (rn : Int)) ∧ Below w'.heap.size w' w'') := Lib.hid fun w' hb => by rw [← hrn]; exact (HJ.out.next hb).rwnd HP.out.1
        have D6 : Hid (∀ w', Below wc.heap.size wc w' → Calls Try.prog 25 #[.pointer (some ⟨y, 0, none⟩)] w' fun e w'' => e = .returned (.int .u32 (rn : Int)) ∧ w'.drew = w'') := Lib.hid fun w' hb => by rw [← hrn]; exact (HJ.out.next hb).drwnd HP.out.1
        rw [hcu, hrl] at hld
        have HS := Lib.hid hld
        have hbd : Below wc.heap.size wc wc.drew := (Below.refl _ _).drew
        have hs := hld _ hbd
        clear hld hcu hrl hhh hrn
        go_upto_region 22 with fail
        go_cut [149] from 116 to 149 (fun v149 wx => v149 = .bool false ∧ Hid (Below wc.heap.size wc wx))
        case first =>
          first | go_region_held3 (fun W => W.cell? ⟨y, 3, none⟩ = some (.pointer (some ⟨s2, 0, none⟩)) ∧ W.cell? ⟨s2, 0, none⟩ = some (.int .u32 (cu : Int)) ∧ W.cell? ⟨y, 65542, none⟩ = some (.slice Ar rl nr)) (first | exact hs | exact HS.out _ (by assumption)) ((first
            | (go_at_call 20; (with_reducible refine (D1.out _ ?_).mono ?_); assumption; rintro e w ⟨rfl, rfl⟩)
            | (go_at_call 21; (with_reducible refine (D2.out _ ?_).mono ?_); assumption; rintro e w ⟨rfl, rfl⟩)
            | (go_at_call 22; (with_reducible refine (D3.out _ ?_).mono ?_); assumption; rintro e w5 ⟨rfl, hb5⟩; have hd5 := bnext (w := wc) (by assumption) hb5; clear hb5)
            | (go_at_call 23; (with_reducible refine (D4.out _ ?_).mono ?_); assumption; rintro e w ⟨rfl, rfl⟩)
            | (go_at_call 24; (with_reducible refine (D5.out _ ?_).mono ?_); assumption; rintro e w6 ⟨rfl, hb6⟩; have hd6 := bnext (w := wc) (by assumption) hb6; clear hb6)
            | (go_at_call 25; (with_reducible refine (D6.out _ ?_).mono ?_); assumption; rintro e w7 ⟨rfl, rfl⟩; have hd7 := bnext (w := wc) (by assumption) (Below.refl _ _).drew))) | fail
          all_goals
            go_wp2_with fail
            go_meet
            case rel => exact ⟨by first | rfl | simp, Lib.hid (by first | exact hd7 | exact bnext hd7 (Below.refl _ _).drew)⟩
        case rest =>
          obtain ⟨rfl, HB9⟩ := hcut
          have H9 := Lib.hid (HJ.out.next HB9.out).less
          clear D1 D2 D3 D4 D5 D6 HS hs HJ HB9
          go_wp2_with fail
          go_roundw
          case rel => exact ⟨k + 1, b2, L2, M2, by go_num, by omega, H9, Lib.hid HP.out.1, Lib.hid HP.out.2⟩
          case measure => simp [intOf] <;> omega
    · obtain rfl : k = len := by omega
      go_wp2_with fail
      go_ret
      exact ⟨rfl, HI.out.below⟩
end Ix
theorem inboxPlays_walk (n room most c : Int) (A : Option Addr) (len cap : Nat) (qs : List Ix.Dq) (W : World) (hn : (Lit.int .u16 n).wf = true) (_hr : (Lit.int .i64 room).wf = true) (_hm : (Lit.int .i64 most).wf = true) (hc : (Lit.int .u32 c).wf = true) (hp : Ix.DosIn W A len cap qs) :
    Calls Try.prog 3 #[.int .u16 n, .int .i64 room, .int .i64 most, .int .u32 c, .slice A len cap] W fun e w' => e = .returned (.bool true) ∧ Below W.heap.size W w' := by
  obtain ⟨n, rfl⟩ : ∃ m : Nat, n = m := ⟨n.toNat, by have := wf_u16 hn; omega⟩
  obtain ⟨c, rfl⟩ : ∃ m : Nat, c = m := ⟨c.toNat, by have := wf_u32 hc; omega⟩
  exact Ix.inboxPlays_main n room most c A len cap qs W (by have := wf_u16 hn; omega) (by have := wf_u32 hc; omega) hp
end Go.Proofs.Ytednkcjmlpgipaa
