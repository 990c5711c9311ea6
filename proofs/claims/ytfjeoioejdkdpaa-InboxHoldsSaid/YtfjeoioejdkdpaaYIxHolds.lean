/-
  InboxHolds: the walk.
-/
import Derived.Test.YtfjeoioejdkdpaaYP1e
import Derived.Test.YtfjeoioejdkdpaaYP1a
import Derived.Test.YtfjeoioejdkdpaaYP1g
import Derived.Test.YtfjeoioejdkdpaaYIxAdd
import Derived.Test.YtfjeoioejdkdpaaYIxKnown
import Derived.Deep.CutBlock
import Derived.Deep.CutRange
import Derived.Deep.RegionHeld3
set_option linter.unusedVariables false
set_option linter.unusedSimpArgs false
namespace Go.Proofs.Ytfjeoioejdkdpaa
set_option maxRecDepth 4000
open Go.RowKit Go.Maps
namespace Ix
open Fg
set_option linter.unusedVariables false
set_option linter.unusedSimpArgs false

theorem new_ok (n : Nat) (room most : Int) (c : Nat) (hn : n < 65536) (hc : c < 4294967296) : Ib.Ok ⟨bnd room, bnd most, ⟨c, [], []⟩, [], List.replicate n 0, [], []⟩ := by
  refine ⟨⟨?_, ?_, ⟨hc, ⟨by simp, by simp⟩, by simp, by simp⟩, by simpa using hn, fun m hm => by have := List.eq_of_mem_replicate hm; omega, by simp, ?_, by simp, ?_, by simp⟩, by simp [Ib.held, Ib.whole, bsum, Fg.held]⟩
  · unfold bnd; show (min (max room 0) 1048576).toNat ≤ 1048576; omega
  · unfold bnd; show (min (max most 0) 1048576).toNat ≤ 1048576; omega
  all_goals exact List.Pairwise.nil
theorem mem_dtot {qs : List Dq} {q : Dq} (h : q ∈ qs) : q.2.2.2.1 ≤ dtot qs := by
  obtain ⟨l1, l2, rfl⟩ := List.append_of_mem h
  unfold dtot
  simp
  omega
set_option maxHeartbeats 4000000 in
theorem inboxHolds_main (n : Nat) (room most : Int) (c : Nat) (A : Option Addr) (len cap : Nat) (qs : List Dq) (W : World) (hn : n < 65536) (hc : c < 4294967296) (hp : DosIn W A len cap qs) :
    Calls Try.prog 4 #[.int .u16 (n : Int), .int .i64 room, .int .i64 most, .int .u32 (c : Int), .slice A len cap] W fun e w' => e = .returned (.bool true) ∧ Below W.heap.size W w' := by
  obtain ⟨hl, hnc, hcm, hr, hq⟩ := hp
  have HL := Lib.hid hl
  have HR := Lib.hid hr
  have HQ := Lib.hid hq
  have HLN : Hid (len ≤ 140737488355328) := Lib.hid (by omega)
  have HN := Lib.hid hn
  have HC := Lib.hid hc
  clear hl hr hq hnc hcm hn hc
  go_enter Try.func4, Try.ntmps4
  go_wp2_with fail
  refine (known_any W).mono ?_
  rintro e w1 ⟨rfl, hb1⟩
  have HB1 := Lib.hid hb1
  clear hb1
  go_wp2_with fail
  refine (heavy_any A len cap qs w1 HL.out HLN.out (HR.out.below HB1.out) (fun q hq => by have h1 := (HQ.out q hq).2.cap; have h2 := (HQ.out q hq).2.most; omega)).mono ?_
  rintro e w2 ⟨hh, hb2⟩
  have HB2 : Hid (Below W.heap.size W w2) := Lib.hid (bnext' HB1.out hb2)
  clear hb2 HB1
  rcases hh with rfl | ⟨rfl, hlight⟩
  · go_wp2_with fail
    go_ret
    exact ⟨rfl, HB2.out⟩
  have HLT := Lib.hid hlight
  clear hlight
  go_wp2_with fail
  refine (new_any (Nw.start' HB2.out) n room most c HN.out HC.out).mono ?_
  rintro e w3 ⟨x, rfl, h3⟩
  have H3 := Lib.hid h3
  clear h3
  go_wp2_with fail
  have hl2 : len ≤ 200 := by have := HLT.out.len; have := HL.out; omega
  have HO3 := Lib.hid (new_ok n room most c HN.out HC.out)
  go_loopw [31] (fun v31 wr => ∃ (k : Nat) (b : Ib) (L : List Me), v31 = .int .i64 k ∧ k ≤ len ∧ Hid (IX W wr x b L []) ∧ Hid b.Ok ∧ Hid (b.room = bnd room)) (fun v31 _ => len - (intOf v31).toNat)
  case atStart => exact ⟨0, _, _, rfl, Nat.zero_le _, H3, HO3, Lib.hid rfl⟩
  case round =>
    obtain ⟨k, b, L, rfl, hk, HI, HO, HM⟩ := hrel
    clear H3 HO3
    by_cases hlt : k < len
    · have hkq : k < qs.length := by rw [HL.out]; exact hlt
      obtain ⟨ad, rfl, f0, f1, f2, f3, f4, f5, f6⟩ := dfl_at (HR.out.below HI.out.below) hkq
      have HQK := Lib.hid (HQ.out _ (List.getElem_mem hkq))
      have HDN := Lib.hid (Nat.le_trans (mem_dtot (List.getElem_mem hkq)) HLT.out.tot)
      generalize qs[k] = q at f0 f1 f2 f3 f4 f5 f6 HQK HDN
      obtain ⟨kd, ⟨t, f, s, m, p, l⟩, B, dn, dc⟩ := q
      simp only at f0 f1 f2 f3 f4 f5 f6 HQK HDN
      clear hkq
      go_wp2_with fail
      have HI1 : Hid (IW W (wr.alloc (.cells #[.int .i64 kd, .int .u32 (t : Int), .int .u8 (f : Int), .int .u16 (s : Int), .int .u16 (m : Int), .int .u32 (p : Int), .slice B dn dc] 35)) x b b.whole L _) := Lib.hid (IW.boxed HI.out #[.int .i64 kd, .int .u32 (t : Int), .int .u8 (f : Int), .int .u16 (s : Int), .int .u16 (m : Int), .int .u32 (p : Int), .slice B dn dc] 35)
      clear f0 f1 f2 f3 f4 f5 f6 HI
      generalize wr.alloc (.cells #[.int .i64 kd, .int .u32 (t : Int), .int .u8 (f : Int), .int .u16 (s : Int), .int .u16 (m : Int), .int .u32 (p : Int), .slice B dn dc] 35) = wa at HI1 ⊢
      generalize wr.heap.size = g at HI1 ⊢
      have HI2 : Hid (IX W wa x b L _) := Lib.hid (HI1.out.whx rfl)
      refine (cum_any HI2.out).mono ?_
      rintro e w ⟨rfl, rfl⟩
      go_wp2_with fail
      refine (held_any HI2.out HO.out).mono ?_
      rintro e wb ⟨rfl, hbb⟩
      have HI3 : Hid (IX W wb x b L _) := Lib.hid (HI2.out.next hbb)
      have HBK : Hid (Bk wb g #[.int .i64 kd, .int .u32 (t : Int), .int .u8 (f : Int), .int .u16 (s : Int), .int .u16 (m : Int), .int .u32 (p : Int), .slice B dn dc] 35) := Lib.hid ((HI1.out.next hbb).bk7)
      clear hbb HI1 HI2
      go_wp2_with fail
      refine (ready_any HI3.out).mono ?_
      rintro e w ⟨rfl, rfl⟩
      have g0 : wb.cell? ⟨g, 0, none⟩ = some (.int .i64 kd) := HBK.out.cell 0
      have g1 : wb.cell? ⟨g, 1, none⟩ = some (.int .u32 (t : Int)) := HBK.out.cell 1
      have g2 : wb.cell? ⟨g, 2, none⟩ = some (.int .u8 (f : Int)) := HBK.out.cell 2
      have g3 : wb.cell? ⟨g, 3, none⟩ = some (.int .u16 (s : Int)) := HBK.out.cell 3
      have g4 : wb.cell? ⟨g, 4, none⟩ = some (.int .u16 (m : Int)) := HBK.out.cell 4
      have g5 : wb.cell? ⟨g, 5, none⟩ = some (.int .u32 (p : Int)) := HBK.out.cell 5
      have g6 : wb.cell? ⟨g, 6, none⟩ = some (.slice B dn dc) := HBK.out.cell 6
      clear g1 g2 g3 g4 g5 g6
      go_upto_block 2 with fail
      clear g0
      obtain ⟨rl, hrl⟩ : ∃ rl, b.rd.length = rl := ⟨_, rfl⟩
      obtain ⟨hh, hhh⟩ : ∃ hh, b.held = hh := ⟨_, rfl⟩
      rw [hrl, hhh]
      go_cut [17, 18, 19] from 41 to 89 (fun v17 v18 v19 wx => ∃ (b2 : Ib) (L2 : List Me), Hid (IX W wx x b2 L2 [BkA g #[.int .i64 kd, .int .u32 (t : Int), .int .u8 (f : Int), .int .u16 (s : Int), .int .u16 (m : Int), .int .u32 (p : Int), .slice B dn dc] 35]) ∧ Hid (b2.Ok ∧ b2.room = b.room ∧ Gp.wy b.st.cum b2.st.cum ≤ 65535))
      case first =>
        have g0 : wb.cell? ⟨g, 0, none⟩ = some (.int .i64 kd) := HBK.out.cell 0
        have g1 : wb.cell? ⟨g, 1, none⟩ = some (.int .u32 (t : Int)) := HBK.out.cell 1
        have g2 : wb.cell? ⟨g, 2, none⟩ = some (.int .u8 (f : Int)) := HBK.out.cell 2
        have g3 : wb.cell? ⟨g, 3, none⟩ = some (.int .u16 (s : Int)) := HBK.out.cell 3
        have g4 : wb.cell? ⟨g, 4, none⟩ = some (.int .u16 (m : Int)) := HBK.out.cell 4
        have g5 : wb.cell? ⟨g, 5, none⟩ = some (.int .u32 (p : Int)) := HBK.out.cell 5
        have g6 : wb.cell? ⟨g, 6, none⟩ = some (.slice B dn dc) := HBK.out.cell 6
        have HST : Hid (Gp.wy b.st.cum b.st.cum ≤ 65535) := Lib.hid (by rw [wy_self HO.out.st.1]; exact Nat.zero_le _)
        by_cases h0 : kd = 0
        · subst h0
          go_wp2_with fail
          have hpd := HQK.out.2
          have hdl : dn ≤ 20000 := HDN.out
          refine (add_any HI3.out HO.out ⟨t, f, s, m, p, l⟩ B dn dc hpd.ok hpd.len (by omega) (fun w2 h2 => hpd.row.below h2.below)).mono ?_
          rintro e wd ⟨rfl, L2, h4, _⟩
          have HI4 := Lib.hid h4
          have HAO := Lib.hid (add_ok HO.out (x := ⟨t, f, s, m, p, l⟩) hpd.ok)
          have HAF := Lib.hid (add_full (b := b) (x := ⟨t, f, s, m, p, l⟩))
          have HAS := Lib.hid (add_step HO.out (x := ⟨t, f, s, m, p, l⟩) hpd.ok)
          clear h4 hpd
          generalize b.add ⟨t, f, s, m, p, l⟩ = P at HI4 HAO HAF HAS ⊢
          obtain ⟨b2, rc⟩ := P
          simp only at HI4 HAO HAF HAS ⊢
          clear g0 g1 g2 g3 g4 g5 g6 HI3 HBK
          by_cases h7 : rc = 7
          · subst h7
            obtain rfl : b2 = b := HAF.out rfl
            go_wp2_with fail
            refine (held_any HI4.out HO.out).mono ?_
            rintro e we ⟨rfl, hb4⟩
            have HI5 := Lib.hid (HI4.out.next hb4)
            clear hb4 HI4
            go_wp2_with fail
            refine (cum_any HI5.out).mono ?_
            rintro e w ⟨rfl, rfl⟩
            go_wp2_with fail
            refine (ready_any HI5.out).mono ?_
            rintro e w ⟨rfl, rfl⟩
            go_wp2_with fail
            go_meet
            case rel => exact ⟨b2, L2, HI5, Lib.hid ⟨HO.out, rfl, HST.out⟩⟩
          · have hz : ((rc : Int) == 7) = false := by simp; omega
            go_wp2_with fail
            go_meet
            case rel => exact ⟨b2, L2, HI4, Lib.hid ⟨HAO.out.1, HAO.out.2.1, HAS.out⟩⟩
        · by_cases h1 : kd = 1
          · subst h1
            go_wp2_with fail
            have hhl : hh ≤ 1048576 := by have := HO.out.held; have := HO.out.room; omega
            have hrok := recv_ok HO.out
            clear g0 g1 g2 g3 g4 g5 g6 HBK
            refine (recv_any HI3.out HO.out).mono ?_
            rintro e wd (⟨hrd, rfl, h4⟩ | ⟨mm, l2, A2, k2, c2, hrd, hmem, rfl, h4⟩)
            · have HI4 := Lib.hid h4
              have HBO : Hid b.Ok := HO
              have HBR : Hid (b.Ok ∧ b.room = b.room ∧ Gp.wy b.st.cum b.st.cum ≤ 65535) := Lib.hid ⟨HO.out, rfl, HST.out⟩
              have hrl0 : ¬ 0 < rl := by rw [← hrl, hrd]; simp
              have hh2 := hhh
              have e1 : IntKind.i64.wrap (hh : Int) = (hh : Int) := by
                simp [IntKind.wrap, IntKind.signed, IntKind.bits]
                omega
              clear h4 hrd hrl hrok HI3 hhl
              obtain ⟨gm, hgm⟩ : ∃ gm, wd.heap.size = gm := ⟨_, rfl⟩
              go_upto_region 18 with fail
              generalize hW : World.alloc wd _ = wq
              have HI5 : Hid (IX W wq x b L _) := Lib.hid (by rw [← hW]; exact HI4.out.next ((Below.refl _ _).alloc (Nat.le_refl _) _))
              have HM5 : Hid (Bk wq gm #[.int .u16 0, .bool false, .int .u32 0, .slice none 0 0] 39) := Lib.hid (by rw [← hW, ← hgm]; exact Bk.new _ _ _)
              clear hW hgm HI4
              have C : Hid (∀ w2, Below wq.heap.size wq w2 → Calls Try.prog 26 #[.pointer (some ⟨x, 0, none⟩)] w2 fun e w' => e = .returned (.int .i64 (hh : Int)) ∧ Below w2.heap.size w2 w') := Lib.hid fun w2 hb => by
                have := held_any (HI5.out.next hb) HBO.out
                rw [hh2] at this
                exact this
              have HS : Hid (∀ w2, Below wq.heap.size wq w2 → w2.cell? ⟨gm, 3, none⟩ = some (.slice none 0 0)) := Lib.hid fun w2 hb => (HM5.out.next hb).cell 3
              have hwd : Below wq.heap.size wq wq.drew := (Below.refl _ _).drew
              have hs := HS.out _ hwd
              go_region_held3 (fun W => W.cell? ⟨gm, 3, none⟩ = some (.slice none 0 0)) (first | exact hs | exact HS.out _ (by assumption)) ((go_at_call 26; (with_reducible refine (C.out _ ?_).mono ?_); assumption; rintro e w2 ⟨rfl, hb2⟩; have hd2 := bnext (w := wq) (by assumption) hb2))
              all_goals
                go_wp2_with fail
                go_meet
                case rel => exact ⟨b, L, Lib.hid (HI5.out.next hd2), Lib.hid ⟨HBR.out.1, rfl, HBR.out.2.2⟩⟩
            · have HI4 := Lib.hid h4
              have hrh := recv_held hrd
              have hrow := (HI4.out.row hmem).1
              rw [hrh.1] at hrok hrh
              simp only at hrok hrh hrow
              obtain ⟨bb, hbb⟩ : ∃ bb, ({ b with rd := l2 } : Ib) = bb := ⟨_, rfl⟩
              rw [hbb] at hrok hrh HI4
              have HBO := Lib.hid hrok.1
              have HBR : Hid (bb.Ok ∧ bb.room = b.room ∧ Gp.wy b.st.cum bb.st.cum ≤ 65535) := Lib.hid ⟨hrok.1, by rw [← hbb], by rw [← hbb]; exact HST.out⟩
              have hrl0 : 0 < rl := by rw [← hrl, hrd]; simp
              obtain ⟨h2, hh2⟩ : ∃ h2, bb.held = h2 := ⟨_, rfl⟩
              have e1 : IntKind.i64.wrap ((hh : Int) - (k2 : Int)) = (h2 : Int) := by
                have := hrh.2
                simp [IntKind.wrap, IntKind.signed, IntKind.bits]
                omega
              clear h4 hrd hrl hrok HI3 hhl hrh hrow hbb hmem
              obtain ⟨gm, hgm⟩ : ∃ gm, wd.heap.size = gm := ⟨_, rfl⟩
              go_upto_region 18 with fail
              generalize hW : World.alloc wd _ = wq
              have HI5 : Hid (IX W wq x bb L _) := Lib.hid (by rw [← hW]; exact HI4.out.next ((Below.refl _ _).alloc (Nat.le_refl _) _))
              have HM5 : Hid (Bk wq gm #[.int .u16 (mm.s : Int), .bool mm.u, .int .u32 (mm.p : Int), .slice A2 k2 c2] 39) := Lib.hid (by rw [← hW, ← hgm]; exact Bk.new _ _ _)
              clear hW hgm HI4
              have C : Hid (∀ w2, Below wq.heap.size wq w2 → Calls Try.prog 26 #[.pointer (some ⟨x, 0, none⟩)] w2 fun e w' => e = .returned (.int .i64 (h2 : Int)) ∧ Below w2.heap.size w2 w') := Lib.hid fun w2 hb => by
                have := held_any (HI5.out.next hb) HBO.out
                rw [hh2] at this
                exact this
              have HS : Hid (∀ w2, Below wq.heap.size wq w2 → w2.cell? ⟨gm, 3, none⟩ = some (.slice A2 k2 c2)) := Lib.hid fun w2 hb => (HM5.out.next hb).cell 3
              have hwd : Below wq.heap.size wq wq.drew := (Below.refl _ _).drew
              have hs := HS.out _ hwd
              go_region_held3 (fun W => W.cell? ⟨gm, 3, none⟩ = some (.slice A2 k2 c2)) (first | exact hs | exact HS.out _ (by assumption)) ((go_at_call 26; (with_reducible refine (C.out _ ?_).mono ?_); assumption; rintro e w2 ⟨rfl, hb2⟩; have hd2 := bnext (w := wq) (by assumption) hb2))
              all_goals
                go_wp2_with fail
                go_meet
                case rel => exact ⟨bb, L, Lib.hid (HI5.out.next hd2), Lib.hid HBR.out⟩
          · have hq0 : (kd == (0 : Int)) = false := by simpa using h0
            have hq1 : (kd == (1 : Int)) = false := by simpa using h1
            go_wp2_with fail
            go_meet
            case rel => exact ⟨b, L, HI3, Lib.hid ⟨HO.out, rfl, HST.out⟩⟩
      case rest =>
        clear hrl hhh
        obtain ⟨b2, L2, HJ, HP⟩ := hcut
        clear HBK HI3 HQK HDN
        have CH : Hid (∀ w, IX W w x b2 L2 [BkA g #[.int .i64 kd, .int .u32 (t : Int), .int .u8 (f : Int), .int .u16 (s : Int), .int .u16 (m : Int), .int .u32 (p : Int), .slice B dn dc] 35] → Calls Try.prog 26 #[.pointer (some ⟨x, 0, none⟩)] w fun e w' => e = .returned (.int .i64 (b2.held : Int)) ∧ IX W w' x b2 L2 [BkA g #[.int .i64 kd, .int .u32 (t : Int), .int .u8 (f : Int), .int .u16 (s : Int), .int .u16 (m : Int), .int .u32 (p : Int), .slice B dn dc] 35]) := Lib.hid fun w h => (held_any h HP.out.1).mono fun e w' ⟨h1, h2⟩ => ⟨h1, h.next h2⟩
        have CR : Hid (∀ w, IX W w x b2 L2 [BkA g #[.int .i64 kd, .int .u32 (t : Int), .int .u8 (f : Int), .int .u16 (s : Int), .int .u16 (m : Int), .int .u32 (p : Int), .slice B dn dc] 35] → Calls Try.prog 28 #[.pointer (some ⟨x, 0, none⟩)] w fun e w' => e = .returned (.int .u32 (b2.rwnd : Int)) ∧ IX W w' x b2 L2 [BkA g #[.int .i64 kd, .int .u32 (t : Int), .int .u8 (f : Int), .int .u16 (s : Int), .int .u16 (m : Int), .int .u32 (p : Int), .slice B dn dc] 35]) := Lib.hid fun w h => (rwnd_any h HP.out.1).mono fun e w' ⟨h1, h2⟩ => ⟨h1, h.next h2⟩
        have CC : Hid (∀ w, IX W w x b2 L2 [BkA g #[.int .i64 kd, .int .u32 (t : Int), .int .u8 (f : Int), .int .u16 (s : Int), .int .u16 (m : Int), .int .u32 (p : Int), .slice B dn dc] 35] → Calls Try.prog 24 #[.pointer (some ⟨x, 0, none⟩)] w fun e w' => e = .returned (.int .u32 (b2.st.cum : Int)) ∧ w = w') := Lib.hid fun w h => cum_any h
        have hI := HJ.out
        clear HJ
        have hro := room_ok HP.out.1
        have hbr : b2.room = bnd room := by have := HP.out.2.1; have := HM.out; omega
        rw [hbr] at hro
        have hbn : bnd room ≤ 1048576 := by unfold bnd; omega
        have hwc : IntKind.u32.wrap ((b2.st.cum : Int) - (b.st.cum : Int)) = ((Gp.wy b.st.cum b2.st.cum : Nat) : Int) := Gp.wrap_sub HO.out.st.1 HP.out.1.st.1
        have hwl : ¬ 2147483648 < Gp.wy b.st.cum b2.st.cum := by have := HP.out.2.2; omega
        have hrw : b2.rwnd ≤ 1048576 := by have := HP.out.1.room; unfold Ib.rwnd; omega
        generalize Gp.wy b.st.cum b2.st.cum = dw at hwc hwl
        obtain ⟨hro1, hro2⟩ := hro
        have hcv : IntKind.i64.wrap (b2.rwnd : Int) = (b2.rwnd : Int) := by
          simp [IntKind.wrap, IntKind.signed, IntKind.bits]
          omega
        have hcs : IntKind.i64.wrap ((b2.rwnd : Int) + (b2.held : Int)) = ((b2.rwnd + b2.held : Nat) : Int) := by
          simp [IntKind.wrap, IntKind.signed, IntKind.bits]
          omega
        generalize b2.rwnd = rw2 at CR hro2 hrw hcv hcs
        generalize b2.held = h2 at CH CR hro1 hro2 hcs
        generalize b2.st.cum = c2 at CC hwc
        have hcase : (0 < room ∧ ¬ room < (h2 : Int) ∧ 0 < h2 ∧ ¬ room < ((rw2 + h2 : Nat) : Int)) ∨ (0 < room ∧ ¬ room < (h2 : Int) ∧ ¬ 0 < h2) ∨ (¬ 0 < room ∧ ¬ 0 < h2) := by
          unfold bnd at hro1 hro2
          by_cases hrm : 0 < room
          · by_cases hp0 : 0 < h2
            · have := hro2 hp0
              exact .inl ⟨hrm, by omega, hp0, by omega⟩
            · exact .inr (.inl ⟨hrm, by omega, hp0⟩)
          · exact .inr (.inr ⟨hrm, by omega⟩)
        clear hro1 hro2 hbn hrw
        generalize rw2 + h2 = rh at hcs hcase
        rcases hcase with ⟨l1, l2, l3, l4⟩ | ⟨l1, l2, l3⟩ | ⟨l1, l3⟩
        all_goals
          go_wp2_with (first
            | (go_at_call 26; (with_reducible refine (CH.out _ hI).mono ?_); rintro e wn ⟨rfl, hN⟩; clear hI; have hI := hN; clear hN)
            | (go_at_call 28; (with_reducible refine (CR.out _ hI).mono ?_); rintro e wn ⟨rfl, hN⟩; clear hI; have hI := hN; clear hN)
            | (go_at_call 24; (with_reducible refine (CC.out _ hI).mono ?_); rintro e w ⟨rfl, rfl⟩))
          go_roundw
          case rel => exact ⟨k + 1, b2, L2, by go_num, by omega, Lib.hid (IW.unbox hI), Lib.hid HP.out.1, Lib.hid hbr⟩
          case measure => simp [intOf] <;> omega
    · obtain rfl : k = len := by omega
      go_wp2_with fail
      go_ret
      exact ⟨rfl, HI.out.below⟩
end Ix
theorem inboxHolds_walk (n room most c : Int) (A : Option Addr) (len cap : Nat) (qs : List Ix.Dq) (W : World) (hn : (Lit.int .u16 n).wf = true) (_hr : (Lit.int .i64 room).wf = true) (_hm : (Lit.int .i64 most).wf = true) (hc : (Lit.int .u32 c).wf = true) (hp : Ix.DosIn W A len cap qs) :
    Calls Try.prog 4 #[.int .u16 n, .int .i64 room, .int .i64 most, .int .u32 c, .slice A len cap] W fun e w' => e = .returned (.bool true) ∧ Below W.heap.size W w' := by
  obtain ⟨n, rfl⟩ : ∃ m : Nat, n = m := ⟨n.toNat, by have := wf_u16 hn; omega⟩
  obtain ⟨c, rfl⟩ : ∃ m : Nat, c = m := ⟨c.toNat, by have := wf_u32 hc; omega⟩
  exact Ix.inboxHolds_main n room most c A len cap qs W (by have := wf_u16 hn; omega) (by have := wf_u32 hc; omega) hp
end Go.Proofs.Ytfjeoioejdkdpaa
