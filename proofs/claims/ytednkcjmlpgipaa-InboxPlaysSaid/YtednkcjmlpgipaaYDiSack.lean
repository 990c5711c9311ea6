/-
  The document's inbox: an acknowledgement of what came.
-/
import Derived.Test.YtednkcjmlpgipaaYP1h
import Derived.Test.YtednkcjmlpgipaaYIxSack
import Derived.Test.YtednkcjmlpgipaaYP1c
namespace Go.Proofs.Ytednkcjmlpgipaa
set_option maxRecDepth 4000
open Go.RowKit Go.Maps
namespace Ix
set_option linter.unusedVariables false
set_option linter.unusedSimpArgs false
open Fg (Pc Ms mv)

section
variable {W w : World} {x : Nat} {b : Ib} {L : List Me} {R : List As}
theorem dsack_fin {i : Dv} {T : Ib} {g : Nat} {cs : Array Value} {t : TypeId} {A1 A2 : Option Addr} {l1 l2 : List Value} (h : Nw W w (RwA A1 l1 :: (i.parts x T L (BkA g cs t :: R)).set 1 (rwith (DSs i.s T.st) A2 l2))) (hf : i.Fit W T L) : Row w A1 l1 ∧ Row w A2 l2 ∧ DX W w x T L R := by
  obtain ⟨F1, r1, _⟩ := h.at (k := 0) rfl
  obtain ⟨F2, r2, _⟩ := h.at (k := 2) (a := rwith (DSs i.s T.st) A2 l2) rfl
  have h2 : Nw W w ((i.parts x T L (BkA g cs t :: R)).set 1 (rwith (DSs i.s T.st) A2 l2)) := h.drop
  have h3 : Nw W w (i.parts x T L (BkA g cs t :: R)) := h2.sub (k := 1) (a := rwith (DSs i.s T.st) A2 l2) (b := DSs i.s T.st) rfl (fun F r => r.1)
  have h4 : Nw W w (i.parts x T L R) := h3.dropAt (k := 6) rfl
  exact ⟨r1.1, r2.2.1, i, h4, hf⟩
theorem dsack_cum {i : Dv} {T : Ib} {a : As} {R' : List As} {A2 : Option Addr} {l2 : List Value} (h : Nw W w (a :: (i.parts x T L R').set 1 (rwith (DSs i.s T.st) A2 l2))) : w.cell? ⟨i.s, 0, none⟩ = some (.int .u32 (T.st.cum : Int)) := by
  obtain ⟨F2, r2, _⟩ := h.at (k := 2) (a := rwith (DSs i.s T.st) A2 l2) rfl
  obtain ⟨vw, v, hsb, _⟩ := r2.1
  exact (hsb.cell 0).trans rfl
set_option maxHeartbeats 4000000 in
theorem dsack_any (h : DX W w x b L R) (ok : b.Ok) :
    Calls Try.prog 17 #[.pointer (some ⟨x, 0, none⟩)] w fun e w' => ∃ A1 c1 A2 c2, e = .returned (.agg #[.int .u8 3, .int .u8 0, .int .u32 0, .int .u32 (b.rwnd : Int), .int .u32 (b.st.cum : Int), .int .u16 0, .int .u16 0, .int .u16 0, .int .u16 0, .int .u32 0, .slice none 0 0, .slice none 0 0, .slice A1 b.st.gaps.length c1, .slice A2 b.st.ds.length c2, .slice none 0 0]) ∧ Row w' A1 (Gp.gs b.st.gaps) ∧ Row w' A2 (ns .u32 b.st.ds) ∧ DX W w' x (b.setSt { b.st with ds := [] }) L R := by
  have HI := Lib.hid h
  have HOK := Lib.hid ok
  clear h ok
  obtain ⟨T, hT⟩ : ∃ T, b.setSt { b.st with ds := [] } = T := ⟨_, rfl⟩
  obtain ⟨rw', hrw⟩ : ∃ r, b.rwnd = r := ⟨_, rfl⟩
  obtain ⟨gl, hgl⟩ : ∃ r, b.st.gaps = r := ⟨_, rfl⟩
  obtain ⟨dl, hdl⟩ : ∃ r, b.st.ds = r := ⟨_, rfl⟩
  obtain ⟨cum, hcu⟩ : ∃ r, b.st.cum = r := ⟨_, rfl⟩
  obtain ⟨n1, hn1⟩ : ∃ n1, gl.length = n1 := ⟨_, rfl⟩
  obtain ⟨n2, hn2⟩ : ∃ n2, dl.length = n2 := ⟨_, rfl⟩
  rw [hT, hrw, hgl, hdl, hcu, hn1, hn2]
  go_enter Try.func17, Try.ntmps17
  go_upto_region 1 with fail
  have HI1 : Hid (DX W (w.alloc (.cells #[.int .u8 0, .int .u8 0, .int .u32 0, .int .u32 0, .int .u32 0, .int .u16 0, .int .u16 0, .int .u16 0, .int .u16 0, .int .u32 0, .slice none 0 0, .slice none 0 0, .slice none 0 0, .slice none 0 0, .slice none 0 0] 47)) x b L _) := Lib.hid (HI.out.box #[.int .u8 0, .int .u8 0, .int .u32 0, .int .u32 0, .int .u32 0, .int .u16 0, .int .u16 0, .int .u16 0, .int .u16 0, .int .u32 0, .slice none 0 0, .slice none 0 0, .slice none 0 0, .slice none 0 0, .slice none 0 0] 47)
  clear HI
  generalize w.alloc (.cells #[.int .u8 0, .int .u8 0, .int .u32 0, .int .u32 0, .int .u32 0, .int .u16 0, .int .u16 0, .int .u16 0, .int .u16 0, .int .u32 0, .slice none 0 0, .slice none 0 0, .slice none 0 0, .slice none 0 0, .slice none 0 0] 47) = w1 at HI1 ⊢
  generalize w.heap.size = g at HI1 ⊢
  have HX1 := HI1
  have hbg := HI1.out.bkR
  have r0 : w1.cell? ⟨g, 0, none⟩ = some (.int .u8 0) := hbg.cell 0
  have f0 := hbg.frozen 0
  have r1 : w1.cell? ⟨g, 1, none⟩ = some (.int .u8 0) := hbg.cell 1
  have f1 := hbg.frozen 1
  have r2 : w1.cell? ⟨g, 2, none⟩ = some (.int .u32 0) := hbg.cell 2
  have f2 := hbg.frozen 2
  have r3 : w1.cell? ⟨g, 3, none⟩ = some (.int .u32 0) := hbg.cell 3
  have f3 := hbg.frozen 3
  have r4 : w1.cell? ⟨g, 4, none⟩ = some (.int .u32 0) := hbg.cell 4
  have f4 := hbg.frozen 4
  have r5 : w1.cell? ⟨g, 5, none⟩ = some (.int .u16 0) := hbg.cell 5
  have f5 := hbg.frozen 5
  have r6 : w1.cell? ⟨g, 6, none⟩ = some (.int .u16 0) := hbg.cell 6
  have f6 := hbg.frozen 6
  have r7 : w1.cell? ⟨g, 7, none⟩ = some (.int .u16 0) := hbg.cell 7
  have f7 := hbg.frozen 7
  have r8 : w1.cell? ⟨g, 8, none⟩ = some (.int .u16 0) := hbg.cell 8
  have f8 := hbg.frozen 8
  have r9 : w1.cell? ⟨g, 9, none⟩ = some (.int .u32 0) := hbg.cell 9
  have f9 := hbg.frozen 9
  have r10 : w1.cell? ⟨g, 10, none⟩ = some (.slice none 0 0) := hbg.cell 10
  have f10 := hbg.frozen 10
  have r11 : w1.cell? ⟨g, 11, none⟩ = some (.slice none 0 0) := hbg.cell 11
  have f11 := hbg.frozen 11
  have r12 : w1.cell? ⟨g, 12, none⟩ = some (.slice none 0 0) := hbg.cell 12
  have f12 := hbg.frozen 12
  have r13 : w1.cell? ⟨g, 13, none⟩ = some (.slice none 0 0) := hbg.cell 13
  have f13 := hbg.frozen 13
  have r14 : w1.cell? ⟨g, 14, none⟩ = some (.slice none 0 0) := hbg.cell 14
  have f14 := hbg.frozen 14
  obtain ⟨i, hN, hf⟩ := HI1.out
  have hS : ∀ w2, Below w1.heap.size w1 w2 → w2.cell? ⟨x, 3, none⟩ = some (.pointer (some ⟨i.s, 0, none⟩)) ∧ w2.cell? ⟨i.s, 0, none⟩ = some (.int .u32 (b.st.cum : Int)) := fun w2 hb => ⟨(((hN.next hb).bk (k := 0) rfl).cell 3).trans dxc_head.2.2.2.1, by
    obtain ⟨F, hp, _⟩ := (hN.next hb).at (k := 1) rfl
    obtain ⟨vw, v, hsb, _⟩ := id hp
    exact (hsb.cell 0).trans rfl⟩
  have HS := Lib.hid hS
  have hwd : Below w1.heap.size w1 w1.drew := (Below.refl _ _).drew
  have hs := hS _ hwd
  have C2 := Lib.hid fun w2 (hb : Below w1.heap.size w1 w2) => drwnd_dx (HX1.out.next hb) HOK.out
  have C3 := Lib.hid fun w2 (hb : Below w1.heap.size w1 w2) => by
    obtain ⟨F, hp, _⟩ := (hN.next hb).at (k := 1) rfl
    exact Gp.rgaps_new w2 F i.s b.st hp
  have hne : ¬ g = x := fun e => by
    have h1 := hN.bk (k := 0) rfl
    have h2 := hbg
    unfold Bk at h1 h2
    rw [e, h1] at h2
    simp at h2
  have hne' : ¬ x = g := fun e => hne e.symm
  have C4 : Hid (∀ a w2, Nw W w2 (a :: i.parts x b L (BkA g #[.int .u8 0, .int .u8 0, .int .u32 0, .int .u32 0, .int .u32 0, .int .u16 0, .int .u16 0, .int .u16 0, .int .u16 0, .int .u32 0, .slice none 0 0, .slice none 0 0, .slice none 0 0, .slice none 0 0, .slice none 0 0] 47 :: R)) → Calls Try.prog 64 #[.pointer (some ⟨i.s, 0, none⟩)] w2 fun e w' => ∃ A c, e = .returned (.slice A b.st.ds.length c) ∧ Nw W w' (a :: (i.parts x T L (BkA g #[.int .u8 0, .int .u8 0, .int .u32 0, .int .u32 0, .int .u32 0, .int .u16 0, .int .u16 0, .int .u16 0, .int .u16 0, .int .u32 0, .slice none 0 0, .slice none 0 0, .slice none 0 0, .slice none 0 0, .slice none 0 0] 47 :: R)).set 1 (rwith (DSs i.s T.st) A (ns .u32 b.st.ds)))) := Lib.hid fun a w2 hn => by
    obtain ⟨F, hp, hh⟩ := hn.turn (k := 2) rfl
    refine (Gp.rtake_any w2 F i.s b.st hp).mono fun e w' ⟨A, c, he, hr, hF, hps, hk⟩ => ⟨A, c, he, ?_⟩
    rw [← hT]
    exact hh w' F (rwith (DSs i.s (b.setSt { b.st with ds := [] }).st) A (ns .u32 b.st.ds)) ⟨hk, fun k h => .inl h⟩ ⟨hps, hr, hF⟩
  have HN := Lib.hid hN
  have hTc : T.st.cum = b.st.cum := by rw [← hT]; rfl
  have hTf : i.Fit W T L := by rw [← hT]; exact ⟨hf.nx, hf.nxs, hf.qs, hf.ws, hf.rd, hf.inw, hf.inr, hf.dat, hf.dq⟩
  have HTC := Lib.hid hTc
  have HTF := Lib.hid hTf
  rw [hrw] at C2
  rw [hgl, hn1] at C3
  rw [hdl, hn2] at C4
  rw [hcu] at HS hs HTC
  clear hT hTc hTf hN hf hS HX1 HI1 hbg hrw hgl hdl hcu hn1 hn2
  go_wp2_with fail
  go_cut [2] from 3 to 22 (fun v2 wx => v2 = .pointer (some ⟨g, 0, none⟩) ∧ ∃ (A1 : Option Addr) (c1 : Nat) (A2 : Option Addr) (c2 : Nat), Hid (Nw W wx (RwA A1 (Gp.gs gl) :: (i.parts x T L (BkA g #[.int .u8 3, .int .u8 0, .int .u32 0, .int .u32 (rw' : Int), .int .u32 (cum : Int), .int .u16 0, .int .u16 0, .int .u16 0, .int .u16 0, .int .u32 0, .slice none 0 0, .slice none 0 0, .slice A1 n1 c1, .slice A2 n2 c2, .slice none 0 0] 47 :: R)).set 1 (rwith (DSs i.s T.st) A2 (ns .u32 dl)))))
  case first =>
    first | go_region_held3 (fun W => W.cell? ⟨x, 3, none⟩ = some (.pointer (some ⟨i.s, 0, none⟩)) ∧ W.cell? ⟨i.s, 0, none⟩ = some (.int .u32 (cum : Int))) (first | (with_reducible exact hs) | (with_reducible exact HS.out _ (by assumption)) | (with_reducible exact hs5) | (with_reducible exact hs6)) ((first
      | (go_at_call 25; (with_reducible refine (C2.out _ ?_).mono ?_); assumption; rintro e w3 ⟨rfl, rfl⟩; have hd3 := bnext (w := w1) (by assumption) (Below.refl _ _).drew)
      | (go_at_call 63; (with_reducible refine (C3.out _ ?_).mono ?_); assumption; rintro e w4 ⟨A1, c1, rfl, hr4, hn4, hb4⟩; have h4 := row_more (HN.out.next (by assumption)) hb4 hr4 hn4; have hd4 := bnext (w := w1) (by assumption) hb4)
      | (go_at_call 64; (with_reducible refine (C4.out _ _ h4).mono ?_); rintro e w5 ⟨A2, c2, rfl, h5⟩; have hs5 : w5.cell? ⟨x, 3, none⟩ = some (.pointer (some ⟨i.s, 0, none⟩)) ∧ w5.cell? ⟨i.s, 0, none⟩ = some (.int .u32 (cum : Int)) := ⟨((h5.bk (k := 1) rfl).cell 3).trans dxc_head.2.2.2.1, (dsack_cum h5).trans (by rw [HTC.out])⟩; have z0 : w5.cell? ⟨g, 0, none⟩ = some (.int .u8 0) := (h5.bk (k := 7) rfl).cell 0; have y0 := (h5.bk (k := 7) rfl).frozen 0; have z1 : w5.cell? ⟨g, 1, none⟩ = some (.int .u8 0) := (h5.bk (k := 7) rfl).cell 1; have y1 := (h5.bk (k := 7) rfl).frozen 1; have z2 : w5.cell? ⟨g, 2, none⟩ = some (.int .u32 0) := (h5.bk (k := 7) rfl).cell 2; have y2 := (h5.bk (k := 7) rfl).frozen 2; have z3 : w5.cell? ⟨g, 3, none⟩ = some (.int .u32 0) := (h5.bk (k := 7) rfl).cell 3; have y3 := (h5.bk (k := 7) rfl).frozen 3; have z4 : w5.cell? ⟨g, 4, none⟩ = some (.int .u32 0) := (h5.bk (k := 7) rfl).cell 4; have y4 := (h5.bk (k := 7) rfl).frozen 4; have z5 : w5.cell? ⟨g, 5, none⟩ = some (.int .u16 0) := (h5.bk (k := 7) rfl).cell 5; have y5 := (h5.bk (k := 7) rfl).frozen 5; have z6 : w5.cell? ⟨g, 6, none⟩ = some (.int .u16 0) := (h5.bk (k := 7) rfl).cell 6; have y6 := (h5.bk (k := 7) rfl).frozen 6; have z7 : w5.cell? ⟨g, 7, none⟩ = some (.int .u16 0) := (h5.bk (k := 7) rfl).cell 7; have y7 := (h5.bk (k := 7) rfl).frozen 7; have z8 : w5.cell? ⟨g, 8, none⟩ = some (.int .u16 0) := (h5.bk (k := 7) rfl).cell 8; have y8 := (h5.bk (k := 7) rfl).frozen 8; have z9 : w5.cell? ⟨g, 9, none⟩ = some (.int .u32 0) := (h5.bk (k := 7) rfl).cell 9; have y9 := (h5.bk (k := 7) rfl).frozen 9; have z10 : w5.cell? ⟨g, 10, none⟩ = some (.slice none 0 0) := (h5.bk (k := 7) rfl).cell 10; have y10 := (h5.bk (k := 7) rfl).frozen 10; have z11 : w5.cell? ⟨g, 11, none⟩ = some (.slice none 0 0) := (h5.bk (k := 7) rfl).cell 11; have y11 := (h5.bk (k := 7) rfl).frozen 11; have z12 : w5.cell? ⟨g, 12, none⟩ = some (.slice none 0 0) := (h5.bk (k := 7) rfl).cell 12; have y12 := (h5.bk (k := 7) rfl).frozen 12; have z13 : w5.cell? ⟨g, 13, none⟩ = some (.slice none 0 0) := (h5.bk (k := 7) rfl).cell 13; have y13 := (h5.bk (k := 7) rfl).frozen 13; have z14 : w5.cell? ⟨g, 14, none⟩ = some (.slice none 0 0) := (h5.bk (k := 7) rfl).cell 14; have y14 := (h5.bk (k := 7) rfl).frozen 14; have hst : Nw W (((((((((((((((w5.setCell ⟨g, 0, none⟩ (.int .u8 3)).setCell ⟨g, 1, none⟩ (.int .u8 0)).setCell ⟨g, 2, none⟩ (.int .u32 0)).setCell ⟨g, 3, none⟩ (.int .u32 (rw' : Int))).setCell ⟨g, 4, none⟩ (.int .u32 (cum : Int))).setCell ⟨g, 5, none⟩ (.int .u16 0)).setCell ⟨g, 6, none⟩ (.int .u16 0)).setCell ⟨g, 7, none⟩ (.int .u16 0)).setCell ⟨g, 8, none⟩ (.int .u16 0)).setCell ⟨g, 9, none⟩ (.int .u32 0)).setCell ⟨g, 10, none⟩ (.slice none 0 0)).setCell ⟨g, 11, none⟩ (.slice none 0 0)).setCell ⟨g, 12, none⟩ (.slice A1 n1 c1)).setCell ⟨g, 13, none⟩ (.slice A2 n2 c2)).setCell ⟨g, 14, none⟩ (.slice none 0 0)) (RwA A1 (Gp.gs gl) :: (i.parts x T L (BkA g #[.int .u8 3, .int .u8 0, .int .u32 0, .int .u32 (rw' : Int), .int .u32 (cum : Int), .int .u16 0, .int .u16 0, .int .u16 0, .int .u16 0, .int .u32 0, .slice none 0 0, .slice none 0 0, .slice A1 n1 c1, .slice A2 n2 c2, .slice none 0 0] 47 :: R)).set 1 (rwith (DSs i.s T.st) A2 (ns .u32 dl))) := fill15 h5 (k := 7) rfl; have hs6 : (((((((((((((((w5.setCell ⟨g, 0, none⟩ (.int .u8 3)).setCell ⟨g, 1, none⟩ (.int .u8 0)).setCell ⟨g, 2, none⟩ (.int .u32 0)).setCell ⟨g, 3, none⟩ (.int .u32 (rw' : Int))).setCell ⟨g, 4, none⟩ (.int .u32 (cum : Int))).setCell ⟨g, 5, none⟩ (.int .u16 0)).setCell ⟨g, 6, none⟩ (.int .u16 0)).setCell ⟨g, 7, none⟩ (.int .u16 0)).setCell ⟨g, 8, none⟩ (.int .u16 0)).setCell ⟨g, 9, none⟩ (.int .u32 0)).setCell ⟨g, 10, none⟩ (.slice none 0 0)).setCell ⟨g, 11, none⟩ (.slice none 0 0)).setCell ⟨g, 12, none⟩ (.slice A1 n1 c1)).setCell ⟨g, 13, none⟩ (.slice A2 n2 c2)).setCell ⟨g, 14, none⟩ (.slice none 0 0)).cell? ⟨x, 3, none⟩ = some (.pointer (some ⟨i.s, 0, none⟩)) ∧ (((((((((((((((w5.setCell ⟨g, 0, none⟩ (.int .u8 3)).setCell ⟨g, 1, none⟩ (.int .u8 0)).setCell ⟨g, 2, none⟩ (.int .u32 0)).setCell ⟨g, 3, none⟩ (.int .u32 (rw' : Int))).setCell ⟨g, 4, none⟩ (.int .u32 (cum : Int))).setCell ⟨g, 5, none⟩ (.int .u16 0)).setCell ⟨g, 6, none⟩ (.int .u16 0)).setCell ⟨g, 7, none⟩ (.int .u16 0)).setCell ⟨g, 8, none⟩ (.int .u16 0)).setCell ⟨g, 9, none⟩ (.int .u32 0)).setCell ⟨g, 10, none⟩ (.slice none 0 0)).setCell ⟨g, 11, none⟩ (.slice none 0 0)).setCell ⟨g, 12, none⟩ (.slice A1 n1 c1)).setCell ⟨g, 13, none⟩ (.slice A2 n2 c2)).setCell ⟨g, 14, none⟩ (.slice none 0 0)).cell? ⟨i.s, 0, none⟩ = some (.int .u32 (cum : Int)) := ⟨((hst.bk (k := 1) rfl).cell 3).trans dxc_head.2.2.2.1, (dsack_cum hst).trans (by rw [HTC.out])⟩; have H6 := Lib.hid hst; clear h5 hst))) | fail
    all_goals
      go_wp2_with fail
      go_meet
      case rel => with_reducible exact ⟨rfl, A1, c1, A2, c2, H6⟩
  case rest =>
    obtain ⟨rfl, A1, c1, A2, c2, H⟩ := hcut
    have h := H.out
    have q0 : wc.cell? ⟨g, 0, none⟩ = some (.int .u8 3) := (h.bk (k := 7) rfl).cell 0
    have q1 : wc.cell? ⟨g, 1, none⟩ = some (.int .u8 0) := (h.bk (k := 7) rfl).cell 1
    have q2 : wc.cell? ⟨g, 2, none⟩ = some (.int .u32 0) := (h.bk (k := 7) rfl).cell 2
    have q3 : wc.cell? ⟨g, 3, none⟩ = some (.int .u32 (rw' : Int)) := (h.bk (k := 7) rfl).cell 3
    have q4 : wc.cell? ⟨g, 4, none⟩ = some (.int .u32 (cum : Int)) := (h.bk (k := 7) rfl).cell 4
    have q5 : wc.cell? ⟨g, 5, none⟩ = some (.int .u16 0) := (h.bk (k := 7) rfl).cell 5
    have q6 : wc.cell? ⟨g, 6, none⟩ = some (.int .u16 0) := (h.bk (k := 7) rfl).cell 6
    have q7 : wc.cell? ⟨g, 7, none⟩ = some (.int .u16 0) := (h.bk (k := 7) rfl).cell 7
    have q8 : wc.cell? ⟨g, 8, none⟩ = some (.int .u16 0) := (h.bk (k := 7) rfl).cell 8
    have q9 : wc.cell? ⟨g, 9, none⟩ = some (.int .u32 0) := (h.bk (k := 7) rfl).cell 9
    have q10 : wc.cell? ⟨g, 10, none⟩ = some (.slice none 0 0) := (h.bk (k := 7) rfl).cell 10
    have q11 : wc.cell? ⟨g, 11, none⟩ = some (.slice none 0 0) := (h.bk (k := 7) rfl).cell 11
    have q12 : wc.cell? ⟨g, 12, none⟩ = some (.slice A1 n1 c1) := (h.bk (k := 7) rfl).cell 12
    have q13 : wc.cell? ⟨g, 13, none⟩ = some (.slice A2 n2 c2) := (h.bk (k := 7) rfl).cell 13
    have q14 : wc.cell? ⟨g, 14, none⟩ = some (.slice none 0 0) := (h.bk (k := 7) rfl).cell 14
    have HF := Lib.hid (dsack_fin h HTF.out)
    clear h H HTF C2 C3 C4 HN HS
    go_wp2_with fail
    refine bodyPost_ret (by simp [results, Try.results17, go_sem, q0, q1, q2, q3, q4, q5, q6, q7, q8, q9, q10, q11, q12, q13, q14, Result.andThen]; try rfl) rfl ?_
    exact ⟨A1, c1, A2, c2, rfl, HF.out.1, HF.out.2.1, HF.out.2.2⟩
end
end Ix
end Go.Proofs.Ytednkcjmlpgipaa
