/-
  The reader of layer 5: side, as it reads a value.
-/
import Derived.Test.YtbliipjiilmbcaaYP1d
namespace Go.Proofs.Ytbliipjiilmbcaa
open Go.RowKit Wire Tlv Chunk Go.Shelf

theorem n4_some (v : List Int) (c : Ck) (i j : Nat) (hj : i + 4 = j) : ∃ z, (⟨v.drop i, c, decide (v.length < i)⟩ : Rt).n4 = (z, ⟨v.drop j, c, decide (v.length < j)⟩) ∧ (Byt v → z < 4294967296) ∧ (j ≤ v.length → z = nn v i 4) := by
  subst hj
  obtain ⟨e1, e2⟩ := Rt.n4_eq ⟨v.drop i, c, decide (v.length < i)⟩
  refine ⟨_, Prod.ext rfl ?_, fun hb => Rt.n4_lt (Byt.drop hb i), fun h => ?_⟩
  · rw [e1]
    simp only [List.drop_drop, List.length_drop]
    congr 1
    rw [Bool.eq_iff_iff]; simp; omega
  · exact (e2 (by simp; omega)).trans (by rw [nn_at h])
theorem n2_some (v : List Int) (c : Ck) (i j : Nat) (hj : i + 2 = j) : ∃ z, (⟨v.drop i, c, decide (v.length < i)⟩ : Rt).n2 = (z, ⟨v.drop j, c, decide (v.length < j)⟩) ∧ (Byt v → z < 65536) ∧ (j ≤ v.length → z = nn v i 2) := by
  subst hj
  refine ⟨nn v i 2, ?_, fun hb => nn_lt2 hb i, fun _ => rfl⟩
  rw [n2_drop]
  congr 2
  rw [Bool.eq_iff_iff]; simp; omega
/-- A reader with nothing in its lists, and the variable that holds where it is. -/
def Sst (w W0 : World) (b bx : Nat) (q : Rt) (W : World) : Prop := ∃ A n cap, Rr w b q nol A n cap W ∧ Ot W0 W b ∧ Bk W bx #[.pointer (some ⟨b, 0, none⟩)] 93
/-- What is asked of side's function. -/
theorem side_asks (w W : World) (b bx : Nat) (c0 : Ck) (hbx : Bk W bx #[.pointer (some ⟨b, 0, none⟩)] 93) (hne : bx ≠ b) (hbW : b < W.heap.size) (hws : w.heap.size ≤ W.heap.size) :
    Asks w W b 91 #[.pointer (some ⟨bx, 0, none⟩)] sst (XS c0) where
  enters := enters_of Try.func91 (by kernel_rfl) rfl
  calm := fun W0 k c s A B _ ⟨aA, ac, dA, dc, h1, h2, h3, h4, h5⟩ hc => ⟨aA, ac, dA, dc, h1, h2, h3, owns_calm h4 hc, owns_calm h5 hc⟩
  set_ := fun W0 k c s A i v hb ⟨aA, ac, dA, dc, h1, h2, h3, h4, h5⟩ => ⟨aA, ac, dA, dc, h1, h2, h3, owns_put h4 (Nat.lt_of_lt_of_le hbW hb.size), owns_put h5 (Nat.lt_of_lt_of_le hbW hb.size)⟩
  more := fun W0 k c s A ⟨aA, ac, dA, dc, h1, h2, ⟨h3, h30⟩, h4, h5⟩ => ⟨aA, ac, dA, dc, h1, h2, ⟨Nat.le_succ_of_le h3, h30⟩, h4, h5⟩
  call := fun W0 k r' q W1 hB hk hp hv hs => side_call c0 w W W0 b bx k r' q W1 hbx hne hbW hws hB hk hp hv hs
theorem side_fin {x : Tv} (hx : x.ok) (hk : x.k = 1 ∨ x.k = 2) (w W Wc W0 W' : World) (b k : Nat) (s' : Ls) (v1 v2 v3 v4 v5 : Nat) (l1 : v1 < 4294967296) (l2 : v2 < 4294967296) (l3 : v3 < 65536) (l4 : v4 < 65536) (l5 : v5 < 4294967296)
    (k1 : 4 ≤ x.v.length → v1 = nn x.v 0 4) (k2 : 8 ≤ x.v.length → v2 = nn x.v 4 4) (k3 : 10 ≤ x.v.length → v3 = nn x.v 8 2) (k4 : 12 ≤ x.v.length → v4 = nn x.v 10 2) (k5 : 16 ≤ x.v.length → v5 = nn x.v 12 4)
    (q : Rt) (hq : q = ⟨x.v.drop 16, { bare x with tag := v1, rw := v2, out := v3, inn := v4, tsn := v5 }, decide (x.v.length < 16)⟩) (hot : Ot W Wc b) (hB : Below Wc.heap.size Wc W0) (hk2 : k ≤ 20000)
    (hr : Rr w b ⟨[], (gone sst q (ev false q.l)).c, (gone sst q (ev false q.l)).bad⟩ s' none 0 0 W') (ho : Ot Wc W' b) (hX : XS q.c W0 k (gone sst q (ev false q.l)).c s' W') : FOut w b x W (.returned (.tuple #[])) W' := by
  refine ⟨rfl, _, _, _, _, _, hr, hot.trans ho, fun hb _ => ?_, ?_⟩
  · obtain ⟨aA, ac, dA, dc, rfl, hc, ⟨h1, h2, h3, h4⟩, h5, h6⟩ := hX
    have hbo := bare_ok hx (by omega)
    refine (ch_side ?_ (by rw [hc, hq]; rfl) (by rw [hc, hq]; rfl) (by rw [hc, hq]; rfl) (by omega) (by omega) h5 h6).lower (Nat.le_trans hot.size hB.size)
    show Ck.ok (gone sst q (ev false q.l)).c
    rw [hc, hq]
    rw [hq] at h2 h3
    exact { hbo with tag := l1, rw := l2, out := l3, inn := l4, tsn := l5, ad := h2, da := h3 }
  · rw [take_mayO (by omega), raw_side hk]
    by_cases h16 : 16 ≤ x.v.length
    · rw [if_pos h16, ← k1 (by omega), ← k2 (by omega), ← k3 (by omega), ← k4 (by omega), ← k5 h16]
      have hbf : decide (x.v.length < 16) = false := by simp; omega
      rw [hbf] at hq
      subst hq
      exact gone_prr _ _ rfl (by simp [bare, zero]) (fun _ => rfl)
    · rw [if_neg h16, fin_dead (dead_gone _ (.inl (by rw [hq]; simp; omega)))]
      rfl
set_option maxRecDepth 100000 in
set_option maxHeartbeats 4000000 in
theorem side_f (w W : World) (b : Nat) (x : Tv) (A : Option Addr) (n cap : Nat) (hx : x.ok) (hk : x.k = 1 ∨ x.k = 2) (h : Rr w b (r0 x) nol A n cap W) :
    Calls Try.prog 62 #[.pointer (some ⟨b, 0, none⟩)] W (FOut w b x W) := by
  obtain ⟨v1, e1, l1, k1⟩ := n4_some x.v (bare x) 0 4 rfl
  obtain ⟨v2, e2, l2, k2⟩ := n4_some x.v { bare x with tag := v1 } 4 8 rfl
  obtain ⟨v3, e3, l3, k3⟩ := n2_some x.v { bare x with tag := v1, rw := v2 } 8 10 rfl
  obtain ⟨v4, e4, l4, k4⟩ := n2_some x.v { bare x with tag := v1, rw := v2, out := v3 } 10 12 rfl
  obtain ⟨v5, e5, l5, k5⟩ := n4_some x.v { bare x with tag := v1, rw := v2, out := v3, inn := v4 } 12 16 rfl
  have hby : Byt x.v := hx.2.2
  have hlt := h.bk.lt
  have hws : w.heap.size ≤ W.heap.size := h.bl.size
  obtain ⟨q0, hq0⟩ : ∃ q : Rt, q = ⟨x.v.drop 0, bare x, decide (x.v.length < 0)⟩ := ⟨_, rfl⟩
  obtain ⟨p1, hp1⟩ : ∃ q : Rt, q = ⟨x.v.drop 4, bare x, decide (x.v.length < 4)⟩ := ⟨_, rfl⟩
  obtain ⟨q1, hq1⟩ : ∃ q : Rt, q = ⟨x.v.drop 4, { bare x with tag := v1 }, decide (x.v.length < 4)⟩ := ⟨_, rfl⟩
  obtain ⟨p2, hp2⟩ : ∃ q : Rt, q = ⟨x.v.drop 8, { bare x with tag := v1 }, decide (x.v.length < 8)⟩ := ⟨_, rfl⟩
  obtain ⟨q2, hq2⟩ : ∃ q : Rt, q = ⟨x.v.drop 8, { bare x with tag := v1, rw := v2 }, decide (x.v.length < 8)⟩ := ⟨_, rfl⟩
  obtain ⟨p3, hp3⟩ : ∃ q : Rt, q = ⟨x.v.drop 10, { bare x with tag := v1, rw := v2 }, decide (x.v.length < 10)⟩ := ⟨_, rfl⟩
  obtain ⟨q3, hq3⟩ : ∃ q : Rt, q = ⟨x.v.drop 10, { bare x with tag := v1, rw := v2, out := v3 }, decide (x.v.length < 10)⟩ := ⟨_, rfl⟩
  obtain ⟨p4, hp4⟩ : ∃ q : Rt, q = ⟨x.v.drop 12, { bare x with tag := v1, rw := v2, out := v3 }, decide (x.v.length < 12)⟩ := ⟨_, rfl⟩
  obtain ⟨q4, hq4⟩ : ∃ q : Rt, q = ⟨x.v.drop 12, { bare x with tag := v1, rw := v2, out := v3, inn := v4 }, decide (x.v.length < 12)⟩ := ⟨_, rfl⟩
  obtain ⟨p5, hp5⟩ : ∃ q : Rt, q = ⟨x.v.drop 16, { bare x with tag := v1, rw := v2, out := v3, inn := v4 }, decide (x.v.length < 16)⟩ := ⟨_, rfl⟩
  obtain ⟨q5, hq5⟩ : ∃ q : Rt, q = ⟨x.v.drop 16, { bare x with tag := v1, rw := v2, out := v3, inn := v4, tsn := v5 }, decide (x.v.length < 16)⟩ := ⟨_, rfl⟩
  have HF1 : Hid (∀ W A n cap, Rr w b q0 nol A n cap W → Calls Try.prog 88 #[.pointer (some ⟨b, 0, none⟩)] W (NOut w b p1 nol (.int .u32 (v1 : Int)) W)) := Lib.hid fun W A n cap h => by
    rw [hq0] at h
    have := four_r w W b _ nol A n cap h
    rw [e1] at this
    rw [hp1]
    exact this
  have HQ1 : Hid (∀ W A n cap, Rr w b p1 nol A n cap W → Rr w b q1 nol A n cap (W.setCell ⟨b, 3, none⟩ (.int .u32 (v1 : Int)))) := Lib.hid fun W A n cap h => by
    rw [hp1] at h
    rw [hq1]
    exact h.put 3 (.int .u32 (v1 : Int)) _ (rv_tag _ _ _ _ _ _ v1)
  have HF2 : Hid (∀ W A n cap, Rr w b q1 nol A n cap W → Calls Try.prog 88 #[.pointer (some ⟨b, 0, none⟩)] W (NOut w b p2 nol (.int .u32 (v2 : Int)) W)) := Lib.hid fun W A n cap h => by
    rw [hq1] at h
    have := four_r w W b _ nol A n cap h
    rw [e2] at this
    rw [hp2]
    exact this
  have HQ2 : Hid (∀ W A n cap, Rr w b p2 nol A n cap W → Rr w b q2 nol A n cap (W.setCell ⟨b, 4, none⟩ (.int .u32 (v2 : Int)))) := Lib.hid fun W A n cap h => by
    rw [hp2] at h
    rw [hq2]
    exact h.put 4 (.int .u32 (v2 : Int)) _ (rv_rw _ _ _ _ _ _ v2)
  have HF3 : Hid (∀ W A n cap, Rr w b q2 nol A n cap W → Calls Try.prog 89 #[.pointer (some ⟨b, 0, none⟩)] W (NOut w b p3 nol (.int .u16 (v3 : Int)) W)) := Lib.hid fun W A n cap h => by
    rw [hq2] at h
    have := two_r w W b _ nol A n cap h
    rw [e3] at this
    rw [hp3]
    exact this
  have HQ3 : Hid (∀ W A n cap, Rr w b p3 nol A n cap W → Rr w b q3 nol A n cap (W.setCell ⟨b, 6, none⟩ (.int .u16 (v3 : Int)))) := Lib.hid fun W A n cap h => by
    rw [hp3] at h
    rw [hq3]
    exact h.put 6 (.int .u16 (v3 : Int)) _ (rv_out _ _ _ _ _ _ v3)
  have HF4 : Hid (∀ W A n cap, Rr w b q3 nol A n cap W → Calls Try.prog 89 #[.pointer (some ⟨b, 0, none⟩)] W (NOut w b p4 nol (.int .u16 (v4 : Int)) W)) := Lib.hid fun W A n cap h => by
    rw [hq3] at h
    have := two_r w W b _ nol A n cap h
    rw [e4] at this
    rw [hp4]
    exact this
  have HQ4 : Hid (∀ W A n cap, Rr w b p4 nol A n cap W → Rr w b q4 nol A n cap (W.setCell ⟨b, 7, none⟩ (.int .u16 (v4 : Int)))) := Lib.hid fun W A n cap h => by
    rw [hp4] at h
    rw [hq4]
    exact h.put 7 (.int .u16 (v4 : Int)) _ (rv_in _ _ _ _ _ _ v4)
  have HF5 : Hid (∀ W A n cap, Rr w b q4 nol A n cap W → Calls Try.prog 88 #[.pointer (some ⟨b, 0, none⟩)] W (NOut w b p5 nol (.int .u32 (v5 : Int)) W)) := Lib.hid fun W A n cap h => by
    rw [hq4] at h
    have := four_r w W b _ nol A n cap h
    rw [e5] at this
    rw [hp5]
    exact this
  have HQ5 : Hid (∀ W A n cap, Rr w b p5 nol A n cap W → Rr w b q5 nol A n cap (W.setCell ⟨b, 5, none⟩ (.int .u32 (v5 : Int)))) := Lib.hid fun W A n cap h => by
    rw [hp5] at h
    rw [hq5]
    exact h.put 5 (.int .u32 (v5 : Int)) _ (rv_tsn _ _ _ _ _ _ v5)
  have hr0 : r0 x = q0 := by rw [hq0]; simp [r0]
  rw [hr0] at h
  have hal : Below W.heap.size W (W.alloc (.cells #[.pointer (some ⟨b, 0, none⟩)] 93)) := (Below.refl _ _).alloc (Nat.le_refl _) _
  have HS0 : Hid (Sst w W b W.heap.size q0 (W.alloc (.cells #[.pointer (some ⟨b, 0, none⟩)] 93))) := Lib.hid ⟨A, n, cap, h.next hal, Ot.below b hal, Bk.new W _ _⟩
  have HFIN := Lib.hid (fun Wc W0 W' k s' => side_fin hx hk w W Wc W0 W' b k s' v1 v2 v3 v4 v5 (l1 hby) (l2 hby) (l3 hby) (l4 hby) (l5 hby) k1 k2 k3 k4 k5 q5 hq5)
  have HQ5E := Lib.hid hq5
  have hne : W.heap.size ≠ b := by omega
  clear h e1 e2 e3 e4 e5 l1 l2 l3 l4 l5 k1 k2 k3 k4 k5 hq0 hq1 hq2 hq3 hq4 hq5 hp1 hp2 hp3 hp4 hp5 hr0 hal hby hk hx
  go_enter Try.func62, Try.ntmps62
  go_upto_region 1 with fail
  generalize World.alloc W _ = Wa at HS0 ⊢
  obtain ⟨bx, hbx⟩ : ∃ bx, W.heap.size = bx := ⟨_, rfl⟩
  have HBX := Lib.hid hbx
  rw [hbx] at HS0 hne
  rw [hbx]
  clear hbx
  go_cut [4] from 2 to 7 (fun _ wx => Hid (Sst w W b bx q1 wx))
  case first =>
    obtain ⟨B, m, mc, hrr, hot, hbk⟩ := HS0.out
    have hrd := hrr.drew
    have HOD := Lib.hid hot.drew
    have HBD := Lib.hid hbk.drew
    have x0 := hbk.drew.cell 0
    simp at x0
    clear hrr hot hbk HS0
    first | go_region_law (first | (go_simp; go_at_call 88; (with_reducible refine (HF1.out _ _ _ _ hrd).mono ?_); rintro e wQ ⟨AQ, nQ, cQ, rfl, hrQ, hoQ⟩; have hbQ := HBD.out.ot hoQ hne; have y0 := hbQ.cell 0; simp at y0; have HBQ := Lib.hid hbQ; have HRQ := Lib.hid hrQ; have HOQ := Lib.hid (HOD.out.trans hoQ); have g3 := hrQ.bk.r3; have f3 := hrQ.bk.frozen 3; clear hbQ hrQ hoQ)) | fail
    all_goals
      have HN : Hid (Sst w W b bx q1 (wQ.setCell ⟨b, 3, none⟩ (.int .u32 (v1 : Int)))) := Lib.hid ⟨AQ, nQ, cQ, HQ1.out _ _ _ _ HRQ.out, HOQ.out.set 3 _, HBQ.out.other hne 3 _⟩
      go_wp2_with fail
      go_meet
      case rel => exact HN
  case rest =>
    clear HF1 HQ1 HS0
    go_upto_region 2 with fail
    go_cut [10] from 8 to 13 (fun _ wx => Hid (Sst w W b bx q2 wx))
    case first =>
      obtain ⟨B, m, mc, hrr, hot, hbk⟩ := hcut.out
      have hrd := hrr.drew
      have HOD := Lib.hid hot.drew
      have HBD := Lib.hid hbk.drew
      have x0 := hbk.drew.cell 0
      simp at x0
      clear hrr hot hbk hcut
      first | go_region_law (first | (go_simp; go_at_call 88; (with_reducible refine (HF2.out _ _ _ _ hrd).mono ?_); rintro e wQ ⟨AQ, nQ, cQ, rfl, hrQ, hoQ⟩; have hbQ := HBD.out.ot hoQ hne; have y0 := hbQ.cell 0; simp at y0; have HBQ := Lib.hid hbQ; have HRQ := Lib.hid hrQ; have HOQ := Lib.hid (HOD.out.trans hoQ); have g4 := hrQ.bk.r4; have f4 := hrQ.bk.frozen 4; clear hbQ hrQ hoQ)) | fail
      all_goals
        have HN : Hid (Sst w W b bx q2 (wQ.setCell ⟨b, 4, none⟩ (.int .u32 (v2 : Int)))) := Lib.hid ⟨AQ, nQ, cQ, HQ2.out _ _ _ _ HRQ.out, HOQ.out.set 4 _, HBQ.out.other hne 4 _⟩
        go_wp2_with fail
        go_meet
        case rel => exact HN
    case rest =>
      clear HF2 HQ2
      go_upto_region 3 with fail
      go_cut [16] from 14 to 19 (fun _ wx => Hid (Sst w W b bx q3 wx))
      case first =>
        obtain ⟨B, m, mc, hrr, hot, hbk⟩ := hcut.out
        have hrd := hrr.drew
        have HOD := Lib.hid hot.drew
        have HBD := Lib.hid hbk.drew
        have x0 := hbk.drew.cell 0
        simp at x0
        clear hrr hot hbk hcut
        first | go_region_law (first | (go_simp; go_at_call 89; (with_reducible refine (HF3.out _ _ _ _ hrd).mono ?_); rintro e wQ ⟨AQ, nQ, cQ, rfl, hrQ, hoQ⟩; have hbQ := HBD.out.ot hoQ hne; have y0 := hbQ.cell 0; simp at y0; have HBQ := Lib.hid hbQ; have HRQ := Lib.hid hrQ; have HOQ := Lib.hid (HOD.out.trans hoQ); have g6 := hrQ.bk.r6; have f6 := hrQ.bk.frozen 6; clear hbQ hrQ hoQ)) | fail
        all_goals
          have HN : Hid (Sst w W b bx q3 (wQ.setCell ⟨b, 6, none⟩ (.int .u16 (v3 : Int)))) := Lib.hid ⟨AQ, nQ, cQ, HQ3.out _ _ _ _ HRQ.out, HOQ.out.set 6 _, HBQ.out.other hne 6 _⟩
          go_wp2_with fail
          go_meet
          case rel => exact HN
      case rest =>
        clear HF3 HQ3
        go_upto_region 4 with fail
        go_cut [22] from 20 to 25 (fun _ wx => Hid (Sst w W b bx q4 wx))
        case first =>
          obtain ⟨B, m, mc, hrr, hot, hbk⟩ := hcut.out
          have hrd := hrr.drew
          have HOD := Lib.hid hot.drew
          have HBD := Lib.hid hbk.drew
          have x0 := hbk.drew.cell 0
          simp at x0
          clear hrr hot hbk hcut
          first | go_region_law (first | (go_simp; go_at_call 89; (with_reducible refine (HF4.out _ _ _ _ hrd).mono ?_); rintro e wQ ⟨AQ, nQ, cQ, rfl, hrQ, hoQ⟩; have hbQ := HBD.out.ot hoQ hne; have y0 := hbQ.cell 0; simp at y0; have HBQ := Lib.hid hbQ; have HRQ := Lib.hid hrQ; have HOQ := Lib.hid (HOD.out.trans hoQ); have g7 := hrQ.bk.r7; have f7 := hrQ.bk.frozen 7; clear hbQ hrQ hoQ)) | fail
          all_goals
            have HN : Hid (Sst w W b bx q4 (wQ.setCell ⟨b, 7, none⟩ (.int .u16 (v4 : Int)))) := Lib.hid ⟨AQ, nQ, cQ, HQ4.out _ _ _ _ HRQ.out, HOQ.out.set 7 _, HBQ.out.other hne 7 _⟩
            go_wp2_with fail
            go_meet
            case rel => exact HN
        case rest =>
          clear HF4 HQ4
          go_upto_region 5 with fail
          go_cut [28] from 26 to 31 (fun _ wx => Hid (Sst w W b bx q5 wx))
          case first =>
            obtain ⟨B, m, mc, hrr, hot, hbk⟩ := hcut.out
            have hrd := hrr.drew
            have HOD := Lib.hid hot.drew
            have HBD := Lib.hid hbk.drew
            have x0 := hbk.drew.cell 0
            simp at x0
            clear hrr hot hbk hcut
            first | go_region_law (first | (go_simp; go_at_call 88; (with_reducible refine (HF5.out _ _ _ _ hrd).mono ?_); rintro e wQ ⟨AQ, nQ, cQ, rfl, hrQ, hoQ⟩; have hbQ := HBD.out.ot hoQ hne; have y0 := hbQ.cell 0; simp at y0; have HBQ := Lib.hid hbQ; have HRQ := Lib.hid hrQ; have HOQ := Lib.hid (HOD.out.trans hoQ); have g5 := hrQ.bk.r5; have f5 := hrQ.bk.frozen 5; clear hbQ hrQ hoQ)) | fail
            all_goals
              have HN : Hid (Sst w W b bx q5 (wQ.setCell ⟨b, 5, none⟩ (.int .u32 (v5 : Int)))) := Lib.hid ⟨AQ, nQ, cQ, HQ5.out _ _ _ _ HRQ.out, HOQ.out.set 5 _, HBQ.out.other hne 5 _⟩
              go_wp2_with fail
              go_meet
              case rel => exact HN
          case rest =>
            clear HF5 HQ5
            obtain ⟨B, m, mc, hrr, hot, hbk⟩ := hcut.out
            have hbW := hrr.bk.lt
            have x0 := hbk.cell 0
            simp at x0
            have HOT := Lib.hid hot
            have HQ5C : Hid (∀ W0, XS q5.c W0 0 q5.c nol W0) := Lib.hid fun W0 => by rw [HQ5E.out]; exact ⟨none, 0, none, 0, rfl, rfl, ⟨Nat.le_refl _, (fun a ha => by simp [bare, zero] at ha), (fun a ha => by simp [bare, zero] at ha), Nat.zero_le _⟩, World.ownsRow_nil _ _ _ _, World.ownsRow_nil _ _ _ _⟩
            have HPA := Lib.hid (params_r w wc b q5 nol B m mc hrr 91 #[.pointer (some ⟨bx, 0, none⟩)] sst (XS q5.c) (fun W0 _ => HQ5C.out W0) (side_asks w wc b bx q5.c hbk hne hbW hrr.bl.size))
            clear hrr hot hbk hcut
            go_wp2_with fail
            (with_reducible refine HPA.out.mono ?_)
            rintro e W9 ⟨rfl, W0, k, s', hB, hk2, hr9, ho9, hX9⟩
            have HF := Lib.hid (HFIN.out wc W0 W9 k s' HOT.out hB hk2 hr9 ho9 hX9)
            clear hB hr9 ho9 hX9 HPA HFIN
            go_wp2_with fail
            go_end0
            exact HF.out
end Go.Proofs.Ytbliipjiilmbcaa
