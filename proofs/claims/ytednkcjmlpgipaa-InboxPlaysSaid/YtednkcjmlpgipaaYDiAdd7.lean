/-
  The document's inbox: a piece comes: one way.
-/
import Derived.Test.YtednkcjmlpgipaaYP1i
import Derived.Deep.RegionHeld3
import Derived.Deep.RegionWith
import Derived.Deep.CutRange
import Derived.BigQuiet
import Derived.Handy
namespace Go.Proofs.Ytednkcjmlpgipaa
set_option maxRecDepth 4000
open Go.RowKit Go.Maps
namespace Ix
set_option linter.unusedVariables false
set_option linter.unusedSimpArgs false
open Fg (Pc Ms mv Pq put)

section
variable {W w : World} {x : Nat} {b : Ib} {L : List Me} {R : List As}
set_option maxHeartbeats 8000000 in
theorem dadd_later_none (h : DX W w x b L R) (ok : b.Ok) (hk : b.K.length ≤ 800) (t f si ns pp : Nat) (d : List Int) (A : Option Addr) (k c : Nat) (hq : (⟨t, f, si, ns, pp, d⟩ : Pc).Ok) (hp : Pin W (⟨t, f, si, ns, pp, d⟩, (A, k, c))) (hkl : k ≤ 4000000) (hd1 : 1 ≤ d.length) (hbh : b.st.has t = false) {wy : Nat} (hwy : Gp.wy b.st.cum t = wy) (hfar : ¬ 65535 < wy) (hw1 : ¬ wy = 1) (hbf : b.fits ⟨t, f, si, ns, pp, d⟩ = true) (hsi : si < b.nx.length) (hpr : (put b.K ⟨t, f, si, ns, pp, d⟩).2 = none) :
    Calls Try.prog 12 #[.pointer (some ⟨x, 0, none⟩), .agg #[.int .u32 (t : Int), .int .u8 (f : Int), .int .u16 (si : Int), .int .u16 (ns : Int), .int .u32 (pp : Int), .slice A k c]] w fun e w' => e = .returned (.int .i64 ((b.add ⟨t, f, si, ns, pp, d⟩).2 : Nat)) ∧ ∃ L', DX W w' x (b.add ⟨t, f, si, ns, pp, d⟩).1 L' R := by
  have HB := Lib.hid (h.box #[.int .u32 (t : Int), .int .u8 (f : Int), .int .u16 (si : Int), .int .u16 (ns : Int), .int .u32 (pp : Int), .slice A k c] 33)
  have HO := Lib.hid ok
  have HQ := Lib.hid hq
  have HP := Lib.hid hp
  have HKK := Lib.hid hk
  have hdl : d.length = k := hp.1
  have HDL := Lib.hid hdl
  have ht : t < 4294967296 := hq.t
  clear h ok hq hp hk
  have HSI := Lib.hid hsi
  clear hsi
  have HPR0 := Lib.hid hpr
  clear hpr
  have HBF := Lib.hid hbf
  have HBH := Lib.hid hbh
  have HWY := Lib.hid hwy
  clear hbf hbh hwy
  have hk0 : ((k : Int) == 0) = false := by rw [beq_eq_false_iff_ne]; omega
  have HD1 := Lib.hid hd1
  clear hd1 hdl
  go_enter Try.func12, Try.ntmps12
  go_upto_region 1 with fail
  generalize w.alloc _ = w1 at HB ⊢
  generalize w.heap.size = g at HB ⊢
  have p5 : w1.cell? ⟨g, 5, none⟩ = some (.slice A k c) := HB.out.bkR.cell 5
  go_upto_region 3 with fail
  have p0 : w1.cell? ⟨g, 0, none⟩ = some (.int .u32 (t : Int)) := HB.out.bkR.cell 0
  obtain ⟨s, hs⟩ := HB.out.set ht
  obtain ⟨c3, cs, _, _⟩ := hs w1 (Below.refl _ _)
  have hcum : b.st.cum < 4294967296 := HO.out.st.1
  have HCU := Lib.hid hcum
  have CW := Lib.hid fun W => Gp.rway_any b.st.cum t W hcum ht
  rw [HWY.out] at CW
  obtain ⟨cu, hcu⟩ : ∃ cu, b.st.cum = cu := ⟨_, rfl⟩
  rw [hcu] at cs CW hcum
  have HCE := Lib.hid hcu
  clear hcu hs
  have q1 : IntKind.i64.wrap (cu : Int) = (cu : Int) := i64_small (by omega)
  have q2 : IntKind.i64.wrap (t : Int) = (t : Int) := i64_small (by omega)
  have q3 : wrap64 (cu : Int) = (cu : Int) := by unfold wrap64; omega
  have q4 : wrap64 (t : Int) = (t : Int) := by unfold wrap64; omega
  go_quiet ((go_at_call 56; exact Calls.quiet_of_same ((CW.out _).mono fun _ _ ⟨h1, h2⟩ => ⟨h1, h2.symm⟩)))
  have HB2 := Lib.hid (HB.out.next (w' := w1.drewN nq) ⟨rfl, rfl, rfl, Nat.le_refl _, fun _ _ => rfl⟩)
  clear HB p0 p5 c3 cs CW q1 q2 q3 q4 hcum
  generalize w1.drewN nq = w2 at HB2 ⊢
  go_upto_region 4 with fail
  have p0 : w2.cell? ⟨g, 0, none⟩ = some (.int .u32 (t : Int)) := HB2.out.bkR.cell 0
  obtain ⟨s, hs⟩ := HB2.out.set ht
  obtain ⟨c3, _, _, _⟩ := hs w2 (Below.refl _ _)
  have HS := Lib.hid hs
  have CH := Lib.hid fun q : Nat => (by
    have h1 := (HS.out (w2.drewN q) ⟨rfl, rfl, rfl, Nat.le_refl _, fun _ _ => rfl⟩).2.2.1
    rw [HBH.out] at h1
    exact h1 : Calls Try.prog 57 #[.pointer (some ⟨s, 0, none⟩), .int .u32 (t : Int)] (w2.drewN q) fun e w' => e = .returned (.bool false) ∧ (w2.drewN q) = w')
  clear hs
  go_quiet ((go_at_call 57; exact Calls.quiet_of_same ((CH.out _).mono fun _ _ ⟨h1, h2⟩ => ⟨h1, h2.symm⟩)))
  have HB3 := Lib.hid (HB2.out.next (w' := w2.drewN nq) ⟨rfl, rfl, rfl, Nat.le_refl _, fun _ _ => rfl⟩)
  clear HB2 p0 c3 HS CH
  generalize w2.drewN nq = w3 at HB3 ⊢
  have p0 : w3.cell? ⟨g, 0, none⟩ = some (.int .u32 (t : Int)) := HB3.out.bkR.cell 0
  obtain ⟨s, hs⟩ := HB3.out.set ht
  obtain ⟨c3, _, _, _⟩ := hs w3 (Below.refl _ _)
  have CA := Lib.hid fun w9 hb => (hs w9 hb).2.2.2
  clear hs
  have hf2 : decide ((65535 : Int) < (wy : Int)) = false := decide_eq_false (by omega)
  have HFR : Hid (¬ b.fresh t = false) := Lib.hid (fresh_is (y := ⟨t, f, si, ns, pp, d⟩) HBH.out (by show ¬ 65535 < Gp.wy b.st.cum t; rw [HWY.out]; exact hfar))
  obtain ⟨i0, i1, i2⟩ := HB3.out.head
  have hr1 := HO.out.room
  have hr2 := HO.out.most
  have hr3 := HO.out.held
  obtain ⟨hh, hhh⟩ : ∃ hh, b.held = hh := ⟨_, rfl⟩
  obtain ⟨rr, hrr⟩ : ∃ rr, b.room = rr := ⟨_, rfl⟩
  obtain ⟨mm, hmm⟩ : ∃ mm, b.most = mm := ⟨_, rfl⟩
  rw [hrr] at i1 hr1 hr3
  rw [hmm] at i2 hr2
  rw [hhh] at hr3
  have hff1 : wy = 1 → decide ((rr : Int) < (hh : Int) + (k : Int)) = !true := fun h1 => by
    have h2 := fits_first (b := b) (y := ⟨t, f, si, ns, pp, d⟩) HCU.out ht (by show Gp.wy b.st.cum t = 1; rw [HWY.out]; exact h1)
    rw [← HBF.out, h2, hhh, hrr]
    show _ = !decide (hh + d.length ≤ rr)
    rw [HDL.out]
    by_cases h3 : hh + k ≤ rr
    · rw [decide_eq_true h3, decide_eq_false (by omega)]; rfl
    · rw [decide_eq_false h3, decide_eq_true (by omega)]; rfl
  have hff2 : ¬ wy = 1 → decide ((rr : Int) - (mm : Int) < (hh : Int) + (k : Int)) = !true := fun h1 => by
    have h2 := fits_later (b := b) (y := ⟨t, f, si, ns, pp, d⟩) HCU.out (by show ¬ Gp.wy b.st.cum t = 1; rw [HWY.out]; exact h1)
    rw [← HBF.out, h2, hhh, hrr, hmm]
    show _ = !decide (hh + d.length + mm ≤ rr)
    rw [HDL.out]
    by_cases h3 : hh + k + mm ≤ rr
    · rw [decide_eq_true h3, decide_eq_false (by omega)]; rfl
    · rw [decide_eq_false h3, decide_eq_true (by omega)]; rfl
  have hfle : true = true → hh + k ≤ rr := fun h1 => by
    have h2 := fits_le (b := b) (x := ⟨t, f, si, ns, pp, d⟩) HBF.out
    rw [hhh, hrr] at h2
    have h3 : hh + d.length ≤ rr := h2
    rw [HDL.out] at h3
    exact h3
  have HLE := Lib.hid hfle
  have HHH := Lib.hid hhh
  have HRR := Lib.hid hrr
  have s1 : wrap64 ((hh : Int) + (k : Int)) = (hh : Int) + (k : Int) := by unfold wrap64; omega
  have s2 : IntKind.i64.wrap ((hh : Int) + (k : Int)) = (hh : Int) + (k : Int) := i64_small (by omega)
  have s3 : wrap64 ((rr : Int) - (mm : Int)) = (rr : Int) - (mm : Int) := by unfold wrap64; omega
  have s4 : IntKind.i64.wrap ((rr : Int) - (mm : Int)) = (rr : Int) - (mm : Int) := by
    simp [IntKind.wrap, IntKind.signed, IntKind.bits]
    omega
  have hm3 : hh ≤ 1048576 := by omega
  have HM3 := Lib.hid hr1
  clear hhh hrr hmm hr1 hr2 hr3 hfle hfar CA
  have hd := hff2 hw1
  have e1 : ((wy : Int) == 1) = false := by rw [beq_eq_false_iff_ne]; omega
  have e1b : ((wy : Int) != 1) = true := by simp; omega
  clear hff1 hff2 hw1
  go_upto_region 11 with fail
  go_quiet (fail)
  have HB4 := Lib.hid (HB3.out.next (w' := w3.drewN nq) ⟨rfl, rfl, rfl, Nat.le_refl _, fun _ _ => rfl⟩)
  clear HB3 p0 c3 i0 i1 i2
  generalize w3.drewN nq = w4 at HB4 ⊢
  go_upto_region 12 with fail
  (try rw [e1b])
  have p5 : w4.cell? ⟨g, 5, none⟩ = some (.slice A k c) := HB4.out.bkR.cell 5
  have CD := Lib.hid fun q : Nat => (by
    have h1 := dheld_dx (HB4.out.next (w' := w4.drewN q) ⟨rfl, rfl, rfl, Nat.le_refl _, fun _ _ => rfl⟩) HO.out
    rw [HHH.out] at h1
    exact h1 : Calls Try.prog 23 #[.pointer (some ⟨x, 0, none⟩)] (w4.drewN q) fun e w' => e = .returned (.int .i64 (hh : Int)) ∧ (w4.drewN q) = w')
  go_quiet ((go_at_call 23; exact Calls.quiet_of_same ((CD.out _).mono fun _ _ ⟨h1, h2⟩ => ⟨h1, h2.symm⟩)))
  have HB5 := Lib.hid (HB4.out.next (w' := w4.drewN nq) ⟨rfl, rfl, rfl, Nat.le_refl _, fun _ _ => rfl⟩)
  clear HB4 p5 CD s1 s2 s3 s4
  generalize w4.drewN nq = w5 at HB5 ⊢
  simp only [Bool.not_true] at hd
  go_upto_region 14 with fail
  clear hd hf2
  go_cut [] from 65 to 71 (fun wx => Hid (DX W wx x (b.noted t) L (BkA g #[.int .u32 (t : Int), .int .u8 (f : Int), .int .u16 (si : Int), .int .u16 (ns : Int), .int .u32 (pp : Int), .slice A k c] 33 :: R)))
  case first =>
    have p0 : w5.cell? ⟨g, 0, none⟩ = some (.int .u32 (t : Int)) := HB5.out.bkR.cell 0
    obtain ⟨s, hs⟩ := HB5.out.set ht
    obtain ⟨c3, _, _, _⟩ := hs w5 (Below.refl _ _)
    have CA := Lib.hid fun w9 hb => (hs w9 hb).2.2.2
    clear hs
    first | go_region_with ((go_at_call 58; (with_reducible refine (CA.out _ ?_).mono ?_); first | exact Below.refl _ _ | exact (Below.refl _ _).drew; rintro e w9 ⟨rfl, h9⟩; have H9 := Lib.hid h9; clear h9)) | fail
    all_goals
      go_wp2_with fail
      go_meet
      case rel => exact Lib.hid (H9.out.next (by first | exact (Below.refl _ _).drew | exact Below.refl _ _))
  case rest =>
    have HB6 := hcut
    clear HB5 hcut e1
    have hcore : (b.noted t).Core := by
      obtain ⟨s', hs', e'⟩ := noted_is (b := b) (t := t) HO.out.st ht
      rw [e']
      exact setSt_core HO.out.toCore hs'
    obtain ⟨bn, hbn⟩ : ∃ bn, b.noted t = bn := ⟨_, rfl⟩
    have hsm : bn.K = b.K ∧ bn.nx.length = b.nx.length ∧ bn.rd = b.rd ∧ bn.ws = b.ws := by
      obtain ⟨s', hs', e'⟩ := noted_is (b := b) (t := t) HO.out.st ht
      rw [← hbn, e']
      exact ⟨rfl, rfl, rfl, rfl⟩
    rw [hbn] at HB6 hcore
    have HBN := Lib.hid hbn
    have HCO := Lib.hid hcore
    have HSM := Lib.hid hsm
    clear hbn hcore hsm
    obtain ⟨i0, i1, i2⟩ := HB6.out.head
    rw [HSM.out.2.1] at i0
    have p2 : wc.cell? ⟨g, 2, none⟩ = some (.int .u16 (si : Int)) := HB6.out.bkR.cell 2
    obtain ⟨sn, hsn⟩ : ∃ sn, b.nx.length = sn := ⟨_, rfl⟩
    have hsi : ¬ sn ≤ si := by rw [← hsn]; have := HSI.out; omega
    rw [hsn] at i0
    have HSN := Lib.hid hsn
    clear hsn i1 i2
    have hsd : decide ((sn : Int) ≤ (si : Int)) = false := decide_eq_false (by omega)
    have hsl : si < b.nx.length := by rw [HSN.out]; omega
    have HE : Hid (b.add ⟨t, f, si, ns, pp, d⟩ = (bn.join ⟨t, f, si, ns, pp, d⟩, 0)) := Lib.hid (by rw [add_join HD1.out HFR.out HBF.out hsl, HBN.out])
    have HSL : Hid (si < bn.nx.length) := Lib.hid (by rw [HSM.out.2.1]; exact hsl)
    clear hsl
    go_upto_region 15 with fail
    go_quiet (fail)
    have HB7 := Lib.hid (HB6.out.next (w' := wc.drewN nq) ⟨rfl, rfl, rfl, Nat.le_refl _, fun _ _ => rfl⟩)
    clear HB6 i0 p2
    generalize wc.drewN nq = w6 at HB7 ⊢
    go_upto_region 17 with fail
    clear hsd hsi
    obtain ⟨j, hj⟩ := HB7.out.hasj
    have hwd : Below w6.heap.size w6 w6.drew := (Below.refl _ _).drew
    have HJ7 := Lib.hid hj
    have HS : Hid (∀ w7, Below w6.heap.size w6 w7 → w7.cell? ⟨x, 4, none⟩ = some (.pointer (some ⟨j, 0, none⟩)) ∧ w7.cell? ⟨g, 0, none⟩ = some (.int .u32 (t : Int)) ∧ w7.cell? ⟨g, 1, none⟩ = some (.int .u8 (f : Int)) ∧ w7.cell? ⟨g, 2, none⟩ = some (.int .u16 (si : Int)) ∧ w7.cell? ⟨g, 3, none⟩ = some (.int .u16 (ns : Int)) ∧ w7.cell? ⟨g, 4, none⟩ = some (.int .u32 (pp : Int)) ∧ w7.cell? ⟨g, 5, none⟩ = some (.slice A k c)) := Lib.hid fun w7 hb => ⟨(HJ7.out.next hb).cell4, (HJ7.out.next hb).bkR.cell 0, (HJ7.out.next hb).bkR.cell 1, (HJ7.out.next hb).bkR.cell 2, (HJ7.out.next hb).bkR.cell 3, (HJ7.out.next hb).bkR.cell 4, (HJ7.out.next hb).bkR.cell 5⟩
    have hs := HS.out _ hwd
    have hpk : bn.K.length ≤ 800 := by rw [HSM.out.1]; exact HKK.out
    have hph : Fg.held bn.K + d.length ≤ 1000000000 := by
      have h1 := HLE.out rfl
      have h2 := HDL.out
      have h3 := HHH.out
      have h4 := HM3.out
      unfold Ib.held at h3
      rw [HSM.out.1]
      omega
    have hjx := (hj.next hwd).box #[.int .u16 0, .bool false, .int .u32 0, .slice none 0 0] 39
    have HJX := Lib.hid (dput_dx hjx HCO.out hpk (⟨t, f, si, ns, pp, d⟩, (A, k, c)) HQ.out HD1.out HP.out hph)
    have HJ := Lib.hid (dput_dx (hj.next hwd) HCO.out hpk (⟨t, f, si, ns, pp, d⟩, (A, k, c)) HQ.out HD1.out HP.out hph)
    clear hjx hj hph
    have HPC := Lib.hid (setK_core HCO.out HQ.out HD1.out HSL.out)
    have HPM := Lib.hid fun (m : Ms) (n : Nat) (e : (put bn.K ⟨t, f, si, ns, pp, d⟩).2 = some (m, n)) => put_ms HCO.out HQ.out HD1.out HSL.out hpk e
    clear hpk
    have hpr : (put bn.K ⟨t, f, si, ns, pp, d⟩).2 = none := by rw [HSM.out.1]; exact HPR0.out
    obtain ⟨bk, hbk⟩ : ∃ bk, bn.setK (put bn.K ⟨t, f, si, ns, pp, d⟩).1 = bk := ⟨_, rfl⟩
    have HE2 : Hid (b.add ⟨t, f, si, ns, pp, d⟩ = (bk, 0)) := Lib.hid (by rw [HE.out, join_none hpr, hbk])
    have HJA : Hid (Calls Try.prog 59 #[.pointer (some ⟨j, 0, none⟩), .agg #[.int .u32 (t : Int), .int .u8 (f : Int), .int .u16 (si : Int), .int .u16 (ns : Int), .int .u32 (pp : Int), .slice A k c]] w6.drew fun e w' => e = .returned (.tuple #[.agg #[.int .u16 0, .bool false, .int .u32 0, .slice none 0 0], .int .u16 0, .bool false]) ∧ DXj W w' x j bk L (BkA g #[.int .u32 (t : Int), .int .u8 (f : Int), .int .u16 (si : Int), .int .u16 (ns : Int), .int .u32 (pp : Int), .slice A k c] 33 :: R)) := Lib.hid (HJ.out.mono fun e w' h => by
      rcases h with ⟨_, h2, h3⟩ | ⟨m, n, _, _, _, h2, _⟩
      · rw [← hbk]
        exact ⟨h2, h3⟩
      · rw [hpr] at h2
        cases h2)
    have HJB : Hid (Calls Try.prog 59 #[.pointer (some ⟨j, 0, none⟩), .agg #[.int .u32 (t : Int), .int .u8 (f : Int), .int .u16 (si : Int), .int .u16 (ns : Int), .int .u32 (pp : Int), .slice A k c]] (w6.drew.alloc (.cells #[.int .u16 0, .bool false, .int .u32 0, .slice none 0 0] 39)) fun e w' => e = .returned (.tuple #[.agg #[.int .u16 0, .bool false, .int .u32 0, .slice none 0 0], .int .u16 0, .bool false]) ∧ DXj W w' x j bk L (BkA w6.heap.size #[.int .u16 0, .bool false, .int .u32 0, .slice none 0 0] 39 :: BkA g #[.int .u32 (t : Int), .int .u8 (f : Int), .int .u16 (si : Int), .int .u16 (ns : Int), .int .u32 (pp : Int), .slice A k c] 33 :: R)) := Lib.hid (HJX.out.mono fun e w' h => by
      rcases h with ⟨_, h2, h3⟩ | ⟨m, n, _, _, _, h2, _⟩
      · rw [← hbk]
        exact ⟨h2, h3⟩
      · rw [hpr] at h2
        cases h2)
    have HJC : Hid (Calls Try.prog 59 #[.pointer (some ⟨j, 0, none⟩), .agg #[.int .u32 (t : Int), .int .u8 (f : Int), .int .u16 (si : Int), .int .u16 (ns : Int), .int .u32 (pp : Int), .slice A k c]] (w6.alloc (.cells #[.int .u16 0, .bool false, .int .u32 0, .slice none 0 0] 39)).drew fun e w' => e = .returned (.tuple #[.agg #[.int .u16 0, .bool false, .int .u32 0, .slice none 0 0], .int .u16 0, .bool false]) ∧ DXj W w' x j bk L (BkA w6.heap.size #[.int .u16 0, .bool false, .int .u32 0, .slice none 0 0] 39 :: BkA g #[.int .u32 (t : Int), .int .u8 (f : Int), .int .u16 (si : Int), .int .u16 (ns : Int), .int .u32 (pp : Int), .slice A k c] 33 :: R)) := HJB
    clear HJ HJX HPC HPM hpr hbk HE
    go_cut [7, 8, 9] from 79 to 88 (fun v7 v8 v9 wx => v9 = .bool false ∧ Hid (DX W wx x bk L (BkA g #[.int .u32 (t : Int), .int .u8 (f : Int), .int .u16 (si : Int), .int .u16 (ns : Int), .int .u32 (pp : Int), .slice A k c] 33 :: R)))
    case first =>
      first | go_region_held3 (fun W => W.cell? ⟨x, 4, none⟩ = some (.pointer (some ⟨j, 0, none⟩)) ∧ W.cell? ⟨g, 0, none⟩ = some (.int .u32 (t : Int)) ∧ W.cell? ⟨g, 1, none⟩ = some (.int .u8 (f : Int)) ∧ W.cell? ⟨g, 2, none⟩ = some (.int .u16 (si : Int)) ∧ W.cell? ⟨g, 3, none⟩ = some (.int .u16 (ns : Int)) ∧ W.cell? ⟨g, 4, none⟩ = some (.int .u32 (pp : Int)) ∧ W.cell? ⟨g, 5, none⟩ = some (.slice A k c)) (first | exact hs | exact HS.out _ (by assumption) | exact HS.out _ (bal' (by assumption)) | exact HS8.out _ (Below.refl _ _) | exact HS8.out _ (bal' (Below.refl _ _)) | exact hs9 | exact HS8.out _ (by go_grown)) ((first | (go_at_call 59; (with_reducible refine HJA.out.mono ?_); rintro e w8 ⟨rfl, h8⟩; have HS8 : Hid (∀ w9, Below w8.heap.size w8 w9 → w9.cell? ⟨x, 4, none⟩ = some (.pointer (some ⟨j, 0, none⟩)) ∧ w9.cell? ⟨g, 0, none⟩ = some (.int .u32 (t : Int)) ∧ w9.cell? ⟨g, 1, none⟩ = some (.int .u8 (f : Int)) ∧ w9.cell? ⟨g, 2, none⟩ = some (.int .u16 (si : Int)) ∧ w9.cell? ⟨g, 3, none⟩ = some (.int .u16 (ns : Int)) ∧ w9.cell? ⟨g, 4, none⟩ = some (.int .u32 (pp : Int)) ∧ w9.cell? ⟨g, 5, none⟩ = some (.slice A k c)) := Lib.hid fun w9 hb => ⟨(h8.next hb).cell4, (h8.next hb).bkR.cell 0, (h8.next hb).bkR.cell 1, (h8.next hb).bkR.cell 2, (h8.next hb).bkR.cell 3, (h8.next hb).bkR.cell 4, (h8.next hb).bkR.cell 5⟩; have H8 := Lib.hid h8; clear h8) | (go_at_call 59; (first | (with_reducible refine HJB.out.mono ?_) | (with_reducible refine HJC.out.mono ?_)); rintro e w8 ⟨rfl, h8⟩; have HS8 : Hid (∀ w9, Below w8.heap.size w8 w9 → w9.cell? ⟨x, 4, none⟩ = some (.pointer (some ⟨j, 0, none⟩)) ∧ w9.cell? ⟨g, 0, none⟩ = some (.int .u32 (t : Int)) ∧ w9.cell? ⟨g, 1, none⟩ = some (.int .u8 (f : Int)) ∧ w9.cell? ⟨g, 2, none⟩ = some (.int .u16 (si : Int)) ∧ w9.cell? ⟨g, 3, none⟩ = some (.int .u16 (ns : Int)) ∧ w9.cell? ⟨g, 4, none⟩ = some (.int .u32 (pp : Int)) ∧ w9.cell? ⟨g, 5, none⟩ = some (.slice A k c)) := Lib.hid fun w9 hb => ⟨(h8.next hb).cell4, (h8.next hb).bkR2.cell 0, (h8.next hb).bkR2.cell 1, (h8.next hb).bkR2.cell 2, (h8.next hb).bkR2.cell 3, (h8.next hb).bkR2.cell 4, (h8.next hb).bkR2.cell 5⟩; have z0 : w8.cell? ⟨w6.heap.size, 0, none⟩ = some (.int .u16 0) := h8.bkR.cell 0; have y0 := h8.bkR.frozen 0; have z1 : w8.cell? ⟨w6.heap.size, 1, none⟩ = some (.bool false) := h8.bkR.cell 1; have y1 := h8.bkR.frozen 1; have z2 : w8.cell? ⟨w6.heap.size, 2, none⟩ = some (.int .u32 0) := h8.bkR.cell 2; have y2 := h8.bkR.frozen 2; have z3 : w8.cell? ⟨w6.heap.size, 3, none⟩ = some (.slice none 0 0) := h8.bkR.cell 3; have y3 := h8.bkR.frozen 3; have hst8 := ((((h8.storeR 0 (.int .u16 0)).storeR 1 (.bool false)).storeR 2 (.int .u32 0)).storeR 3 (.slice none 0 0)); have hs9 : ((((w8.setCell ⟨w6.heap.size, 0, none⟩ (.int .u16 0)).setCell ⟨w6.heap.size, 1, none⟩ (.bool false)).setCell ⟨w6.heap.size, 2, none⟩ (.int .u32 0)).setCell ⟨w6.heap.size, 3, none⟩ (.slice none 0 0)).cell? ⟨x, 4, none⟩ = some (.pointer (some ⟨j, 0, none⟩)) ∧ ((((w8.setCell ⟨w6.heap.size, 0, none⟩ (.int .u16 0)).setCell ⟨w6.heap.size, 1, none⟩ (.bool false)).setCell ⟨w6.heap.size, 2, none⟩ (.int .u32 0)).setCell ⟨w6.heap.size, 3, none⟩ (.slice none 0 0)).cell? ⟨g, 0, none⟩ = some (.int .u32 (t : Int)) ∧ ((((w8.setCell ⟨w6.heap.size, 0, none⟩ (.int .u16 0)).setCell ⟨w6.heap.size, 1, none⟩ (.bool false)).setCell ⟨w6.heap.size, 2, none⟩ (.int .u32 0)).setCell ⟨w6.heap.size, 3, none⟩ (.slice none 0 0)).cell? ⟨g, 1, none⟩ = some (.int .u8 (f : Int)) ∧ ((((w8.setCell ⟨w6.heap.size, 0, none⟩ (.int .u16 0)).setCell ⟨w6.heap.size, 1, none⟩ (.bool false)).setCell ⟨w6.heap.size, 2, none⟩ (.int .u32 0)).setCell ⟨w6.heap.size, 3, none⟩ (.slice none 0 0)).cell? ⟨g, 2, none⟩ = some (.int .u16 (si : Int)) ∧ ((((w8.setCell ⟨w6.heap.size, 0, none⟩ (.int .u16 0)).setCell ⟨w6.heap.size, 1, none⟩ (.bool false)).setCell ⟨w6.heap.size, 2, none⟩ (.int .u32 0)).setCell ⟨w6.heap.size, 3, none⟩ (.slice none 0 0)).cell? ⟨g, 3, none⟩ = some (.int .u16 (ns : Int)) ∧ ((((w8.setCell ⟨w6.heap.size, 0, none⟩ (.int .u16 0)).setCell ⟨w6.heap.size, 1, none⟩ (.bool false)).setCell ⟨w6.heap.size, 2, none⟩ (.int .u32 0)).setCell ⟨w6.heap.size, 3, none⟩ (.slice none 0 0)).cell? ⟨g, 4, none⟩ = some (.int .u32 (pp : Int)) ∧ ((((w8.setCell ⟨w6.heap.size, 0, none⟩ (.int .u16 0)).setCell ⟨w6.heap.size, 1, none⟩ (.bool false)).setCell ⟨w6.heap.size, 2, none⟩ (.int .u32 0)).setCell ⟨w6.heap.size, 3, none⟩ (.slice none 0 0)).cell? ⟨g, 5, none⟩ = some (.slice A k c) := ⟨(hst8).cell4, (hst8).bkR2.cell 0, (hst8).bkR2.cell 1, (hst8).bkR2.cell 2, (hst8).bkR2.cell 3, (hst8).bkR2.cell 4, (hst8).bkR2.cell 5⟩; clear hst8; have H9 := Lib.hid h8; clear h8))) | fail
      all_goals
        go_wp2_with fail
        go_meet
        case rel => exact ⟨rfl, Lib.hid (by first | exact (H8.out.next (by go_grown)).dx | exact ((((H9.out.storeR 0 (.int .u16 0)).storeR 1 (.bool false)).storeR 2 (.int .u32 0)).storeR 3 (.slice none 0 0)).dx.less)⟩
    case rest =>
      obtain ⟨rfl, HC⟩ := hcut
      clear HJA HJB HJC hs HS hwd
      go_wp2_with fail
      go_ret
      rw [HE2.out]
      exact ⟨rfl, L, HC.out.less⟩
end
end Ix
end Go.Proofs.Ytednkcjmlpgipaa
