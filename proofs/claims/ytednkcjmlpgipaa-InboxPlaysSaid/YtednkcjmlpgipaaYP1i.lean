/-
  The document's inbox: a message that is whole, whichever; a piece comes, plainly.
-/
import Derived.Test.YtednkcjmlpgipaaYDiTurn
import Derived.Test.YtednkcjmlpgipaaYDiPut
import Derived.Test.YtednkcjmlpgipaaYP1a
import Derived.Deep.RegionHeld3
import Derived.Deep.RegionWith
import Derived.Deep.CutRange
import Derived.BigQuiet
import Derived.Handy
namespace Go.Proofs.Ytednkcjmlpgipaa
set_option maxRecDepth 4000
open Go.RowKit Go.Maps
namespace Ix
set_option linter.unusedVariables false
set_option linter.unusedSimpArgs false
open Fg (Pc Ms mv Pq put)

theorem ok_rows {b : Ib} (h : b.Ok) : b.rd.length + b.ws.length ≤ 1048576 := by
  have h2 := bsum_len (l := b.rd) h.rd
  have h3 := bsum_len (l := b.ws.map (·.1)) (fun m hm => by
    obtain ⟨e, he, rfl⟩ := List.mem_map.1 hm
    exact (h.ws e he).1)
  rw [List.length_map] at h3
  have h4 := h.held
  have h5 := h.room
  unfold Ib.held Ib.whole at h4
  omega
section
variable {W w : World} {x : Nat} {b : Ib} {L : List Me} {R : List As}
theorem DX.head (h : DX W w x b L R) : w.cell? ⟨x, 0, none⟩ = some (.int .u16 (b.nx.length : Int)) ∧ w.cell? ⟨x, 1, none⟩ = some (.int .i64 (b.room : Int)) ∧ w.cell? ⟨x, 2, none⟩ = some (.int .i64 (b.most : Int)) := by
  obtain ⟨i, hN, hf⟩ := h
  have hbx := hN.bk (k := 0) rfl
  exact ⟨(hbx.cell 0).trans dxc_head.1, (hbx.cell 1).trans dxc_head.2.1, (hbx.cell 2).trans dxc_head.2.2.1⟩
theorem dwh_any (h : DX W w x b L R) (ok : b.Core) (hlen : b.rd.length + b.ws.length ≤ 1048576) (me : Me) (hm : me ∈ L) (hms : me.1.s < b.nx.length) (ssn : Nat) (hss : ssn < 65536) :
    Calls Try.prog 60 #[.pointer (some ⟨x, 0, none⟩), .agg #[.int .u16 (me.1.s : Int), .bool me.1.u, .int .u32 (me.1.p : Int), .slice me.2.1 me.2.2.1 me.2.2.2], .int .u16 (ssn : Int)] w fun e w' => e = .returned (.tuple #[]) ∧ DX W w' x (b.deal me.1 ssn) L R := by
  by_cases hu : me.1.u = true
  · have e1 : b.deal me.1 ssn = { b with rd := b.rd ++ [me.1] } := by unfold Ib.deal; rw [if_pos hu]
    rw [e1]
    exact dwh_un h (by omega) me hm hu ssn
  · have hu2 : me.1.u = false := by simpa using hu
    by_cases hn : ssn = b.nxt me.1.s
    · have e1 : b.deal me.1 ssn = goOn (b.ws.length + 1) b me.1 := by unfold Ib.deal; rw [if_neg hu, if_pos hn]
      exact dwh_turn h ok hlen me hm hu2 hms ssn hss hn.symm _ e1.symm
    · have e1 : b.deal me.1 ssn = (if (alook wkey b.ws (me.1.s * 65536 + ssn)).isNone && bf16 (b.nxt me.1.s) ssn then { b with ws := b.ws ++ [(me.1, ssn)] } else b) := by unfold Ib.deal; rw [if_neg hu, if_neg hn]
      exact dwh_wait h ok (by omega) me hm hu2 hms ssn hss hn _ e1.symm
end
section
variable {b : Ib} {y : Pc}
theorem add_zero (h : y.d.length = 0) : b.add y = (b, 2) := by unfold Ib.add; rw [if_pos h]
theorem add_had (h : 1 ≤ y.d.length) (hh : b.st.has y.t = true) : b.add y = (b.noted y.t, 4) := by
  unfold Ib.add
  rw [if_neg (by omega), if_pos (by unfold Ib.fresh; simp [hh])]
theorem add_far (h : 1 ≤ y.d.length) (hh : b.st.has y.t = false) (hw : 65535 < Gp.wy b.st.cum y.t) : b.add y = (b, 4) := by
  unfold Ib.add
  rw [if_neg (by omega), if_pos (by unfold Ib.fresh; simp [hh]; omega)]
  have e : b.noted y.t = b := by
    unfold Ib.noted Gp.St.add
    rw [hh]
    simp only [Bool.false_eq_true, if_false, hw, if_true]
    rfl
  rw [e]
theorem fresh_is (hh : b.st.has y.t = false) (hw : ¬ 65535 < Gp.wy b.st.cum y.t) : ¬ b.fresh y.t = false := by unfold Ib.fresh; simp [hh]; omega
theorem fits_first (hc : b.st.cum < 4294967296) (hy : y.t < 4294967296) (hw : Gp.wy b.st.cum y.t = 1) : b.fits y = decide (b.held + y.d.length ≤ b.room) := by
  have e : y.t = Gp.up b.st.cum 1 := by rw [← hw, Gp.up_wy hc hy]
  unfold Ib.fits
  rw [if_pos e, Nat.add_zero]
theorem fits_later (hc : b.st.cum < 4294967296) (hw : ¬ Gp.wy b.st.cum y.t = 1) : b.fits y = decide (b.held + y.d.length + b.most ≤ b.room) := by
  have e : ¬ y.t = Gp.up b.st.cum 1 := fun e => hw (by rw [e, Gp.wy_up hc (by omega)])
  unfold Ib.fits
  rw [if_neg e]
theorem add_full' (h : 1 ≤ y.d.length) (hf : ¬ b.fresh y.t = false) (hr : b.fits y = false) : b.add y = (b, 7) := by
  unfold Ib.add
  rw [if_neg (by omega), if_neg hf, if_pos hr]
theorem add_sid (h : 1 ≤ y.d.length) (hf : ¬ b.fresh y.t = false) (hr : b.fits y = true) (hs : b.nx.length ≤ y.s) : b.add y = (b.noted y.t, 100) := by
  unfold Ib.add
  rw [if_neg (by omega), if_neg hf, if_neg (by rw [hr]; decide), if_pos hs]
theorem add_join (h : 1 ≤ y.d.length) (hf : ¬ b.fresh y.t = false) (hr : b.fits y = true) (hs : y.s < b.nx.length) : b.add y = ((b.noted y.t).join y, 0) := by
  unfold Ib.add
  rw [if_neg (by omega), if_neg hf, if_neg (by rw [hr]; decide), if_neg (by omega)]
theorem setK_core (h : b.Core) (hy : y.Ok) (hd : 1 ≤ y.d.length) (hs : y.s < b.nx.length) : (b.setK (put b.K y).1).Core := by
  have hall : ∀ z ∈ b.K ++ [y], z.Ok ∧ 1 ≤ z.d.length ∧ z.s < b.nx.length := fun z hz => by
    rcases List.mem_append.1 hz with h1 | h1
    · exact h.K z h1
    · simp only [List.mem_singleton] at h1
      rw [h1]
      exact ⟨hy, hd, hs⟩
  exact ⟨h.room, h.most, h.st, h.nx, h.nxs, fun z hz => hall z (put_sub z hz), put_apart h.ap, h.ws, h.al, h.rd⟩
theorem put_ms (h : b.Core) (hy : y.Ok) (hd : 1 ≤ y.d.length) (hs : y.s < b.nx.length) (hk : b.K.length ≤ 800) {m : Ms} {n : Nat} (e : (put b.K y).2 = some (m, n)) : m.s < b.nx.length ∧ n < 65536 := by
  obtain ⟨z, hz, h1, h2, _⟩ := put_tells h.ap hy.t (by omega) e
  rcases List.mem_append.1 hz with h3 | h3
  · have := h.K z h3
    exact ⟨by rw [h1]; exact this.2.2, by rw [h2]; exact this.1.n⟩
  · simp only [List.mem_singleton] at h3
    subst h3
    exact ⟨by rw [h1]; exact hs, by rw [h2]; exact hy.n⟩
end
end Ix
end Go.Proofs.Ytednkcjmlpgipaa
/-
  The document's inbox: a piece comes that is empty, had, or too far.
-/
namespace Go.Proofs.Ytednkcjmlpgipaa
set_option maxRecDepth 4000
open Go.RowKit Go.Maps
namespace Ix
set_option linter.unusedVariables false
set_option linter.unusedSimpArgs false
open Fg (Pc Ms mv Pq put)

theorem i64_small {z : Int} (h : 0 ≤ z ∧ z < 4294967296) : IntKind.i64.wrap z = z := by
  simp [IntKind.wrap, IntKind.signed, IntKind.bits]
  omega
theorem bal' {a b : World} (h : Below a.heap.size a b) {o : Obj} : Below a.heap.size a (b.alloc o) := h.alloc h.size _
section
variable {W w : World} {x : Nat} {b : Ib} {L : List Me} {R : List As}
set_option maxHeartbeats 8000000 in
theorem dadd_not (h : DX W w x b L R) (ok : b.Ok) (hk : b.K.length ≤ 800) (t f si ns pp : Nat) (d : List Int) (A : Option Addr) (k c : Nat) (hq : (⟨t, f, si, ns, pp, d⟩ : Pc).Ok) (hp : Pin W (⟨t, f, si, ns, pp, d⟩, (A, k, c))) (hkl : k ≤ 4000000) (hj : d.length = 0 ∨ b.st.has t = true ∨ 65535 < Gp.wy b.st.cum t) :
    Calls Try.prog 12 #[.pointer (some ⟨x, 0, none⟩), .agg #[.int .u32 (t : Int), .int .u8 (f : Int), .int .u16 (si : Int), .int .u16 (ns : Int), .int .u32 (pp : Int), .slice A k c]] w fun e w' => e = .returned (.int .i64 ((b.add ⟨t, f, si, ns, pp, d⟩).2 : Nat)) ∧ ∃ L', DX W w' x (b.add ⟨t, f, si, ns, pp, d⟩).1 L' R := by
  have HB := Lib.hid (h.box #[.int .u32 (t : Int), .int .u8 (f : Int), .int .u16 (si : Int), .int .u16 (ns : Int), .int .u32 (pp : Int), .slice A k c] 33)
  have HO := Lib.hid ok
  have HQ := Lib.hid hq
  have HP := Lib.hid hp
  have HKK := Lib.hid hk
  have hdl : d.length = k := hp.1
  have HDL := Lib.hid hdl
  have ht : t < 4294967296 := hq.t
  clear h ok hq hp hk
  by_cases h0 : k = 0
  · have HE : Hid (b.add ⟨t, f, si, ns, pp, d⟩ = (b, 2)) := Lib.hid (add_zero (by show d.length = 0; omega))
    subst h0
    clear hdl
    go_enter Try.func12, Try.ntmps12
    go_upto_region 1 with fail
    generalize w.alloc _ = w1 at HB ⊢
    generalize w.heap.size = g at HB ⊢
    have p5 : w1.cell? ⟨g, 5, none⟩ = some (.slice A 0 c) := HB.out.bkR.cell 5
    go_wp2_with fail
    go_ret
    rw [HE.out]
    exact ⟨rfl, L, HB.out.less⟩
  have hd1 : 1 ≤ d.length := by omega
  have HD1 := Lib.hid hd1
  have hk0 : ((k : Int) == 0) = false := by rw [beq_eq_false_iff_ne]; omega
  clear hd1 hdl
  go_enter Try.func12, Try.ntmps12
  go_upto_region 1 with fail
  generalize w.alloc _ = w1 at HB ⊢
  generalize w.heap.size = g at HB ⊢
  have p5 : w1.cell? ⟨g, 5, none⟩ = some (.slice A k c) := HB.out.bkR.cell 5
  go_upto_region 3 with fail
  have p0 : w1.cell? ⟨g, 0, none⟩ = some (.int .u32 (t : Int)) := HB.out.bkR.cell 0
  obtain ⟨s, hs⟩ := HB.out.set ht
  obtain ⟨c3, cs, _, _⟩ := hs w1 (Below.refl _ _)
  have hcum : b.st.cum < 4294967296 := HO.out.st.1
  have HCU := Lib.hid hcum
  have CW := Lib.hid fun W => Gp.rway_any b.st.cum t W hcum ht
  obtain ⟨wy, hwy⟩ : ∃ wy, Gp.wy b.st.cum t = wy := ⟨_, rfl⟩
  rw [hwy] at CW
  have HWY := Lib.hid hwy
  clear hwy
  obtain ⟨cu, hcu⟩ : ∃ cu, b.st.cum = cu := ⟨_, rfl⟩
  rw [hcu] at cs CW hcum
  have HCE := Lib.hid hcu
  clear hcu hs
  have q1 : IntKind.i64.wrap (cu : Int) = (cu : Int) := i64_small (by omega)
  have q2 : IntKind.i64.wrap (t : Int) = (t : Int) := i64_small (by omega)
  have q3 : wrap64 (cu : Int) = (cu : Int) := by unfold wrap64; omega
  have q4 : wrap64 (t : Int) = (t : Int) := by unfold wrap64; omega
  go_quiet ((go_at_call 56; exact Calls.quiet_of_same ((CW.out _).mono fun _ _ ⟨h1, h2⟩ => ⟨h1, h2.symm⟩)))
  have HB2 := Lib.hid (HB.out.next (w' := w1.drewN nq) ⟨rfl, rfl, rfl, Nat.le_refl _, fun _ _ => rfl⟩)
  clear HB p0 p5 c3 cs CW q1 q2 q3 q4 hcum
  generalize w1.drewN nq = w2 at HB2 ⊢
  go_upto_region 4 with fail
  have p0 : w2.cell? ⟨g, 0, none⟩ = some (.int .u32 (t : Int)) := HB2.out.bkR.cell 0
  obtain ⟨s, hs⟩ := HB2.out.set ht
  obtain ⟨c3, _, _, _⟩ := hs w2 (Below.refl _ _)
  have HS := Lib.hid hs
  obtain ⟨bh, hbh⟩ : ∃ bh, b.st.has t = bh := ⟨_, rfl⟩
  have CH := Lib.hid fun q : Nat => (by
    have h1 := (HS.out (w2.drewN q) ⟨rfl, rfl, rfl, Nat.le_refl _, fun _ _ => rfl⟩).2.2.1
    rw [hbh] at h1
    exact h1 : Calls Try.prog 57 #[.pointer (some ⟨s, 0, none⟩), .int .u32 (t : Int)] (w2.drewN q) fun e w' => e = .returned (.bool bh) ∧ (w2.drewN q) = w')
  have HBH := Lib.hid hbh
  clear hbh hs
  go_quiet ((go_at_call 57; exact Calls.quiet_of_same ((CH.out _).mono fun _ _ ⟨h1, h2⟩ => ⟨h1, h2.symm⟩)))
  have HB3 := Lib.hid (HB2.out.next (w' := w2.drewN nq) ⟨rfl, rfl, rfl, Nat.le_refl _, fun _ _ => rfl⟩)
  clear HB2 p0 c3 HS CH
  generalize w2.drewN nq = w3 at HB3 ⊢
  have p0 : w3.cell? ⟨g, 0, none⟩ = some (.int .u32 (t : Int)) := HB3.out.bkR.cell 0
  obtain ⟨s, hs⟩ := HB3.out.set ht
  obtain ⟨c3, _, _, _⟩ := hs w3 (Below.refl _ _)
  have CA := Lib.hid fun w9 hb => (hs w9 hb).2.2.2
  clear hs
  cases bh
  case true =>
    have HE : Hid (b.add ⟨t, f, si, ns, pp, d⟩ = (b.noted t, 4)) := Lib.hid (add_had HD1.out HBH.out)
    go_upto_region 5 with fail
    first | go_region_with ((go_at_call 58; (with_reducible refine (CA.out _ ?_).mono ?_); first | exact Below.refl _ _ | exact (Below.refl _ _).drew; rintro e w9 ⟨rfl, h9⟩; have H9 := Lib.hid h9; clear h9)) | fail
    all_goals
      go_wp2_with fail
      go_ret
      rw [HE.out]
      exact ⟨rfl, L, (H9.out.next (by first | exact (Below.refl _ _).drew | exact Below.refl _ _)).less⟩
  by_cases hfar : 65535 < wy
  · have HE : Hid (b.add ⟨t, f, si, ns, pp, d⟩ = (b, 4)) := Lib.hid (add_far HD1.out HBH.out (by show 65535 < Gp.wy b.st.cum t; rw [HWY.out]; exact hfar))
    have hf2 : decide ((65535 : Int) < (wy : Int)) = true := decide_eq_true (by omega)
    clear CA
    go_wp2_with fail
    go_ret
    rw [HE.out]
    exact ⟨rfl, L, HB3.out.less⟩
  refine absurd hj ?_
  rintro (h1 | h1 | h1)
  · have := HD1.out; omega
  · rw [HBH.out] at h1; cases h1
  · rw [HWY.out] at h1; omega
end
end Ix
end Go.Proofs.Ytednkcjmlpgipaa
/-
  The document's inbox: a piece comes: one way.
-/
namespace Go.Proofs.Ytednkcjmlpgipaa
set_option maxRecDepth 4000
open Go.RowKit Go.Maps
namespace Ix
set_option linter.unusedVariables false
set_option linter.unusedSimpArgs false
open Fg (Pc Ms mv Pq put)

section
variable {W w : World} {x : Nat} {b : Ib} {L : List Me} {R : List As}
set_option maxHeartbeats 8000000 in
theorem dadd_first_full (h : DX W w x b L R) (ok : b.Ok) (hk : b.K.length ≤ 800) (t f si ns pp : Nat) (d : List Int) (A : Option Addr) (k c : Nat) (hq : (⟨t, f, si, ns, pp, d⟩ : Pc).Ok) (hp : Pin W (⟨t, f, si, ns, pp, d⟩, (A, k, c))) (hkl : k ≤ 4000000) (hd1 : 1 ≤ d.length) (hbh : b.st.has t = false) {wy : Nat} (hwy : Gp.wy b.st.cum t = wy) (hfar : ¬ 65535 < wy) (hw1 : wy = 1) (hbf : b.fits ⟨t, f, si, ns, pp, d⟩ = false) :
    Calls Try.prog 12 #[.pointer (some ⟨x, 0, none⟩), .agg #[.int .u32 (t : Int), .int .u8 (f : Int), .int .u16 (si : Int), .int .u16 (ns : Int), .int .u32 (pp : Int), .slice A k c]] w fun e w' => e = .returned (.int .i64 ((b.add ⟨t, f, si, ns, pp, d⟩).2 : Nat)) ∧ ∃ L', DX W w' x (b.add ⟨t, f, si, ns, pp, d⟩).1 L' R := by
  have HB := Lib.hid (h.box #[.int .u32 (t : Int), .int .u8 (f : Int), .int .u16 (si : Int), .int .u16 (ns : Int), .int .u32 (pp : Int), .slice A k c] 33)
  have HO := Lib.hid ok
  have HQ := Lib.hid hq
  have HP := Lib.hid hp
  have HKK := Lib.hid hk
  have hdl : d.length = k := hp.1
  have HDL := Lib.hid hdl
  have ht : t < 4294967296 := hq.t
  clear h ok hq hp hk
  have HBF := Lib.hid hbf
  have HBH := Lib.hid hbh
  have HWY := Lib.hid hwy
  clear hbf hbh hwy
  have hk0 : ((k : Int) == 0) = false := by rw [beq_eq_false_iff_ne]; omega
  have HD1 := Lib.hid hd1
  clear hd1 hdl
  go_enter Try.func12, Try.ntmps12
  go_upto_region 1 with fail
  generalize w.alloc _ = w1 at HB ⊢
  generalize w.heap.size = g at HB ⊢
  have p5 : w1.cell? ⟨g, 5, none⟩ = some (.slice A k c) := HB.out.bkR.cell 5
  go_upto_region 3 with fail
  have p0 : w1.cell? ⟨g, 0, none⟩ = some (.int .u32 (t : Int)) := HB.out.bkR.cell 0
  obtain ⟨s, hs⟩ := HB.out.set ht
  obtain ⟨c3, cs, _, _⟩ := hs w1 (Below.refl _ _)
  have hcum : b.st.cum < 4294967296 := HO.out.st.1
  have HCU := Lib.hid hcum
  have CW := Lib.hid fun W => Gp.rway_any b.st.cum t W hcum ht
  rw [HWY.out] at CW
  obtain ⟨cu, hcu⟩ : ∃ cu, b.st.cum = cu := ⟨_, rfl⟩
  rw [hcu] at cs CW hcum
  have HCE := Lib.hid hcu
  clear hcu hs
  have q1 : IntKind.i64.wrap (cu : Int) = (cu : Int) := i64_small (by omega)
  have q2 : IntKind.i64.wrap (t : Int) = (t : Int) := i64_small (by omega)
  have q3 : wrap64 (cu : Int) = (cu : Int) := by unfold wrap64; omega
  have q4 : wrap64 (t : Int) = (t : Int) := by unfold wrap64; omega
  go_quiet ((go_at_call 56; exact Calls.quiet_of_same ((CW.out _).mono fun _ _ ⟨h1, h2⟩ => ⟨h1, h2.symm⟩)))
  have HB2 := Lib.hid (HB.out.next (w' := w1.drewN nq) ⟨rfl, rfl, rfl, Nat.le_refl _, fun _ _ => rfl⟩)
  clear HB p0 p5 c3 cs CW q1 q2 q3 q4 hcum
  generalize w1.drewN nq = w2 at HB2 ⊢
  go_upto_region 4 with fail
  have p0 : w2.cell? ⟨g, 0, none⟩ = some (.int .u32 (t : Int)) := HB2.out.bkR.cell 0
  obtain ⟨s, hs⟩ := HB2.out.set ht
  obtain ⟨c3, _, _, _⟩ := hs w2 (Below.refl _ _)
  have HS := Lib.hid hs
  have CH := Lib.hid fun q : Nat => (by
    have h1 := (HS.out (w2.drewN q) ⟨rfl, rfl, rfl, Nat.le_refl _, fun _ _ => rfl⟩).2.2.1
    rw [HBH.out] at h1
    exact h1 : Calls Try.prog 57 #[.pointer (some ⟨s, 0, none⟩), .int .u32 (t : Int)] (w2.drewN q) fun e w' => e = .returned (.bool false) ∧ (w2.drewN q) = w')
  clear hs
  go_quiet ((go_at_call 57; exact Calls.quiet_of_same ((CH.out _).mono fun _ _ ⟨h1, h2⟩ => ⟨h1, h2.symm⟩)))
  have HB3 := Lib.hid (HB2.out.next (w' := w2.drewN nq) ⟨rfl, rfl, rfl, Nat.le_refl _, fun _ _ => rfl⟩)
  clear HB2 p0 c3 HS CH
  generalize w2.drewN nq = w3 at HB3 ⊢
  have p0 : w3.cell? ⟨g, 0, none⟩ = some (.int .u32 (t : Int)) := HB3.out.bkR.cell 0
  obtain ⟨s, hs⟩ := HB3.out.set ht
  obtain ⟨c3, _, _, _⟩ := hs w3 (Below.refl _ _)
  have CA := Lib.hid fun w9 hb => (hs w9 hb).2.2.2
  clear hs
  have hf2 : decide ((65535 : Int) < (wy : Int)) = false := decide_eq_false (by omega)
  have HFR : Hid (¬ b.fresh t = false) := Lib.hid (fresh_is (y := ⟨t, f, si, ns, pp, d⟩) HBH.out (by show ¬ 65535 < Gp.wy b.st.cum t; rw [HWY.out]; exact hfar))
  obtain ⟨i0, i1, i2⟩ := HB3.out.head
  have hr1 := HO.out.room
  have hr2 := HO.out.most
  have hr3 := HO.out.held
  obtain ⟨hh, hhh⟩ : ∃ hh, b.held = hh := ⟨_, rfl⟩
  obtain ⟨rr, hrr⟩ : ∃ rr, b.room = rr := ⟨_, rfl⟩
  obtain ⟨mm, hmm⟩ : ∃ mm, b.most = mm := ⟨_, rfl⟩
  rw [hrr] at i1 hr1 hr3
  rw [hmm] at i2 hr2
  rw [hhh] at hr3
  have hff1 : wy = 1 → decide ((rr : Int) < (hh : Int) + (k : Int)) = !false := fun h1 => by
    have h2 := fits_first (b := b) (y := ⟨t, f, si, ns, pp, d⟩) HCU.out ht (by show Gp.wy b.st.cum t = 1; rw [HWY.out]; exact h1)
    rw [← HBF.out, h2, hhh, hrr]
    show _ = !decide (hh + d.length ≤ rr)
    rw [HDL.out]
    by_cases h3 : hh + k ≤ rr
    · rw [decide_eq_true h3, decide_eq_false (by omega)]; rfl
    · rw [decide_eq_false h3, decide_eq_true (by omega)]; rfl
  have hff2 : ¬ wy = 1 → decide ((rr : Int) - (mm : Int) < (hh : Int) + (k : Int)) = !false := fun h1 => by
    have h2 := fits_later (b := b) (y := ⟨t, f, si, ns, pp, d⟩) HCU.out (by show ¬ Gp.wy b.st.cum t = 1; rw [HWY.out]; exact h1)
    rw [← HBF.out, h2, hhh, hrr, hmm]
    show _ = !decide (hh + d.length + mm ≤ rr)
    rw [HDL.out]
    by_cases h3 : hh + k + mm ≤ rr
    · rw [decide_eq_true h3, decide_eq_false (by omega)]; rfl
    · rw [decide_eq_false h3, decide_eq_true (by omega)]; rfl
  have HHH := Lib.hid hhh
  have HRR := Lib.hid hrr
  have s1 : wrap64 ((hh : Int) + (k : Int)) = (hh : Int) + (k : Int) := by unfold wrap64; omega
  have s2 : IntKind.i64.wrap ((hh : Int) + (k : Int)) = (hh : Int) + (k : Int) := i64_small (by omega)
  have s3 : wrap64 ((rr : Int) - (mm : Int)) = (rr : Int) - (mm : Int) := by unfold wrap64; omega
  have s4 : IntKind.i64.wrap ((rr : Int) - (mm : Int)) = (rr : Int) - (mm : Int) := by
    simp [IntKind.wrap, IntKind.signed, IntKind.bits]
    omega
  have hm3 : hh ≤ 1048576 := by omega
  have HM3 := Lib.hid hr1
  clear hhh hrr hmm hr1 hr2 hr3 hfar CA
  have hd := hff1 hw1
  have e1 : ((wy : Int) == 1) = true := by rw [hw1]; rfl
  have e1b : ((wy : Int) != 1) = false := by rw [hw1]; rfl
  clear hff1 hff2 hw1
  go_upto_region 12 with fail
  (try rw [e1b])
  have HB4 := HB3
  clear HB3 p0 c3 i0 i1 i2
  generalize w3 = w4 at HB4 ⊢
  have p5 : w4.cell? ⟨g, 5, none⟩ = some (.slice A k c) := HB4.out.bkR.cell 5
  have CD := Lib.hid fun q : Nat => (by
    have h1 := dheld_dx (HB4.out.next (w' := w4.drewN q) ⟨rfl, rfl, rfl, Nat.le_refl _, fun _ _ => rfl⟩) HO.out
    rw [HHH.out] at h1
    exact h1 : Calls Try.prog 23 #[.pointer (some ⟨x, 0, none⟩)] (w4.drewN q) fun e w' => e = .returned (.int .i64 (hh : Int)) ∧ (w4.drewN q) = w')
  go_quiet ((go_at_call 23; exact Calls.quiet_of_same ((CD.out _).mono fun _ _ ⟨h1, h2⟩ => ⟨h1, h2.symm⟩)))
  have HB5 := Lib.hid (HB4.out.next (w' := w4.drewN nq) ⟨rfl, rfl, rfl, Nat.le_refl _, fun _ _ => rfl⟩)
  clear HB4 p5 CD s1 s2 s3 s4
  generalize w4.drewN nq = w5 at HB5 ⊢
  have HE : Hid (b.add ⟨t, f, si, ns, pp, d⟩ = (b, 7)) := Lib.hid (add_full' HD1.out HFR.out HBF.out)
  simp only [Bool.not_false] at hd
  go_wp2_with fail
  go_ret
  rw [HE.out]
  exact ⟨rfl, L, HB5.out.less⟩
end
end Ix
end Go.Proofs.Ytednkcjmlpgipaa
/-
  The document's inbox: a piece comes: one way.
-/
namespace Go.Proofs.Ytednkcjmlpgipaa
set_option maxRecDepth 4000
open Go.RowKit Go.Maps
namespace Ix
set_option linter.unusedVariables false
set_option linter.unusedSimpArgs false
open Fg (Pc Ms mv Pq put)

section
variable {W w : World} {x : Nat} {b : Ib} {L : List Me} {R : List As}
set_option maxHeartbeats 8000000 in
theorem dadd_first_sid (h : DX W w x b L R) (ok : b.Ok) (hk : b.K.length ≤ 800) (t f si ns pp : Nat) (d : List Int) (A : Option Addr) (k c : Nat) (hq : (⟨t, f, si, ns, pp, d⟩ : Pc).Ok) (hp : Pin W (⟨t, f, si, ns, pp, d⟩, (A, k, c))) (hkl : k ≤ 4000000) (hd1 : 1 ≤ d.length) (hbh : b.st.has t = false) {wy : Nat} (hwy : Gp.wy b.st.cum t = wy) (hfar : ¬ 65535 < wy) (hw1 : wy = 1) (hbf : b.fits ⟨t, f, si, ns, pp, d⟩ = true) (hsi : b.nx.length ≤ si) :
    Calls Try.prog 12 #[.pointer (some ⟨x, 0, none⟩), .agg #[.int .u32 (t : Int), .int .u8 (f : Int), .int .u16 (si : Int), .int .u16 (ns : Int), .int .u32 (pp : Int), .slice A k c]] w fun e w' => e = .returned (.int .i64 ((b.add ⟨t, f, si, ns, pp, d⟩).2 : Nat)) ∧ ∃ L', DX W w' x (b.add ⟨t, f, si, ns, pp, d⟩).1 L' R := by
  have HB := Lib.hid (h.box #[.int .u32 (t : Int), .int .u8 (f : Int), .int .u16 (si : Int), .int .u16 (ns : Int), .int .u32 (pp : Int), .slice A k c] 33)
  have HO := Lib.hid ok
  have HQ := Lib.hid hq
  have HP := Lib.hid hp
  have HKK := Lib.hid hk
  have hdl : d.length = k := hp.1
  have HDL := Lib.hid hdl
  have ht : t < 4294967296 := hq.t
  clear h ok hq hp hk
  have HSI := Lib.hid hsi
  clear hsi
  have HBF := Lib.hid hbf
  have HBH := Lib.hid hbh
  have HWY := Lib.hid hwy
  clear hbf hbh hwy
  have hk0 : ((k : Int) == 0) = false := by rw [beq_eq_false_iff_ne]; omega
  have HD1 := Lib.hid hd1
  clear hd1 hdl
  go_enter Try.func12, Try.ntmps12
  go_upto_region 1 with fail
  generalize w.alloc _ = w1 at HB ⊢
  generalize w.heap.size = g at HB ⊢
  have p5 : w1.cell? ⟨g, 5, none⟩ = some (.slice A k c) := HB.out.bkR.cell 5
  go_upto_region 3 with fail
  have p0 : w1.cell? ⟨g, 0, none⟩ = some (.int .u32 (t : Int)) := HB.out.bkR.cell 0
  obtain ⟨s, hs⟩ := HB.out.set ht
  obtain ⟨c3, cs, _, _⟩ := hs w1 (Below.refl _ _)
  have hcum : b.st.cum < 4294967296 := HO.out.st.1
  have HCU := Lib.hid hcum
  have CW := Lib.hid fun W => Gp.rway_any b.st.cum t W hcum ht
  rw [HWY.out] at CW
  obtain ⟨cu, hcu⟩ : ∃ cu, b.st.cum = cu := ⟨_, rfl⟩
  rw [hcu] at cs CW hcum
  have HCE := Lib.hid hcu
  clear hcu hs
  have q1 : IntKind.i64.wrap (cu : Int) = (cu : Int) := i64_small (by omega)
  have q2 : IntKind.i64.wrap (t : Int) = (t : Int) := i64_small (by omega)
  have q3 : wrap64 (cu : Int) = (cu : Int) := by unfold wrap64; omega
  have q4 : wrap64 (t : Int) = (t : Int) := by unfold wrap64; omega
  go_quiet ((go_at_call 56; exact Calls.quiet_of_same ((CW.out _).mono fun _ _ ⟨h1, h2⟩ => ⟨h1, h2.symm⟩)))
  have HB2 := Lib.hid (HB.out.next (w' := w1.drewN nq) ⟨rfl, rfl, rfl, Nat.le_refl _, fun _ _ => rfl⟩)
  clear HB p0 p5 c3 cs CW q1 q2 q3 q4 hcum
  generalize w1.drewN nq = w2 at HB2 ⊢
  go_upto_region 4 with fail
  have p0 : w2.cell? ⟨g, 0, none⟩ = some (.int .u32 (t : Int)) := HB2.out.bkR.cell 0
  obtain ⟨s, hs⟩ := HB2.out.set ht
  obtain ⟨c3, _, _, _⟩ := hs w2 (Below.refl _ _)
  have HS := Lib.hid hs
  have CH := Lib.hid fun q : Nat => (by
    have h1 := (HS.out (w2.drewN q) ⟨rfl, rfl, rfl, Nat.le_refl _, fun _ _ => rfl⟩).2.2.1
    rw [HBH.out] at h1
    exact h1 : Calls Try.prog 57 #[.pointer (some ⟨s, 0, none⟩), .int .u32 (t : Int)] (w2.drewN q) fun e w' => e = .returned (.bool false) ∧ (w2.drewN q) = w')
  clear hs
  go_quiet ((go_at_call 57; exact Calls.quiet_of_same ((CH.out _).mono fun _ _ ⟨h1, h2⟩ => ⟨h1, h2.symm⟩)))
  have HB3 := Lib.hid (HB2.out.next (w' := w2.drewN nq) ⟨rfl, rfl, rfl, Nat.le_refl _, fun _ _ => rfl⟩)
  clear HB2 p0 c3 HS CH
  generalize w2.drewN nq = w3 at HB3 ⊢
  have p0 : w3.cell? ⟨g, 0, none⟩ = some (.int .u32 (t : Int)) := HB3.out.bkR.cell 0
  obtain ⟨s, hs⟩ := HB3.out.set ht
  obtain ⟨c3, _, _, _⟩ := hs w3 (Below.refl _ _)
  have CA := Lib.hid fun w9 hb => (hs w9 hb).2.2.2
  clear hs
  have hf2 : decide ((65535 : Int) < (wy : Int)) = false := decide_eq_false (by omega)
  have HFR : Hid (¬ b.fresh t = false) := Lib.hid (fresh_is (y := ⟨t, f, si, ns, pp, d⟩) HBH.out (by show ¬ 65535 < Gp.wy b.st.cum t; rw [HWY.out]; exact hfar))
  obtain ⟨i0, i1, i2⟩ := HB3.out.head
  have hr1 := HO.out.room
  have hr2 := HO.out.most
  have hr3 := HO.out.held
  obtain ⟨hh, hhh⟩ : ∃ hh, b.held = hh := ⟨_, rfl⟩
  obtain ⟨rr, hrr⟩ : ∃ rr, b.room = rr := ⟨_, rfl⟩
  obtain ⟨mm, hmm⟩ : ∃ mm, b.most = mm := ⟨_, rfl⟩
  rw [hrr] at i1 hr1 hr3
  rw [hmm] at i2 hr2
  rw [hhh] at hr3
  have hff1 : wy = 1 → decide ((rr : Int) < (hh : Int) + (k : Int)) = !true := fun h1 => by
    have h2 := fits_first (b := b) (y := ⟨t, f, si, ns, pp, d⟩) HCU.out ht (by show Gp.wy b.st.cum t = 1; rw [HWY.out]; exact h1)
    rw [← HBF.out, h2, hhh, hrr]
    show _ = !decide (hh + d.length ≤ rr)
    rw [HDL.out]
    by_cases h3 : hh + k ≤ rr
    · rw [decide_eq_true h3, decide_eq_false (by omega)]; rfl
    · rw [decide_eq_false h3, decide_eq_true (by omega)]; rfl
  have hff2 : ¬ wy = 1 → decide ((rr : Int) - (mm : Int) < (hh : Int) + (k : Int)) = !true := fun h1 => by
    have h2 := fits_later (b := b) (y := ⟨t, f, si, ns, pp, d⟩) HCU.out (by show ¬ Gp.wy b.st.cum t = 1; rw [HWY.out]; exact h1)
    rw [← HBF.out, h2, hhh, hrr, hmm]
    show _ = !decide (hh + d.length + mm ≤ rr)
    rw [HDL.out]
    by_cases h3 : hh + k + mm ≤ rr
    · rw [decide_eq_true h3, decide_eq_false (by omega)]; rfl
    · rw [decide_eq_false h3, decide_eq_true (by omega)]; rfl
  have hfle : true = true → hh + k ≤ rr := fun h1 => by
    have h2 := fits_le (b := b) (x := ⟨t, f, si, ns, pp, d⟩) HBF.out
    rw [hhh, hrr] at h2
    have h3 : hh + d.length ≤ rr := h2
    rw [HDL.out] at h3
    exact h3
  have HLE := Lib.hid hfle
  have HHH := Lib.hid hhh
  have HRR := Lib.hid hrr
  have s1 : wrap64 ((hh : Int) + (k : Int)) = (hh : Int) + (k : Int) := by unfold wrap64; omega
  have s2 : IntKind.i64.wrap ((hh : Int) + (k : Int)) = (hh : Int) + (k : Int) := i64_small (by omega)
  have s3 : wrap64 ((rr : Int) - (mm : Int)) = (rr : Int) - (mm : Int) := by unfold wrap64; omega
  have s4 : IntKind.i64.wrap ((rr : Int) - (mm : Int)) = (rr : Int) - (mm : Int) := by
    simp [IntKind.wrap, IntKind.signed, IntKind.bits]
    omega
  have hm3 : hh ≤ 1048576 := by omega
  have HM3 := Lib.hid hr1
  clear hhh hrr hmm hr1 hr2 hr3 hfle hfar CA
  have hd := hff1 hw1
  have e1 : ((wy : Int) == 1) = true := by rw [hw1]; rfl
  have e1b : ((wy : Int) != 1) = false := by rw [hw1]; rfl
  clear hff1 hff2 hw1
  go_upto_region 12 with fail
  (try rw [e1b])
  have HB4 := HB3
  clear HB3 p0 c3 i0 i1 i2
  generalize w3 = w4 at HB4 ⊢
  have p5 : w4.cell? ⟨g, 5, none⟩ = some (.slice A k c) := HB4.out.bkR.cell 5
  have CD := Lib.hid fun q : Nat => (by
    have h1 := dheld_dx (HB4.out.next (w' := w4.drewN q) ⟨rfl, rfl, rfl, Nat.le_refl _, fun _ _ => rfl⟩) HO.out
    rw [HHH.out] at h1
    exact h1 : Calls Try.prog 23 #[.pointer (some ⟨x, 0, none⟩)] (w4.drewN q) fun e w' => e = .returned (.int .i64 (hh : Int)) ∧ (w4.drewN q) = w')
  go_quiet ((go_at_call 23; exact Calls.quiet_of_same ((CD.out _).mono fun _ _ ⟨h1, h2⟩ => ⟨h1, h2.symm⟩)))
  have HB5 := Lib.hid (HB4.out.next (w' := w4.drewN nq) ⟨rfl, rfl, rfl, Nat.le_refl _, fun _ _ => rfl⟩)
  clear HB4 p5 CD s1 s2 s3 s4
  generalize w4.drewN nq = w5 at HB5 ⊢
  simp only [Bool.not_true] at hd
  go_upto_region 14 with fail
  clear hd hf2
  go_cut [] from 65 to 71 (fun wx => Hid (DX W wx x (b.noted t) L (BkA g #[.int .u32 (t : Int), .int .u8 (f : Int), .int .u16 (si : Int), .int .u16 (ns : Int), .int .u32 (pp : Int), .slice A k c] 33 :: R)))
  case first =>
    have p0 : w5.cell? ⟨g, 0, none⟩ = some (.int .u32 (t : Int)) := HB5.out.bkR.cell 0
    obtain ⟨s, hs⟩ := HB5.out.set ht
    obtain ⟨c3, _, _, _⟩ := hs w5 (Below.refl _ _)
    have CA := Lib.hid fun w9 hb => (hs w9 hb).2.2.2
    clear hs
    first | go_region_with ((go_at_call 58; (with_reducible refine (CA.out _ ?_).mono ?_); first | exact Below.refl _ _ | exact (Below.refl _ _).drew; rintro e w9 ⟨rfl, h9⟩; have H9 := Lib.hid h9; clear h9)) | fail
    all_goals
      go_wp2_with fail
      go_meet
      case rel => exact Lib.hid (H9.out.next (by first | exact (Below.refl _ _).drew | exact Below.refl _ _))
  case rest =>
    have HB6 := hcut
    clear HB5 hcut e1
    have hcore : (b.noted t).Core := by
      obtain ⟨s', hs', e'⟩ := noted_is (b := b) (t := t) HO.out.st ht
      rw [e']
      exact setSt_core HO.out.toCore hs'
    obtain ⟨bn, hbn⟩ : ∃ bn, b.noted t = bn := ⟨_, rfl⟩
    have hsm : bn.K = b.K ∧ bn.nx.length = b.nx.length ∧ bn.rd = b.rd ∧ bn.ws = b.ws := by
      obtain ⟨s', hs', e'⟩ := noted_is (b := b) (t := t) HO.out.st ht
      rw [← hbn, e']
      exact ⟨rfl, rfl, rfl, rfl⟩
    rw [hbn] at HB6 hcore
    have HBN := Lib.hid hbn
    have HCO := Lib.hid hcore
    have HSM := Lib.hid hsm
    clear hbn hcore hsm
    obtain ⟨i0, i1, i2⟩ := HB6.out.head
    rw [HSM.out.2.1] at i0
    have p2 : wc.cell? ⟨g, 2, none⟩ = some (.int .u16 (si : Int)) := HB6.out.bkR.cell 2
    obtain ⟨sn, hsn⟩ : ∃ sn, b.nx.length = sn := ⟨_, rfl⟩
    rw [hsn] at i0
    have HSN := Lib.hid hsn
    clear hsn i1 i2
    have hsi : sn ≤ si := by rw [← HSN.out]; exact HSI.out
    have HE : Hid (b.add ⟨t, f, si, ns, pp, d⟩ = (bn, 100)) := Lib.hid (by rw [add_sid HD1.out HFR.out HBF.out (by rw [HSN.out]; exact hsi), HBN.out])
    have hsd : decide ((sn : Int) ≤ (si : Int)) = true := decide_eq_true (by omega)
    go_upto_region 15 with fail
    go_quiet (fail)
    have HB7 := Lib.hid (HB6.out.next (w' := wc.drewN nq) ⟨rfl, rfl, rfl, Nat.le_refl _, fun _ _ => rfl⟩)
    clear HB6 i0 p2
    generalize wc.drewN nq = w7 at HB7 ⊢
    go_wp2_with fail
    go_ret
    rw [HE.out]
    exact ⟨rfl, L, HB7.out.less⟩
end
end Ix
end Go.Proofs.Ytednkcjmlpgipaa
/-
  The document's inbox: a piece comes: one way.
-/
namespace Go.Proofs.Ytednkcjmlpgipaa
set_option maxRecDepth 4000
open Go.RowKit Go.Maps
namespace Ix
set_option linter.unusedVariables false
set_option linter.unusedSimpArgs false
open Fg (Pc Ms mv Pq put)

section
variable {W w : World} {x : Nat} {b : Ib} {L : List Me} {R : List As}
set_option maxHeartbeats 8000000 in
theorem dadd_later_full (h : DX W w x b L R) (ok : b.Ok) (hk : b.K.length ≤ 800) (t f si ns pp : Nat) (d : List Int) (A : Option Addr) (k c : Nat) (hq : (⟨t, f, si, ns, pp, d⟩ : Pc).Ok) (hp : Pin W (⟨t, f, si, ns, pp, d⟩, (A, k, c))) (hkl : k ≤ 4000000) (hd1 : 1 ≤ d.length) (hbh : b.st.has t = false) {wy : Nat} (hwy : Gp.wy b.st.cum t = wy) (hfar : ¬ 65535 < wy) (hw1 : ¬ wy = 1) (hbf : b.fits ⟨t, f, si, ns, pp, d⟩ = false) :
    Calls Try.prog 12 #[.pointer (some ⟨x, 0, none⟩), .agg #[.int .u32 (t : Int), .int .u8 (f : Int), .int .u16 (si : Int), .int .u16 (ns : Int), .int .u32 (pp : Int), .slice A k c]] w fun e w' => e = .returned (.int .i64 ((b.add ⟨t, f, si, ns, pp, d⟩).2 : Nat)) ∧ ∃ L', DX W w' x (b.add ⟨t, f, si, ns, pp, d⟩).1 L' R := by
  have HB := Lib.hid (h.box #[.int .u32 (t : Int), .int .u8 (f : Int), .int .u16 (si : Int), .int .u16 (ns : Int), .int .u32 (pp : Int), .slice A k c] 33)
  have HO := Lib.hid ok
  have HQ := Lib.hid hq
  have HP := Lib.hid hp
  have HKK := Lib.hid hk
  have hdl : d.length = k := hp.1
  have HDL := Lib.hid hdl
  have ht : t < 4294967296 := hq.t
  clear h ok hq hp hk
  have HBF := Lib.hid hbf
  have HBH := Lib.hid hbh
  have HWY := Lib.hid hwy
  clear hbf hbh hwy
  have hk0 : ((k : Int) == 0) = false := by rw [beq_eq_false_iff_ne]; omega
  have HD1 := Lib.hid hd1
  clear hd1 hdl
  go_enter Try.func12, Try.ntmps12
  go_upto_region 1 with fail
  generalize w.alloc _ = w1 at HB ⊢
  generalize w.heap.size = g at HB ⊢
  have p5 : w1.cell? ⟨g, 5, none⟩ = some (.slice A k c) := HB.out.bkR.cell 5
  go_upto_region 3 with fail
  have p0 : w1.cell? ⟨g, 0, none⟩ = some (.int .u32 (t : Int)) := HB.out.bkR.cell 0
  obtain ⟨s, hs⟩ := HB.out.set ht
  obtain ⟨c3, cs, _, _⟩ := hs w1 (Below.refl _ _)
  have hcum : b.st.cum < 4294967296 := HO.out.st.1
  have HCU := Lib.hid hcum
  have CW := Lib.hid fun W => Gp.rway_any b.st.cum t W hcum ht
  rw [HWY.out] at CW
  obtain ⟨cu, hcu⟩ : ∃ cu, b.st.cum = cu := ⟨_, rfl⟩
  rw [hcu] at cs CW hcum
  have HCE := Lib.hid hcu
  clear hcu hs
  have q1 : IntKind.i64.wrap (cu : Int) = (cu : Int) := i64_small (by omega)
  have q2 : IntKind.i64.wrap (t : Int) = (t : Int) := i64_small (by omega)
  have q3 : wrap64 (cu : Int) = (cu : Int) := by unfold wrap64; omega
  have q4 : wrap64 (t : Int) = (t : Int) := by unfold wrap64; omega
  go_quiet ((go_at_call 56; exact Calls.quiet_of_same ((CW.out _).mono fun _ _ ⟨h1, h2⟩ => ⟨h1, h2.symm⟩)))
  have HB2 := Lib.hid (HB.out.next (w' := w1.drewN nq) ⟨rfl, rfl, rfl, Nat.le_refl _, fun _ _ => rfl⟩)
  clear HB p0 p5 c3 cs CW q1 q2 q3 q4 hcum
  generalize w1.drewN nq = w2 at HB2 ⊢
  go_upto_region 4 with fail
  have p0 : w2.cell? ⟨g, 0, none⟩ = some (.int .u32 (t : Int)) := HB2.out.bkR.cell 0
  obtain ⟨s, hs⟩ := HB2.out.set ht
  obtain ⟨c3, _, _, _⟩ := hs w2 (Below.refl _ _)
  have HS := Lib.hid hs
  have CH := Lib.hid fun q : Nat => (by
    have h1 := (HS.out (w2.drewN q) ⟨rfl, rfl, rfl, Nat.le_refl _, fun _ _ => rfl⟩).2.2.1
    rw [HBH.out] at h1
    exact h1 : Calls Try.prog 57 #[.pointer (some ⟨s, 0, none⟩), .int .u32 (t : Int)] (w2.drewN q) fun e w' => e = .returned (.bool false) ∧ (w2.drewN q) = w')
  clear hs
  go_quiet ((go_at_call 57; exact Calls.quiet_of_same ((CH.out _).mono fun _ _ ⟨h1, h2⟩ => ⟨h1, h2.symm⟩)))
  have HB3 := Lib.hid (HB2.out.next (w' := w2.drewN nq) ⟨rfl, rfl, rfl, Nat.le_refl _, fun _ _ => rfl⟩)
  clear HB2 p0 c3 HS CH
  generalize w2.drewN nq = w3 at HB3 ⊢
  have p0 : w3.cell? ⟨g, 0, none⟩ = some (.int .u32 (t : Int)) := HB3.out.bkR.cell 0
  obtain ⟨s, hs⟩ := HB3.out.set ht
  obtain ⟨c3, _, _, _⟩ := hs w3 (Below.refl _ _)
  have CA := Lib.hid fun w9 hb => (hs w9 hb).2.2.2
  clear hs
  have hf2 : decide ((65535 : Int) < (wy : Int)) = false := decide_eq_false (by omega)
  have HFR : Hid (¬ b.fresh t = false) := Lib.hid (fresh_is (y := ⟨t, f, si, ns, pp, d⟩) HBH.out (by show ¬ 65535 < Gp.wy b.st.cum t; rw [HWY.out]; exact hfar))
  obtain ⟨i0, i1, i2⟩ := HB3.out.head
  have hr1 := HO.out.room
  have hr2 := HO.out.most
  have hr3 := HO.out.held
  obtain ⟨hh, hhh⟩ : ∃ hh, b.held = hh := ⟨_, rfl⟩
  obtain ⟨rr, hrr⟩ : ∃ rr, b.room = rr := ⟨_, rfl⟩
  obtain ⟨mm, hmm⟩ : ∃ mm, b.most = mm := ⟨_, rfl⟩
  rw [hrr] at i1 hr1 hr3
  rw [hmm] at i2 hr2
  rw [hhh] at hr3
  have hff1 : wy = 1 → decide ((rr : Int) < (hh : Int) + (k : Int)) = !false := fun h1 => by
    have h2 := fits_first (b := b) (y := ⟨t, f, si, ns, pp, d⟩) HCU.out ht (by show Gp.wy b.st.cum t = 1; rw [HWY.out]; exact h1)
    rw [← HBF.out, h2, hhh, hrr]
    show _ = !decide (hh + d.length ≤ rr)
    rw [HDL.out]
    by_cases h3 : hh + k ≤ rr
    · rw [decide_eq_true h3, decide_eq_false (by omega)]; rfl
    · rw [decide_eq_false h3, decide_eq_true (by omega)]; rfl
  have hff2 : ¬ wy = 1 → decide ((rr : Int) - (mm : Int) < (hh : Int) + (k : Int)) = !false := fun h1 => by
    have h2 := fits_later (b := b) (y := ⟨t, f, si, ns, pp, d⟩) HCU.out (by show ¬ Gp.wy b.st.cum t = 1; rw [HWY.out]; exact h1)
    rw [← HBF.out, h2, hhh, hrr, hmm]
    show _ = !decide (hh + d.length + mm ≤ rr)
    rw [HDL.out]
    by_cases h3 : hh + k + mm ≤ rr
    · rw [decide_eq_true h3, decide_eq_false (by omega)]; rfl
    · rw [decide_eq_false h3, decide_eq_true (by omega)]; rfl
  have HHH := Lib.hid hhh
  have HRR := Lib.hid hrr
  have s1 : wrap64 ((hh : Int) + (k : Int)) = (hh : Int) + (k : Int) := by unfold wrap64; omega
  have s2 : IntKind.i64.wrap ((hh : Int) + (k : Int)) = (hh : Int) + (k : Int) := i64_small (by omega)
  have s3 : wrap64 ((rr : Int) - (mm : Int)) = (rr : Int) - (mm : Int) := by unfold wrap64; omega
  have s4 : IntKind.i64.wrap ((rr : Int) - (mm : Int)) = (rr : Int) - (mm : Int) := by
    simp [IntKind.wrap, IntKind.signed, IntKind.bits]
    omega
  have hm3 : hh ≤ 1048576 := by omega
  have HM3 := Lib.hid hr1
  clear hhh hrr hmm hr1 hr2 hr3 hfar CA
  have hd := hff2 hw1
  have e1 : ((wy : Int) == 1) = false := by rw [beq_eq_false_iff_ne]; omega
  have e1b : ((wy : Int) != 1) = true := by simp; omega
  clear hff1 hff2 hw1
  go_upto_region 11 with fail
  go_quiet (fail)
  have HB4 := Lib.hid (HB3.out.next (w' := w3.drewN nq) ⟨rfl, rfl, rfl, Nat.le_refl _, fun _ _ => rfl⟩)
  clear HB3 p0 c3 i0 i1 i2
  generalize w3.drewN nq = w4 at HB4 ⊢
  go_upto_region 12 with fail
  (try rw [e1b])
  have p5 : w4.cell? ⟨g, 5, none⟩ = some (.slice A k c) := HB4.out.bkR.cell 5
  have CD := Lib.hid fun q : Nat => (by
    have h1 := dheld_dx (HB4.out.next (w' := w4.drewN q) ⟨rfl, rfl, rfl, Nat.le_refl _, fun _ _ => rfl⟩) HO.out
    rw [HHH.out] at h1
    exact h1 : Calls Try.prog 23 #[.pointer (some ⟨x, 0, none⟩)] (w4.drewN q) fun e w' => e = .returned (.int .i64 (hh : Int)) ∧ (w4.drewN q) = w')
  go_quiet ((go_at_call 23; exact Calls.quiet_of_same ((CD.out _).mono fun _ _ ⟨h1, h2⟩ => ⟨h1, h2.symm⟩)))
  have HB5 := Lib.hid (HB4.out.next (w' := w4.drewN nq) ⟨rfl, rfl, rfl, Nat.le_refl _, fun _ _ => rfl⟩)
  clear HB4 p5 CD s1 s2 s3 s4
  generalize w4.drewN nq = w5 at HB5 ⊢
  have HE : Hid (b.add ⟨t, f, si, ns, pp, d⟩ = (b, 7)) := Lib.hid (add_full' HD1.out HFR.out HBF.out)
  simp only [Bool.not_false] at hd
  go_wp2_with fail
  go_ret
  rw [HE.out]
  exact ⟨rfl, L, HB5.out.less⟩
end
end Ix
end Go.Proofs.Ytednkcjmlpgipaa
/-
  The document's inbox: a piece comes: one way.
-/
namespace Go.Proofs.Ytednkcjmlpgipaa
set_option maxRecDepth 4000
open Go.RowKit Go.Maps
namespace Ix
set_option linter.unusedVariables false
set_option linter.unusedSimpArgs false
open Fg (Pc Ms mv Pq put)

section
variable {W w : World} {x : Nat} {b : Ib} {L : List Me} {R : List As}
set_option maxHeartbeats 8000000 in
theorem dadd_later_sid (h : DX W w x b L R) (ok : b.Ok) (hk : b.K.length ≤ 800) (t f si ns pp : Nat) (d : List Int) (A : Option Addr) (k c : Nat) (hq : (⟨t, f, si, ns, pp, d⟩ : Pc).Ok) (hp : Pin W (⟨t, f, si, ns, pp, d⟩, (A, k, c))) (hkl : k ≤ 4000000) (hd1 : 1 ≤ d.length) (hbh : b.st.has t = false) {wy : Nat} (hwy : Gp.wy b.st.cum t = wy) (hfar : ¬ 65535 < wy) (hw1 : ¬ wy = 1) (hbf : b.fits ⟨t, f, si, ns, pp, d⟩ = true) (hsi : b.nx.length ≤ si) :
    Calls Try.prog 12 #[.pointer (some ⟨x, 0, none⟩), .agg #[.int .u32 (t : Int), .int .u8 (f : Int), .int .u16 (si : Int), .int .u16 (ns : Int), .int .u32 (pp : Int), .slice A k c]] w fun e w' => e = .returned (.int .i64 ((b.add ⟨t, f, si, ns, pp, d⟩).2 : Nat)) ∧ ∃ L', DX W w' x (b.add ⟨t, f, si, ns, pp, d⟩).1 L' R := by
  have HB := Lib.hid (h.box #[.int .u32 (t : Int), .int .u8 (f : Int), .int .u16 (si : Int), .int .u16 (ns : Int), .int .u32 (pp : Int), .slice A k c] 33)
  have HO := Lib.hid ok
  have HQ := Lib.hid hq
  have HP := Lib.hid hp
  have HKK := Lib.hid hk
  have hdl : d.length = k := hp.1
  have HDL := Lib.hid hdl
  have ht : t < 4294967296 := hq.t
  clear h ok hq hp hk
  have HSI := Lib.hid hsi
  clear hsi
  have HBF := Lib.hid hbf
  have HBH := Lib.hid hbh
  have HWY := Lib.hid hwy
  clear hbf hbh hwy
  have hk0 : ((k : Int) == 0) = false := by rw [beq_eq_false_iff_ne]; omega
  have HD1 := Lib.hid hd1
  clear hd1 hdl
  go_enter Try.func12, Try.ntmps12
  go_upto_region 1 with fail
  generalize w.alloc _ = w1 at HB ⊢
  generalize w.heap.size = g at HB ⊢
  have p5 : w1.cell? ⟨g, 5, none⟩ = some (.slice A k c) := HB.out.bkR.cell 5
  go_upto_region 3 with fail
  have p0 : w1.cell? ⟨g, 0, none⟩ = some (.int .u32 (t : Int)) := HB.out.bkR.cell 0
  obtain ⟨s, hs⟩ := HB.out.set ht
  obtain ⟨c3, cs, _, _⟩ := hs w1 (Below.refl _ _)
  have hcum : b.st.cum < 4294967296 := HO.out.st.1
  have HCU := Lib.hid hcum
  have CW := Lib.hid fun W => Gp.rway_any b.st.cum t W hcum ht
  rw [HWY.out] at CW
  obtain ⟨cu, hcu⟩ : ∃ cu, b.st.cum = cu := ⟨_, rfl⟩
  rw [hcu] at cs CW hcum
  have HCE := Lib.hid hcu
  clear hcu hs
  have q1 : IntKind.i64.wrap (cu : Int) = (cu : Int) := i64_small (by omega)
  have q2 : IntKind.i64.wrap (t : Int) = (t : Int) := i64_small (by omega)
  have q3 : wrap64 (cu : Int) = (cu : Int) := by unfold wrap64; omega
  have q4 : wrap64 (t : Int) = (t : Int) := by unfold wrap64; omega
  go_quiet ((go_at_call 56; exact Calls.quiet_of_same ((CW.out _).mono fun _ _ ⟨h1, h2⟩ => ⟨h1, h2.symm⟩)))
  have HB2 := Lib.hid (HB.out.next (w' := w1.drewN nq) ⟨rfl, rfl, rfl, Nat.le_refl _, fun _ _ => rfl⟩)
  clear HB p0 p5 c3 cs CW q1 q2 q3 q4 hcum
  generalize w1.drewN nq = w2 at HB2 ⊢
  go_upto_region 4 with fail
  have p0 : w2.cell? ⟨g, 0, none⟩ = some (.int .u32 (t : Int)) := HB2.out.bkR.cell 0
  obtain ⟨s, hs⟩ := HB2.out.set ht
  obtain ⟨c3, _, _, _⟩ := hs w2 (Below.refl _ _)
  have HS := Lib.hid hs
  have CH := Lib.hid fun q : Nat => (by
    have h1 := (HS.out (w2.drewN q) ⟨rfl, rfl, rfl, Nat.le_refl _, fun _ _ => rfl⟩).2.2.1
    rw [HBH.out] at h1
    exact h1 : Calls Try.prog 57 #[.pointer (some ⟨s, 0, none⟩), .int .u32 (t : Int)] (w2.drewN q) fun e w' => e = .returned (.bool false) ∧ (w2.drewN q) = w')
  clear hs
  go_quiet ((go_at_call 57; exact Calls.quiet_of_same ((CH.out _).mono fun _ _ ⟨h1, h2⟩ => ⟨h1, h2.symm⟩)))
  have HB3 := Lib.hid (HB2.out.next (w' := w2.drewN nq) ⟨rfl, rfl, rfl, Nat.le_refl _, fun _ _ => rfl⟩)
  clear HB2 p0 c3 HS CH
  generalize w2.drewN nq = w3 at HB3 ⊢
  have p0 : w3.cell? ⟨g, 0, none⟩ = some (.int .u32 (t : Int)) := HB3.out.bkR.cell 0
  obtain ⟨s, hs⟩ := HB3.out.set ht
  obtain ⟨c3, _, _, _⟩ := hs w3 (Below.refl _ _)
  have CA := Lib.hid fun w9 hb => (hs w9 hb).2.2.2
  clear hs
  have hf2 : decide ((65535 : Int) < (wy : Int)) = false := decide_eq_false (by omega)
  have HFR : Hid (¬ b.fresh t = false) := Lib.hid (fresh_is (y := ⟨t, f, si, ns, pp, d⟩) HBH.out (by show ¬ 65535 < Gp.wy b.st.cum t; rw [HWY.out]; exact hfar))
  obtain ⟨i0, i1, i2⟩ := HB3.out.head
  have hr1 := HO.out.room
  have hr2 := HO.out.most
  have hr3 := HO.out.held
  obtain ⟨hh, hhh⟩ : ∃ hh, b.held = hh := ⟨_, rfl⟩
  obtain ⟨rr, hrr⟩ : ∃ rr, b.room = rr := ⟨_, rfl⟩
  obtain ⟨mm, hmm⟩ : ∃ mm, b.most = mm := ⟨_, rfl⟩
  rw [hrr] at i1 hr1 hr3
  rw [hmm] at i2 hr2
  rw [hhh] at hr3
  have hff1 : wy = 1 → decide ((rr : Int) < (hh : Int) + (k : Int)) = !true := fun h1 => by
    have h2 := fits_first (b := b) (y := ⟨t, f, si, ns, pp, d⟩) HCU.out ht (by show Gp.wy b.st.cum t = 1; rw [HWY.out]; exact h1)
    rw [← HBF.out, h2, hhh, hrr]
    show _ = !decide (hh + d.length ≤ rr)
    rw [HDL.out]
    by_cases h3 : hh + k ≤ rr
    · rw [decide_eq_true h3, decide_eq_false (by omega)]; rfl
    · rw [decide_eq_false h3, decide_eq_true (by omega)]; rfl
  have hff2 : ¬ wy = 1 → decide ((rr : Int) - (mm : Int) < (hh : Int) + (k : Int)) = !true := fun h1 => by
    have h2 := fits_later (b := b) (y := ⟨t, f, si, ns, pp, d⟩) HCU.out (by show ¬ Gp.wy b.st.cum t = 1; rw [HWY.out]; exact h1)
    rw [← HBF.out, h2, hhh, hrr, hmm]
    show _ = !decide (hh + d.length + mm ≤ rr)
    rw [HDL.out]
    by_cases h3 : hh + k + mm ≤ rr
    · rw [decide_eq_true h3, decide_eq_false (by omega)]; rfl
    · rw [decide_eq_false h3, decide_eq_true (by omega)]; rfl
  have hfle : true = true → hh + k ≤ rr := fun h1 => by
    have h2 := fits_le (b := b) (x := ⟨t, f, si, ns, pp, d⟩) HBF.out
    rw [hhh, hrr] at h2
    have h3 : hh + d.length ≤ rr := h2
    rw [HDL.out] at h3
    exact h3
  have HLE := Lib.hid hfle
  have HHH := Lib.hid hhh
  have HRR := Lib.hid hrr
  have s1 : wrap64 ((hh : Int) + (k : Int)) = (hh : Int) + (k : Int) := by unfold wrap64; omega
  have s2 : IntKind.i64.wrap ((hh : Int) + (k : Int)) = (hh : Int) + (k : Int) := i64_small (by omega)
  have s3 : wrap64 ((rr : Int) - (mm : Int)) = (rr : Int) - (mm : Int) := by unfold wrap64; omega
  have s4 : IntKind.i64.wrap ((rr : Int) - (mm : Int)) = (rr : Int) - (mm : Int) := by
    simp [IntKind.wrap, IntKind.signed, IntKind.bits]
    omega
  have hm3 : hh ≤ 1048576 := by omega
  have HM3 := Lib.hid hr1
  clear hhh hrr hmm hr1 hr2 hr3 hfle hfar CA
  have hd := hff2 hw1
  have e1 : ((wy : Int) == 1) = false := by rw [beq_eq_false_iff_ne]; omega
  have e1b : ((wy : Int) != 1) = true := by simp; omega
  clear hff1 hff2 hw1
  go_upto_region 11 with fail
  go_quiet (fail)
  have HB4 := Lib.hid (HB3.out.next (w' := w3.drewN nq) ⟨rfl, rfl, rfl, Nat.le_refl _, fun _ _ => rfl⟩)
  clear HB3 p0 c3 i0 i1 i2
  generalize w3.drewN nq = w4 at HB4 ⊢
  go_upto_region 12 with fail
  (try rw [e1b])
  have p5 : w4.cell? ⟨g, 5, none⟩ = some (.slice A k c) := HB4.out.bkR.cell 5
  have CD := Lib.hid fun q : Nat => (by
    have h1 := dheld_dx (HB4.out.next (w' := w4.drewN q) ⟨rfl, rfl, rfl, Nat.le_refl _, fun _ _ => rfl⟩) HO.out
    rw [HHH.out] at h1
    exact h1 : Calls Try.prog 23 #[.pointer (some ⟨x, 0, none⟩)] (w4.drewN q) fun e w' => e = .returned (.int .i64 (hh : Int)) ∧ (w4.drewN q) = w')
  go_quiet ((go_at_call 23; exact Calls.quiet_of_same ((CD.out _).mono fun _ _ ⟨h1, h2⟩ => ⟨h1, h2.symm⟩)))
  have HB5 := Lib.hid (HB4.out.next (w' := w4.drewN nq) ⟨rfl, rfl, rfl, Nat.le_refl _, fun _ _ => rfl⟩)
  clear HB4 p5 CD s1 s2 s3 s4
  generalize w4.drewN nq = w5 at HB5 ⊢
  simp only [Bool.not_true] at hd
  go_upto_region 14 with fail
  clear hd hf2
  go_cut [] from 65 to 71 (fun wx => Hid (DX W wx x (b.noted t) L (BkA g #[.int .u32 (t : Int), .int .u8 (f : Int), .int .u16 (si : Int), .int .u16 (ns : Int), .int .u32 (pp : Int), .slice A k c] 33 :: R)))
  case first =>
    have p0 : w5.cell? ⟨g, 0, none⟩ = some (.int .u32 (t : Int)) := HB5.out.bkR.cell 0
    obtain ⟨s, hs⟩ := HB5.out.set ht
    obtain ⟨c3, _, _, _⟩ := hs w5 (Below.refl _ _)
    have CA := Lib.hid fun w9 hb => (hs w9 hb).2.2.2
    clear hs
    first | go_region_with ((go_at_call 58; (with_reducible refine (CA.out _ ?_).mono ?_); first | exact Below.refl _ _ | exact (Below.refl _ _).drew; rintro e w9 ⟨rfl, h9⟩; have H9 := Lib.hid h9; clear h9)) | fail
    all_goals
      go_wp2_with fail
      go_meet
      case rel => exact Lib.hid (H9.out.next (by first | exact (Below.refl _ _).drew | exact Below.refl _ _))
  case rest =>
    have HB6 := hcut
    clear HB5 hcut e1
    have hcore : (b.noted t).Core := by
      obtain ⟨s', hs', e'⟩ := noted_is (b := b) (t := t) HO.out.st ht
      rw [e']
      exact setSt_core HO.out.toCore hs'
    obtain ⟨bn, hbn⟩ : ∃ bn, b.noted t = bn := ⟨_, rfl⟩
    have hsm : bn.K = b.K ∧ bn.nx.length = b.nx.length ∧ bn.rd = b.rd ∧ bn.ws = b.ws := by
      obtain ⟨s', hs', e'⟩ := noted_is (b := b) (t := t) HO.out.st ht
      rw [← hbn, e']
      exact ⟨rfl, rfl, rfl, rfl⟩
    rw [hbn] at HB6 hcore
    have HBN := Lib.hid hbn
    have HCO := Lib.hid hcore
    have HSM := Lib.hid hsm
    clear hbn hcore hsm
    obtain ⟨i0, i1, i2⟩ := HB6.out.head
    rw [HSM.out.2.1] at i0
    have p2 : wc.cell? ⟨g, 2, none⟩ = some (.int .u16 (si : Int)) := HB6.out.bkR.cell 2
    obtain ⟨sn, hsn⟩ : ∃ sn, b.nx.length = sn := ⟨_, rfl⟩
    rw [hsn] at i0
    have HSN := Lib.hid hsn
    clear hsn i1 i2
    have hsi : sn ≤ si := by rw [← HSN.out]; exact HSI.out
    have HE : Hid (b.add ⟨t, f, si, ns, pp, d⟩ = (bn, 100)) := Lib.hid (by rw [add_sid HD1.out HFR.out HBF.out (by rw [HSN.out]; exact hsi), HBN.out])
    have hsd : decide ((sn : Int) ≤ (si : Int)) = true := decide_eq_true (by omega)
    go_upto_region 15 with fail
    go_quiet (fail)
    have HB7 := Lib.hid (HB6.out.next (w' := wc.drewN nq) ⟨rfl, rfl, rfl, Nat.le_refl _, fun _ _ => rfl⟩)
    clear HB6 i0 p2
    generalize wc.drewN nq = w7 at HB7 ⊢
    go_wp2_with fail
    go_ret
    rw [HE.out]
    exact ⟨rfl, L, HB7.out.less⟩
end
end Ix
end Go.Proofs.Ytednkcjmlpgipaa
/-
  The document's inbox: an empty piece comes.
-/
namespace Go.Proofs.Ytednkcjmlpgipaa
set_option maxRecDepth 4000
open Go.RowKit Go.Maps
namespace Ix
set_option linter.unusedVariables false
set_option linter.unusedSimpArgs false
open Fg (Pc Ms mv Pq put)

section
variable {W w : World} {x : Nat} {b : Ib} {L : List Me} {R : List As}
set_option maxHeartbeats 8000000 in
theorem dadd_empty (h : DX W w x b L R) (t f si ns pp : Nat) (d : List Int) (A : Option Addr) (k c : Nat) (hdl : d.length = k) (h0 : k = 0) :
    Calls Try.prog 12 #[.pointer (some ⟨x, 0, none⟩), .agg #[.int .u32 (t : Int), .int .u8 (f : Int), .int .u16 (si : Int), .int .u16 (ns : Int), .int .u32 (pp : Int), .slice A k c]] w fun e w' => e = .returned (.int .i64 ((b.add ⟨t, f, si, ns, pp, d⟩).2 : Nat)) ∧ ∃ L', DX W w' x (b.add ⟨t, f, si, ns, pp, d⟩).1 L' R := by
  have HB := Lib.hid (h.box #[.int .u32 (t : Int), .int .u8 (f : Int), .int .u16 (si : Int), .int .u16 (ns : Int), .int .u32 (pp : Int), .slice A k c] 33)
  clear h
  have HE : Hid (b.add ⟨t, f, si, ns, pp, d⟩ = (b, 2)) := Lib.hid (add_zero (by show d.length = 0; omega))
  subst h0
  clear hdl
  go_enter Try.func12, Try.ntmps12
  go_upto_region 1 with fail
  generalize w.alloc _ = w1 at HB ⊢
  generalize w.heap.size = g at HB ⊢
  have p5 : w1.cell? ⟨g, 5, none⟩ = some (.slice A 0 c) := HB.out.bkR.cell 5
  go_wp2_with fail
  go_ret
  rw [HE.out]
  exact ⟨rfl, L, HB.out.less⟩
end
end Ix
end Go.Proofs.Ytednkcjmlpgipaa
