/-
  PathDown: the walk.
-/
import Derived.Test.YtednkcjmlpgipaaPaKnown
import Derived.Test.YtednkcjmlpgipaaPaArg
import Derived.Test.YtednkcjmlpgipaaRtArgC
import Derived.Deep.CutBlock
namespace Go.Proofs.Ytednkcjmlpgipaa
set_option maxRecDepth 4000
open Go.RowKit Pa
set_option linter.unusedVariables false
set_option linter.unusedSimpArgs false

namespace Pa
theorem Bk.frame {W W' : World} {F : Nat → Prop} {b : Nat} {cs : Array Value} {t : TypeId} (h : Bk W b cs t) (hk : Kp W W' F) (hd : ¬ F b) : Bk W' b cs t := (hk.block b h.lt hd).trans h
def xq (k n : Int) (f : Bool) : Array Value := #[.int .u8 k, .int .u32 n, .bool f]
/-- The law's world: the configuration in its first block, the path behind it. -/
def Cd (w0 : World) (c : Rt.Cf) (g : Nat) (p : Pt) (w : World) : Prop := Rt.Cn w0 c w ∧ Pk w g p ∧ (w0.heap.size < g ∧ w0.heap.size < p.gt ∧ w0.heap.size < p.gw)
/-- .. and the call of the round. -/
def Cx (w0 : World) (c : Rt.Cf) (g : Nat) (p : Pt) (x : Nat) (k n : Int) (f : Bool) (w : World) : Prop := Cd w0 c g p w ∧ Bk w x (xq k n f) 90 ∧ ¬ Fp g p x
section
variable {w0 w w' : World} {c : Rt.Cf} {g : Nat} {p p' : Pt} {x : Nat} {k n : Int} {f : Bool} {b : Nat}
theorem Cd.next (h : Cd w0 c g p w) (hb : Below w.heap.size w w') : Cd w0 c g p w' := ⟨h.1.next hb, h.2.1.next hb, h.2.2⟩
theorem Cd.drewN (h : Cd w0 c g p w) (q : Nat) : Cd w0 c g p (w.drewN q) := ⟨⟨h.1.1.drewN q, ⟨h.1.2.os, h.1.2.tape, h.1.2.output, h.1.2.size, h.1.2.block⟩⟩, h.2.1.drewN q, h.2.2⟩
theorem Cd.step (h : Cd w0 c g p w) (hp : Pk w' g p') (hk : Kp w w' (Fp g p)) (e : p'.gt = p.gt ∧ p'.gw = p.gw) : Cd w0 c g p' w' := by
  obtain ⟨h1, h2, h3⟩ := h
  refine ⟨⟨Bk.frame h1.1 hk ?_, Kp.to_below h1.2 hk ?_ h1.2.size⟩, hp, by rw [e.1, e.2]; exact h3⟩
  · rintro (h | h | h) <;> omega
  · rintro b (rfl | rfl | rfl) <;> omega
theorem Cx.step (h : Cx w0 c g p x k n f w) (hp : Pk w' g p') (hk : Kp w w' (Fp g p)) (e : p'.gt = p.gt ∧ p'.gw = p.gw) : Cx w0 c g p' x k n f w' := by
  refine ⟨h.1.step hp hk e, Bk.frame h.2.1 hk h.2.2, ?_⟩
  have := h.2.2
  unfold Fp at this ⊢
  rw [e.1, e.2]
  exact this
theorem Cx.next (h : Cx w0 c g p x k n f w) (hb : Below w.heap.size w w') : Cx w0 c g p x k n f w' := ⟨h.1.next hb, h.2.1.next hb, h.2.2⟩
theorem Cx.drewN (h : Cx w0 c g p x k n f w) (q : Nat) : Cx w0 c g p x k n f (w.drewN q) := ⟨h.1.drewN q, h.2.1.drewN q, h.2.2⟩
theorem Cx.new (h : Cd w0 c g p w) (k n : Int) (f : Bool) : Cx w0 c g p w.heap.size k n f (w.alloc (.cells (xq k n f) 90)) :=
  ⟨h.next ((Below.refl _ _).alloc (Nat.le_refl _) _), Bk.new _ _ _, by
    have := h.2.1.bk.lt
    have := h.2.1.tk.lt
    have := h.2.1.ck.lt
    rintro (h | h | h) <;> omega⟩
theorem Cx.cells (h : Cx w0 c g p x k n f w) : w.cell? ⟨x, 0, none⟩ = some (.int .u8 k) ∧ w.cell? ⟨x, 1, none⟩ = some (.int .u32 n) ∧ w.cell? ⟨x, 2, none⟩ = some (.bool f) := ⟨h.2.1.cell 0, h.2.1.cell 1, h.2.1.cell 2⟩
theorem Cx.miss (h : Cx w0 c g p x k n f w) (hm : p.mi ≤ 1000000) : Calls Try.prog 41 #[.pointer (some ⟨g, 0, none⟩)] w fun e w' => e = .returned (.bool ((p.to (p.mi + 1)).act != p.act)) ∧ Cx w0 c g (p.to (p.mi + 1)) x k n f w' :=
  (miss_any h.1.2.1 hm).mono fun e w' ⟨h1, h2, h3⟩ => ⟨h1, h.step h2 h3 ⟨rfl, rfl⟩⟩
theorem Cx.hear (h : Cx w0 c g p x k n f w) : Calls Try.prog 42 #[.pointer (some ⟨g, 0, none⟩)] w fun e w' => e = .returned (.bool ((p.to 0).act != p.act)) ∧ Cx w0 c g (p.to 0) x k n f w' :=
  (hear_any h.1.2.1).mono fun e w' ⟨h1, h2, h3⟩ => ⟨h1, h.step h2 h3 ⟨rfl, rfl⟩⟩
/-- A call that leaves whether it is active. -/
def Lk (p p' : Pt) : Prop := p'.tr = p.tr ∧ p'.mi = p.mi
theorem Cx.beat (h : Cx w0 c g p x k n f w) (m : Int) : Calls Try.prog 30 #[.pointer (some ⟨g, 0, none⟩), .int .u32 m] w fun e w' => ∃ r p', e = .returned (.bool r) ∧ Cx w0 c g p' x k n f w' ∧ Lk p p' ∧ p'.t = p.t ∧ p'.v = p.v :=
  (beat_any h.1.2.1 m).mono fun e w' ⟨h1, h2, h3⟩ => ⟨_, _, h1, h.step h2 h3 ⟨rfl, rfl⟩, ⟨rfl, rfl⟩, rfl, rfl⟩
theorem Cx.answer (h : Cx w0 c g p x k n f w) (m : Int) : Calls Try.prog 31 #[.pointer (some ⟨g, 0, none⟩), .int .u32 m] w fun e w' => ∃ r p', e = .returned (.bool r) ∧ Cx w0 c g p' x k n f w' ∧ Lk p p' ∧ p'.t = p.t ∧ p'.v = p.v :=
  (answer_any h.1.2.1 m).mono fun e w' ⟨h1, h2, h3⟩ => ⟨_, p.ans m, h1, h.step h2 h3 ⟨(ans_gt p m).1, (ans_gt p m).2.1⟩, ⟨(ans_gt p m).2.2.2.2.1, (ans_gt p m).2.2.2.2.2⟩, (ans_gt p m).2.2.1, (ans_gt p m).2.2.2.1⟩
theorem Cx.sample (h : Cx w0 c g p x k n f w) (ok : p.t.Ok) (r : Nat) : Calls Try.prog 35 #[.pointer (some ⟨g, 0, none⟩), .int .u64 (r : Int)] w fun e w' => e = .returned (.tuple #[]) ∧ Cx w0 c g { p with t := p.t.sample r } x k n f w' :=
  (sample_any h.1.2.1 ok r).mono fun e w' ⟨h1, h2, h3⟩ => ⟨h1, h.step h2 h3 ⟨rfl, rfl⟩⟩
theorem Cx.ack (h : Cx w0 c g p x k n f w) (ok : p.v.Ok b) (hb : b ≤ 4398046511104) (m : Int) (u : Bool) : Calls Try.prog 36 #[.pointer (some ⟨g, 0, none⟩), .int .i64 m, .bool u] w fun e w' => e = .returned (.tuple #[]) ∧ Cx w0 c g { p with v := p.v.ack m u } x k n f w' :=
  (ack_any h.1.2.1 ok hb m u).mono fun e w' ⟨h1, h2, h3⟩ => ⟨h1, h.step h2 h3 ⟨rfl, rfl⟩⟩
theorem Cx.loss (h : Cx w0 c g p x k n f w) (ok : p.v.Ok b) : Calls Try.prog 37 #[.pointer (some ⟨g, 0, none⟩)] w fun e w' => e = .returned (.tuple #[]) ∧ Cx w0 c g { p with v := p.v.loss } x k n f w' :=
  (loss_any h.1.2.1 ok).mono fun e w' ⟨h1, h2, h3⟩ => ⟨h1, h.step h2 h3 ⟨rfl, rfl⟩⟩
theorem Cx.tout (h : Cx w0 c g p x k n f w) (okt : p.t.Ok) (ok : p.v.Ok b) : Calls Try.prog 33 #[.pointer (some ⟨g, 0, none⟩)] w fun e w' => e = .returned (.tuple #[]) ∧ Cx w0 c g { p with t := p.t.back, v := p.v.tout } x k n f w' :=
  (tout_any h.1.2.1 okt ok).mono fun e w' ⟨h1, h2, h3⟩ => ⟨h1, h.step h2 h3 ⟨rfl, rfl⟩⟩
end
/-- Numbers that a path's calls keep. -/
def Pt.Okk (p : Pt) (c : Rt.Cf) (k : Nat) : Prop := p.t.Ok ∧ p.v.Ok (Cw.bnd k) ∧ (p.tr : Int) = c.pt ∧ p.mi ≤ k
theorem okk_more {p : Pt} {c : Rt.Cf} {k : Nat} (h : p.Okk c k) : p.Okk c (k + 1) := ⟨h.1, Cw.ok_le h.2.1 (Cw.bnd_le (by omega)), h.2.2.1, by have := h.2.2.2; omega⟩
theorem okk_to {p : Pt} {c : Rt.Cf} {k : Nat} (h : p.Okk c k) (m : Nat) (hm : m ≤ k + 1) : (p.to m).Okk c (k + 1) := ⟨h.1, Cw.ok_le h.2.1 (Cw.bnd_le (by omega)), h.2.2.1, hm⟩
theorem okk_like {p p' : Pt} {c : Rt.Cf} {k : Nat} (h : p.Okk c k) (hl : Lk p p') (ht : p'.t.Ok) (hv : p'.v.Ok (Cw.bnd (k + 1))) : p'.Okk c (k + 1) := ⟨ht, hv, by rw [hl.1]; exact h.2.2.1, by rw [hl.2]; have := h.2.2.2; omega⟩
theorem act_like {p p' : Pt} (hl : Lk p p') : p'.act = p.act := by unfold Pt.act; rw [hl.1, hl.2]
theorem p0_okk {c : Rt.Cf} (hc : c.Wf) (h : Rt.may c = true) (a b : Int) (gt gw : Nat) : (p0 c a b gt gw).Okk c 0 := by
  have hm := may_mtu h
  refine ⟨Rt.t0_ok h, ?_, ?_, Nat.le_refl _⟩
  · show (Cw.t0 c.mtu.toNat).Ok (Cw.bnd 0)
    refine ⟨?_, ?_, ?_, Nat.zero_le _⟩
    · show c.mtu.toNat ≤ 1500
      omega
    · show 2 * c.mtu.toNat ≤ 1048576
      omega
    · show 65536 ≤ 1048576
      omega
  · show ((c.pt.toNat : Nat) : Int) = c.pt
    have := hc.pt
    omega
end Pa

set_option maxHeartbeats 4000000 in
theorem pathDown_walk (c : Rt.Cf) (A : Option Addr) (n cap : Nat) (qs : List Q3) (w0 : World) (hc : c.Wf) (hq : DosIn w0 A n cap qs) : Calls Try.prog 6 #[.agg (Rt.cv c), .slice A n cap] w0 fun e w' => e = .returned (.bool true) ∧ Below w0.heap.size w0 w' := by
  obtain ⟨hl, hcap, hcm, hr, hw⟩ := hq
  have HL := Lib.hid hl
  have HR := Lib.hid hr
  have HW := Lib.hid hw
  have H0 : Hid (Rt.Cn w0 c (w0.alloc (.cells (Rt.cv c) 78))) := Lib.hid ⟨Bk.new _ _ _, (Below.refl _ _).alloc (Nat.le_refl _) _⟩
  have HC := Lib.hid hc
  clear hl hr hc hw
  by_cases hn : 3000 < n
  · have hz : decide ((3000 : Int) < (n : Int)) = true := decide_eq_true (by omega)
    clear hn hcap hcm HC
    go_enter Try.func6, Try.ntmps6
    unfold Rt.cv at H0 ⊢
    go_wp2_with fail
    refine (works_any _).mono ?_
    rintro e w4 ⟨rfl, h4⟩
    have H4 := Lib.hid (bnext H0.out.2 h4)
    clear H0 h4
    go_wp2_with fail
    go_ret
    exact ⟨rfl, H4.out⟩
  have hz : decide ((3000 : Int) < (n : Int)) = false := decide_eq_false (by omega)
  have hn2 : n ≤ 3000 := by omega
  clear hn hcap hcm
  obtain ⟨z, hk⟩ : ∃ z, Rt.chk c = z := ⟨_, rfl⟩
  by_cases h0 : ¬ z = 0
  · have CN := Lib.hid fun W => new_bad c HC.out 1 2 W z hk h0
    have hz0 : ((z : Int) == 0) = false := by simp [h0]
    clear hk h0 HC
    go_enter Try.func6, Try.ntmps6
    go_upto_region 1 with fail
    unfold Rt.cv at H0 CN
    unfold Rt.cv
    generalize World.alloc w0 _ = w1 at H0 ⊢
    obtain ⟨c0, c1, c2, c3, c4, c5, c6, c7, c8, c9, c10, c11, c12⟩ := Rt.Bk.cfg H0.out.1
    go_wp2_with fail
    refine (CN.out _).mono ?_
    rintro e w2 ⟨rfl, h2⟩
    have H2 := Lib.hid (H0.out.next h2)
    clear H0 h2 CN c0 c1 c2 c3 c4 c5 c6 c7 c8 c9 c10 c11 c12
    go_wp2_with fail
    refine (works_any _).mono ?_
    rintro e w4 ⟨rfl, h4⟩
    have H4 := Lib.hid (bnext H2.out.2 h4)
    clear H2 h4
    go_wp2_with fail
    go_ret
    exact ⟨rfl, H4.out⟩
  obtain rfl := Decidable.not_not.1 h0
  clear h0
  have CN := Lib.hid fun W => new_ok c HC.out 1 2 W hk
  have HO := Lib.hid fun gt gw => p0_okk HC.out (chk_is HC.out hk) 1 2 gt gw
  have e2 : IntKind.i64.wrap c.pt = c.pt := Rt.w64 (by have := HC.out.pt; omega)
  have e3 : wrap64 c.pt = c.pt := by have := HC.out.pt; unfold wrap64; omega
  clear hk
  go_enter Try.func6, Try.ntmps6
  go_upto_region 1 with fail
  unfold Rt.cv at H0 CN
  unfold Rt.cv
  generalize World.alloc w0 _ = w1 at H0 ⊢
  obtain ⟨c0, c1, c2, c3, c4, c5, c6, c7, c8, c9, c10, c11, c12⟩ := Rt.Bk.cfg H0.out.1
  go_wp2_with fail
  refine (CN.out _).mono ?_
  rintro e w2 ⟨g, gt, gw, rfl, g1, g2, g3, hp, h2⟩
  have hlt := H0.out.1.lt
  have H2 : Hid (Cd w0 c g (p0 c 1 2 gt gw) w2) := Lib.hid ⟨H0.out.next h2, hp, ⟨by omega, by show w0.heap.size < gt; omega, by show w0.heap.size < gw; omega⟩⟩
  have HO2 := Lib.hid (HO.out gt gw)
  have hmi : Hid ((p0 c 1 2 gt gw).mi = 0) := Lib.hid rfl
  clear H0 h2 CN hp g1 g2 g3 hlt HO c0 c1 c2 c3 c4 c5 c6 c7 c8 c9 c10 c11 c12
  generalize p0 c 1 2 gt gw = pp at H2 HO2 hmi
  go_wp2_with fail
  go_loopw [7, 26] (fun v7 v26 wr => ∃ (k : Nat) (p : Pt), v26 = .int .i64 k ∧ v7 = .int .i64 (p.mi : Int) ∧ k ≤ n ∧ Hid (p.Okk c k) ∧ Hid (Cd w0 c g p wr)) (fun _ v26 _ => n - (intOf v26).toNat)
  case atStart => exact ⟨0, pp, rfl, by rw [hmi.out]; rfl, Nat.zero_le _, HO2, H2⟩
  case round =>
    obtain ⟨k, p, rfl, rfl, hk, HT, HD⟩ := hrel
    clear H2 HO2 hmi
    by_cases hlt : k < n
    · have hkl : k < qs.length := by rw [HL.out]; exact hlt
      obtain ⟨a, rfl, hd0, hd1, hd2⟩ := dos_at (HR.out.below HD.out.1.2) hkl
      have hwq := HW.out _ (List.getElem_mem hkl)
      obtain ⟨⟨q0, q1, q2⟩, hqq⟩ : ∃ q, qs[k] = q := ⟨_, rfl⟩
      rw [hqq] at hd0 hd1 hd2 hwq
      simp only at hd0 hd1 hd2 hwq
      have hw1 := wf_u32 hwq.2
      clear hqq hkl hwq
      obtain ⟨r, rfl⟩ : ∃ r : Nat, q1 = r := ⟨q1.toNat, by omega⟩
      have er : wrap64 (r : Int) = (r : Int) := by unfold wrap64; omega
      have er2 : IntKind.i64.wrap (r : Int) = (r : Int) := Rt.w64 (by omega)
      have er3 : IntKind.u64.wrap (r : Int) = (r : Int) := Rt.w64u (by omega)
      clear hw1
      have HX1 := Lib.hid (Cx.new HD.out q0 r q2)
      go_upto_region 10 with fail
      unfold xq at HX1
      generalize hx : wr.heap.size = x at HX1 ⊢
      generalize hWW : World.alloc wr _ = W1 at HX1 ⊢
      clear hx hWW hd0 hd1 hd2 HD
      go_wp2_with fail
      refine (active_any HX1.out.1.2.1.bk).mono ?_
      rintro e W2 ⟨rfl, q, rfl⟩
      have HX := Lib.hid (HX1.out.drewN q)
      generalize World.drewN W1 q = W2 at HX ⊢
      clear HX1
      obtain ⟨ac, hac⟩ : ∃ b, p.act = b := ⟨_, rfl⟩
      have HAC := Lib.hid hac
      rw [hac]
      clear hac
      have x0 : W2.cell? ⟨x, 0, none⟩ = some (.int .u8 q0) := HX.out.cells.1
      have x1 : W2.cell? ⟨x, 1, none⟩ = some (.int .u32 (r : Int)) := HX.out.cells.2.1
      have x2 : W2.cell? ⟨x, 2, none⟩ = some (.bool q2) := HX.out.cells.2.2
      go_upto_block 2 with fail
      go_cut [7, 11] from 34 to 79 (fun v7 v11 wx => ∃ (p2 : Pt), v7 = .int .i64 (p2.mi : Int) ∧ v11 = .bool (p2.act != ac) ∧ Hid (p2.Okk c (k + 1)) ∧ Hid (Cx w0 c g p2 x q0 r q2 wx))
      case first =>
        have HQ : Hid (∀ p', Lk p p' → (p'.act != ac) = false) := Lib.hid fun p' h => by rw [act_like h, HAC.out]; simp
        by_cases h0 : q0 = 0
        · subst h0
          have hmi : p.mi ≤ 1000000 := by have := HT.out.2.2.2; omega
          have C := Lib.hid (HX.out.miss hmi)
          rw [HAC.out] at C
          have HO2 : Hid ((p.to (p.mi + 1)).Okk c (k + 1)) := Lib.hid (okk_to HT.out _ (by have := HT.out.2.2.2; omega))
          have em : wrap64 ((p.mi : Int) + 1) = ((p.to (p.mi + 1)).mi : Int) := by show _ = ((p.mi + 1 : Nat) : Int); unfold wrap64; omega
          have HEM : Hid ((p.mi : Int) + 1 = ((p.to (p.mi + 1)).mi : Int)) := Lib.hid rfl
          generalize p.to (p.mi + 1) = p2 at C HO2 em HEM
          go_wp2_with fail
          refine C.out.mono ?_
          rintro e W3 ⟨rfl, h3⟩
          have H3 := Lib.hid h3
          clear h3 C HX x0 x1 x2 HT
          go_wp2_with fail
          go_meet
          case rel => exact ⟨p2, by first | rfl | rw [HEM.out], rfl, HO2, H3⟩
        by_cases h1 : q0 = 1
        · subst h1
          have C := Lib.hid HX.out.hear
          rw [HAC.out] at C
          have HO2 : Hid ((p.to 0).Okk c (k + 1)) := Lib.hid (okk_to HT.out _ (by omega))
          have HM : Hid ((p.to 0).mi = 0) := Lib.hid rfl
          generalize p.to 0 = p2 at C HO2 HM
          go_wp2_with fail
          refine C.out.mono ?_
          rintro e W3 ⟨rfl, h3⟩
          have H3 := Lib.hid h3
          clear h3 C HX x0 x1 x2 HT
          go_wp2_with fail
          go_meet
          case rel => exact ⟨p2, by rw [HM.out]; rfl, rfl, HO2, H3⟩
        by_cases h2 : q0 = 2
        · subst h2
          go_wp2_with fail
          refine (HX.out.beat r).mono ?_
          rintro e W3 ⟨rr, p2, rfl, h3, hl, ht, hv⟩
          have H3 := Lib.hid h3
          have HL3 := Lib.hid hl
          have HO2 : Hid (p2.Okk c (k + 1)) := Lib.hid (okk_like HT.out hl (by rw [ht]; exact HT.out.1) (by rw [hv]; exact Cw.ok_le HT.out.2.1 (Cw.bnd_le (by omega))))
          clear h3 HX x0 x1 x2 HT hl ht hv
          go_wp2_with fail
          go_meet
          case rel => exact ⟨p2, by rw [HL3.out.2], by rw [HQ.out _ HL3.out], HO2, H3⟩
        by_cases h3 : q0 = 3
        · subst h3
          go_wp2_with fail
          refine (HX.out.answer r).mono ?_
          rintro e W3 ⟨rr, p2, rfl, h3, hl, ht, hv⟩
          have H3 := Lib.hid h3
          have HL3 := Lib.hid hl
          have HO2 : Hid (p2.Okk c (k + 1)) := Lib.hid (okk_like HT.out hl (by rw [ht]; exact HT.out.1) (by rw [hv]; exact Cw.ok_le HT.out.2.1 (Cw.bnd_le (by omega))))
          clear h3 HX x0 x1 x2 HT hl ht hv
          go_wp2_with fail
          go_meet
          case rel => exact ⟨p2, by rw [HL3.out.2], by rw [HQ.out _ HL3.out], HO2, H3⟩
        by_cases h4 : q0 = 4
        · subst h4
          go_wp2_with fail
          refine (HX.out.sample HT.out.1 r).mono ?_
          rintro e W3 ⟨rfl, h3⟩
          have H3 := Lib.hid h3
          have HL3 : Hid (Lk p { p with t := p.t.sample r }) := Lib.hid ⟨rfl, rfl⟩
          have HO2 : Hid (({ p with t := p.t.sample r } : Pt).Okk c (k + 1)) := Lib.hid (okk_like HT.out HL3.out (Rt.sample_ok HT.out.1 r) (Cw.ok_le HT.out.2.1 (Cw.bnd_le (by omega))))
          clear h3 HX x0 x1 x2 HT
          generalize ({ p with t := p.t.sample r } : Pt) = p2 at H3 HL3 HO2
          go_wp2_with fail
          go_meet
          case rel => exact ⟨p2, by rw [HL3.out.2], by rw [HQ.out _ HL3.out], HO2, H3⟩
        by_cases h5 : q0 = 5
        · subst h5
          go_wp2_with fail
          refine (HX.out.ack HT.out.2.1 (Cw.bnd_most (by omega)) r q2).mono ?_
          rintro e W3 ⟨rfl, h3⟩
          have H3 := Lib.hid h3
          have HL3 : Hid (Lk p { p with v := p.v.ack r q2 }) := Lib.hid ⟨rfl, rfl⟩
          have HO2 : Hid (({ p with v := p.v.ack r q2 } : Pt).Okk c (k + 1)) := Lib.hid (okk_like HT.out HL3.out HT.out.1 (by rw [← Cw.bnd_step]; exact Cw.ack_ok HT.out.2.1 r q2))
          clear h3 HX x0 x1 x2 HT
          generalize ({ p with v := p.v.ack r q2 } : Pt) = p2 at H3 HL3 HO2
          go_wp2_with fail
          go_meet
          case rel => exact ⟨p2, by rw [HL3.out.2], by rw [HQ.out _ HL3.out], HO2, H3⟩
        by_cases h6 : q0 = 6
        · subst h6
          go_wp2_with fail
          refine (HX.out.loss HT.out.2.1).mono ?_
          rintro e W3 ⟨rfl, h3⟩
          have H3 := Lib.hid h3
          have HL3 : Hid (Lk p { p with v := p.v.loss }) := Lib.hid ⟨rfl, rfl⟩
          have HO2 : Hid (({ p with v := p.v.loss } : Pt).Okk c (k + 1)) := Lib.hid (okk_like HT.out HL3.out HT.out.1 (Cw.ok_le (Cw.loss_ok HT.out.2.1) (Cw.bnd_le (by omega))))
          clear h3 HX x0 x1 x2 HT
          generalize ({ p with v := p.v.loss } : Pt) = p2 at H3 HL3 HO2
          go_wp2_with fail
          go_meet
          case rel => exact ⟨p2, by rw [HL3.out.2], by rw [HQ.out _ HL3.out], HO2, H3⟩
        by_cases h7 : q0 = 7
        · subst h7
          go_wp2_with fail
          refine (HX.out.tout HT.out.1 HT.out.2.1).mono ?_
          rintro e W3 ⟨rfl, h3⟩
          have H3 := Lib.hid h3
          have HL3 : Hid (Lk p { p with t := p.t.back, v := p.v.tout }) := Lib.hid ⟨rfl, rfl⟩
          have HO2 : Hid (({ p with t := p.t.back, v := p.v.tout } : Pt).Okk c (k + 1)) := Lib.hid (okk_like HT.out HL3.out (Rt.back_ok HT.out.1) (Cw.ok_le (Cw.tout_ok HT.out.2.1) (Cw.bnd_le (by omega))))
          clear h3 HX x0 x1 x2 HT
          generalize ({ p with t := p.t.back, v := p.v.tout } : Pt) = p2 at H3 HL3 HO2
          go_wp2_with fail
          go_meet
          case rel => exact ⟨p2, by rw [HL3.out.2], by rw [HQ.out _ HL3.out], HO2, H3⟩
        · have HL3 : Hid (Lk p p) := Lib.hid ⟨rfl, rfl⟩
          go_wp2_with fail
          go_meet
          case rel => exact ⟨p, rfl, by rw [HQ.out _ HL3.out], Lib.hid (okk_more HT.out), HX⟩
      case rest =>
        obtain ⟨p2, rfl, rfl, HO2, HX2⟩ := hcut
        clear HX HT x0 x1 x2 HAC
        obtain ⟨c0, c1, c2, c3, c4, c5, c6, c7, c8, c9, c10, c11, c12⟩ := Rt.Bk.cfg HX2.out.1.1.1
        clear c0 c1 c2 c3 c4 c5 c6 c7 c8 c10 c11 c12
        have CA := Lib.hid fun q => active_any (HX2.out.drewN q).1.2.1.bk
        have CM := Lib.hid fun q => misses_any (HX2.out.drewN q).1.2.1.bk
        obtain ⟨ac2, hac2⟩ : ∃ b, p2.act = b := ⟨_, rfl⟩
        have hd : decide ((p2.mi : Int) ≤ c.pt) = ac2 := by rw [← HO2.out.2.2.1, ← hac2]; unfold Pt.act; simp
        rw [hac2] at CA
        rw [hac2]
        clear hac2
        cases ac <;> cases ac2
        all_goals
          go_wp2_with fail
          go_quiet (first
            | (go_at_call 39; exact Calls.quiet_of (CA.out _))
            | (go_at_call 40; exact Calls.quiet_of_same ((CM.out _).mono fun _ _ ⟨h1, h2⟩ => ⟨h1, h2.symm⟩)))
          go_wp2_with fail
          go_roundw
          case rel => exact ⟨k + 1, p2, by go_num, rfl, by omega, HO2, Lib.hid (HX2.out.drewN _).1⟩
          case measure => simp [intOf] <;> omega
    · clear HT
      go_wp2_with fail
      refine (works_any _).mono ?_
      rintro e w4 ⟨rfl, h4⟩
      have H4 := Lib.hid (bnext HD.out.1.2 h4)
      clear HD h4
      go_wp2_with fail
      go_ret
      exact ⟨rfl, H4.out⟩
end Go.Proofs.Ytednkcjmlpgipaa
