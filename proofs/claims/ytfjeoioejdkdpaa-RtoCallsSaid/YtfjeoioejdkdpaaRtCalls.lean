/-
  RtoCalls: the walk.
-/
import Derived.Test.YtfjeoioejdkdpaaRtHead
namespace Go.Proofs.Ytfjeoioejdkdpaa
set_option maxRecDepth 4000
open Go.RowKit Rt
set_option linter.unusedVariables false
set_option linter.unusedSimpArgs false

namespace Rt
/-- A timer, the document's timer beside it, and the call of the round. -/
def Cl (w0 : World) (d : Nat) (u : T) (g : Nat) (t : T) (x : Nat) (q0 : Bool) (q1 : Nat) (w : World) : Prop :=
  Tk w g t ∧ Bk w d (dc u) 88 ∧ Bk w x #[.bool q0, .int .u64 (q1 : Int)] 91 ∧ (g ≠ d ∧ x ≠ g ∧ x ≠ d ∧ w0.heap.size ≤ g ∧ w0.heap.size ≤ d) ∧ Below w0.heap.size w0 w
/-- .. without the call. -/
def Cm (w0 : World) (d : Nat) (u : T) (g : Nat) (t : T) (w : World) : Prop := Tk w g t ∧ Bk w d (dc u) 88 ∧ (g ≠ d ∧ w0.heap.size ≤ g ∧ w0.heap.size ≤ d) ∧ Below w0.heap.size w0 w
section
variable {w0 w w' : World} {d g x : Nat} {u t t' : T} {q0 : Bool} {q1 : Nat}
theorem Cl.less (h : Cl w0 d u g t x q0 q1 w) : Cm w0 d u g t w := ⟨h.1, h.2.1, ⟨h.2.2.2.1.1, h.2.2.2.1.2.2.2⟩, h.2.2.2.2⟩
theorem Cm.new (h : Cm w0 d u g t w) (q0 : Bool) (q1 : Nat) : Cl w0 d u g t w.heap.size q0 q1 (w.alloc (.cells #[.bool q0, .int .u64 (q1 : Int)] 91)) :=
  ⟨h.1.next ((Below.refl _ _).alloc (Nat.le_refl _) _), h.2.1.alloc _, Bk.new _ _ _, ⟨h.2.2.1.1, fun e => by have := h.1.lt; omega, fun e => by have := h.2.1.lt; omega, h.2.2.1.2⟩, bnext h.2.2.2 ((Below.refl _ _).alloc (Nat.le_refl _) _)⟩
theorem Cl.next (h : Cl w0 d u g t x q0 q1 w) (hb : Below w.heap.size w w') : Cl w0 d u g t x q0 q1 w' := ⟨h.1.next hb, h.2.1.next hb, h.2.2.1.next hb, h.2.2.2.1, bnext h.2.2.2.2 hb⟩
theorem Cl.drewN (h : Cl w0 d u g t x q0 q1 w) (q : Nat) : Cl w0 d u g t x q0 q1 (w.drewN q) := ⟨h.1.drewN q, h.2.1.drewN q, h.2.2.1.drewN q, h.2.2.2.1, ⟨h.2.2.2.2.os, h.2.2.2.2.tape, h.2.2.2.2.output, h.2.2.2.2.size, h.2.2.2.2.block⟩⟩
theorem Cl.own (h : Cl w0 d u g t x q0 q1 w) (hg : w.grownBy w' (some g)) (ht : Tk w' g t') : Cl w0 d u g t' x q0 q1 w' :=
  ⟨ht, h.2.1.kept hg (by have := h.2.2.2.1.1; simp; omega), h.2.2.1.kept hg (by have := h.2.2.2.1.2.1; simp; omega), h.2.2.2.1, h.2.2.2.2.grown hg h.2.2.2.2.size (fun k hk => by cases hk; exact h.2.2.2.1.2.2.2.1)⟩
theorem Cl.samp (h : Cl w0 d u g t x q0 q1 w) (ok : t.Ok) (r : Nat) : Calls Try.prog 34 #[.pointer (some ⟨g, 0, none⟩), .int .u64 (r : Int)] w fun e w' => e = .returned (.tuple #[]) ∧ Cl w0 d u g (t.sample r) x q0 q1 w' :=
  (sample_any h.1 ok r).mono fun e w' ⟨h1, h2, h3⟩ => ⟨h1, h.own h3 h2⟩
theorem Cl.bk (h : Cl w0 d u g t x q0 q1 w) (ok : t.Ok) : Calls Try.prog 35 #[.pointer (some ⟨g, 0, none⟩)] w fun e w' => e = .returned (.tuple #[]) ∧ Cl w0 d u g t.back x q0 q1 w' :=
  (back_any h.1 ok).mono fun e w' ⟨h1, h2, h3⟩ => ⟨h1, h.own h3 h2⟩
theorem Cl.dcells (h : Cl w0 d u g t x q0 q1 w) : (w.cell? ⟨d, 0, none⟩ = some (.int .u64 (u.lo : Int)) ∧ w.cell? ⟨d, 1, none⟩ = some (.int .u64 (u.hi : Int)) ∧ w.cell? ⟨d, 2, none⟩ = some (.int .u64 (u.v : Int)) ∧ w.cell? ⟨d, 3, none⟩ = some (.int .u64 (u.s : Int)) ∧ w.cell? ⟨d, 4, none⟩ = some (.int .u64 (u.w : Int)) ∧ w.cell? ⟨d, 5, none⟩ = some (.bool u.sd)) ∧
    (w.frozen? ⟨d, 0, none⟩ = false ∧ w.frozen? ⟨d, 1, none⟩ = false ∧ w.frozen? ⟨d, 2, none⟩ = false ∧ w.frozen? ⟨d, 3, none⟩ = false ∧ w.frozen? ⟨d, 4, none⟩ = false ∧ w.frozen? ⟨d, 5, none⟩ = false) :=
  ⟨⟨h.2.1.cell 0, h.2.1.cell 1, h.2.1.cell 2, h.2.1.cell 3, h.2.1.cell 4, h.2.1.cell 5⟩, h.2.1.frozen 0, h.2.1.frozen 1, h.2.1.frozen 2, h.2.1.frozen 3, h.2.1.frozen 4, h.2.1.frozen 5⟩
theorem Cl.setd (h : Cl w0 d u g t x q0 q1 w) (u' : T) : Cl w0 d u' g t x q0 q1 ((((((w.setCell ⟨d, 0, none⟩ (.int .u64 (u'.lo : Int))).setCell ⟨d, 1, none⟩ (.int .u64 (u'.hi : Int))).setCell ⟨d, 2, none⟩ (.int .u64 (u'.v : Int))).setCell ⟨d, 3, none⟩ (.int .u64 (u'.s : Int))).setCell ⟨d, 4, none⟩ (.int .u64 (u'.w : Int))).setCell ⟨d, 5, none⟩ (.bool u'.sd)) :=
  ⟨(((((Bk.other h.1 h.2.2.2.1.1 _ _).other h.2.2.2.1.1 _ _).other h.2.2.2.1.1 _ _).other h.2.2.2.1.1 _ _).other h.2.2.2.1.1 _ _).other h.2.2.2.1.1 _ _,
    (((((h.2.1.set 0 _).set 1 _).set 2 _).set 3 _).set 4 _).set 5 _,
    (((((h.2.2.1.other h.2.2.2.1.2.2.1 _ _).other h.2.2.2.1.2.2.1 _ _).other h.2.2.2.1.2.2.1 _ _).other h.2.2.2.1.2.2.1 _ _).other h.2.2.2.1.2.2.1 _ _).other h.2.2.2.1.2.2.1 _ _,
    h.2.2.2.1, (((((h.2.2.2.2.setCell (p := ⟨d, 0, none⟩) h.2.2.2.1.2.2.2.2 _).setCell (p := ⟨d, 1, none⟩) h.2.2.2.1.2.2.2.2 _).setCell (p := ⟨d, 2, none⟩) h.2.2.2.1.2.2.2.2 _).setCell (p := ⟨d, 3, none⟩) h.2.2.2.1.2.2.2.2 _).setCell (p := ⟨d, 4, none⟩) h.2.2.2.1.2.2.2.2 _).setCell (p := ⟨d, 5, none⟩) h.2.2.2.1.2.2.2.2 _⟩
/-- A copy takes its place. -/
theorem Cl.copy (h : Cl w0 d u g t x q0 q1 w) : Calls Try.prog 39 #[.pointer (some ⟨g, 0, none⟩)] w fun e w' => ∃ g2, e = .returned (.pointer (some ⟨g2, 0, none⟩)) ∧ Cl w0 d u g t x q0 q1 w' ∧ Cm w0 d u g2 t w' ∧ g < g2 :=
  (copy_any h.1).mono fun e w' ⟨h1, h2, h3⟩ => ⟨_, h1, h.next h3, ⟨h2, (h.next h3).2.1, ⟨fun e => by have := h.2.1.lt; omega, h.2.2.2.2.size, h.2.2.2.1.2.2.2.2⟩, (h.next h3).2.2.2.2⟩, h.1.lt⟩
theorem Cm.far (h : Cm w0 d u g t w) {b : Nat} (hg : w.grownBy w' (some b)) (h1 : g ≠ b) (h2 : d ≠ b) (h3 : w0.heap.size ≤ b) : Cm w0 d u g t w' :=
  ⟨h.1.kept hg (by simp; omega), h.2.1.kept hg (by simp; omega), h.2.2.1, h.2.2.2.grown hg h.2.2.2.size (fun k hk => by cases hk; exact h3)⟩
end
end Rt
set_option maxHeartbeats 4000000 in
theorem rtoCalls_walk (c : Cf) (A : Option Addr) (n cap : Nat) (qs : List Q2) (w0 : World) (hc : c.Wf) (hq : DosIn w0 A n cap qs) : Calls Try.prog 8 #[.agg (cv c), .slice A n cap] w0 fun e w' => e = .returned (.bool true) ∧ Below w0.heap.size w0 w' := by
  obtain ⟨hl, hcap, hcm, hr⟩ := hq
  have HL := Lib.hid hl
  have HR := Lib.hid hr
  have H0 : Hid (Cn w0 c (w0.alloc (.cells (cv c) 78))) := Lib.hid ⟨Bk.new _ _ _, (Below.refl _ _).alloc (Nat.le_refl _) _⟩
  have CM := Lib.hid (may_any c hc)
  have hk := chk_may c hc
  have HC := Lib.hid hc
  clear hl hr hc
  by_cases hn : 2000 < n
  · have hz : decide ((2000 : Int) < (n : Int)) = true := decide_eq_true (by omega)
    clear CM hk hn hcap hcm HC
    go_enter Try.func8, Try.ntmps8
    unfold cv at H0 ⊢
    go_wp2_with fail
    refine (works_any _).mono ?_
    rintro e w4 ⟨rfl, h4⟩
    have H4 := Lib.hid (bnext H0.out.2 h4)
    clear H0 h4
    go_wp2_with fail
    go_ret
    exact ⟨rfl, H4.out⟩
  have hz : decide ((2000 : Int) < (n : Int)) = false := decide_eq_false (by omega)
  have hn2 : n ≤ 2000 := by omega
  clear hn hcap hcm
  obtain ⟨b, hb⟩ : ∃ b, may c = b := ⟨_, rfl⟩
  rw [hb] at hk CM
  cases b
  · clear hk hb HC
    go_enter Try.func8, Try.ntmps8
    unfold cv at H0 CM ⊢
    go_wp2_with fail
    refine (CM.out _).mono ?_
    rintro e w1 ⟨rfl, h1⟩
    have H1 := Lib.hid (H0.out.next h1)
    clear H0 h1 CM
    go_wp2_with fail
    refine (works_any _).mono ?_
    rintro e w4 ⟨rfl, h4⟩
    have H4 := Lib.hid (bnext H1.out.2 h4)
    clear H1 h4
    go_wp2_with fail
    go_ret
    exact ⟨rfl, H4.out⟩
  have CN := Lib.hid fun W => new_ok c HC.out W hk
  have HW := Lib.hid (may_wf hb)
  have HOK := Lib.hid (t0_ok hb)
  clear hk hb
  go_enter Try.func8, Try.ntmps8
  unfold cv at H0 CM CN ⊢
  go_wp2_with fail
  refine (CM.out _).mono ?_
  rintro e w1 ⟨rfl, h1⟩
  have H1 := Lib.hid (H0.out.next h1)
  clear H0 h1 CM
  obtain ⟨c0, c1, c2, c3, c4, c5, c6, c7, c8, c9, c10, c11, c12⟩ := Bk.cfg H1.out.1
  go_wp2_with fail
  refine (CN.out _).mono ?_
  rintro e w2 ⟨g, rfl, hg, ht, h2⟩
  have H2 : Hid (Ct w0 c g (t0 c) w2) := Lib.hid ⟨ht, by have := H1.out.1.lt; omega, H1.out.next h2⟩
  clear H1 h2 CN ht hg c0 c1 c2 c3 c4 c5 c6 c7 c8 c9 c10 c11 c12
  have HRN := Lib.hid fun W => rnew_any c W HC.out.rn HC.out.rx HC.out.ri
  have HTT : Hid (t0 c = ⟨c.rn.toNat, c.rx.toNat, c.ri.toNat, false, 0, 0⟩) := Lib.hid rfl
  rw [← HTT.out] at HRN
  generalize t0 c = tt at H2 HOK HRN
  clear HW HTT HC
  obtain ⟨c0, c1, c2, c3, c4, c5, c6, c7, c8, c9, c10, c11, c12⟩ := Bk.cfg H2.out.2.2.1
  unfold cv dc at HRN
  go_wp2_with fail
  refine (HRN.out _).mono ?_
  rintro e w3 ⟨rfl, h3⟩
  have H3 : Hid (Cm w0 w3.heap.size tt g tt (w3.alloc (.cells (dc tt) 88))) := Lib.hid ⟨(H2.out.next h3).1.next ((Below.refl _ _).alloc (Nat.le_refl _) _), Bk.new _ _ _, ⟨fun e => by have := (H2.out.next h3).1.lt; omega, by have := H2.out.2.1; omega, (H2.out.next h3).2.2.2.size⟩, bnext (H2.out.next h3).2.2.2 ((Below.refl _ _).alloc (Nat.le_refl _) _)⟩
  clear H2 h3 HRN c0 c1 c2 c3 c4 c5 c6 c7 c8 c9 c10 c11 c12
  unfold dc at H3
  go_upto_region 7 with fail
  generalize hd : w3.heap.size = d at H3 ⊢
  generalize hW : World.alloc w3 _ = W3 at H3 ⊢
  clear hd hW
  go_wp2_with fail
  go_loopw [5, 31] (fun v5 v31 wr => ∃ (k g : Nat) (t : T), v31 = .int .i64 k ∧ v5 = .pointer (some ⟨g, 0, none⟩) ∧ k ≤ n ∧ Hid t.Ok ∧ Hid (Cm w0 d t g t wr)) (fun _ v31 _ => n - (intOf v31).toNat)
  case atStart => exact ⟨0, g, tt, rfl, rfl, Nat.zero_le _, HOK, H3⟩
  case round =>
    obtain ⟨k, g, t, rfl, rfl, hk, HT, HC⟩ := hrel
    clear H3 HOK
    by_cases hlt : k < n
    · have hkl : k < qs.length := by rw [HL.out]; exact hlt
      obtain ⟨a, rfl, hd0, hd1⟩ := dos_at (HR.out.below HC.out.2.2.2) hkl
      obtain ⟨⟨q0, q1⟩, hqq⟩ : ∃ q, qs[k] = q := ⟨_, rfl⟩
      rw [hqq] at hd0 hd1
      simp only at hd0 hd1
      clear hqq hkl
      have HX1 := Lib.hid (Cm.new HC.out q0 q1)
      go_upto_region 10 with fail
      generalize hx : wr.heap.size = x at HX1 ⊢
      generalize hW : World.alloc wr _ = W1 at HX1 ⊢
      clear hx hW hd0 hd1 HC
      have x0 := HX1.out.2.2.1.cell 0
      have x1 := HX1.out.2.2.1.cell 1
      simp at x0 x1
      cases q0
      · go_wp2_with fail
        refine (HX1.out.samp HT.out q1).mono ?_
        rintro e W2 ⟨rfl, h2⟩
        have HX2 := Lib.hid h2
        clear h2 HX1 x0 x1
        obtain ⟨⟨d0, d1, d2, d3, d4, d5⟩, z0, z1, z2, z3, z4, z5⟩ := HX2.out.dcells
        have CB := Lib.hid (rsample_any t HT.out q1 W2)
        have HOK2 := Lib.hid (sample_ok HT.out q1)
        have x1 := HX2.out.2.2.1.cell 1
        simp at x1
        generalize t.sample q1 = t2 at HX2 CB HOK2
        unfold dc at CB
        go_wp2_with fail
        refine CB.out.mono ?_
        rintro e W3 ⟨rfl, h3⟩
        have HX3 := Lib.hid (HX2.out.next h3)
        clear h3 HX2 CB d0 d1 d2 d3 d4 d5 z0 z1 z2 z3 z4 z5 x1
        obtain ⟨⟨d0, d1, d2, d3, d4, d5⟩, z0, z1, z2, z3, z4, z5⟩ := HX3.out.dcells
        go_upto_region 15 with fail
        generalize hS : World.setCell (World.setCell (World.setCell (World.setCell (World.setCell (World.setCell W3 _ _) _ _) _ _) _ _) _ _) _ _ = W4
        have HX4 : Hid (Cl w0 d t2 g t2 x false q1 W4) := Lib.hid (by rw [← hS]; exact HX3.out.setd t2)
        clear hS HX3 d0 d1 d2 d3 d4 d5 z0 z1 z2 z3 z4 z5
        obtain ⟨⟨d0, d1, d2, d3, d4, d5⟩, z0, z1, z2, z3, z4, z5⟩ := HX4.out.dcells
        clear d0 d1 d4 d5 z0 z1 z2 z3 z4 z5
        have e8 : IntKind.u64.wrap ((t2.s : Int) / 8) = ((t2.s / 8 : Nat) : Int) := u64e (by omega) (by have := HOK2.out.2.2.2.2.1; omega)
        have HV2 := Lib.hid fun q => value_any (HX4.out.drewN q).1
        have HS2 := Lib.hid fun q => smooth_any (HX4.out.drewN q).1 HOK2.out.2.2.2.2.1
        generalize t2.s / 8 = sm at e8 HS2
        go_quiet (first
          | (go_at_call 37; exact Calls.quiet_of_same ((HV2.out _).mono fun _ _ ⟨h1, h2⟩ => ⟨h1, h2.symm⟩))
          | (go_at_call 38; exact Calls.quiet_of_same ((HS2.out _).mono fun _ _ ⟨h1, h2⟩ => ⟨h1, h2.symm⟩)))
        clear d2 d3 e8 HV2 HS2
        have ht5 : (k : Int).tmod 5 = ((k % 5 : Nat) : Int) := rfl
        by_cases h5 : k % 5 = 4
        · have hz5 : decide ((k : Int).tmod 5 = 4) = true := decide_eq_true (by omega)
          clear ht5
          go_wp2_with fail
          refine ((HX4.out.drewN _).copy).mono ?_
          rintro e W6 ⟨g2, rfl, h6, hm6, hlt6⟩
          have HB6 := Lib.hid (back_any h6.1 HOK2.out)
          have HM6 := Lib.hid hm6
          have HGD := Lib.hid h6.2.2.2.1
          clear h6 hm6 HX4
          go_wp2_with fail
          refine HB6.out.mono ?_
          rintro e W7 ⟨rfl, h7, hg7⟩
          have HM7 := Lib.hid (HM6.out.far hg7 (by omega) (fun e => HGD.out.1 e.symm) HGD.out.2.2.2.1)
          have HB7 := Lib.hid (sample_any h7 (back_ok HOK2.out) 7)
          clear h7 hg7 HM6 HB6
          go_wp2_with fail
          refine HB7.out.mono ?_
          rintro e W8 ⟨rfl, _, hg8⟩
          have HM8 := Lib.hid (HM7.out.far hg8 (by omega) (fun e => HGD.out.1 e.symm) HGD.out.2.2.2.1)
          clear hg8 HM7 HB7
          go_wp2_with fail
          go_roundw
          case rel => exact ⟨k + 1, g2, t2, by go_num, rfl, by omega, HOK2, HM8⟩
          case measure => simp [intOf] <;> omega
        · have hz5 : decide ((k : Int).tmod 5 = 4) = false := decide_eq_false (by omega)
          clear ht5
          go_wp2_with fail
          go_roundw
          case rel => exact ⟨k + 1, g, t2, by go_num, rfl, by omega, HOK2, Lib.hid (HX4.out.drewN _).less⟩
          case measure => simp [intOf] <;> omega
      · go_wp2_with fail
        refine (HX1.out.bk HT.out).mono ?_
        rintro e W2 ⟨rfl, h2⟩
        have HX2 := Lib.hid h2
        clear h2 HX1 x0 x1
        obtain ⟨⟨d0, d1, d2, d3, d4, d5⟩, z0, z1, z2, z3, z4, z5⟩ := HX2.out.dcells
        have CB := Lib.hid (rback_any t HT.out W2)
        have HOK2 := Lib.hid (back_ok HT.out)
        generalize t.back = t2 at HX2 CB HOK2
        unfold dc at CB
        go_wp2_with fail
        refine CB.out.mono ?_
        rintro e W3 ⟨rfl, h3⟩
        have HX3 := Lib.hid (HX2.out.next h3)
        clear h3 HX2 CB d0 d1 d2 d3 d4 d5 z0 z1 z2 z3 z4 z5
        obtain ⟨⟨d0, d1, d2, d3, d4, d5⟩, z0, z1, z2, z3, z4, z5⟩ := HX3.out.dcells
        go_upto_region 15 with fail
        generalize hS : World.setCell (World.setCell (World.setCell (World.setCell (World.setCell (World.setCell W3 _ _) _ _) _ _) _ _) _ _) _ _ = W4
        have HX4 : Hid (Cl w0 d t2 g t2 x true q1 W4) := Lib.hid (by rw [← hS]; exact HX3.out.setd t2)
        clear hS HX3 d0 d1 d2 d3 d4 d5 z0 z1 z2 z3 z4 z5
        obtain ⟨⟨d0, d1, d2, d3, d4, d5⟩, z0, z1, z2, z3, z4, z5⟩ := HX4.out.dcells
        clear d0 d1 d4 d5 z0 z1 z2 z3 z4 z5
        have e8 : IntKind.u64.wrap ((t2.s : Int) / 8) = ((t2.s / 8 : Nat) : Int) := u64e (by omega) (by have := HOK2.out.2.2.2.2.1; omega)
        have HV2 := Lib.hid fun q => value_any (HX4.out.drewN q).1
        have HS2 := Lib.hid fun q => smooth_any (HX4.out.drewN q).1 HOK2.out.2.2.2.2.1
        generalize t2.s / 8 = sm at e8 HS2
        go_quiet (first
          | (go_at_call 37; exact Calls.quiet_of_same ((HV2.out _).mono fun _ _ ⟨h1, h2⟩ => ⟨h1, h2.symm⟩))
          | (go_at_call 38; exact Calls.quiet_of_same ((HS2.out _).mono fun _ _ ⟨h1, h2⟩ => ⟨h1, h2.symm⟩)))
        clear d2 d3 e8 HV2 HS2
        have ht5 : (k : Int).tmod 5 = ((k % 5 : Nat) : Int) := rfl
        by_cases h5 : k % 5 = 4
        · have hz5 : decide ((k : Int).tmod 5 = 4) = true := decide_eq_true (by omega)
          clear ht5
          go_wp2_with fail
          refine ((HX4.out.drewN _).copy).mono ?_
          rintro e W6 ⟨g2, rfl, h6, hm6, hlt6⟩
          have HB6 := Lib.hid (back_any h6.1 HOK2.out)
          have HM6 := Lib.hid hm6
          have HGD := Lib.hid h6.2.2.2.1
          clear h6 hm6 HX4
          go_wp2_with fail
          refine HB6.out.mono ?_
          rintro e W7 ⟨rfl, h7, hg7⟩
          have HM7 := Lib.hid (HM6.out.far hg7 (by omega) (fun e => HGD.out.1 e.symm) HGD.out.2.2.2.1)
          have HB7 := Lib.hid (sample_any h7 (back_ok HOK2.out) 7)
          clear h7 hg7 HM6 HB6
          go_wp2_with fail
          refine HB7.out.mono ?_
          rintro e W8 ⟨rfl, _, hg8⟩
          have HM8 := Lib.hid (HM7.out.far hg8 (by omega) (fun e => HGD.out.1 e.symm) HGD.out.2.2.2.1)
          clear hg8 HM7 HB7
          go_wp2_with fail
          go_roundw
          case rel => exact ⟨k + 1, g2, t2, by go_num, rfl, by omega, HOK2, HM8⟩
          case measure => simp [intOf] <;> omega
        · have hz5 : decide ((k : Int).tmod 5 = 4) = false := decide_eq_false (by omega)
          clear ht5
          go_wp2_with fail
          go_roundw
          case rel => exact ⟨k + 1, g, t2, by go_num, rfl, by omega, HOK2, Lib.hid (HX4.out.drewN _).less⟩
          case measure => simp [intOf] <;> omega
    · clear HT
      go_wp2_with fail
      refine (works_any _).mono ?_
      rintro e w4 ⟨rfl, h4⟩
      have H4 := Lib.hid (bnext HC.out.2.2.2 h4)
      clear HC h4
      go_wp2_with fail
      go_ret
      exact ⟨rfl, H4.out⟩
end Go.Proofs.Ytfjeoioejdkdpaa
