/-
  The document's Whole: whether a row of pieces is a message.
-/
import Derived.Test.YtednkcjmlpgipaaYP1e
import Derived.Deep.QuietTactic
namespace Go.Proofs.Ytednkcjmlpgipaa
set_option maxRecDepth 4000
open Go.RowKit Go.Maps
namespace Fg
set_option linter.unusedVariables false
set_option linter.unusedSimpArgs false

theorem bel_drewN {B : Nat} {a w : World} (h : Below B a w) (q : Nat) : Below B a (w.drewN q) := ⟨h.os, h.tape, h.output, h.size, h.block⟩
theorem add_zero (a : Addr) : a.add (0 * 6) = a := by unfold Addr.add; simp
theorem pf_zero {W : World} {a : Addr} {qs : List Pq} (h : Row W (some a) (pf qs)) (hi : 0 < qs.length) :
    W.cell? a = some (.int .u32 (qs[0].1.t : Int)) ∧ W.cell? { block := a.block, off := a.off + 1 } = some (.int .u8 (qs[0].1.f : Int)) ∧
      W.cell? { block := a.block, off := a.off + 2 } = some (.int .u16 (qs[0].1.s : Int)) ∧ W.cell? { block := a.block, off := a.off + 3 } = some (.int .u16 (qs[0].1.n : Int)) := by
  obtain ⟨b, hb, g0, g1, g2, g3, _⟩ := pf_at h hi
  injection hb with hb
  subst hb
  rw [add_zero] at g0 g1 g2 g3
  exact ⟨g0, g1, g2, g3⟩
def pcs (ps : List Pq) : List Pc := ps.map (·.1)
theorem whole_at {ps : List Pq} {n k : Nat} (hl : ps.length = n) (hk : k < ps.length) (h0 : 0 < ps.length) (hw : WholeIs (pcs ps)) : fitsAt ps[0].1 n k ps[k].1 = true := by
  subst hl
  obtain ⟨h1, h2⟩ := hw
  have := h2 k (by unfold pcs; simpa using hk)
  simpa [pcs] using this
theorem whole_of {ps : List Pq} {n : Nat} (hl : ps.length = n) (h0 : 0 < ps.length) (h : ∀ i (h2 : i < ps.length), fitsAt ps[0].1 n i ps[i].1 = true) : WholeIs (pcs ps) := by
  subst hl
  refine ⟨by unfold pcs; simpa using h0, fun i hi => ?_⟩
  have := h i (by unfold pcs at hi; simpa using hi)
  simpa [pcs] using this
theorem fits_no {x0 x : Pc} {n k : Nat} (h : ¬ (x.s = x0.s ∧ x.n = x0.n ∧ un x.f = un x0.f ∧ bg x.f = decide (k = 0) ∧ en x.f = decide (k + 1 = n))) : fitsAt x0 n k x = false := by
  cases hb : fitsAt x0 n k x with
  | false => rfl
  | true => exact absurd (fits_parts hb) h
set_option maxHeartbeats 4000000 in
theorem dwhole_any (A : Option Addr) (n c : Nat) (ps : List Pq) (W : World) (from' : Nat) (hl : ps.length = n) (hn : n ≤ 100000) (hr : Row W A (pf ps)) (hf : from' < 4294967296) (ht : ∀ i (h : i < ps.length), ps[i].1.t = fw from' i) (hff : ∀ i (h : i < ps.length), ps[i].1.f < 256) :
    Calls Try.prog 92 #[.slice A n c] W fun e w' => Below W.heap.size W w' ∧ ((e = .returned (.bool true) ∧ WholeIs (pcs ps)) ∨ (e = .returned (.bool false) ∧ ¬ WholeIs (pcs ps))) := by
  have HL := Lib.hid hl
  have HR := Lib.hid hr
  have HT := Lib.hid ht
  have HFF := Lib.hid hff
  clear hl hr ht hff
  go_enter Try.func92, Try.ntmps92
  go_wp2_with fail
  go_loopw [3] (fun v3 wr => ∃ k : Nat, v3 = .int .i64 k ∧ k ≤ n ∧ Hid (∀ i (hi : i < k) (h2 : i < ps.length) (h0 : 0 < ps.length), fitsAt ps[0].1 n i ps[i].1 = true) ∧ Hid (Below W.heap.size W wr)) (fun v3 _ => n - (intOf v3).toNat)
  case atStart => exact ⟨0, rfl, Nat.zero_le _, Lib.hid (fun i hi => by omega), Lib.hid (Below.refl _ _)⟩
  case round =>
    obtain ⟨k, rfl, hk, HB, HW⟩ := hrel
    have HR2 := Lib.hid (HR.out.below HW.out)
    by_cases hlt : k < n
    · have hkl : k < ps.length := by rw [HL.out]; exact hlt
      have h0l : 0 < ps.length := by omega
      have h0n : 0 < n := by omega
      obtain ⟨a, rfl, g0, g1, g2, g3, g4, g5⟩ := pf_at HR2.out hkl
      have HNO : Hid (fitsAt ps[0].1 n k ps[k].1 = false → ¬ WholeIs (pcs ps)) := Lib.hid (fun hb hw => by rw [whole_at HL.out hkl h0l hw] at hb; cases hb)
      have HYE : Hid (fitsAt ps[0].1 n k ps[k].1 = true → ∀ i (hi : i < k + 1) (h2 : i < ps.length) (h0 : 0 < ps.length), fitsAt ps[0].1 n i ps[i].1 = true) := Lib.hid (fun hb i hi h2 h0 => by
        by_cases e : i = k
        · subst e; exact hb
        · exact HB.out i (by omega) h2 h0)
      have htk := HT.out k hkl
      have ht0 := HT.out 0 h0l
      have hfk := HFF.out k hkl
      have hf0 := HFF.out 0 h0l
      obtain ⟨x0, hx0⟩ : ∃ x0, ps[0].1 = x0 := ⟨_, rfl⟩
      have HZ : Hid (∀ W2, Below wr.heap.size wr W2 → W2.cell? a = some (.int .u32 (x0.t : Int)) ∧ W2.cell? { block := a.block, off := a.off + 1 } = some (.int .u8 (x0.f : Int)) ∧ W2.cell? { block := a.block, off := a.off + 2 } = some (.int .u16 (x0.s : Int)) ∧ W2.cell? { block := a.block, off := a.off + 3 } = some (.int .u16 (x0.n : Int))) := Lib.hid (fun W2 hb => by
        have := pf_zero (HR2.out.below hb) h0l
        rw [hx0] at this
        exact this)
      rw [hx0] at HNO HYE ht0 hf0
      obtain ⟨⟨x, xA, xk, xc⟩, hx⟩ : ∃ x, ps[k] = x := ⟨_, rfl⟩
      rw [hx] at g0 g1 g2 g3 g4 g5 HNO HYE htk hfk
      simp only at g0 g1 g2 g3 g4 g5 HNO HYE htk hfk
      clear hx hx0 hkl h0l HB
      have e1 : IntKind.u32.wrap (k : Int) = (k : Int) := by rw [IntKind.wrap_u32]; omega
      have e2 : IntKind.u32.wrap ((x0.t : Int) + (k : Int)) = (x.t : Int) := by
        rw [htk, ht0, IntKind.wrap_u32]; unfold fw; omega
      clear htk ht0
      go_upto_region 5 with fail
      generalize hgx : wr.heap.size = gx
      generalize hW1 : World.alloc wr _ = W1
      have HW1 : Hid (Below W.heap.size W W1) := Lib.hid (by rw [← hW1]; exact HW.out.alloc HW.out.size _)
      have HXB : Hid (Bk W1 gx #[.int .u32 (x.t : Int), .int .u8 (x.f : Int), .int .u16 (x.s : Int), .int .u16 (x.n : Int), .int .u32 (x.p : Int), .slice xA xk xc] 33) := Lib.hid (by rw [← hW1, ← hgx]; exact Bk.new _ _ _)
      have z := HZ.out W1 (by rw [← hW1]; exact (Below.refl _ _).alloc (Nat.le_refl _) _)
      obtain ⟨z0, z1, z2, z3⟩ := z
      clear hW1 hgx HZ g0 g1 g2 g3 g4 g5 HW HR2
      have y0 := HXB.out.cell 0
      have y1 := HXB.out.cell 1
      have y2 := HXB.out.cell 2
      have y3 := HXB.out.cell 3
      simp at y0 y1 y2 y3
      have HBX := Lib.hid fun W2 => bit4_any x.f W2 hfk
      have HB0 := Lib.hid fun W2 => bit4_any x0.f W2 hf0
      by_cases hs : x.s = x0.s
      case neg =>
        have HN := Lib.hid (HNO.out (fits_no (by intro h; exact hs h.1)))
        have bs : ((x.s : Int) != (x0.s : Int)) = true := by rw [bne_iff_ne]; omega
        clear HNO HYE
        go_quiet ((go_at_call 93; first | exact Calls.quiet_of_same ((HBX.out _).mono fun _ _ ⟨h1, h2⟩ => ⟨h1, h2.symm⟩) | exact Calls.quiet_of_same ((HB0.out _).mono fun _ _ ⟨h1, h2⟩ => ⟨h1, h2.symm⟩)))
        go_wp2_with fail
        go_ret
        exact ⟨bel_drewN HW1.out _, .inr ⟨rfl, HN.out⟩⟩
      by_cases hn2 : x.n = x0.n
      case neg =>
        have HN := Lib.hid (HNO.out (fits_no (by intro h; exact hn2 h.2.1)))
        have bs : ((x.n : Int) != (x0.n : Int)) = true := by rw [bne_iff_ne]; omega
        clear HNO HYE
        rw [hs] at y2
        clear hs
        go_quiet ((go_at_call 93; first | exact Calls.quiet_of_same ((HBX.out _).mono fun _ _ ⟨h1, h2⟩ => ⟨h1, h2.symm⟩) | exact Calls.quiet_of_same ((HB0.out _).mono fun _ _ ⟨h1, h2⟩ => ⟨h1, h2.symm⟩)))
        go_wp2_with fail
        go_ret
        exact ⟨bel_drewN HW1.out _, .inr ⟨rfl, HN.out⟩⟩
      rw [hs] at y2
      rw [hn2] at y3
      by_cases hu : un x.f = un x0.f
      case neg =>
        have HN := Lib.hid (HNO.out (fits_no (by intro h; exact hu h.2.2.1)))
        clear HNO HYE hs hn2
        have hu2 : un x.f = !un x0.f := by revert hu; cases un x.f <;> cases un x0.f <;> simp
        rw [hu2] at HBX
        clear hu hu2
        generalize un x0.f = u0 at HBX HB0
        cases u0
        all_goals
          go_quiet ((go_at_call 93; first | exact Calls.quiet_of_same ((HBX.out _).mono fun _ _ ⟨h1, h2⟩ => ⟨h1, h2.symm⟩) | exact Calls.quiet_of_same ((HB0.out _).mono fun _ _ ⟨h1, h2⟩ => ⟨h1, h2.symm⟩)))
          go_wp2_with fail
          go_ret
          exact ⟨bel_drewN HW1.out _, .inr ⟨rfl, HN.out⟩⟩
      have B2 := Lib.hid fun W2 => bit2_any x.f W2 hfk
      have B1 := Lib.hid fun W2 => bit1_any x.f W2 hfk
      have HALL : Hid (bg x.f = decide (k = 0) → en x.f = decide (k + 1 = n) → fitsAt x0 n k x = true) := Lib.hid (fun h1 h2 => fits_mk ⟨hs, hn2, hu, h1, h2⟩)
      have HNB : Hid (¬ bg x.f = decide (k = 0) → fitsAt x0 n k x = false) := Lib.hid (fun h1 => fits_no (fun h => h1 h.2.2.2.1))
      have HNE : Hid (¬ en x.f = decide (k + 1 = n) → fitsAt x0 n k x = false) := Lib.hid (fun h1 => fits_no (fun h => h1 h.2.2.2.2))
      obtain ⟨u0, hu0⟩ : ∃ u0, un x0.f = u0 := ⟨_, rfl⟩
      rw [hu, hu0] at HBX
      rw [hu0] at HB0
      have z1' : ((k : Int) == 0) = decide (k = 0) := by rw [Bool.eq_iff_iff]; simp
      have hwn : wrap64 ((n : Int) - 1) = ((n - 1 : Nat) : Int) := by unfold wrap64; omega
      have z2' : ((k : Int) == ((n - 1 : Nat) : Int)) = decide (k + 1 = n) := by rw [Bool.eq_iff_iff]; simp; omega
      have z3' : ((k : Int) == (n : Int) - 1) = decide (k + 1 = n) := by rw [Bool.eq_iff_iff]; simp; omega
      generalize bg x.f = b2 at B2 HALL HNB
      generalize en x.f = b1 at B1 HALL HNE
      generalize decide (k = 0) = kz at z1' HALL HNB
      generalize decide (k + 1 = n) = kn at z2' z3' HALL HNE
      clear hs hn2 hu hu0
      go_quiet ((go_at_call 93; first | exact Calls.quiet_of_same ((HBX.out _).mono fun _ _ ⟨h1, h2⟩ => ⟨h1, h2.symm⟩) | exact Calls.quiet_of_same ((HB0.out _).mono fun _ _ ⟨h1, h2⟩ => ⟨h1, h2.symm⟩)))
      have HW3 := Lib.hid (fun q => bel_drewN HW1.out q)
      clear HBX HB0 z0 z1 z2 z3 y0 y2 y3 HXB HW1 e1 e2
      by_cases q2 : b2 = kz
      case neg =>
        have HN := Lib.hid (HNO.out (HNB.out q2))
        clear HNO HYE HALL HNB HNE
        cases b2 <;> cases kz
        case false.false => exact absurd rfl q2
        case true.true => exact absurd rfl q2
        all_goals
          clear q2
          go_wp2_with (go_at_call 93; (with_reducible refine (B2.out _).mono ?_); rintro e w ⟨rfl, rfl⟩)
          go_ret
          exact ⟨HW3.out _, .inr ⟨rfl, HN.out⟩⟩
      subst q2
      by_cases q1 : b1 = kn
      case neg =>
        have HN := Lib.hid (HNO.out (HNE.out q1))
        clear HNO HYE HALL HNB HNE
        cases b1 <;> cases kn
        case false.false => exact absurd rfl q1
        case true.true => exact absurd rfl q1
        all_goals
          clear q1
          go_wp2_with (go_at_call 93; first | ((with_reducible refine (B2.out _).mono ?_); rintro e w ⟨rfl, rfl⟩) | ((with_reducible refine (B1.out _).mono ?_); rintro e w ⟨rfl, rfl⟩))
          go_ret
          exact ⟨HW3.out _, .inr ⟨rfl, HN.out⟩⟩
      subst q1
      have HY := Lib.hid (HYE.out (HALL.out rfl rfl))
      clear HNO HYE HALL HNB HNE
      cases b1
      all_goals
        go_wp2_with (go_at_call 93; first | ((with_reducible refine (B2.out _).mono ?_); rintro e w ⟨rfl, rfl⟩) | ((with_reducible refine (B1.out _).mono ?_); rintro e w ⟨rfl, rfl⟩))
        go_roundw
        case rel => exact ⟨k + 1, by go_num, by omega, HY, Lib.hid (HW3.out _)⟩
        case measure => simp [intOf] <;> omega
    · obtain rfl : k = n := by omega
      by_cases hz : 0 < k
      · have HY := Lib.hid (whole_of HL.out (by have := HL.out; omega) (fun i h2 => HB.out i (by have := HL.out; omega) h2 (by have := HL.out; omega)))
        go_wp2_with fail
        go_ret
        exact ⟨HW.out, .inl ⟨rfl, HY.out⟩⟩
      · have HY : Hid (¬ WholeIs (pcs ps)) := Lib.hid (fun ⟨h1, _⟩ => by unfold pcs at h1; rw [List.length_map] at h1; have := HL.out; omega)
        go_wp2_with fail
        go_ret
        exact ⟨HW.out, .inr ⟨rfl, HY.out⟩⟩
end Fg
end Go.Proofs.Ytednkcjmlpgipaa
