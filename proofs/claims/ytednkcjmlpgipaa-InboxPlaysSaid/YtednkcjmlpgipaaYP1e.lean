/-
  The law's own piece; Put as an assertion's step; Put and no joiner.
-/
import Derived.Test.YtednkcjmlpgipaaYFgCut
import Derived.Test.YtednkcjmlpgipaaYP1a
import Derived.Test.YtednkcjmlpgipaaYP1d
import Derived.Deep.RegionHeld3
import Derived.Deep.CutBlock
import Derived.Test.YtednkcjmlpgipaaYFgPut
import Derived.Lib.SlBytesConst
import Derived.WideShapes
import Derived.ChangeShapes
import Derived.ChangeSame
import Derived.Deep.Strs
import Derived.Deep.Slices
import Derived.ProofKit
import Derived.SizedLaws
namespace Go.Proofs.Ytednkcjmlpgipaa
set_option maxRecDepth 4000
open Go.RowKit Go.Maps
namespace Fg
set_option linter.unusedVariables false
set_option linter.unusedSimpArgs false

theorem put_nil (x : Pc) (A0 : Option Addr) (k0 c0 : Nat) (w : World) :
    Calls Try.prog 54 #[.pointer none, .agg #[.int .u32 (x.t : Int), .int .u8 (x.f : Int), .int .u16 (x.s : Int), .int .u16 (x.n : Int), .int .u32 (x.p : Int), .slice A0 k0 c0]] w fun e w' => e = .returned (.tuple #[.agg #[.int .u16 0, .bool false, .int .u32 0, .slice none 0 0], .int .u16 0, .bool false]) ∧ Below w.heap.size w w' := by
  have HB := Lib.hid (two_new w (.cells #[.int .u32 (x.t : Int), .int .u8 (x.f : Int), .int .u16 (x.s : Int), .int .u16 (x.n : Int), .int .u32 (x.p : Int), .slice A0 k0 c0] 33) (.cells #[.int .u16 0, .bool false, .int .u32 0, .slice none 0 0] 39))
  go_enter Try.func54, Try.ntmps54
  go_wp2_with fail
  go_returns
  exact ⟨rfl, HB.out⟩
theorem s_put {W w : World} {R : World → (Nat → Prop) → Prop} {j : Nat} {K : List Pc} (h : Now W w (star (JA j K) R)) (hR : Fr R) (x : Pc) (A0 : Option Addr) (k0 c0 : Nat) (hok : x.Ok) (hl : x.d.length = k0) (hk : k0 ≤ 4000000) (hr : Row w A0 (bs x.d)) (hlen : K.length < 100000000) (hheld : held K < 100000000) :
    Calls Try.prog 54 #[.pointer (some ⟨j, 0, none⟩), .agg (pv x A0 k0 c0)] w fun e w' => Now W w' (star (JA j (put K x).1) R) ∧ ∃ F', told w.heap.size F' w' e (put K x).2 := by
  obtain ⟨F1, r1, hp⟩ := h.part hR
  exact (put_any w F1 j K x A0 k0 c0 r1 hok hl hk hr hlen hheld).mono fun e w' ⟨F', h1, h2, h3, h4⟩ => ⟨hp w' F' _ ⟨h3, h1⟩ h2 (fun k hk => JB.lt h2 hk), F', h4⟩
/-- .. where it is told. -/
theorem told_some {lo : Nat} {F' : Nat → Prop} {w' : World} {e : Ending} {r : Option (Ms × Nat)} {m : Ms} {s : Nat} (h : told lo F' w' e r) (hr : r = some (m, s)) : ∃ A n c, e = .returned (.tuple #[.agg #[.int .u16 (m.s : Int), .bool m.u, .int .u32 (m.p : Int), .slice A n c], .int .u16 (s : Int), .bool true]) ∧ m.d.length = n ∧ n ≤ c ∧ Row w' A (bs m.d) ∧ (A = none → n = 0 ∧ c = 0) ∧ ∃ B, lo ≤ B ∧ (∀ k, F' k → k < B) ∧ w'.ownsRow B 5 1 (.slice A n c) n (bs m.d) := by
  subst hr
  exact h
theorem told_none {lo : Nat} {F' : Nat → Prop} {w' : World} {e : Ending} {r : Option (Ms × Nat)} (h : told lo F' w' e r) (hr : r = none) : e = .returned (.tuple #[.agg #[.int .u16 0, .bool false, .int .u32 0, .slice none 0 0], .int .u16 0, .bool false]) := by
  subst hr
  exact h
theorem s_held {W w : World} {R : World → (Nat → Prop) → Prop} {j : Nat} {K : List Pc} (h : Now W w (star (JA j K) R)) : Calls Try.prog 66 #[.pointer (some ⟨j, 0, none⟩)] w fun e w' => e = .returned (.int .i64 (held K : Int)) ∧ w = w' := by
  obtain ⟨F, hj, _⟩ := h.left
  exact held_any w F j K hj
end Fg
end Go.Proofs.Ytednkcjmlpgipaa
/-
  What the inbox's reading methods answer.
-/
namespace Go.Proofs.Ytednkcjmlpgipaa
set_option maxRecDepth 4000
open Go.RowKit Go.Maps
namespace Ix
set_option linter.unusedVariables false
set_option linter.unusedSimpArgs false
open Fg (Pc Ms mv JA JA_fr)

section
variable {W w : World} {x : Nat} {b : Ib} {L : List Me} {R : List As}
theorem IX.cells (h : IX W w x b L R) : ∃ i : Iv, Nw W w (i.parts x b b.whole L R) ∧ i.Fit b L ∧ w.cell? ⟨x, 0, none⟩ = some (.int .i64 (b.room : Int)) ∧ w.cell? ⟨x, 1, none⟩ = some (.int .i64 (b.most : Int)) ∧ w.cell? ⟨x, 2, none⟩ = some (.pointer (some ⟨i.s, 0, none⟩)) ∧
    w.cell? ⟨x, 3, none⟩ = some (.pointer (some ⟨i.j, 0, none⟩)) ∧ w.cell? ⟨x, 4, none⟩ = some i.vn ∧ w.cell? ⟨x, 5, none⟩ = some (.map (some i.m)) ∧ w.cell? ⟨x, 6, none⟩ = some i.v ∧ w.cell? ⟨x, 7, none⟩ = some (.int .i64 (b.whole : Int)) := by
  obtain ⟨i, h, hf⟩ := h
  have hb := h.bk (k := 0) rfl
  exact ⟨i, h, hf, hb.cell 0, hb.cell 1, hb.cell 2, hb.cell 3, hb.cell 4, hb.cell 5, hb.cell 6, hb.cell 7⟩
theorem cum_any (h : IX W w x b L R) : Calls Try.prog 20 #[.pointer (some ⟨x, 0, none⟩)] w fun e w' => e = .returned (.int .u32 (b.st.cum : Int)) ∧ w = w' := by
  obtain ⟨i, hN, hf, _, _, c2, _⟩ := h.cells
  obtain ⟨F, hp, _⟩ := hN.at (k := 1) rfl
  have C := Lib.hid (Gp.cum_any w F i.s b.st hp)
  clear hN hf hp h
  go_enter Try.func20, Try.ntmps20
  go_wp2_with fail
  refine C.out.mono ?_
  rintro e w ⟨rfl, rfl⟩
  go_wp2_with fail
  go_ret
  exact ⟨rfl, rfl⟩
theorem cum_nil (w : World) : Calls Try.prog 20 #[.pointer none] w fun e w' => e = .returned (.int .u32 0) ∧ w = w' := by
  go_enter Try.func20, Try.ntmps20
  go_wp2
  go_ret
  exact ⟨rfl, rfl⟩
theorem ready_any (h : IX W w x b L R) : Calls Try.prog 21 #[.pointer (some ⟨x, 0, none⟩)] w fun e w' => e = .returned (.int .i64 (b.rd.length : Int)) ∧ w = w' := by
  obtain ⟨i, hN, hf, _, _, _, _, _, _, c6, _⟩ := h.cells
  obtain ⟨F, hp, _⟩ := hN.at (k := 5) rfl
  obtain ⟨A, c, hv, _⟩ := hp.1.form
  have hl : i.rM.length = b.rd.length := by rw [← hf.rd, List.length_map]
  rw [hv, hl] at c6
  clear hN hf hp h hv hl
  go_enter Try.func21, Try.ntmps21
  go_wp2
  go_ret
  exact ⟨rfl, rfl⟩
theorem ready_nil (w : World) : Calls Try.prog 21 #[.pointer none] w fun e w' => e = .returned (.int .i64 0) ∧ w = w' := by
  go_enter Try.func21, Try.ntmps21
  go_wp2
  go_ret
  exact ⟨rfl, rfl⟩
/-- In a world that is longer. -/
theorem IX.look (h : IX W w x b L R) : ∃ i : Iv, i.Fit b L ∧ ∀ w2, Below w.heap.size w w2 → Nw W w2 (i.parts x b b.whole L R) ∧ Bk w2 x (xc b.room b.most i.s i.j i.vn i.m i.v b.whole) 101 := by
  obtain ⟨i, h, hf⟩ := h
  exact ⟨i, hf, fun w2 hb => ⟨h.next hb, (h.next hb).bk (k := 0) rfl⟩⟩
theorem held_any (h : IX W w x b L R) (ok : b.Ok) : Calls Try.prog 22 #[.pointer (some ⟨x, 0, none⟩)] w fun e w' => e = .returned (.int .i64 (b.held : Int)) ∧ Below w.heap.size w w' := by
  obtain ⟨i, hf, hN⟩ := h.look
  have hS : ∀ w2, Below w.heap.size w w2 → w2.cell? ⟨x, 3, none⟩ = some (.pointer (some ⟨i.j, 0, none⟩)) ∧ w2.cell? ⟨x, 7, none⟩ = some (.int .i64 (b.whole : Int)) := fun w2 hb => ⟨((hN w2 hb).2.cell 3).trans rfl, ((hN w2 hb).2.cell 7).trans rfl⟩
  have hC : ∀ w2, Below w.heap.size w w2 → Calls Try.prog 66 #[.pointer (some ⟨i.j, 0, none⟩)] w2 fun e w' => e = .returned (.int .i64 (Fg.held b.K : Int)) ∧ w2 = w' := fun w2 hb => by
    obtain ⟨F, hp, _⟩ := (hN w2 hb).1.at (k := 2) rfl
    exact Fg.held_any w2 F i.j b.K hp
  have HS := Lib.hid hS
  have C := Lib.hid hC
  have hwd : Below w.heap.size w w.drew := (Below.refl _ _).drew
  have hs := hS _ hwd
  have hl := ok.len
  have e1 : b.held = Fg.held b.K + b.whole := rfl
  have hb1 := hl.2.2.2.1
  have hb2 := hl.2.2.2.2
  have HE := Lib.hid e1
  clear hN hf h hl e1 ok hC hS
  generalize Fg.held b.K = p at C hb1 HE
  generalize b.whole = q at HS hs hb2 HE
  generalize i.j = j at HS hs C
  have hw : IntKind.i64.wrap ((p : Int) + (q : Int)) = ((p + q : Nat) : Int) := by
    simp [IntKind.wrap, IntKind.signed, IntKind.bits]
    omega
  go_enter Try.func22, Try.ntmps22
  go_wp2_with fail
  first | go_region_held3 (fun W => W.cell? ⟨x, 3, none⟩ = some (.pointer (some ⟨j, 0, none⟩)) ∧ W.cell? ⟨x, 7, none⟩ = some (.int .i64 (q : Int))) (first | exact hs | exact HS.out _ (by assumption)) ((go_at_call 66; (with_reducible refine (C.out _ ?_).mono ?_); assumption; rintro e w2 ⟨rfl, rfl⟩)) | fail
  all_goals
    go_wp2_with fail
    go_ret
    exact ⟨by rw [HE.out]; rfl, hwd⟩
theorem held_nil (w : World) : Calls Try.prog 22 #[.pointer none] w fun e w' => e = .returned (.int .i64 0) ∧ w = w' := by
  go_enter Try.func22, Try.ntmps22
  go_wp2
  go_ret
  exact ⟨rfl, rfl⟩
theorem rwnd_any (h : IX W w x b L R) (ok : b.Ok) : Calls Try.prog 24 #[.pointer (some ⟨x, 0, none⟩)] w fun e w' => e = .returned (.int .u32 (b.rwnd : Int)) ∧ Below w.heap.size w w' := by
  obtain ⟨i, hf, hN⟩ := h.look
  have hS : ∀ w2, Below w.heap.size w w2 → w2.cell? ⟨x, 0, none⟩ = some (.int .i64 (b.room : Int)) ∧ w2.cell? ⟨x, 1, none⟩ = some (.int .i64 (b.most : Int)) := fun w2 hb => ⟨((hN w2 hb).2.cell 0).trans rfl, ((hN w2 hb).2.cell 1).trans rfl⟩
  have hC : ∀ w2, Below w.heap.size w w2 → Calls Try.prog 22 #[.pointer (some ⟨x, 0, none⟩)] w2 fun e w' => e = .returned (.int .i64 (b.held : Int)) ∧ Below w2.heap.size w2 w' := fun w2 hb => held_any (h.next hb) ok
  have HS := Lib.hid hS
  have C := Lib.hid hC
  have hwd : Below w.heap.size w w.drew := (Below.refl _ _).drew
  have hs := hS _ hwd
  have h1 := ok.held
  have h2 := ok.room
  have h3 := ok.most
  have HE : Hid (b.rwnd = b.room - b.most - b.held) := Lib.hid rfl
  clear hN hf h ok hC hS
  generalize b.room = r at HS hs h1 h2 HE
  generalize b.most = m at HS hs h3 HE
  generalize b.held = q at C h1 HE
  have hw1 : IntKind.i64.wrap ((r : Int) - (m : Int)) = (r : Int) - (m : Int) := by
    simp [IntKind.wrap, IntKind.signed, IntKind.bits]
    omega
  obtain ⟨z, hz⟩ : ∃ z : Int, z = (r : Int) - (m : Int) - (q : Int) := ⟨_, rfl⟩
  have hw2 : IntKind.i64.wrap ((r : Int) - (m : Int) - (q : Int)) = z := by
    simp [IntKind.wrap, IntKind.signed, IntKind.bits]
    omega
  obtain ⟨y, hy⟩ : ∃ y : Nat, y = r - m - q := ⟨_, rfl⟩
  have HY : Hid (y = r - m - q) := Lib.hid hy
  have hmx : (if (0 : Int) > z then (0 : Int) else z) = (y : Int) := by split <;> omega
  have hmx2 : max z (0 : Int) = (y : Int) := by omega
  have hcv : IntKind.u32.wrap (y : Int) = (y : Int) := by
    simp [IntKind.wrap, IntKind.signed, IntKind.bits]
    omega
  clear hz hy
  go_enter Try.func24, Try.ntmps24
  go_wp2_with fail
  first | go_region_held3 (fun W => W.cell? ⟨x, 0, none⟩ = some (.int .i64 (r : Int)) ∧ W.cell? ⟨x, 1, none⟩ = some (.int .i64 (m : Int))) (first | exact hs | exact HS.out _ (by assumption)) ((go_at_call 22; (with_reducible refine (C.out _ ?_).mono ?_); assumption; rintro e w2 ⟨rfl, hb2⟩; have hd2 := bnext (w := w) (by assumption) hb2)) | fail
  all_goals
    go_wp2_with fail
    go_ret
    exact ⟨by rw [HE.out, ← HY.out]; rfl, hd2⟩
end
end Ix
end Go.Proofs.Ytednkcjmlpgipaa
/-
  Whether a piece is a fresh one, whether there is room for it, whether a message may wait.
-/
namespace Go.Proofs.Ytednkcjmlpgipaa
set_option maxRecDepth 4000
open Go.RowKit Go.Maps
namespace Ix
set_option linter.unusedVariables false
set_option linter.unusedSimpArgs false
open Fg (Pc Ms mv JA JA_fr)

def w16 (a b : Nat) : Nat := (b + 65536 - a) % 65536
theorem w16_lt (a b : Nat) : w16 a b < 65536 := Nat.mod_lt _ (by omega)
theorem way16_any (a b : Nat) (w : World) (ha : a < 65536) (hb : b < 65536) :
    Calls Try.prog 119 #[.int .u16 (a : Int), .int .u16 (b : Int)] w fun e w' => e = .returned (.int .u16 (w16 a b : Nat)) ∧ w = w' := by
  have hw : IntKind.u16.wrap ((b : Int) - (a : Int)) = ((w16 a b : Nat) : Int) := by
    unfold w16
    simp [IntKind.wrap, IntKind.signed, IntKind.bits]
    omega
  go_enter Try.func119, Try.ntmps119
  go_wp2
  go_ret
  exact ⟨rfl, rfl⟩
theorem before16_any (a b : Nat) (w : World) (ha : a < 65536) (hb : b < 65536) :
    Calls Try.prog 110 #[.int .u16 (a : Int), .int .u16 (b : Int)] w fun e w' => e = .returned (.bool (bf16 a b)) ∧ w = w' := by
  have hlt := w16_lt a b
  have h0 : (a = b → bf16 a b = false) ∧ (a ≠ b → bf16 a b = decide (w16 a b ≤ 32767)) := by
    unfold bf16
    refine ⟨fun e => ?_, fun e => ?_⟩
    · have : w16 a b = 0 := by unfold w16; omega
      unfold w16 at this
      simp [this]
    · have : 1 ≤ w16 a b := by unfold w16; omega
      unfold w16 at *
      simp [this]
  have H0 := Lib.hid h0
  clear h0
  have hx : bits .xor .u16 IntKind.u16.max 0 = 65535 := by decide +kernel
  have hsg : IntKind.u16.signed = false := rfl
  go_enter Try.func110, Try.ntmps110
  by_cases hab : a = b
  · have hz : ((a : Int) != (b : Int)) = false := by simp; omega
    have HA := Lib.hid hab
    clear hab
    go_wp2_with (go_at_call 119; refine (way16_any _ _ _ (by assumption) (by assumption)).mono ?_; rintro e w' ⟨rfl, rfl⟩)
    go_ret
    exact ⟨by rw [H0.out.1 HA.out]; rfl, rfl⟩
  · have hz : ((a : Int) != (b : Int)) = true := by simp; omega
    go_wp2_with (go_at_call 119; refine (way16_any _ _ _ (by assumption) (by assumption)).mono ?_; rintro e w' ⟨rfl, rfl⟩)
    go_ret
    refine ⟨?_, rfl⟩
    rw [H0.out.2 hab]
    simp
    try omega
section
variable {W w : World} {x : Nat} {b : Ib} {L : List Me} {R : List As}
theorem fresh_any (h : IX W w x b L R) (hc : b.st.cum < 4294967296) (t : Nat) (ht : t < 4294967296) : Calls Try.prog 51 #[.pointer (some ⟨x, 0, none⟩), .int .u32 (t : Int)] w fun e w' => e = .returned (.bool (b.fresh t)) ∧ Below w.heap.size w w' := by
  obtain ⟨i, hf, hN⟩ := h.look
  have HS := Lib.hid (fun w2 hb => ((hN w2 hb).2.cell 2).trans rfl : ∀ w2, Below w.heap.size w w2 → w2.cell? ⟨x, 2, none⟩ = some (.pointer (some ⟨i.s, 0, none⟩)))
  have C1 := Lib.hid (by
    obtain ⟨F, hp, _⟩ := (hN w (Below.refl _ _)).1.at (k := 1) rfl
    exact Gp.has_any w F i.s t b.st hp ht : Calls Try.prog 76 #[.pointer (some ⟨i.s, 0, none⟩), .int .u32 (t : Int)] w fun e w' => e = .returned (.bool (b.st.has t)) ∧ Below w.heap.size w w')
  have C2 := Lib.hid (fun w2 hb => by
    obtain ⟨F, hp, _⟩ := (hN w2 hb).1.at (k := 1) rfl
    exact Gp.cum_any w2 F i.s b.st hp : ∀ w2, Below w.heap.size w w2 → Calls Try.prog 65 #[.pointer (some ⟨i.s, 0, none⟩)] w2 fun e w' => e = .returned (.int .u32 (b.st.cum : Int)) ∧ w2 = w')
  have C3 := Lib.hid (fun w2 => Gp.span_any b.st.cum t w2 hc ht)
  have HE : Hid (b.fresh t = (!b.st.has t && decide (Gp.wy b.st.cum t ≤ 65535))) := Lib.hid rfl
  have c2 := HS.out w (Below.refl _ _)
  clear hN hf h
  generalize i.s = s at HS C1 C2 c2
  generalize b.st.has t = r at C1 HE
  have hy := Gp.wy_lt b.st.cum t
  generalize Gp.wy b.st.cum t = y at C3 HE hy
  generalize b.st.cum = c at C2 C3 hc
  generalize b.fresh t = fr at HE ⊢
  go_enter Try.func51, Try.ntmps51
  go_wp2_with fail
  refine C1.out.mono ?_
  rintro e w2 ⟨rfl, hb2⟩
  have d2 := HS.out w2 hb2
  have C4 := Lib.hid (C2.out w2 hb2)
  have HB := Lib.hid hb2
  clear hb2 c2 HS C2 C1
  cases r with
  | true =>
    have HR : Hid (fr = false) := Lib.hid (by rw [HE.out, Bool.not_true, Bool.false_and])
    clear HE
    go_wp2_with fail
    go_ret
    exact ⟨Gp.ret_b HR.out.symm, HB.out⟩
  | false =>
    have hd : decide ((y : Int) ≤ 65535) = decide (y ≤ 65535) := decide_eq_decide.2 (by omega)
    have HR : Hid (fr = decide ((y : Int) ≤ 65535)) := Lib.hid (by rw [HE.out, Bool.not_false, Bool.true_and, hd])
    clear hd HE
    go_wp2_with (first
      | (go_at_call 65; (with_reducible refine C4.out.mono ?_); rintro e w ⟨rfl, rfl⟩)
      | (go_at_call 77; (with_reducible refine (C3.out _).mono ?_); rintro e w ⟨rfl, rfl⟩))
    go_ret
    exact ⟨Gp.ret_b HR.out.symm, HB.out⟩
theorem fits_any (h : IX W w x b L R) (ok : b.Ok) (q : Pc) (A : Option Addr) (k c : Nat) (hq : q.t < 4294967296) (hl : q.d.length = k) (hk : k ≤ 1000000000) : Calls Try.prog 53 #[.pointer (some ⟨x, 0, none⟩), .agg (Fg.pv q A k c)] w fun e w' => e = .returned (.bool (b.fits q)) ∧ Below w.heap.size w w' := by
  obtain ⟨i, hf, hN⟩ := h.look
  have HS := Lib.hid (fun w2 hb => ⟨((hN w2 hb).2.cell 0).trans rfl, ((hN w2 hb).2.cell 1).trans rfl, ((hN w2 hb).2.cell 2).trans rfl⟩ : ∀ w2, Below w.heap.size w w2 → w2.cell? ⟨x, 0, none⟩ = some (.int .i64 (b.room : Int)) ∧ w2.cell? ⟨x, 1, none⟩ = some (.int .i64 (b.most : Int)) ∧ w2.cell? ⟨x, 2, none⟩ = some (.pointer (some ⟨i.s, 0, none⟩)))
  have C1 := Lib.hid (fun w2 hb => held_any (h.next hb) ok : ∀ w2, Below w.heap.size w w2 → Calls Try.prog 22 #[.pointer (some ⟨x, 0, none⟩)] w2 fun e w' => e = .returned (.int .i64 (b.held : Int)) ∧ Below w2.heap.size w2 w')
  have C2 := Lib.hid (fun w2 hb => by
    obtain ⟨F, hp, _⟩ := (hN w2 hb).1.at (k := 1) rfl
    exact Gp.next_any w2 F i.s q.t b.st hp hq : ∀ w2, Below w.heap.size w w2 → Calls Try.prog 81 #[.pointer (some ⟨i.s, 0, none⟩), .int .u32 (q.t : Int)] w2 fun e w' => e = .returned (.bool ((q.t : Int) == ((Gp.up b.st.cum 1 : Nat) : Int))) ∧ w2 = w')
  have HE : Hid (b.fits q = decide (b.held + q.d.length + (if q.t = Gp.up b.st.cum 1 then 0 else b.most) ≤ b.room)) := Lib.hid rfl
  have h1 := ok.held
  have h2 := ok.room
  have h3 := ok.most
  have HK := Lib.hid hl
  clear hN hf h ok hl
  generalize b.fits q = fr at HE ⊢
  generalize i.s = s at HS C2
  generalize b.room = r at HS HE h1 h2
  generalize b.most = m at HS HE h3
  generalize b.held = p at C1 HE h1
  generalize Gp.up b.st.cum 1 = u at C2 HE
  obtain ⟨t, f, si, n, pp, d⟩ := q
  simp only at hq HK HE C2
  rw [HK.out] at HE
  clear HK
  unfold Fg.pv
  simp only
  have hw1 : IntKind.i64.wrap ((r : Int) - (p : Int)) = (r : Int) - (p : Int) := by
    simp [IntKind.wrap, IntKind.signed, IntKind.bits]
    omega
  have hw2 : IntKind.i64.wrap ((r : Int) - (p : Int) - (m : Int)) = (r : Int) - (p : Int) - (m : Int) := by
    simp [IntKind.wrap, IntKind.signed, IntKind.bits]
    omega
  go_enter Try.func53, Try.ntmps53
  go_upto_region 1 with fail
  have HB0 := Lib.hid ((Below.refl w.heap.size w).alloc (Nat.le_refl _) (.cells #[.int .u32 (t : Int), .int .u8 (f : Int), .int .u16 (si : Int), .int .u16 (n : Int), .int .u32 (pp : Int), .slice A k c] 33))
  have HX : Hid (Bk (w.alloc (.cells #[.int .u32 (t : Int), .int .u8 (f : Int), .int .u16 (si : Int), .int .u16 (n : Int), .int .u32 (pp : Int), .slice A k c] 33)) w.heap.size #[.int .u32 (t : Int), .int .u8 (f : Int), .int .u16 (si : Int), .int .u16 (n : Int), .int .u32 (pp : Int), .slice A k c] 33) := Lib.hid (Bk.new _ _ _)
  generalize w.alloc (.cells #[.int .u32 (t : Int), .int .u8 (f : Int), .int .u16 (si : Int), .int .u16 (n : Int), .int .u32 (pp : Int), .slice A k c] 33) = w1 at HB0 HX ⊢
  obtain ⟨g, hg⟩ : ∃ g, w.heap.size = g := ⟨_, rfl⟩
  rw [hg] at HX ⊢
  have HG := Lib.hid hg
  clear hg
  have hs := (HS.out w1.drew HB0.out.drew).1
  go_cut [5] from 6 to 12 (fun v5 wx => v5 = .int .i64 ((r : Int) - (p : Int)) ∧ Hid (Below w1.heap.size w1 wx))
  case first =>
    have hwd : Below w1.heap.size w1 w1.drew := (Below.refl _ _).drew
    first | go_region_held3 (fun W => W.cell? ⟨x, 0, none⟩ = some (.int .i64 (r : Int))) (first | exact hs | assumption) ((go_at_call 22; (with_reducible refine (C1.out _ ?_).mono ?_); exact HB0.out.drew; rintro e w2 ⟨rfl, hb2⟩; have hd2 := bnext (w := w1) hwd hb2; have hs2 := (HS.out w2 (bnext HB0.out hd2)).1)) | fail
    all_goals
      go_wp2_with fail
      go_meet
      case rel => exact ⟨rfl, Lib.hid hd2⟩
  case rest =>
    obtain ⟨rfl, HBX⟩ := hcut
    have HB1 := Lib.hid (bnext HB0.out HBX.out)
    have HX1 := Lib.hid (HX.out.next HBX.out)
    clear HX HB0 HBX hs
    have hs2 : wc.drew.cell? ⟨x, 2, none⟩ = some (.pointer (some ⟨s, 0, none⟩)) ∧ wc.drew.cell? ⟨g, 0, none⟩ = some (.int .u32 (t : Int)) := ⟨(HS.out _ HB1.out.drew).2.2, (HX1.out.drew.cell 0).trans rfl⟩
    have hwd2 : Below w.heap.size w wc.drew := HB1.out.drew
    have C3 := Lib.hid (C2.out wc.drew hwd2)
    have x5 := (HX1.out.drew.cell 5)
    have x1 := (HS.out wc.drew hwd2).2.1
    simp at x5
    by_cases htu : t = u
    · have hz : ((t : Int) == (u : Int)) = true := by simp; omega
      have HR : Hid (fr = decide ((k : Int) ≤ (r : Int) - (p : Int))) := Lib.hid (by
        rw [HE.out, if_pos htu]
        exact decide_eq_decide.2 (by omega))
      clear HE htu C1 C2
      rw [hz] at C3
      go_upto_region 2 with fail
      first | go_region_held3 (fun W => W.cell? ⟨x, 2, none⟩ = some (.pointer (some ⟨s, 0, none⟩)) ∧ W.cell? ⟨g, 0, none⟩ = some (.int .u32 (t : Int))) (first | exact hs2 | assumption) ((go_at_call 81; (with_reducible refine C3.out.mono ?_); rintro e w ⟨rfl, rfl⟩)) | fail
      all_goals
        go_wp2_with fail
        go_ret
        exact ⟨Gp.ret_b HR.out.symm, hwd2⟩
    · have hz : ((t : Int) == (u : Int)) = false := by simp; omega
      have HR : Hid (fr = decide ((k : Int) ≤ (r : Int) - (p : Int) - (m : Int))) := Lib.hid (by
        rw [HE.out, if_neg htu]
        exact decide_eq_decide.2 (by omega))
      clear HE htu C1 C2
      rw [hz] at C3
      go_upto_region 2 with fail
      first | go_region_held3 (fun W => W.cell? ⟨x, 2, none⟩ = some (.pointer (some ⟨s, 0, none⟩)) ∧ W.cell? ⟨g, 0, none⟩ = some (.int .u32 (t : Int))) (first | exact hs2 | assumption) ((go_at_call 81; (with_reducible refine C3.out.mono ?_); rintro e w ⟨rfl, rfl⟩)) | fail
      all_goals
        go_wp2_with fail
        go_ret
        exact ⟨Gp.ret_b HR.out.symm, hwd2⟩
end
end Ix
end Go.Proofs.Ytednkcjmlpgipaa
/-
  Whether a message may wait.
-/
namespace Go.Proofs.Ytednkcjmlpgipaa
set_option maxRecDepth 4000
open Go.RowKit Go.Maps
namespace Ix
set_option linter.unusedVariables false
set_option linter.unusedSimpArgs false
open Fg (Pc Ms mv JA JA_fr)

section
variable {W w : World} {x : Nat} {b : Ib} {L : List Me} {R : List As} {i : Iv} {F : Nat → Prop}
theorem lk_none (hf : i.Fit b L) (hp : AMR MT i.m i.wM w F) {t : Nat} (ht : t < 4294967296) (h : alook wkey b.ws t = none) (w' : World) (hw : w'.heap[i.m]? = w.heap[i.m]?) :
    (Instr.lookup 99 (.map (some i.m)) (kvT t) true).run Try.prog w' = .ok (.tuple #[zms, .bool false]) w' := by
  rw [← hf.ws, alook_map (key := ekey) ekey_plain, Option.map_eq_none_iff] at h
  exact (AMR.none (M := MT) hp ht h w' hw).2
theorem lk_some (hf : i.Fit b L) (hp : AMR MT i.m i.wM w F) {t : Nat} (ht : t < 4294967296) {e : Ms × Nat} (h : alook wkey b.ws t = some e) :
    ∃ em ∈ i.wM, alook ekey i.wM t = some em ∧ eplain em = e ∧ ∀ w' : World, w'.heap[i.m]? = w.heap[i.m]? → (Instr.lookup 99 (.map (some i.m)) (kvT t) true).run Try.prog w' = .ok (.tuple #[mval em.1, .bool true]) w' := by
  rw [← hf.ws, alook_map (key := ekey) ekey_plain] at h
  obtain ⟨em, h1, h2⟩ := Option.map_eq_some_iff.1 h
  exact ⟨em, (alook_some h1).1, h1, h2, fun w' hw => (AMR.some (M := MT) hp ht h1 w' hw).2⟩
/-- The number that is next, as the row of numbers has it. -/
theorem nx_at (h : IX W w x b L R) {s : Nat} (hs : s < b.nx.length) : ∃ (i : Iv) (a : Addr) (c : Nat), i.Fit b L ∧ i.vn = .slice (some a) b.nx.length c ∧ (∀ w2, Below w.heap.size w w2 → Nw W w2 (i.parts x b b.whole L R) ∧ Bk w2 x (xc b.room b.most i.s i.j i.vn i.m i.v b.whole) 101 ∧ w2.cell? (a.add s) = some (.int .u16 (b.nxt s : Int))) ∧
    ∃ F, AMR MT i.m i.wM w F := by
  obtain ⟨i, hf, hN⟩ := h.look
  obtain ⟨F, hp, _⟩ := (hN w (Below.refl _ _)).1.at (k := 3) rfl
  obtain ⟨F4, hp4, _⟩ := (hN w (Below.refl _ _)).1.at (k := 4) rfl
  obtain ⟨A, c, hv, _⟩ := hp.1.form
  have hrow := hp.1
  rw [hv] at hrow
  obtain ⟨a, rfl, hc⟩ := Ir.row hrow s _ (ns_get hs)
  exact ⟨i, a, c, hf, hv, fun w2 hb => ⟨(hN w2 hb).1, (hN w2 hb).2, by
    obtain ⟨a', ha', hc'⟩ := (Ir.row hrow).below hb s _ (ns_get hs)
    cases ha'
    exact hc'⟩, F4, hp4⟩
set_option maxHeartbeats 1000000 in
theorem mayWait_any (h : IX W w x b L R) (ok : b.Core) (s n : Nat) (hs : s < b.nx.length) (hn : n < 65536) :
    Calls Try.prog 87 #[.pointer (some ⟨x, 0, none⟩), .agg #[.int .u16 (s : Int), .int .u16 (n : Int)]] w fun e w' => e = .returned (.bool ((alook wkey b.ws (s * 65536 + n)).isNone && bf16 (b.nxt s) n)) ∧ Below w.heap.size w w' := by
  obtain ⟨i, a, c, hf, hv, hN, F, hp⟩ := nx_at h hs
  have hsl : s < 65536 := by have := ok.nx; omega
  have htt : s * 65536 + n < 4294967296 := by omega
  have hkv := kvT_at (a := s) hn
  have hmlt : i.m < w.heap.size := hp.choose_spec.2.2.1 |> fun hm => hp.choose_spec.2.2.2.2.2 _ hm
  have HM : Hid (∀ w2, Below w.heap.size w w2 → w2.heap[i.m]? = w.heap[i.m]?) := Lib.hid fun w2 hb => hb.block _ hmlt
  have HS := Lib.hid (fun w2 hb => ⟨((hN w2 hb).2.1.cell 4).trans rfl, ((hN w2 hb).2.1.cell 5).trans rfl, (hN w2 hb).2.2⟩ : ∀ w2, Below w.heap.size w w2 → w2.cell? ⟨x, 4, none⟩ = some i.vn ∧ w2.cell? ⟨x, 5, none⟩ = some (.map (some i.m)) ∧ w2.cell? (a.add s) = some (.int .u16 (b.nxt s : Int)))
  rw [hv] at HS
  have hnx := nxt_lt ok s
  have CB := Lib.hid (fun w2 => before16_any (b.nxt s) n w2 hnx hn)
  obtain ⟨v, r, HR, HLK, hv4⟩ : ∃ (v : Me) (r : Bool), Hid (r = (alook wkey b.ws (s * 65536 + n)).isNone) ∧ Hid (∀ w2, Below w.heap.size w w2 → (Instr.lookup 99 (.map (some i.m)) (.agg #[.int .u16 (s : Int), .int .u16 (n : Int)]) true).run Try.prog w2 = .ok (.tuple #[.agg #[.int .u16 (v.1.s : Int), .bool v.1.u, .int .u32 (v.1.p : Int), .slice v.2.1 v.2.2.1 v.2.2.2], .bool (!r)]) w2) ∧ True := by
    cases e : alook wkey b.ws (s * 65536 + n) with
    | none => exact ⟨(⟨0, false, 0, []⟩, (none, 0, 0)), true, Lib.hid rfl, Lib.hid fun w2 hb => by rw [← hkv]; exact lk_none hf hp htt e w2 (HM.out w2 hb), trivial⟩
    | some y =>
      obtain ⟨em, _, _, _, h4⟩ := lk_some hf hp htt e
      exact ⟨em.1, false, Lib.hid rfl, Lib.hid fun w2 hb => by rw [← hkv]; exact h4 w2 (HM.out w2 hb), trivial⟩
  have HE := Lib.hid (rfl : ((alook wkey b.ws (s * 65536 + n)).isNone && bf16 (b.nxt s) n) = ((alook wkey b.ws (s * 65536 + n)).isNone && bf16 (b.nxt s) n))
  generalize hfr : ((alook wkey b.ws (s * 65536 + n)).isNone && bf16 (b.nxt s) n) = fr at HE
  have HF : Hid (fr = (r && bf16 (b.nxt s) n)) := Lib.hid (by rw [HR.out]; exact hfr.symm)
  clear HE hfr HR h hN hf hp hkv hv HM htt hmlt hv4 ok
  generalize bf16 (b.nxt s) n = q at CB HF
  generalize b.nxt s = nv at HS CB hnx
  generalize b.nx.length = N at HS hs
  generalize i.m = m at HS HLK
  obtain ⟨⟨vs, vu, vp, vd⟩, vA, vk, vc⟩ := v
  simp only at HLK
  go_enter Try.func87, Try.ntmps87
  go_upto_region 1 with fail
  have HB0 := Lib.hid ((Below.refl w.heap.size w).alloc (Nat.le_refl _) (.cells #[.int .u16 (s : Int), .int .u16 (n : Int)] 151))
  have HX : Hid (Bk (w.alloc (.cells #[.int .u16 (s : Int), .int .u16 (n : Int)] 151)) w.heap.size #[.int .u16 (s : Int), .int .u16 (n : Int)] 151) := Lib.hid (Bk.new _ _ _)
  generalize w.alloc (.cells #[.int .u16 (s : Int), .int .u16 (n : Int)] 151) = w1 at HB0 HX ⊢
  obtain ⟨g, hg⟩ : ∃ g, w.heap.size = g := ⟨_, rfl⟩
  rw [hg] at HX ⊢
  clear hg
  have c5 := (HS.out _ HB0.out.drew).2.1
  have g0 := HX.out.drew.cell 0
  have g1 := HX.out.drew.cell 1
  simp at g0 g1
  have l1 := HLK.out _ HB0.out.drew
  have hbo : ∀ o, Below w.heap.size w (w1.alloc o).drew := fun o => (HB0.out.alloc HB0.out.size o).drew
  have l2 := fun o => HLK.out _ (hbo o)
  have c5' := fun o => (HS.out _ (hbo o)).2.1
  have g0' : ∀ o, (w1.alloc o).drew.cell? ⟨g, 0, none⟩ = some (.int .u16 (s : Int)) := fun o => ((HX.out.alloc o).cell 0).trans rfl
  have g1' : ∀ o, (w1.alloc o).drew.cell? ⟨g, 1, none⟩ = some (.int .u16 (n : Int)) := fun o => ((HX.out.alloc o).cell 1).trans rfl
  go_cut [6] from 5 to 15 (fun v6 wx => v6 = .bool (!r) ∧ Hid (Below w1.heap.size w1 wx))
  case first =>
    cases r with
    | true =>
      simp only [Bool.not_true] at l1 l2
      go_region
      all_goals
        go_wp2_with fail
        go_meet
        case rel => exact ⟨rfl, Lib.hid (by go_grown)⟩
    | false =>
      simp only [Bool.not_false] at l1 l2
      go_region
      all_goals
        go_wp2_with fail
        go_meet
        case rel => exact ⟨rfl, Lib.hid (by go_grown)⟩
  case rest =>
    obtain ⟨rfl, HBX⟩ := hcut
    have HB1 := Lib.hid (bnext HB0.out HBX.out)
    have HX1 := Lib.hid (HX.out.next HBX.out)
    clear HX HB0 HBX HLK l1 l2 hbo c5' g0' g1' c5 g0 g1
    have hwd : Below w.heap.size w wc.drew := HB1.out.drew
    have c4 := (HS.out _ hwd).1
    have cn := (HS.out _ hwd).2.2
    have g0 := HX1.out.drew.cell 0
    have g1 := HX1.out.drew.cell 1
    simp at g0 g1
    cases r with
    | false =>
      have HR : Hid (fr = false) := Lib.hid (by rw [HF.out, Bool.false_and])
      go_upto_region 2 with fail
      go_region
      all_goals
        go_wp2_with fail
        go_ret
        exact ⟨Gp.ret_b HR.out.symm, hwd⟩
    | true =>
      have HR : Hid (fr = q) := Lib.hid (by rw [HF.out, Bool.true_and])
      have hs2 : wc.drew.cell? ⟨x, 4, none⟩ = some (.slice (some a) N c) ∧ wc.drew.cell? (a.add s) = some (.int .u16 (nv : Int)) ∧ wc.drew.cell? ⟨g, 0, none⟩ = some (.int .u16 (s : Int)) ∧ wc.drew.cell? ⟨g, 1, none⟩ = some (.int .u16 (n : Int)) := ⟨c4, cn, g0, g1⟩
      go_upto_region 2 with fail
      first | go_region_held3 (fun W => W.cell? ⟨x, 4, none⟩ = some (.slice (some a) N c) ∧ W.cell? (a.add s) = some (.int .u16 (nv : Int)) ∧ W.cell? ⟨g, 0, none⟩ = some (.int .u16 (s : Int)) ∧ W.cell? ⟨g, 1, none⟩ = some (.int .u16 (n : Int))) (first | exact hs2 | assumption) ((go_at_call 110; (with_reducible refine (CB.out _).mono ?_); rintro e w ⟨rfl, rfl⟩)) | fail
      all_goals
        go_wp2_with fail
        go_ret
        exact ⟨Gp.ret_b HR.out.symm, hwd⟩
end
end Ix
end Go.Proofs.Ytednkcjmlpgipaa
/-
  Steps on an inbox's parts: what is ready grows; a number goes on; what waits goes.
-/
namespace Go.Proofs.Ytednkcjmlpgipaa
set_option maxRecDepth 4000
open Go.RowKit Go.Maps
theorem Row.drew {w : World} {A : Option Addr} {l : List Value} (h : Row w A l) : Row w.drew A l := h
namespace Ix
set_option linter.unusedVariables false
set_option linter.unusedSimpArgs false
open Fg (Pc Ms mv JA JA_fr)

theorem infoMs : (Try.prog.info? 39).map (fun i => (i.zero, i.size, i.bytes)) = some (some zms, 4, 32) := by kernel_rfl
/-- An append of one message, as a step of a region that draws its order. -/
theorem qu_reg {w : World} {ops : Array Oper} {o : Oper} {a : Act} {K : Act → World → Prop} {Q : Exit → Act → World → Prop} {E : Prop} (hgd : o.guard = none) (s x : Operand)
    (ho : o.op = .call { callee := .builtin .append, args := #[s, x], argTypes := #[59, 59] }) (v : Value) (rM : List Me) (hs : a.eval s = v) (hq : Qu w 39 4 v rM.length (mf rM))
    (b c : Nat) (e : Me) (hx : a.eval x = .slice (some ⟨b, 0, none⟩) 1 c) (hr : Row w (some ⟨b, 0, none⟩) (mcl e)) (hb : rM.length ≤ 2000000)
    (h : ∀ A' c' w', Qu w' 39 4 (.slice A' (rM.length + 1) c') (rM ++ [e]).length (mf (rM ++ [e])) → w.grownBy w' v.ownBlock → (∀ g, (Value.slice A' (rM.length + 1) c').ownBlock = some g → v.ownBlock = some g ∨ w.heap.size ≤ g) → K (a.put o.dst (.slice A' (rM.length + 1) c')) w') :
    if Region.wanted o (yielded ops a.tmps) = true then Oper.wp Try.prog o a w K Q else E := by
  obtain ⟨i0, hi0, hz0, hz1, hz2⟩ := info_parts infoMs
  rw [if_pos (by simp [Region.wanted, hgd])]
  obtain ⟨v', w', hrun, h1, h2, h3⟩ := run_append_qu (P := Try.prog) 59 o.type i0 zms 32 Try.underlying59 hi0 hz0 hz1 hz2 rfl (by omega) hq ⟨b, 0, none⟩ c (mcl e) rfl (fun j u hu => by
    obtain ⟨a', ha', hc⟩ := hr j u hu
    cases ha'
    exact hc) (mf_one e) (by unfold maxLen; omega) (by omega)
  obtain ⟨A', c', rfl, _⟩ := h1.form
  rw [← mf_app] at h1
  unfold Oper.wp
  simp [execOp, ho, resolve, invoke, builtin, hs, hx, hrun, Result.andThen]
  exact h A' c' w' (by rw [List.length_append]; exact h1) h2 h3
section
variable {W w w' : World} {l : List As} {k : Nat}
theorem _root_.Go.Proofs.Ytednkcjmlpgipaa.Nw.quApp {v v' : Value} {rM : List Me} {e : Me} (h : Nw W w l) (hk : l[k]? = some (QuA v rM)) (hq : Qu w' 39 4 v' (rM ++ [e]).length (mf (rM ++ [e]))) (hg : w.grownBy w' v.ownBlock) (hat : ∀ g, v'.ownBlock = some g → v.ownBlock = some g ∨ w.heap.size ≤ g) : Nw W w' (l.set k (QuA v' (rM ++ [e]))) := by
  obtain ⟨F, ⟨r1, r2, r3⟩, hh⟩ := h.turn hk
  refine hh w' (fun k => F k ∨ v'.ownBlock = some k) (QuA v' (rM ++ [e])) ⟨Kp.grown hg r2, fun k hk2 => ?_⟩ ⟨hq, fun g hg2 => .inr hg2, fun k hk2 => ?_⟩
  · rcases hk2 with h1 | h1
    · exact .inl h1
    · rcases hat k h1 with h2 | h2
      · exact .inl (r2 k h2)
      · exact .inr h2
  · rcases hk2 with h1 | h1
    · exact Nat.lt_of_lt_of_le (r3 k h1) hg.size
    · exact hq.lt k h1
theorem _root_.Go.Proofs.Ytednkcjmlpgipaa.Nw.irSet {kd : IntKind} {E : TypeId} {g n c : Nat} {xs : List Nat} (h : Nw W w l) (hk : l[k]? = some (IrA kd E (.slice (some ⟨g, 0, none⟩) n c) xs)) (i y : Nat) : Nw W (w.setCell ⟨g, i, none⟩ (.int kd (y : Int))) (l.set k (IrA kd E (.slice (some ⟨g, 0, none⟩) n c) (xs.set i y))) := by
  obtain ⟨F, ⟨r1, r2, r3⟩, hh⟩ := h.turn hk
  obtain ⟨A, c', hv, _⟩ := r1.form
  have hn : n = xs.length := by
    simp only [Value.slice.injEq] at hv
    exact hv.2.1
  subst hn
  refine hh _ F (IrA kd E (.slice (some ⟨g, 0, none⟩) xs.length c) (xs.set i y)) ⟨Kp.grown (setc_grown w g i _) (fun k e => by have := Option.some.inj e; rw [← this]; exact r2 g rfl), fun k h => .inl h⟩ ⟨?_, r2, fun k hk2 => ?_⟩
  · have := (World.ownsRow.stored r1 i (.int kd (y : Int))).1
    unfold Ir
    rw [List.length_set]
    have e : ns kd (xs.set i y) = (ns kd xs).set i (.int kd (y : Int)) := by simp [ns, List.map_set]
    rw [e]
    exact this
  · have := r3 k hk2
    simpa [World.setCell] using this
theorem _root_.Go.Proofs.Ytednkcjmlpgipaa.Nw.amDrop {α : Type} {M : MapKit α} {m : Nat} {xs : List α} (h : Nw W w l) (hk : l[k]? = some (AM M m xs)) {t : Nat} (ht : M.ok t) (ty : TypeId) :
    ∃ w', (Builtin.delete_ #[M.mT, M.kT] ty #[.map (some m), M.kv t]).run Try.prog w = .ok (.tuple #[]) w' ∧ Nw W w' (l.set k (AM M m (adel M.key xs t))) ∧ w.grownBy w' (some m) := by
  obtain ⟨F, r, hh⟩ := h.turn hk
  obtain ⟨w', h1, h2, h3⟩ := AMR.drop (M := M) r ht ty
  have hF : F m := r.choose_spec.2.2.1
  exact ⟨w', h1, hh w' F (AM M m (adel M.key xs t)) ⟨Kp.grown h3 (fun g e => by have := Option.some.inj e; rw [← this]; exact hF), fun k h => .inl h⟩ h2, h3⟩
theorem _root_.Go.Proofs.Ytednkcjmlpgipaa.Nw.amPut {α : Type} {M : MapKit α} {m : Nat} {xs : List α} (h : Nw W w l) (hk : l[k]? = some (AM M m xs)) (x : α) (hok : M.ok (M.key x)) (hx : alook M.key xs (M.key x) = none) (hn : xs.length < 1000000000) :
    ∃ w', (Instr.mapUpdate M.mT (.map (some m)) (M.kv (M.key x)) (M.val x)).run Try.prog w = .ok () w' ∧ Nw W w' (l.set k (AM M m (xs ++ [x]))) ∧ w.grownBy w' (some m) := by
  obtain ⟨F, r, hh⟩ := h.turn hk
  obtain ⟨w', h1, h2, h3⟩ := AMR.put (M := M) r x hok hx hn
  have hF : F m := r.choose_spec.2.2.1
  exact ⟨w', h1, hh w' F (AM M m (xs ++ [x])) ⟨Kp.grown h3 (fun g e => by have := Option.some.inj e; rw [← this]; exact hF), fun k h => .inl h⟩ h2, h3⟩
end
/-- .. with a number of its own for the bytes that are whole. -/
def IW (W w : World) (x : Nat) (b : Ib) (wh : Nat) (L : List Me) (R : List As) : Prop := ∃ i : Iv, Nw W w (i.parts x b wh L R) ∧ i.Fit b L
section
variable {W w w' : World} {x : Nat} {b : Ib} {wh : Nat} {L : List Me} {R : List As}
theorem IW.next (h : IW W w x b wh L R) (hb : Below w.heap.size w w') : IW W w' x b wh L R := by
  obtain ⟨i, h, hf⟩ := h
  exact ⟨i, h.next hb, hf⟩
/-- The row of the numbers that are next begins where its block begins. -/
theorem ir_zero {kd : IntKind} {E : TypeId} {v : Value} {l : List Nat} (h : Ir kd E w v l) (hn : 0 < l.length) : ∃ g c, v = .slice (some ⟨g, 0, none⟩) l.length c := by
  rcases h.2 with ⟨_, h0⟩ | ⟨g, cap, cur, rfl, _⟩
  · omega
  · exact ⟨g, cap, rfl⟩
theorem ir_get {kd : IntKind} {E : TypeId} {g n c : Nat} {l : List Nat} (h : Ir kd E w (.slice (some ⟨g, 0, none⟩) n c) l) (hn : l.length = n) {i : Nat} (hi : i < l.length) : w.cell? ⟨g, i, none⟩ = some (.int kd ((l.getD i 0 : Nat) : Int)) ∧ ∀ o, w.frozen? ⟨g, o, none⟩ = false := by
  subst hn
  exact ⟨by rw [World.ownsRow.cellAt (n := l.length) h i (by omega), ns_get hi], fun o => World.ownsRow.frozenAt (n := l.length) h o⟩
end
end Ix
end Go.Proofs.Ytednkcjmlpgipaa
/-
  The document's joiner: the pieces of so many TSNs from one on.
-/
namespace Go.Proofs.Ytednkcjmlpgipaa
set_option maxRecDepth 4000
open Go.RowKit Go.Maps
namespace Fg
set_option linter.unusedVariables false
set_option linter.unusedSimpArgs false

/-- An append of one piece, in a plain list of operations. -/
theorem pc_plain {w : World} {ops : Array Oper} {rest : List Oper} {o : Oper} {a : Act} {Q : Exit → Act → World → Prop} (hgd : o.guard = none) (s x : Operand)
    (ho : o.op = .call { callee := .builtin .append, args := #[s, x], argTypes := #[66, 66] }) (B : Nat) (A0 : Option Addr) (n c0 : Nat) (qs : List Pq) (hs : a.eval s = .slice A0 n c0) (hown : w.ownsRow B 33 6 (.slice A0 n c0) n (pf qs))
    (b c : Nat) (q : Pq) (hx : a.eval x = .slice (some ⟨b, 0, none⟩) 1 c) (hr : Row w (some ⟨b, 0, none⟩) (pcl q)) (hb : n ≤ 1000000000) (hbase : B ≤ w.heap.size)
    (h : ∀ A' c' w', w'.ownsRow B 33 6 (.slice A' (n + 1) c') (n + 1) (pf qs ++ pcl q) → w.grownBy w' (Value.slice A0 n c0).ownBlock → wpList Try.prog ops Q rest (a.put o.dst (.slice A' (n + 1) c')) w') :
    wpList Try.prog ops Q (o :: rest) a w :=
  wpList_plain hgd fun K hK => by
    have := pc_reg (E := True) (ops := ops) (K := K) (Q := Q) hgd s x ho B A0 n c0 qs hs hown b c q hx hr hb hbase (fun A' c' w' h1 h2 => hK _ _ (h A' c' w' h1 h2))
    rw [if_pos (by simp [Region.wanted, hgd])] at this
    exact this
theorem Dj.next {W W' : World} {j : Nat} {A : Option Addr} {n c : Nat} {qs : List Pq} (h : Dj W j A n c qs) (hb : Below W.heap.size W W') : Dj W' j A n c qs := ⟨h.bk.next hb, h.len, h.most, h.cap, h.max, h.row.below hb⟩
/-- The pieces of so many TSNs from one on, as they are kept. -/
def TR (qs : List Pq) (from' : Nat) (ps : List Pq) : Prop := ∀ i (h : i < ps.length), ps[i] ∈ qs ∧ ps[i].1.t = fw from' i
theorem TR.snoc {qs ps : List Pq} {from' : Nat} {q : Pq} (h : TR qs from' ps) (hq : q ∈ qs) (ht : q.1.t = fw from' ps.length) : TR qs from' (ps ++ [q]) := fun i hi => by
  rw [List.getElem_append]
  split
  · exact h i _
  · rename_i hlt
    have : i = ps.length := by simp at hi; omega
    subst this
    simpa using ⟨hq, ht⟩
theorem wrap_fw {a b : Nat} (ha : a < 4294967296) (hb : b < 4294967296) : IntKind.u32.wrap ((a : Int) + (b : Int)) = ((fw a b : Nat) : Int) := by
  rw [IntKind.wrap_u32]; unfold fw; omega
theorem drow_any {W : World} {j : Nat} {A : Option Addr} {n c : Nat} {qs : List Pq} (h : Dj W j A n c qs) (from' m : Nat) (hf : from' < 4294967296) (hm : m ≤ 100000) :
    Calls Try.prog 91 #[.pointer (some ⟨j, 0, none⟩), .int .u32 (from' : Int), .int .i64 (m : Int)] W fun e w' => Below W.heap.size W w' ∧ ((e = .returned (.tuple #[.slice none 0 0, .bool false]) ∧ ∃ i, i < m ∧ ∀ q ∈ qs, q.1.t ≠ fw from' i) ∨
      ∃ (ps : List Pq) (A' : Option Addr) (c' : Nat), e = .returned (.tuple #[.slice A' m c', .bool true]) ∧ ps.length = m ∧ TR qs from' ps ∧ w'.ownsRow W.heap.size 33 6 (.slice A' m c') m (pf ps)) := by
  have HD := Lib.hid h
  clear h
  go_enter Try.func91, Try.ntmps91
  go_wp2_with fail
  go_loopw [8, 9] (fun v8 v9 wr => ∃ (k : Nat) (ps : List Pq) (A' : Option Addr) (c' : Nat), v9 = .int .i64 k ∧ v8 = .slice A' k c' ∧ k ≤ m ∧ Hid (ps.length = k) ∧ Hid (TR qs from' ps) ∧ Hid (wr.ownsRow W.heap.size 33 6 (.slice A' k c') k (pf ps)) ∧ Hid (Below W.heap.size W wr)) (fun _ v9 _ => m - (intOf v9).toNat)
  case atStart => exact ⟨0, [], none, 0, rfl, rfl, Nat.zero_le _, Lib.hid rfl, Lib.hid (fun i hi => by simp at hi), Lib.hid (World.ownsRow_nil _ _ _ _), Lib.hid (Below.refl _ _)⟩
  case round =>
    obtain ⟨k, ps, A', c', rfl, rfl, hk, HPL, HT, HO, HB⟩ := hrel
    have HD2 := Lib.hid (HD.out.next HB.out)
    by_cases hlt : k < m
    · have e1 : IntKind.u32.wrap (k : Int) = (k : Int) := by rw [IntKind.wrap_u32]; omega
      have e2 : IntKind.u32.wrap ((from' : Int) + (k : Int)) = ((fw from' k : Nat) : Int) := wrap_fw hf (by omega)
      obtain ⟨tk, htk⟩ : ∃ tk, fw from' k = tk := ⟨_, rfl⟩
      rw [htk] at e2
      go_wp2_with fail
      refine (dfind_any HD2.out tk).mono ?_
      rintro e w ⟨⟨r, rfl, hat⟩, rfl⟩
      rcases hat with ⟨rfl, hno⟩ | ⟨i, hi, rfl, hit, hfst⟩
      · have HNO : Hid (∃ i, i < m ∧ ∀ q ∈ qs, q.1.t ≠ fw from' i) := Lib.hid ⟨k, hlt, by rw [htk]; exact hno⟩
        clear hno
        go_wp2_with fail
        go_ret2
        exact ⟨HB.out, .inl ⟨rfl, HNO.out⟩⟩
      · have hin : i < n := by rw [← HD2.out.len]; exact hi
        have c0 := HD2.out.bk.cell 0
        simp at c0
        obtain ⟨a, rfl, g0, g1, g2, g3, g4, g5⟩ := pf_at HD2.out.row hi
        have HTS : Hid (TR qs from' (ps ++ [qs[i]])) := Lib.hid (HT.out.snoc (List.getElem_mem hi) (by rw [hit, HPL.out, htk]))
        have hnm := HD2.out.most
        obtain ⟨q, hqq⟩ : ∃ q, qs[i] = q := ⟨_, rfl⟩
        rw [hqq] at g0 g1 g2 g3 g4 g5 HTS
        clear hqq hit hfst hi
        have hsz := HB.out.size
        have HRW : Hid (Row (wr.alloc (.cells #[.int .u32 (q.1.t : Int), .int .u8 (q.1.f : Int), .int .u16 (q.1.s : Int), .int .u16 (q.1.n : Int), .int .u32 (q.1.p : Int), .slice q.2.1 q.2.2.1 q.2.2.2] 33)) (some ⟨wr.heap.size, 0, none⟩) (pcl q)) := Lib.hid (Row.new wr (pcl q) _ (0, 0))
        go_wp2_with (at_builtin; refine pc_plain rfl (.tmp 24) (.tmp 32) rfl W.heap.size A' k c' ps rfl (HO.out.alloc _) wr.heap.size 1 q rfl HRW.out (by omega) (by simp; omega) ?_; intro A2 c2 w2 ho2 hg2)
        have HO2 : Hid (w2.ownsRow W.heap.size 33 6 (.slice A2 (k + 1) c2) (k + 1) (pf (ps ++ [q]))) := Lib.hid (by
          have e : pf (ps ++ [q]) = pf ps ++ pcl q := by simp [pf]
          rw [e]; exact ho2)
        have HB2 : Hid (Below W.heap.size W w2) := Lib.hid ((HB.out.alloc hsz _).grown hg2 (by simp; omega) (fun b hb => (HO.out.lt b hb).1))
        clear ho2 hg2 HRW g0 g1 g2 g3 g4 g5 c0
        go_wp2_with fail
        go_roundw
        case rel => exact ⟨k + 1, ps ++ [q], A2, c2, by go_num, rfl, by omega, Lib.hid (by simp [HPL.out]), HTS, HO2, HB2⟩
        case measure => simp [intOf] <;> omega
    · obtain rfl : k = m := by omega
      go_wp2_with fail
      go_ret2
      exact ⟨HB.out, .inr ⟨ps, A', c', rfl, HPL.out, HT.out, HO.out⟩⟩
end Fg
end Go.Proofs.Ytednkcjmlpgipaa
/-
  The document's joiner as a thing of the call's own; rows of pieces are cut, and put together.
-/
namespace Go.Proofs.Ytednkcjmlpgipaa
set_option maxRecDepth 4000
open Go.RowKit Go.Maps
set_option linter.unusedVariables false
/-- A piece of a slice with elements of sz cells: its address. -/
def cutS (A : Option Addr) (c lo sz : Nat) : Option Addr := if c = lo then A else A.map (·.add (lo * sz))
theorem Row.cutS {w : World} {A : Option Addr} {l : List Value} (h : Row w A l) {c lo hi sz : Nat} (hc : hi ≤ c) (hz : 0 < sz) : Row w (cutS A c lo sz) ((l.take (hi * sz)).drop (lo * sz)) := fun i v hv => by
  rw [List.getElem?_drop, List.getElem?_take] at hv
  split at hv
  · rename_i hlt
    obtain ⟨a, rfl, hcell⟩ := h _ _ hv
    refine ⟨a.add (lo * sz), ?_, by rw [add_add]; exact hcell⟩
    unfold Go.Proofs.Ytednkcjmlpgipaa.cutS
    rw [if_neg]
    · rfl
    · rintro rfl
      have := Nat.mul_le_mul_right sz hc
      omega
  · cases hv
theorem cutS_none {A : Option Addr} {n c lo sz : Nat} (hz : A = none → n = 0 ∧ c = 0) (hl : lo ≤ n) : cutS A c lo sz = none → n - lo = 0 ∧ c - lo = 0 := fun e => by
  have : A = none := by
    cases A with
    | none => rfl
    | some a => unfold cutS at e; split at e <;> cases e
  obtain ⟨rfl, rfl⟩ := hz this
  omega
section
variable {P : Program} {t e : TypeId} {sz : Nat} (ht : P.underlying t = some (.slice e)) (hi : (P.info? e).map (·.size) = some sz)
include ht hi
theorem run_cutS_h {k : IntKind} (A : Option Addr) (n c h : Nat) (h2 : h ≤ c) (W : World) :
    (Instr.slice t (.slice A n c) none (some (.int k (h : Int))) none).run P W = .ok (.slice (cutS A c 0 sz) h c) W := by
  rw [run_slice_h W t A n c (by simp [Program.elem, ht]) k h (by omega) (by omega), run_size_of ht hi]
  simp [Result.andThen, sliced, cutS]
theorem run_cutS_l {k : IntKind} (A : Option Addr) (n c lo : Nat) (h1 : lo ≤ n) (W : World) :
    (Instr.slice t (.slice A n c) (some (.int k (lo : Int))) none none).run P W = .ok (.slice (cutS A c lo sz) (n - lo) (c - lo)) W := by
  rw [run_slice_l W t A n c (by simp [Program.elem, ht]) k lo (by omega) (by omega), run_size_of ht hi]
  simp [Result.andThen, sliced, cutS]
end
namespace Fg
set_option linter.unusedVariables false
set_option linter.unusedSimpArgs false

theorem pf_take : ∀ (k : Nat) (qs : List Pq), (pf qs).take (k * 6) = pf (qs.take k)
  | 0, qs => by simp [pf]
  | k + 1, [] => by simp [pf]
  | k + 1, q :: qs => by
    have e : pf (q :: qs) = pcl q ++ pf qs := by simp [pf]
    have hl : (pcl q).length = 6 := rfl
    rw [e, List.take_append, hl, List.take_of_length_le (by rw [hl]; omega), show (k + 1) * 6 - 6 = k * 6 by omega, pf_take k qs]
    simp [pf]
theorem pf_drop : ∀ (k : Nat) (qs : List Pq), (pf qs).drop (k * 6) = pf (qs.drop k)
  | 0, qs => by simp
  | k + 1, [] => by simp [pf]
  | k + 1, q :: qs => by
    have e : pf (q :: qs) = pcl q ++ pf qs := by simp [pf]
    have hl : (pcl q).length = 6 := rfl
    rw [e, List.drop_append, hl, List.drop_eq_nil_of_le (by rw [hl]; omega), show (k + 1) * 6 - 6 = k * 6 by omega, pf_drop k qs]
    simp
/-- An append of some pieces, possibly of none, as a step of a region that draws its order. -/
theorem pm_reg {w : World} {ops : Array Oper} {o : Oper} {a : Act} {K : Act → World → Prop} {Q : Exit → Act → World → Prop} {E : Prop} (hgd : o.guard = none) (s x : Operand)
    (ho : o.op = .call { callee := .builtin .append, args := #[s, x], argTypes := #[66, 66] }) (B : Nat) (A0 : Option Addr) (n c0 : Nat) (qs : List Pq) (hs : a.eval s = .slice A0 n c0) (hown : w.ownsRow B 33 6 (.slice A0 n c0) n (pf qs))
    (A : Option Addr) (m c : Nat) (ps : List Pq) (hx : a.eval x = .slice A m c) (hl : ps.length = m) (hr : Row w A (pf ps)) (hz : A = none → m = 0 ∧ c = 0) (N : Nat) (hN : n + m = N) (hb : N ≤ 1000000000) (hbase : B ≤ w.heap.size)
    (h : ∀ A' c' w', w'.ownsRow B 33 6 (.slice A' N c') N (pf (qs ++ ps)) → w.grownBy w' (Value.slice A0 n c0).ownBlock → K (a.put o.dst (.slice A' N c')) w') :
    if Region.wanted o (yielded ops a.tmps) = true then Oper.wp Try.prog o a w K Q else E := by
  obtain ⟨i0, hi0, hz0, hz1, hz2⟩ := info_parts infoP
  rw [if_pos (by simp [Region.wanted, hgd])]
  subst hN
  cases A with
  | none =>
    obtain ⟨rfl, rfl⟩ := hz rfl
    obtain rfl := List.eq_nil_of_length_eq_zero hl
    have hrun := run_append_owned_none (P := Try.prog) (w := w) B 66 o.type 33 i0 6 Try.underlying66 hi0 _ n (pf qs) hown
    unfold Oper.wp
    simp [execOp, ho, resolve, invoke, builtin, hs, hx, hrun, Result.andThen]
    exact h A0 c0 w (by simpa using hown) ⟨rfl, rfl, rfl, Nat.le_refl _, fun _ _ _ => rfl⟩
  | some ad =>
    refine wp_append_own w s x 66 ho B 33 i0 _ 6 40 Try.underlying66 hi0 hz0 hz1 hz2 rfl (by omega) _ n (pf qs) hs hown ad m c (pf ps) hx (by rw [pf_len, hl]) (bcells hr) (pf_one ps) (by unfold maxLen; omega) (by omega) hbase ?_
    intro v' w2 ho2 hg2 _
    obtain ⟨A', c', rfl⟩ := own_form ho2
    exact h A' c' w2 (by rw [pf_app]; exact ho2) hg2
/-- The document's joiner in block j, with a row of its own. -/
structure DO (w : World) (F : Nat → Prop) (j : Nat) (A : Option Addr) (n c : Nat) (qs : List Pq) : Prop where
  bk : Bk w j #[.slice A n c] 103
  own : w.ownsRow 0 33 6 (.slice A n c) n (pf qs)
  len : qs.length = n
  most : n ≤ 1000
  fj : F j
  fo : ∀ g, (Value.slice A n c).ownBlock = some g → F g
  fb : ∀ k, F k → k < w.heap.size
theorem own_caps {w : World} {B : Nat} {e : TypeId} {s : Nat} {A : Option Addr} {n c : Nat} {xs : List Value} (h : w.ownsRow B e s (.slice A n c) n xs) : n ≤ c ∧ c ≤ maxLen ∧ (A = none → n = 0 ∧ c = 0) := by
  rcases h.2 with ⟨h1, h2⟩ | ⟨g, cap, cur, h1, _, _, h4, h5, _⟩
  · simp only [Value.slice.injEq] at h1
    obtain ⟨rfl, rfl, rfl⟩ := h1
    exact ⟨Nat.le_refl _, Nat.zero_le _, fun _ => ⟨rfl, rfl⟩⟩
  · simp only [Value.slice.injEq] at h1
    obtain ⟨rfl, _, rfl⟩ := h1
    exact ⟨h4, h5, fun e => by cases e⟩
theorem own_row {w : World} {B : Nat} {e : TypeId} {s : Nat} {A : Option Addr} {n c : Nat} {xs : List Value} (h : w.ownsRow B e s (.slice A n c) n xs) : Row w A xs := fun i v hv => by
  rcases h.2 with ⟨h1, h2⟩ | ⟨g, cap, cur, h1, _⟩
  · have h3 := h.1
    have h4 := (List.getElem?_eq_some_iff.1 hv).1
    rw [h2] at h3
    omega
  · simp only [Value.slice.injEq] at h1
    obtain ⟨rfl, _, _⟩ := h1
    exact ⟨_, rfl, h.cells (g := g) rfl i v hv⟩
theorem own_keep {w w' : World} {F : Nat → Prop} {b s : Nat} {e : TypeId} {v : Value} {n : Nat} {xs : List Value} (h : w.ownsRow b e s v n xs) (hk : Kp w w' F) (hd : ∀ g, v.ownBlock = some g → ¬ F g) : w'.ownsRow b e s v n xs := by
  refine ⟨h.1, ?_⟩
  rcases h.2 with h2 | ⟨g, cap, cur, hv, hg, hh, r⟩
  · exact .inl h2
  · exact .inr ⟨g, cap, cur, hv, hg, (hk.block g (Array.getElem?_eq_some_iff.1 hh).1 (hd g (by rw [hv]; rfl))).trans hh, r⟩
theorem DO.dj {w : World} {F : Nat → Prop} {j : Nat} {A : Option Addr} {n c : Nat} {qs : List Pq} (h : DO w F j A n c qs) : Dj w j A n c qs :=
  ⟨h.bk, h.len, by have := h.most; omega, (own_caps h.own).1, (own_caps h.own).2.1, own_row h.own⟩
theorem DO.next {w w' : World} {F : Nat → Prop} {j : Nat} {A : Option Addr} {n c : Nat} {qs : List Pq} (h : DO w F j A n c qs) (hb : Below w.heap.size w w') : DO w' F j A n c qs :=
  ⟨h.bk.next hb, own_keep h.own (Kp.below (F := fun _ => False) hb) (fun _ _ e => e), h.len, h.most, h.fj, h.fo, fun k hk => Nat.lt_of_lt_of_le (h.fb k hk) hb.size⟩
end Fg
end Go.Proofs.Ytednkcjmlpgipaa
/-
  The document's Put, plainly, over pieces with their slices.
-/
namespace Go.Proofs.Ytednkcjmlpgipaa
set_option maxRecDepth 4000
open Go.RowKit Go.Maps
namespace Fg
set_option linter.unusedVariables false
set_option linter.unusedSimpArgs false

def pcq (ps : List Pq) : List Pc := ps.map (·.1)
theorem pcq_app (a b : List Pq) : pcq (a ++ b) = pcq a ++ pcq b := by simp [pcq]
def delq (qs : List Pq) (t : Nat) : List Pq := qs.filter fun q => decide (q.1.t ≠ t)
theorem delq_pcq (qs : List Pq) (t : Nat) : pcq (delq qs t) = del (pcq qs) t := by
  unfold pcq delq del
  rw [List.filter_map]
  rfl
theorem delq_at : ∀ {qs : List Pq} {i t : Nat} (h : i < qs.length), qs[i].1.t = t → Apart (pcq qs) → qs.take i ++ qs.drop (i + 1) = delq qs t
  | q :: qs, 0, t, _, ht, ha => by
    obtain ⟨h1, _⟩ := List.pairwise_cons.1 (show (pcq (q :: qs)).Pairwise _ from ha)
    have ht : q.1.t = t := ht
    have e : delq qs t = qs := by
      unfold delq
      rw [List.filter_eq_self]
      intro p hp
      have : q.1.t ≠ p.1.t := h1 p.1 (List.mem_map_of_mem hp)
      simp
      omega
    have e2 : delq (q :: qs) t = delq qs t := by
      unfold delq
      rw [List.filter_cons]
      simp [ht]
    rw [e2, e]
    simp
  | q :: qs, i + 1, t, h, ht, ha => by
    obtain ⟨h1, h2⟩ := List.pairwise_cons.1 (show (pcq (q :: qs)).Pairwise _ from ha)
    have hi : i < qs.length := by simpa using h
    have ht : qs[i].1.t = t := by simpa using ht
    have ih := delq_at hi ht h2
    have hne : q.1.t ≠ t := by
      have : q.1.t ≠ qs[i].1.t := h1 (qs[i].1) (List.mem_map_of_mem (List.getElem_mem hi))
      omega
    have e2 : delq (q :: qs) t = q :: delq qs t := by
      unfold delq
      rw [List.filter_cons]
      simp [hne]
    rw [e2, ← ih]
    simp
/-- Those of a row are left out, one behind the other. -/
def tq (qs : List Pq) (f : Nat) : Nat → List Pq
  | 0 => qs
  | c + 1 => delq (tq qs f c) (fw f c)
theorem tq_pcq (qs : List Pq) (f : Nat) : ∀ c, pcq (tq qs f c) = tkK (pcq qs) f c
  | 0 => rfl
  | c + 1 => by
    show pcq (delq (tq qs f c) (fw f c)) = del (tkK (pcq qs) f c) (fw f c)
    rw [delq_pcq, tq_pcq qs f c]
theorem tq_mem {qs : List Pq} {f : Nat} {q : Pq} : ∀ {c : Nat}, q ∈ tq qs f c ↔ q ∈ qs ∧ ∀ k, k < c → q.1.t ≠ fw f k
  | 0 => ⟨fun h => ⟨h, fun k hk => by omega⟩, fun h => h.1⟩
  | c + 1 => by
    have e : q ∈ tq qs f (c + 1) ↔ q ∈ tq qs f c ∧ q.1.t ≠ fw f c := by
      show q ∈ delq (tq qs f c) (fw f c) ↔ _
      unfold delq
      rw [List.mem_filter, decide_eq_true_eq]
    rw [e, tq_mem (c := c)]
    constructor
    · rintro ⟨⟨h1, h2⟩, h3⟩
      refine ⟨h1, fun k hk => ?_⟩
      by_cases hkc : k = c
      · subst hkc; exact h3
      · exact h2 k (by omega)
    · rintro ⟨h1, h2⟩
      exact ⟨⟨h1, fun k hk => h2 k (by omega)⟩, h2 c (by omega)⟩
theorem delq_len (qs : List Pq) (t : Nat) : (delq qs t).length ≤ qs.length := List.length_filter_le _ _
theorem tq_len (qs : List Pq) (f : Nat) : ∀ c, (tq qs f c).length ≤ qs.length
  | 0 => Nat.le_refl _
  | c + 1 => Nat.le_trans (delq_len _ _) (tq_len qs f c)
theorem apart_sub {K K' : List Pc} (h : Apart K) (hs : K'.Sublist K) : Apart K' := List.Pairwise.sublist hs h
theorem tq_apart {qs : List Pq} (f : Nat) (h : Apart (pcq qs)) : ∀ c, Apart (pcq (tq qs f c))
  | 0 => h
  | c + 1 => apart_sub (tq_apart f h c) (List.Sublist.map _ List.filter_sublist)
/-- A row that was put together is the pieces of those TSNs. -/
theorem tr_row {qs ps : List Pq} {f m : Nat} (ha : Apart (pcq qs)) (hl : ps.length = m) (h : TR qs f ps) : RowIs (pcq qs) f m (pcq ps) := by
  refine ⟨by simp [pcq, hl], fun i hi => ?_⟩
  have hi2 : i < ps.length := by simpa [pcq] using hi
  obtain ⟨h1, h2⟩ := h i hi2
  have := look_of ha (x := ps[i].1) (List.mem_map_of_mem h1)
  rw [h2] at this
  rw [this]
  simp [pcq]
theorem no_row {qs : List Pq} {f m i : Nat} (hi : i < m) (h : ∀ q ∈ qs, q.1.t ≠ fw f i) (l : List Pc) (hr : RowIs (pcq qs) f m l) : False := by
  have := hr.2 i (by rw [hr.1]; exact hi)
  obtain ⟨hm, ht⟩ := look_mem this
  obtain ⟨q, hq, e⟩ := List.mem_map.1 hm
  exact h q hq (by rw [e]; exact ht)
theorem row_only {K : List Pc} {f m : Nat} {l l' : List Pc} (h : RowIs K f m l) (h' : RowIs K f m l') : l = l' := by
  refine List.ext_getElem (h.1.trans h'.1.symm) fun i h1 h2 => ?_
  have e1 := h.2 i h1
  have e2 := h'.2 i h2
  rw [e1] at e2
  exact Option.some.inj e2
/-- No row of n, so far back, is whole. -/
def NoW (K : List Pc) (t n back : Nat) : Prop := ∀ l, RowIs K (bw t back) n l → ¬ WholeIs l
theorem now_none {qs : List Pq} {t n back i : Nat} (hi : i < n) (h : ∀ q ∈ qs, q.1.t ≠ fw (bw t back) i) : NoW (pcq qs) t n back := fun l hr => (no_row hi h l hr).elim
theorem now_not {qs ps : List Pq} {t n back : Nat} (ha : Apart (pcq qs)) (hl : ps.length = n) (h : TR qs (bw t back) ps) (hw : ¬ WholeIs (pcq ps)) : NoW (pcq qs) t n back := fun l hr => by
  rw [row_only hr (tr_row ha hl h)]
  exact hw
/-- What is put: nothing whole was found. -/
theorem dput_not {K : List Pc} {x : Pc} (hx : x.t < 4294967296) (h0 : look K x.t = none) (ha : Apart (K ++ [x])) (hl : K.length < 100000) (h : ∀ n back, 1 ≤ n → n ≤ K.length + 1 → back < n → NoW (K ++ [x]) x.t n back) : put K x = (K ++ [x], none) := by
  unfold put
  rw [h0]
  simp only [Option.isSome_none, Bool.false_eq_true, if_false]
  cases hb : bnd (K ++ [x]) x.t (K.length + 1) 0 0 with
  | none => rfl
  | some r =>
    obtain ⟨a, b⟩ := r
    have h1 : (look (K ++ [x]) x.t).isSome = true := by
      rw [look_app, h0]
      simp
    obtain ⟨hle, l, hr, hw⟩ := bnd_whole hx ha h1 hb (by omega)
    simp only [List.length_append, List.length_singleton] at hle
    exact absurd hw (h (a + b + 1) a (by omega) hle (by omega) l hr)
/-- .. a whole row was found. -/
theorem dput_whole {K : List Pc} {x : Pc} {n back : Nat} {l : List Pc} (hx : x.t < 4294967296) (h0 : look K x.t = none) (hn : n ≤ K.length + 1) (hb : back < n) (hl : K.length < 100000) (hr : RowIs (K ++ [x]) (bw x.t back) n l) (hw : WholeIs l) :
    put K x = (tkK (K ++ [x]) (bw x.t back) n, some (tell (K ++ [x]) (bw x.t back) n)) := by
  have hbn := whole_bnd hx hb (by omega) (g := K.length + 1) hn hr hw
  unfold put
  rw [h0]
  simp only [Option.isSome_none, Bool.false_eq_true, if_false]
  rw [hbn]
  simp only
  rw [show back + (n - 1 - back) + 1 = n by omega]
theorem dput_there {K : List Pc} {x : Pc} (h : ∃ y ∈ K, y.t = x.t) : put K x = (K, none) := by
  obtain ⟨y, hy, ht⟩ := h
  have : (look K x.t).isSome = true := by
    cases hc : look K x.t with
    | some _ => rfl
    | none => exact absurd ht (look_none hc y hy)
  unfold put
  rw [if_pos this]
theorem look_no {K : List Pc} {t : Nat} (h : ∀ y ∈ K, y.t ≠ t) : look K t = none := by
  cases hc : look K t with
  | none => rfl
  | some y => exact absurd (look_mem hc).2 (h y (look_mem hc).1)
theorem apart_snoc {K : List Pc} {x : Pc} (ha : Apart K) (h : ∀ y ∈ K, y.t ≠ x.t) : Apart (K ++ [x]) :=
  List.pairwise_append.2 ⟨ha, List.pairwise_singleton _ _, fun a h1 b h2 => by
    rw [List.mem_singleton] at h2
    subst h2
    exact h a h1⟩
end Fg
end Go.Proofs.Ytednkcjmlpgipaa
/-
  The statements' 'known' of layer 9 answers true.
-/
namespace Go.Proofs.Ytednkcjmlpgipaa
set_option maxRecDepth 4000
open Go.RowKit Go.Maps
namespace Fg
set_option linter.unusedVariables false
set_option linter.unusedSimpArgs false

def k8 : Pc := ⟨8, 0, 0, 0, 0, [99, 100]⟩
def k9 : Pc := ⟨9, 1, 0, 0, 0, [101]⟩
def k7 : Pc := ⟨7, 2, 0, 0, 0, [97, 98]⟩
def k4 : Pc := ⟨4, 3, 0, 0, 0, [120]⟩
theorem kok8 : k8.Ok := ⟨by decide, by decide, by decide, by decide, by decide, by unfold Byt k8; decide⟩
theorem kok9 : k9.Ok := ⟨by decide, by decide, by decide, by decide, by decide, by unfold Byt k9; decide⟩
theorem kok7 : k7.Ok := ⟨by decide, by decide, by decide, by decide, by decide, by unfold Byt k7; decide⟩
theorem kok4 : k4.Ok := ⟨by decide, by decide, by decide, by decide, by decide, by unfold Byt k4; decide⟩
theorem kp8 : put [] k8 = ([k8], none) := by kernel_rfl
theorem kp9 : put [k8] k9 = ([k8, k9], none) := by kernel_rfl
theorem kp7 : put [k8, k9] k7 = ([], some (⟨0, false, 0, [97, 98, 99, 100, 101]⟩, 0)) := by kernel_rfl
theorem kp4 : put [] k4 = ([], some (⟨0, false, 0, [120]⟩, 0)) := by kernel_rfl
theorem kheld : held [k8, k9] = 3 := by kernel_rfl
theorem kcut : cutL false 3 0 [97, 98, 99, 100, 101] 2 = [⟨0, 2, 3, 0, 0, [97, 98]⟩, ⟨0, 0, 3, 0, 0, [99, 100]⟩, ⟨0, 1, 3, 0, 0, [101]⟩] := by kernel_rfl
theorem ks5 : strOf [97, 98, 99, 100, 101] = { data := #[97, 98, 99, 100, 101] } := by decide +kernel
theorem ksab : strOf [97, 98] = { data := #[97, 98] } := by decide +kernel
theorem kscd : strOf [99, 100] = { data := #[99, 100] } := by decide +kernel
theorem kse : strOf [101] = { data := #[101] } := by decide +kernel
theorem ksx : strOf [120] = { data := #[120] } := by decide +kernel
/-- The pieces that Cut makes there. -/
theorem kcut_any (w : World) (A : Option Addr) (c : Nat) (hc : 5 ≤ c) (hr : Row w A (bs [97, 98, 99, 100, 101])) :
    Calls Try.prog 68 #[.agg #[.int .u16 3, .bool false, .int .u32 0, .slice A 5 c], .int .i64 2] w fun e w' => ∃ g cap B0 c0 B1 c1 B2 c2, e = .returned (.tuple #[.slice (some ⟨g, 0, none⟩) 3 cap, .int .i64 0]) ∧
      Ps w.heap.size w' (.slice (some ⟨g, 0, none⟩) 3 cap) [(⟨0, 2, 3, 0, 0, [97, 98]⟩, (B0, 2, c0)), (⟨0, 0, 3, 0, 0, [99, 100]⟩, (B1, 2, c1)), (⟨0, 1, 3, 0, 0, [101]⟩, (B2, 1, c2))] ∧ Below w.heap.size w w' := by
  refine (cut_any 3 false 0 A 5 c [97, 98, 99, 100, 101] 2 w rfl (by omega) (by omega) hc (by omega) (by omega) hr).mono ?_
  rw [kcut]
  rintro e w' ⟨A', N, c', qs, he, hl, hm, hp, hb⟩
  match qs, hm with
  | [(q0, B0, n0, c0), (q1, B1, n1, c1), (q2, B2, n2, c2)], hm =>
    simp only [List.map_cons, List.map_nil, List.cons.injEq, and_true] at hm
    obtain ⟨rfl, rfl, rfl⟩ := hm
    have d0 := (hp.dat _ (by simp : ((⟨0, 2, 3, 0, 0, [97, 98]⟩, (B0, n0, c0)) : Pq) ∈ _)).1
    have d1 := (hp.dat ((⟨0, 0, 3, 0, 0, [99, 100]⟩, (B1, n1, c1)) : Pq) (by simp)).1
    have d2 := (hp.dat ((⟨0, 1, 3, 0, 0, [101]⟩, (B2, n2, c2)) : Pq) (by simp)).1
    obtain rfl : 2 = n0 := d0
    obtain rfl : 2 = n1 := d1
    obtain rfl : 1 = n2 := d2
    obtain rfl : 3 = N := hl
    rcases hp.own.2 with ⟨_, h0⟩ | ⟨g, cap, cur, hv, _⟩
    · simp at h0
    · simp only [Value.slice.injEq] at hv
      obtain ⟨rfl, _, _⟩ := hv
      exact ⟨g, c', B0, c0, B1, c1, B2, c2, he, hp, hb⟩
theorem pcell {B : Nat} {W : World} {g n c : Nat} {qs : List Pq} (h : Ps B W (.slice (some ⟨g, 0, none⟩) n c) qs) (hn : qs.length = n) {i : Nat} (hi : i < qs.length) {k : Nat} (hk : k < 6) : W.cell? ⟨g, i * 6 + k, none⟩ = (pcl qs[i])[k]? := by
  subst hn
  rw [World.ownsRow.cellAt h.own (i * 6 + k) (by omega), pf_get hi k hk]
theorem str_at {W : World} {A : Option Addr} {n c : Nat} {l : List Int} {s : ByteArray} (hl : l.length = n) (hr : Row W A (bs l)) (h : strOf l = s) : (convert 31 9 (.slice A n c)).run Try.prog W = .ok (.string s) W := by
  subst h
  exact run_strOf Try.underlying31 Try.underlying5 Try.underlying9 hl hr
theorem bAlloc (w : World) (o : Obj) : Below w.heap.size w (w.alloc o) := (Below.refl _ _).alloc (Nat.le_refl _) o
/-- The rows that the chapter gives are read. -/
theorem kread {B : Nat} {W : World} {g cap : Nat} {B0 B1 B2 : Option Addr} {c0 c1 c2 : Nat} (h : Ps B W (.slice (some ⟨g, 0, none⟩) 3 cap) [(⟨0, 2, 3, 0, 0, [97, 98]⟩, (B0, 2, c0)), (⟨0, 0, 3, 0, 0, [99, 100]⟩, (B1, 2, c1)), (⟨0, 1, 3, 0, 0, [101]⟩, (B2, 1, c2))]) :
    W.cell? ⟨g, 5, none⟩ = some (.slice B0 2 c0) ∧ W.cell? ⟨g, 1, none⟩ = some (.int .u8 2) ∧ W.cell? ⟨g, 11, none⟩ = some (.slice B1 2 c1) ∧ W.cell? ⟨g, 7, none⟩ = some (.int .u8 0) ∧
    W.cell? ⟨g, 17, none⟩ = some (.slice B2 1 c2) ∧ W.cell? ⟨g, 13, none⟩ = some (.int .u8 1) ∧ W.cell? ⟨g, 14, none⟩ = some (.int .u16 3) ∧
    (convert 31 9 (.slice B0 2 c0)).run Try.prog W = .ok (.string { data := #[97, 98] }) W ∧ (convert 31 9 (.slice B1 2 c1)).run Try.prog W = .ok (.string { data := #[99, 100] }) W ∧ (convert 31 9 (.slice B2 1 c2)).run Try.prog W = .ok (.string { data := #[101] }) W := by
  have d := fun q hq => row_of_own (h.dat q hq).2
  exact ⟨pcell h rfl (i := 0) (by simp) (k := 5) (by omega), pcell h rfl (i := 0) (by simp) (k := 1) (by omega), pcell h rfl (i := 1) (by simp) (k := 5) (by omega), pcell h rfl (i := 1) (by simp) (k := 1) (by omega),
    pcell h rfl (i := 2) (by simp) (k := 5) (by omega), pcell h rfl (i := 2) (by simp) (k := 1) (by omega), pcell h rfl (i := 2) (by simp) (k := 2) (by omega),
    str_at rfl (d ((⟨0, 2, 3, 0, 0, [97, 98]⟩, (B0, 2, c0)) : Pq) (by simp)) ksab, str_at rfl (d ((⟨0, 0, 3, 0, 0, [99, 100]⟩, (B1, 2, c1)) : Pq) (by simp)) kscd, str_at rfl (d ((⟨0, 1, 3, 0, 0, [101]⟩, (B2, 1, c2)) : Pq) (by simp)) kse⟩
/-- A joiner that keeps nothing is in two blocks, and no row of bytes is in them. -/
theorem shrink {j : Nat} {w : World} {F : Nat → Prop} {A : Option Addr} {l : List Int} (h : JA j [] w F) (hr : Row w A (bs l)) (hl : 0 < l.length) : ∃ F0, JA j [] w F0 ∧ (∀ k, F0 k → F k) ∧ ∀ a, A = some a → ¬ F0 a.block := by
  obtain ⟨m, hb, ⟨D, hm, hv, hfm, ha, hlt⟩, hf, hok⟩ := h
  refine ⟨fun k => k = j ∨ k = m, ⟨m, hb, ⟨D, hm, ⟨hv.1, hv.2, fun t x h => by cases h⟩, .inr rfl, ha, fun k hk => ?_⟩, .inl rfl, hok⟩, fun k hk => ?_, fun a e hk => ?_⟩
  · rcases hk with rfl | rfl
    · exact hlt _ hf
    · exact hlt _ hfm
  · rcases hk with rfl | rfl
    · exact hf
    · exact hfm
  · obtain ⟨a', e', hc⟩ := Row.byte hr (k := 0) hl
    rw [e] at e'
    injection e' with e'
    subst e'
    have e0 : a.add 0 = a := by unfold Addr.add; simp
    rw [e0] at hc
    obtain ⟨es, clock, hh⟩ := owns_block hm
    rcases hk with hk | hk
    · rcases a with ⟨b, o, p⟩
      simp only at hk
      subst hk
      unfold World.cell? at hc
      rw [show w.heap[b]? = _ from hb] at hc
      simp at hc
      rcases o with _ | _ | o <;> simp at hc
    · rcases a with ⟨b, o, p⟩
      simp only at hk
      subst hk
      unfold World.cell? at hc
      rw [hh] at hc
      simp at hc
end Fg
end Go.Proofs.Ytednkcjmlpgipaa
/-
  What Cut answers, both ways; a row of pieces as a row.
-/
namespace Go.Proofs.Ytednkcjmlpgipaa
set_option maxRecDepth 4000
open Go.RowKit Go.Maps
open Fg
set_option linter.unusedVariables false
set_option linter.unusedSimpArgs false

structure MIn (W : World) (s p : Nat) (A : Option Addr) (n c : Nat) (l : List Int) : Prop where
  len : l.length = n
  cap : n ≤ c
  row : Row W A (bs l)
  byt : Byt l
theorem ps_row {B : Nat} {W : World} {A : Option Addr} {n c : Nat} {qs : List Pq} (h : Ps B W (.slice A n c) qs) (hn : qs.length = n) : Row W A (pf qs) := by
  subst hn
  intro i v hv
  have hi := (List.getElem?_eq_some_iff.1 hv).1
  rcases h.own.2 with ⟨e, h0⟩ | ⟨g, cap, cur, e, _⟩
  · have : qs = [] := List.eq_nil_of_length_eq_zero h0
    subst this
    simp [pf] at hv
  · injection e with e1 e2 e3
    subst e1
    refine ⟨_, rfl, ?_⟩
    rw [addr0, World.ownsRow.cellAt h.own i (by rw [pf_len] at hi; exact hi), hv]
def cutR (u : Bool) (s p : Nat) (l : List Int) (z : Int) : List Pc × Nat := if l.length = 0 ∨ z < 1 then ([], 2) else (cutL u s p l z.toNat, 0)
theorem cutN_le {l : List Int} {sz : Nat} (h : 0 < l.length) (hs : 1 ≤ sz) : cutN l sz ≤ l.length := by
  unfold cutN
  generalize l.length = n at h
  obtain ⟨a, rfl⟩ : ∃ a, n = a + 1 := ⟨n - 1, by omega⟩
  obtain ⟨b, rfl⟩ : ∃ b, sz = b + 1 := ⟨sz - 1, by omega⟩
  refine Nat.div_le_of_le_mul ?_
  rw [Nat.add_mul, Nat.mul_add]
  have := Nat.zero_le (b * a)
  omega
theorem cutR_len {u : Bool} {s p : Nat} {l : List Int} {z : Int} : (cutR u s p l z).1.length ≤ l.length := by
  unfold cutR
  split
  · simp
  · simp [cutL]
    exact cutN_le (by omega) (by omega)
theorem cutR_two {u : Bool} {s p : Nat} {l : List Int} {z : Int} : (cutR u s p l z).2 ≤ 2 := by
  unfold cutR
  split <;> simp
def Cutted (b : World) (R : List Pc × Nat) (e : Ending) (w' : World) : Prop :=
  ∃ A N c qs, e = .returned (.tuple #[.slice A N c, .int .i64 (R.2 : Int)]) ∧ qs.length = N ∧ qs.map (·.1) = R.1 ∧ Ps b.heap.size w' (.slice A N c) qs ∧ Below b.heap.size b w'
theorem cut_both {W w : World} {s p : Nat} {u : Bool} {A : Option Addr} {n c : Nat} {l : List Int} {z : Int} (hm : MIn W s p A n c l) (hn : n ≤ 5000) (hz : (Lit.int .i64 z).wf = true) (hb : Below W.heap.size W w) :
    Calls Try.prog 68 #[.agg #[.int .u16 (s : Int), .bool u, .int .u32 (p : Int), .slice A n c], .int .i64 z] w fun e w' => Cutted w (cutR u s p l z) e w' := by
  have h2 := wf_i64 hz
  by_cases h : n = 0 ∨ z < 1
  · refine (cut_err s u p A n c z w h).mono ?_
    rintro e w' ⟨rfl, hb'⟩
    have hR : cutR u s p l z = ([], 2) := by unfold cutR; rw [if_pos (by rw [hm.len]; exact h)]
    rw [hR]
    exact ⟨none, 0, 0, [], rfl, rfl, rfl, ⟨World.ownsRow_nil _ _ _ _, fun q hq => by cases hq⟩, hb'⟩
  · obtain ⟨y, rfl⟩ : ∃ y : Nat, z = y := ⟨z.toNat, by omega⟩
    refine (cut_any s u p A n c l y w hm.len (by omega) (by omega) hm.cap (by omega) (by omega) (hm.row.below hb)).mono ?_
    rintro e w' ⟨A', N, c', qs, rfl, h3, h4, h5, h6⟩
    have hR : cutR u s p l y = (cutL u s p l y, 0) := by unfold cutR; rw [if_neg (by rw [hm.len]; exact h)]; rfl
    rw [hR]
    exact ⟨A', N, c', qs, rfl, h3, h4, h5, h6⟩
end Go.Proofs.Ytednkcjmlpgipaa
/-
  A slice of pieces that came in: opened.
-/
namespace Go.Proofs.Ytednkcjmlpgipaa
set_option maxRecDepth 4000
open Go.RowKit Go.ChangeShapes Go.WideShapes Go.Deep
open Fg
set_option linter.unusedVariables false
set_option linter.unusedSimpArgs false

/-- One that came in. -/
structure PIn (W : World) (q : Pq) : Prop where
  ok : q.1.Ok
  len : q.1.d.length = q.2.2.1
  cap : q.2.2.1 ≤ q.2.2.2
  most : q.2.2.2 ≤ 140737488351232
  row : Row W q.2.1 (bs q.1.d)
  nil : q.2.1 = none → q.2.2.1 = 0 ∧ q.2.2.2 = 0
def PcsIn (W : World) (A : Option Addr) (n c : Nat) (qs : List Pq) : Prop := qs.length = n ∧ n ≤ c ∧ c ≤ 140737488351232 ∧ Row W A (pf qs) ∧ ∀ q ∈ qs, PIn W q
section
variable {H : Type} {enc : TypeId × Value → H} {W : World} {base : Nat} {held : Bool}
theorem weights_in {P : Program} {e : TypeId} {n : Nat} {d : DataW H} : ∀ {l : List (DataW H)}, d ∈ l → n ∈ d.weights P e → n ∈ DataW.weightsAll P e l
  | x :: l, hd, hn => by
    simp only [DataW.weightsAll, List.mem_append]
    rcases List.mem_cons.1 hd with rfl | hd
    · exact .inl hn
    · exact .inr (weights_in hd hn)
theorem open_piece {fuel : Nat} {cs : List Value} {dd : DataW H} {pl : List MemPlace} (h : DataW.trod enc Try.prog W base (fun _ => true) held fuel 33 cs = some (dd, pl)) (hsz : ∀ n ∈ dd.weights Try.prog 33, n ≤ reachBytes) :
    ∃ q : Pq, cs = pcl q ∧ PIn W q := by
  obtain ⟨xs, n, _, hx, hl, hlen, hf⟩ := DataW.trod_struct Try.underlying33 h
  rw [show Try.prog.cellsOf 33 = 6 by kernel_rfl] at hl
  have c0 : Try.prog.cellsOf 22 = 1 := by kernel_rfl
  have c1 : Try.prog.cellsOf 5 = 1 := by kernel_rfl
  have c2 : Try.prog.cellsOf 31 = 1 := by kernel_rfl
  have c3 : Try.prog.cellsOf 23 = 1 := by kernel_rfl
  match cs, hl, xs, hlen with
  | [v0, v1, v2, v3, v4, v5], _, [y0, y1, y2, y3, y4, y5], _ =>
    have g0 : DataW.trod enc Try.prog W base (fun _ => true) held n 23 [v0] = some y0 := by simpa [c3] using hf 0 _ rfl
    have g1 : DataW.trod enc Try.prog W base (fun _ => true) held n 5 [v1] = some y1 := by simpa [c1] using hf 1 _ rfl
    have g2 : DataW.trod enc Try.prog W base (fun _ => true) held n 22 [v2] = some y2 := by simpa [c0] using hf 2 _ rfl
    have g3 : DataW.trod enc Try.prog W base (fun _ => true) held n 22 [v3] = some y3 := by simpa [c0] using hf 3 _ rfl
    have g4 : DataW.trod enc Try.prog W base (fun _ => true) held n 23 [v4] = some y4 := by simpa [c3] using hf 4 _ rfl
    have g5 : DataW.trod enc Try.prog W base (fun _ => true) held n 31 [v5] = some y5 := by simpa [c2] using hf 5 _ rfl
    obtain ⟨t, e0, _, w0⟩ := DataW.trod_int Try.underlying23 g0
    obtain ⟨f, e1, _, w1⟩ := DataW.trod_int Try.underlying5 g1
    obtain ⟨s, e2, _, w2⟩ := DataW.trod_int Try.underlying22 g2
    obtain ⟨m, e3, _, w3⟩ := DataW.trod_int Try.underlying22 g3
    obtain ⟨p, e4, _, w4⟩ := DataW.trod_int Try.underlying23 g4
    obtain rfl : v0 = _ := by simpa using e0
    obtain rfl : v1 = _ := by simpa using e1
    obtain rfl : v2 = _ := by simpa using e2
    obtain rfl : v3 = _ := by simpa using e3
    obtain rfl : v4 = _ := by simpa using e4
    have k0 := wf_u32 w0
    have k1 := wf_u8 w1
    have k2 := wf_u16 w2
    have k3 := wf_u16 w3
    have k4 := wf_u32 w4
    obtain ⟨t, rfl⟩ : ∃ a : Nat, t = a := ⟨t.toNat, by omega⟩
    obtain ⟨f, rfl⟩ : ∃ a : Nat, f = a := ⟨f.toNat, by omega⟩
    obtain ⟨s, rfl⟩ : ∃ a : Nat, s = a := ⟨s.toNat, by omega⟩
    obtain ⟨m, rfl⟩ : ∃ a : Nat, m = a := ⟨m.toNat, by omega⟩
    obtain ⟨p, rfl⟩ : ∃ a : Nat, p = a := ⟨p.toNat, by omega⟩
    have b1 : Try.prog.bytesOf 5 = 1 := by kernel_rfl
    obtain ⟨A, len, cap, zs, rfl, hz, hreach⟩ : ∃ A len cap zs, v5 = .slice A len cap ∧ IsRow .u8 W A len cap zs ∧ cap ≤ 140737488351232 := by
      rcases open_ints Try.underlying31 Try.underlying5 c1 g5 with ⟨hcs, _⟩ | ⟨x, len, cap, zs, hcs, _, hlc, hm, hz, hy, hcell, hwz⟩
      · exact ⟨none, 0, 0, [], by simpa using hcs, .inl ⟨rfl, rfl, rfl, rfl⟩, by omega⟩
      · refine ⟨some x, len, cap, zs, by simpa using hcs, .inr ⟨x, rfl, hlc, hm, by simpa using hz, hcell, hwz⟩, ?_⟩
        simp only [if_true] at hz
        obtain ⟨y51, y52⟩ := y5
        simp only [Prod.mk.injEq] at hx hy
        obtain ⟨rfl, rfl⟩ := hy
        have hd := hx.1
        have h9 := hsz cap (by
          rw [hd]
          simp only [DataW.weights, Try.underlying33, Try.underlying31, List.map_cons, List.map_nil, DataW.weightsEach, List.mem_append, b1]
          refine .inr (.inr (.inr (.inr (.inr (.inl (List.mem_cons.2 (.inl ?_)))))))
          simp [lits]
          omega)
        have h10 : reachBytes = 140737488351232 := by decide
        omega
    obtain ⟨l, hl, h3, h4, hb, hr⟩ := hz.bytes
    exact ⟨(⟨t, f, s, m, p, l⟩, (A, len, cap)), rfl, ⟨⟨by show t < _; omega, by show f < _; omega, by show s < _; omega, by show m < _; omega, by show p < _; omega, hb⟩, hl, h3, hreach, hr, fun e => by
      rcases hz with ⟨_, h1, h2, _⟩ | ⟨x, h1, _⟩
      · exact ⟨h1, h2⟩
      · rw [show A = none from e] at h1
        cases h1⟩⟩
theorem pf_cell : ∀ {qs : List Pq} {i : Nat} {v : Value}, (pf qs)[i]? = some v → ∃ h : i / 6 < qs.length, (pcl qs[i / 6])[i % 6]? = some v := fun {qs i v} h => by
  have hi := (List.getElem?_eq_some_iff.1 h).1
  rw [pf_len] at hi
  have h6 : i / 6 < qs.length := by omega
  refine ⟨h6, ?_⟩
  have := pf_get h6 (i % 6) (Nat.mod_lt _ (by omega))
  rw [show i / 6 * 6 + i % 6 = i by omega] at this
  rw [← this]
  exact h
theorem open_pieces {a : Option Addr} {len cap : Nat} {d : DataW H} {pl : List MemPlace} (h : DataW.Trod enc Try.prog W base (fun _ => true) held 66 (.slice a len cap) d pl) (hsz : ∀ n ∈ d.weights Try.prog 66, n ≤ reachBytes) :
    ∃ qs, PcsIn W a len cap qs := by
  obtain ⟨fuel, hf⟩ := h
  have c3 : Try.prog.cellsOf 33 = 6 := by kernel_rfl
  rcases open_slice Try.underlying66 hf with ⟨hcs, _⟩ | ⟨x, l, c, m, n, D, Pl, hcs, _, hl, hm, hmm, hx, hr⟩
  · simp [Value.cells] at hcs
    obtain ⟨rfl, rfl, rfl⟩ := hcs
    exact ⟨[], rfl, Nat.le_refl _, Nat.zero_le _, fun i v h => by simp [pf] at h, fun q hq => by simp at hq⟩
  · simp [Value.cells] at hcs
    obtain ⟨rfl, rfl, rfl⟩ := hcs
    simp only [if_true] at hmm
    subst hmm
    rw [c3] at hr
    simp only [Prod.mk.injEq] at hx
    have hd := hx.1
    have b40 : Try.prog.bytesOf 33 = 40 := by kernel_rfl
    have hcr : m ≤ 140737488351232 := by
      have h9 := hsz (m * 40) (by
        rw [hd]
        simp only [DataW.weights, Try.underlying66, b40]
        refine List.mem_cons.2 (.inl ?_)
        simp
        omega)
      have h10 : reachBytes = 140737488351232 := by decide
      omega
    have each : ∀ i, i < len → ∃ q : Pq, W.cells? base (x.add (i * 6)) 6 = some (pcl q) ∧ PIn W q := by
      intro i hi
      obtain ⟨cs', k1, k2⟩ := hr i (by omega)
      obtain ⟨q, rfl, hv⟩ := open_piece k2 (fun n hn => hsz n (by
        rw [hd]
        simp only [DataW.weights, Try.underlying66]
        exact List.mem_cons_of_mem _ (List.mem_append_left _ (weights_in (List.mem_map.2 ⟨i, List.mem_range.2 hi, rfl⟩) hn))))
      exact ⟨q, k1, hv⟩
    haveI : Inhabited Pq := ⟨((⟨0, 0, 0, 0, 0, []⟩ : Pc), (none, 0, 0))⟩
    obtain ⟨q, hq⟩ := choose_lt each
    refine ⟨(List.range len).map q, by simp, hl, hcr, fun i v hv => ⟨x, rfl, ?_⟩, fun p hp => ?_⟩
    · obtain ⟨h2, h3⟩ := pf_cell hv
      simp only [List.length_map, List.length_range] at h2
      simp only [List.getElem_map, List.getElem_range] at h3
      obtain ⟨_, _, hc⟩ := World.cells?_some (hq (i / 6) h2).1
      have e := hc (i % 6) (Nat.mod_lt _ (by omega))
      rw [h3, add_add, show i / 6 * 6 + i % 6 = i by omega] at e
      exact e
    · obtain ⟨i, hi, rfl⟩ := List.mem_map.1 hp
      exact (hq i (List.mem_range.1 hi)).2
end
end Go.Proofs.Ytednkcjmlpgipaa
/-
  A slice of an inbox's calls that came in (a number and a piece each): opened.
-/
namespace Go.Proofs.Ytednkcjmlpgipaa
set_option maxRecDepth 4000
open Go.RowKit Go.ChangeShapes Go.WideShapes Go.Deep
open Fg
namespace Ix
set_option linter.unusedVariables false
set_option linter.unusedSimpArgs false

abbrev Dq := Int × Pq
def dcl (q : Dq) : List Value := .int .i64 q.1 :: pcl q.2
def dfl (qs : List Dq) : List Value := qs.flatMap dcl
theorem dfl_get : ∀ {qs : List Dq} {i : Nat} (h : i < qs.length) (k : Nat), k < 7 → (dfl qs)[i * 7 + k]? = (dcl qs[i])[k]?
  | q :: qs, 0, _, k, hk => by
    have e : dfl (q :: qs) = dcl q ++ dfl qs := by simp [dfl]
    rw [e, List.getElem?_append_left (by simp [dcl, pcl]; omega)]
    simp
  | q :: qs, i + 1, h, k, hk => by
    have ih := dfl_get (qs := qs) (i := i) (by simpa using h) k hk
    have e : dfl (q :: qs) = dcl q ++ dfl qs := by simp [dfl]
    have hl : (dcl q).length = 7 := rfl
    rw [e, List.getElem?_append_right (by omega), hl, show (i + 1) * 7 + k - 7 = i * 7 + k by omega]
    exact ih
theorem dfl_len (qs : List Dq) : (dfl qs).length = qs.length * 7 := by
  induction qs with
  | nil => rfl
  | cons q qs ih =>
    have e : dfl (q :: qs) = dcl q ++ dfl qs := by simp [dfl]
    have hl : (dcl q).length = 7 := rfl
    rw [e, List.length_append, ih, hl]
    simp
    omega
theorem dfl_cell {qs : List Dq} {i : Nat} {v : Value} (h : (dfl qs)[i]? = some v) : ∃ h : i / 7 < qs.length, (dcl qs[i / 7])[i % 7]? = some v := by
  have hi := (List.getElem?_eq_some_iff.1 h).1
  rw [dfl_len] at hi
  have h7 : i / 7 < qs.length := by omega
  refine ⟨h7, ?_⟩
  have := dfl_get h7 (i % 7) (Nat.mod_lt _ (by omega))
  rw [show i / 7 * 7 + i % 7 = i by omega] at this
  rw [← this]
  exact h
/-- Calls that came in. -/
def DosIn (W : World) (A : Option Addr) (n c : Nat) (qs : List Dq) : Prop := qs.length = n ∧ n ≤ c ∧ c ≤ 140737488351232 ∧ Row W A (dfl qs) ∧ ∀ q ∈ qs, (Lit.int .i64 q.1).wf = true ∧ PIn W q.2
section
variable {H : Type} {enc : TypeId × Value → H} {W : World} {base : Nat} {held : Bool}
theorem open_do {fuel : Nat} {cs : List Value} {dd : DataW H} {pl : List MemPlace} (h : DataW.trod enc Try.prog W base (fun _ => true) held fuel 35 cs = some (dd, pl)) (hsz : ∀ n ∈ dd.weights Try.prog 35, n ≤ reachBytes) :
    ∃ q : Dq, cs = dcl q ∧ (Lit.int .i64 q.1).wf = true ∧ PIn W q.2 := by
  obtain ⟨y0, y1, n, hx, hl, h0, h1⟩ := trod_struct2 Try.underlying35 h
  rw [show Try.prog.cellsOf 35 = 7 by kernel_rfl] at hl
  have c0 : Try.prog.cellsOf 3 = 1 := by kernel_rfl
  have c1 : Try.prog.cellsOf 33 = 6 := by kernel_rfl
  match cs, hl with
  | [v0, v1, v2, v3, v4, v5, v6], _ =>
    have g0 : DataW.trod enc Try.prog W base (fun _ => true) held n 3 [v0] = some y0 := by simpa [c0] using h0
    have g1 : DataW.trod enc Try.prog W base (fun _ => true) held n 33 [v1, v2, v3, v4, v5, v6] = some (y1.1, y1.2) := by simpa [c1] using h1
    obtain ⟨k, e0, _, w0⟩ := DataW.trod_int Try.underlying3 g0
    obtain rfl : v0 = _ := by simpa using e0
    obtain ⟨q, hq, hp⟩ := open_piece g1 (fun m hm => hsz m (by
      simp only [Prod.mk.injEq] at hx
      rw [hx.1]
      simp only [DataW.weights, Try.underlying35, List.map_cons, List.map_nil, DataW.weightsEach, List.mem_append]
      exact .inr (.inl hm)))
    exact ⟨(k, q), by rw [hq]; rfl, w0, hp⟩
theorem open_calls {a : Option Addr} {len cap : Nat} {d : DataW H} {pl : List MemPlace} (h : DataW.Trod enc Try.prog W base (fun _ => true) held 24 (.slice a len cap) d pl) (hsz : ∀ n ∈ d.weights Try.prog 24, n ≤ reachBytes) :
    ∃ qs, DosIn W a len cap qs := by
  obtain ⟨fuel, hf⟩ := h
  have c3 : Try.prog.cellsOf 35 = 7 := by kernel_rfl
  rcases open_slice Try.underlying24 hf with ⟨hcs, _⟩ | ⟨x, l, c, m, n, D, Pl, hcs, _, hl, hm, hmm, hx, hr⟩
  · simp [Value.cells] at hcs
    obtain ⟨rfl, rfl, rfl⟩ := hcs
    exact ⟨[], rfl, Nat.le_refl _, Nat.zero_le _, fun i v h => by simp [dfl] at h, fun q hq => by simp at hq⟩
  · simp [Value.cells] at hcs
    obtain ⟨rfl, rfl, rfl⟩ := hcs
    simp only [if_true] at hmm
    subst hmm
    rw [c3] at hr
    simp only [Prod.mk.injEq] at hx
    have hd := hx.1
    have b48 : Try.prog.bytesOf 35 = 48 := by kernel_rfl
    have hcr : m ≤ 140737488351232 := by
      have h9 := hsz (m * 48) (by
        rw [hd]
        simp only [DataW.weights, Try.underlying24, b48]
        refine List.mem_cons.2 (.inl ?_)
        simp
        omega)
      have h10 : reachBytes = 140737488351232 := by decide
      omega
    have each : ∀ i, i < len → ∃ q : Dq, W.cells? base (x.add (i * 7)) 7 = some (dcl q) ∧ (Lit.int .i64 q.1).wf = true ∧ PIn W q.2 := by
      intro i hi
      obtain ⟨cs', k1, k2⟩ := hr i (by omega)
      obtain ⟨q, rfl, hv⟩ := open_do k2 (fun n hn => hsz n (by
        rw [hd]
        simp only [DataW.weights, Try.underlying24]
        exact List.mem_cons_of_mem _ (List.mem_append_left _ (weights_in (List.mem_map.2 ⟨i, List.mem_range.2 hi, rfl⟩) hn))))
      exact ⟨q, k1, hv⟩
    haveI : Inhabited Dq := ⟨(0, ((⟨0, 0, 0, 0, 0, []⟩ : Pc), (none, 0, 0)))⟩
    obtain ⟨q, hq⟩ := choose_lt each
    refine ⟨(List.range len).map q, by simp, hl, hcr, fun i v hv => ⟨x, rfl, ?_⟩, fun p hp => ?_⟩
    · obtain ⟨h2, h3⟩ := dfl_cell hv
      simp only [List.length_map, List.length_range] at h2
      simp only [List.getElem_map, List.getElem_range] at h3
      obtain ⟨_, _, hc⟩ := World.cells?_some (hq (i / 7) h2).1
      have e := hc (i % 7) (Nat.mod_lt _ (by omega))
      rw [h3, add_add, show i / 7 * 7 + i % 7 = i by omega] at e
      exact e
    · obtain ⟨i, hi, rfl⟩ := List.mem_map.1 hp
      exact (hq i (List.mem_range.1 hi)).2
end
end Ix
end Go.Proofs.Ytednkcjmlpgipaa
/-
  What a script weighs.
-/
namespace Go.Proofs.Ytednkcjmlpgipaa
set_option maxRecDepth 4000
open Go.RowKit Go.Maps
namespace Ix
open Fg
set_option linter.unusedVariables false
set_option linter.unusedSimpArgs false

theorem dfl_at {W : World} {A : Option Addr} {qs : List Dq} (h : Row W A (dfl qs)) {i : Nat} (hi : i < qs.length) :
    ∃ a, A = some a ∧ W.cell? (a.add (i * 7)) = some (.int .i64 qs[i].1) ∧ W.cell? { block := (a.add (i * 7)).block, off := (a.add (i * 7)).off + 1 } = some (.int .u32 (qs[i].2.1.t : Int)) ∧ W.cell? { block := (a.add (i * 7)).block, off := (a.add (i * 7)).off + 2 } = some (.int .u8 (qs[i].2.1.f : Int)) ∧
      W.cell? { block := (a.add (i * 7)).block, off := (a.add (i * 7)).off + 3 } = some (.int .u16 (qs[i].2.1.s : Int)) ∧ W.cell? { block := (a.add (i * 7)).block, off := (a.add (i * 7)).off + 4 } = some (.int .u16 (qs[i].2.1.n : Int)) ∧
      W.cell? { block := (a.add (i * 7)).block, off := (a.add (i * 7)).off + 5 } = some (.int .u32 (qs[i].2.1.p : Int)) ∧ W.cell? { block := (a.add (i * 7)).block, off := (a.add (i * 7)).off + 6 } = some (.slice qs[i].2.2.1 qs[i].2.2.2.1 qs[i].2.2.2.2) := by
  have g := fun k hk => dfl_get hi k hk
  obtain ⟨a, ha, k0⟩ := h (i * 7) _ ((g 0 (by omega)).trans rfl)
  have hc : ∀ k v, 0 < k → k < 7 → (dcl qs[i])[k]? = some v → W.cell? { block := (a.add (i * 7)).block, off := (a.add (i * 7)).off + k } = some v := fun k v h0 h6 hv => by
    obtain ⟨b, hb, kc⟩ := h (i * 7 + k) v ((g k h6).trans hv)
    rw [ha] at hb
    injection hb with hb
    subst hb
    rw [← add_off a (i * 7) k h0]
    exact kc
  exact ⟨a, ha, k0, hc 1 _ (by omega) (by omega) rfl, hc 2 _ (by omega) (by omega) rfl, hc 3 _ (by omega) (by omega) rfl, hc 4 _ (by omega) (by omega) rfl, hc 5 _ (by omega) (by omega) rfl, hc 6 _ (by omega) (by omega) rfl⟩
def dtot (qs : List Dq) : Nat := (qs.map fun q => q.2.2.2.1).sum
def dadd (qs : List Dq) : Nat := (qs.map fun q => if q.1 = 0 then 1 else 0).sum
theorem dtot_take {qs : List Dq} {k : Nat} (h : k < qs.length) : dtot (qs.take (k + 1)) = dtot (qs.take k) + qs[k].2.2.2.1 := by
  rw [List.take_succ_eq_append_getElem h]
  unfold dtot
  rw [List.map_append, List.sum_append]
  simp
theorem dadd_take {qs : List Dq} {k : Nat} (h : k < qs.length) : dadd (qs.take (k + 1)) = dadd (qs.take k) + (if qs[k].1 = 0 then 1 else 0) := by
  rw [List.take_succ_eq_append_getElem h]
  unfold dadd
  rw [List.map_append, List.sum_append]
  simp
structure Light (qs : List Dq) : Prop where
  len : qs.length ≤ 200
  tot : dtot qs ≤ 20000
  add : dadd qs ≤ 60
set_option maxHeartbeats 1000000 in
theorem heavy_any (A : Option Addr) (n c : Nat) (qs : List Dq) (w : World) (hl : qs.length = n) (hn : n ≤ 140737488355328) (hr : Row w A (dfl qs)) (hk : ∀ q ∈ qs, q.2.2.2.1 ≤ 140737488355328) :
    Calls Try.prog 8 #[.slice A n c] w fun e w' => (e = .returned (.bool true) ∨ e = .returned (.bool false) ∧ Light qs) ∧ Below w.heap.size w w' := by
  have HL := Lib.hid hl
  have HR := Lib.hid hr
  have HK := Lib.hid hk
  clear hl hr hk
  go_enter Try.func8, Try.ntmps8
  go_wp2_with fail
  go_loopw [3, 4, 9] (fun v3 v4 v9 wr => ∃ (k d a : Nat), v9 = .int .i64 k ∧ k ≤ n ∧ v3 = .int .i64 d ∧ v4 = .int .i64 a ∧ d ≤ 20000 ∧ a ≤ 60 ∧ Hid (d = dtot (qs.take k) ∧ a = dadd (qs.take k)) ∧ Hid (Below w.heap.size w wr)) (fun _ _ v9 _ => n - (intOf v9).toNat)
  case atStart => exact ⟨0, 0, 0, rfl, Nat.zero_le _, rfl, rfl, by omega, by omega, Lib.hid ⟨rfl, rfl⟩, Lib.hid (Below.refl _ _)⟩
  case round =>
    obtain ⟨k, d, a, rfl, hk, rfl, rfl, hd, ha, HI, HB⟩ := hrel
    by_cases hlt : k < n
    · have hkq : k < qs.length := by rw [HL.out]; exact hlt
      obtain ⟨ad, rfl, f0, f1, f2, f3, f4, f5, f6⟩ := dfl_at (HR.out.below HB.out) hkq
      have hb := HK.out _ (List.getElem_mem hkq)
      have HT := Lib.hid (dtot_take hkq)
      have HA := Lib.hid (dadd_take hkq)
      generalize qs[k] = q at f0 f1 f2 f3 f4 f5 f6 hb HT HA
      obtain ⟨kd, ⟨t, f, s, m, p, l⟩, B, dn, dc⟩ := q
      simp only at f0 f1 f2 f3 f4 f5 f6 hb HT HA
      clear hkq
      by_cases hkd : kd = 0
      · subst hkd
        by_cases hg : 20000 < d + dn
        · have hz : decide ((20000 : Int) < (d : Int) + (dn : Int)) = true := decide_eq_true (by omega)
          clear hg
          go_wp2_with fail
          go_ret
          exact ⟨.inl rfl, HB.out.alloc HB.out.size _⟩
        · have hz : decide ((20000 : Int) < (d : Int) + (dn : Int)) = false := decide_eq_false (by omega)
          have hdd : d + dn ≤ 20000 := by omega
          clear hg
          by_cases h6 : 60 < a + 1
          · have hy : decide ((60 : Int) < (a : Int) + 1) = true := decide_eq_true (by omega)
            clear h6
            go_wp2_with fail
            go_ret
            exact ⟨.inl rfl, HB.out.alloc HB.out.size _⟩
          · have hy : decide ((60 : Int) < (a : Int) + 1) = false := decide_eq_false (by omega)
            have haa : a + 1 ≤ 60 := by omega
            clear h6
            go_wp2_with fail
            go_roundw
            case rel => exact ⟨k + 1, d + dn, a + 1, by go_num, by omega, by go_num, by go_num, hdd, haa, Lib.hid ⟨by have h1 := HT.out; have h2 := HI.out.1; omega, by have h1 := HA.out; have h2 := HI.out.2; rw [if_pos rfl] at h1; omega⟩, Lib.hid (HB.out.alloc HB.out.size _)⟩
            case measure => simp [intOf]; try omega
      · have hq0 : (kd == (0 : Int)) = false := by simpa using hkd
        have HKD := Lib.hid hkd
        clear hkd
        by_cases hg : 20000 < d + dn
        · have hz : decide ((20000 : Int) < (d : Int) + (dn : Int)) = true := decide_eq_true (by omega)
          clear hg
          go_wp2_with fail
          go_ret
          exact ⟨.inl rfl, HB.out.alloc HB.out.size _⟩
        · have hz : decide ((20000 : Int) < (d : Int) + (dn : Int)) = false := decide_eq_false (by omega)
          have hdd : d + dn ≤ 20000 := by omega
          clear hg
          by_cases h6 : 60 < a
          · have hy : decide ((60 : Int) < (a : Int)) = true := decide_eq_true (by omega)
            clear h6
            go_wp2_with fail
            go_ret
            exact ⟨.inl rfl, HB.out.alloc HB.out.size _⟩
          · have hy : decide ((60 : Int) < (a : Int)) = false := decide_eq_false (by omega)
            have haa : a ≤ 60 := by omega
            clear h6
            go_wp2_with fail
            go_roundw
            case rel => exact ⟨k + 1, d + dn, a, by go_num, by omega, by go_num, by go_num, hdd, haa, Lib.hid ⟨by have h1 := HT.out; have h2 := HI.out.1; omega, by have h1 := HA.out; have h2 := HI.out.2; rw [if_neg HKD.out] at h1; omega⟩, Lib.hid (HB.out.alloc HB.out.size _)⟩
            case measure => simp [intOf]; try omega
    · obtain rfl : k = n := by omega
      have ht : qs.take k = qs := List.take_of_length_le (by rw [HL.out]; omega)
      have HI2 : Hid (d = dtot qs ∧ a = dadd qs) := Lib.hid (by have := HI.out; rwa [ht] at this)
      clear ht HI
      by_cases h2 : 200 < k
      · have hz : decide ((200 : Int) < (k : Int)) = true := decide_eq_true (by omega)
        clear h2
        go_wp2_with fail
        go_ret
        exact ⟨.inl (by simp [hz]), HB.out⟩
      · have hz : decide ((200 : Int) < (k : Int)) = false := decide_eq_false (by omega)
        have HLI : Hid (Light qs) := Lib.hid ⟨by rw [HL.out]; omega, by rw [← HI2.out.1]; exact hd, by rw [← HI2.out.2]; exact ha⟩
        clear h2
        go_wp2_with fail
        go_ret
        exact ⟨.inr ⟨by simp [hz], HLI.out⟩, HB.out⟩
end Ix
end Go.Proofs.Ytednkcjmlpgipaa
