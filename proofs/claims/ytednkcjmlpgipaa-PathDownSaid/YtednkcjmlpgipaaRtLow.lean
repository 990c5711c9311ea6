/-
  What the timer's methods do to it in memory.
-/
import Derived.Test.YtednkcjmlpgipaaRtP
import Derived.Test.YtednkcjmlpgipaaStar
import Derived.Deep.RegionHeld3
import Derived.Deep.RegionWith
import Derived.Deep.WholeRow
import Derived.Maps.AppendAt
namespace Go.Proofs.Ytednkcjmlpgipaa
set_option maxRecDepth 4000
open Go.RowKit
namespace Rt
set_option linter.unusedVariables false
set_option linter.unusedSimpArgs false

def rc (t : T) : Array Value := #[.int .u64 (t.lo : Int), .int .u64 (t.hi : Int), .int .u64 (t.v : Int), .bool t.sd, .int .u64 (t.s : Int), .int .u64 (t.w : Int)]
/-- The timer t lies in block x. -/
def Tk (w : World) (x : Nat) (t : T) : Prop := Bk w x (rc t) 168
theorem Tk.cells {w : World} {x : Nat} {t : T} (h : Tk w x t) : w.cell? ⟨x, 0, none⟩ = some (.int .u64 (t.lo : Int)) ∧ w.cell? ⟨x, 1, none⟩ = some (.int .u64 (t.hi : Int)) ∧ w.cell? ⟨x, 2, none⟩ = some (.int .u64 (t.v : Int)) ∧ w.cell? ⟨x, 3, none⟩ = some (.bool t.sd) ∧ w.cell? ⟨x, 4, none⟩ = some (.int .u64 (t.s : Int)) ∧ w.cell? ⟨x, 5, none⟩ = some (.int .u64 (t.w : Int)) :=
  ⟨h.cell 0, h.cell 1, h.cell 2, h.cell 3, h.cell 4, h.cell 5⟩
theorem u64n {n : Nat} (h : n ≤ 1099511627776) : IntKind.u64.wrap (n : Int) = (n : Int) := by rw [IntKind.wrap_u64]; omega
theorem u64e {z : Int} {n : Nat} (e : z = (n : Int)) (h : n ≤ 1099511627776) : IntKind.u64.wrap z = (n : Int) := by rw [e]; exact u64n h
theorem grown_set {a w : World} {b : Nat} (h : a.grownBy w (some b)) (i : Nat) (v : Value) : a.grownBy (w.setCell ⟨b, i, none⟩ v) (some b) := h.trans (setc_grown w b i v)
theorem value_any {w : World} {x : Nat} {t : T} (h : Tk w x t) : Calls Try.prog 99 #[.pointer (some ⟨x, 0, none⟩)] w fun e w' => e = .returned (.int .u64 (t.v : Int)) ∧ w = w' := by
  obtain ⟨c0, c1, c2, c3, c4, c5⟩ := h.cells
  clear h
  go_enter Try.func99, Try.ntmps99
  go_wp2
  go_ret
  exact ⟨rfl, rfl⟩
theorem value_nil (w : World) : Calls Try.prog 99 #[.pointer none] w fun e w' => e = .returned (.int .u64 0) ∧ w = w' := by
  go_enter Try.func99, Try.ntmps99
  go_wp2
  go_ret
  exact ⟨rfl, rfl⟩
theorem smooth_any {w : World} {x : Nat} {t : T} (h : Tk w x t) (ok : t.s ≤ 34359738368) : Calls Try.prog 115 #[.pointer (some ⟨x, 0, none⟩)] w fun e w' => e = .returned (.int .u64 ((t.s / 8 : Nat) : Int)) ∧ w = w' := by
  obtain ⟨c0, c1, c2, c3, c4, c5⟩ := h.cells
  have e1 : IntKind.u64.wrap ((t.s : Int) / 8) = ((t.s / 8 : Nat) : Int) := u64e (by omega) (by omega)
  clear h ok
  go_enter Try.func115, Try.ntmps115
  go_wp2
  go_ret
  exact ⟨rfl, rfl⟩
theorem smooth_nil (w : World) : Calls Try.prog 115 #[.pointer none] w fun e w' => e = .returned (.int .u64 0) ∧ w = w' := by
  go_enter Try.func115, Try.ntmps115
  go_wp2
  go_ret
  exact ⟨rfl, rfl⟩
theorem copy_nil (w : World) : Calls Try.prog 74 #[.pointer none] w fun e w' => e = .returned (.pointer none) ∧ w = w' := by
  go_enter Try.func74, Try.ntmps74
  go_wp2
  go_ret
  exact ⟨rfl, rfl⟩
theorem back_nil (w : World) : Calls Try.prog 101 #[.pointer none] w fun e w' => e = .returned (.tuple #[]) ∧ w = w' := by
  go_enter Try.func101, Try.ntmps101
  go_wp2
  (try simp only [Exit.inBlock, Exit.then])
  refine bodyPost_ret (results_none rfl _ _ _) rfl ?_
  exact ⟨rfl, rfl⟩
theorem sample_nil (w : World) (r : Int) : Calls Try.prog 100 #[.pointer none, .int .u64 r] w fun e w' => e = .returned (.tuple #[]) ∧ w = w' := by
  go_enter Try.func100, Try.ntmps100
  go_wp2
  (try simp only [Exit.inBlock, Exit.then])
  refine bodyPost_ret (results_none rfl _ _ _) rfl ?_
  exact ⟨rfl, rfl⟩
theorem tk_of {w : World} {x : Nat} {t : T} {cs : Array Value} (h : Bk w x cs 168) (e : cs = rc t) : Tk w x t := by rw [e] at h; exact h
theorem Tk.next {w w' : World} {x : Nat} {t : T} (h : Tk w x t) (hb : Below w.heap.size w w') : Tk w' x t := Bk.next h hb
theorem Tk.kept {w w' : World} {x : Nat} {t : T} {row : Option Nat} (h : Tk w x t) (hg : w.grownBy w' row) (hne : some x ≠ row) : Tk w' x t := Bk.kept h hg hne
theorem grown_drew {w W : World} {r : Option Nat} (h : w.grownBy W r) : w.grownBy W.drew r := ⟨h.os, h.tape, h.output, h.size, h.block⟩
theorem min_is {a b : Nat} : (if b < a then (b : Int) else (a : Int)) = ((min a b : Nat) : Int) := by split <;> omega
theorem max_is {a b : Nat} : (if a < b then (b : Int) else (a : Int)) = ((max a b : Nat) : Int) := by split <;> omega
theorem back_any {w : World} {x : Nat} {t : T} (h : Tk w x t) (ok : t.Ok) : Calls Try.prog 101 #[.pointer (some ⟨x, 0, none⟩)] w fun e w' => e = .returned (.tuple #[]) ∧ Tk w' x t.back ∧ w.grownBy w' (some x) := by
  obtain ⟨c0, c1, c2, c3, c4, c5⟩ := h.cells
  have f2 := h.frozen 2
  have e1 : IntKind.u64.wrap (2 * (t.v : Int)) = ((2 * t.v : Nat) : Int) := u64e (by omega) (by have := ok.2.2.1; have := ok.2.2.2.1; omega)
  have HT := Lib.hid h
  have HB : Hid (rc t.back = (rc t).setIfInBounds 2 (.int .u64 ((min (2 * t.v) t.hi : Nat) : Int))) := Lib.hid rfl
  obtain ⟨v2, hv2⟩ : ∃ v2, v2 = 2 * t.v := ⟨_, rfl⟩
  rw [← hv2] at e1 HB
  clear h ok hv2
  go_enter Try.func101, Try.ntmps101
  go_wp2
  go_region
  rw [min_is]
  go_wp2
  go_end0
  exact ⟨rfl, tk_of ((HT.out.set 2 _).drew) HB.out.symm, grown_drew (setc_grown _ _ _ _)⟩
theorem copy_any {w : World} {x : Nat} {t : T} (h : Tk w x t) : Calls Try.prog 74 #[.pointer (some ⟨x, 0, none⟩)] w fun e w' => e = .returned (.pointer (some ⟨w.heap.size, 0, none⟩)) ∧ Tk w' w.heap.size t ∧ Below w.heap.size w w' := by
  obtain ⟨c0, c1, c2, c3, c4, c5⟩ := h.cells
  have HT := Lib.hid h
  clear h
  go_enter Try.func74, Try.ntmps74
  go_wp2
  go_ret
  exact ⟨rfl, Bk.new _ _ _, (Below.refl _ _).alloc (Nat.le_refl _) _⟩
theorem reckon_any {w : World} {x : Nat} {t : T} (h : Tk w x t) (ok : t.Ok) (r : Nat) (hr : r ≤ 4294967296) : Calls Try.prog 114 #[.pointer (some ⟨x, 0, none⟩), .int .u64 (r : Int)] w fun e w' => e = .returned (.tuple #[]) ∧ Tk w' x (t.reck r) ∧ w.grownBy w' (some x) := by
  obtain ⟨c0, c1, c2, c3, c4, c5⟩ := h.cells
  obtain ⟨f3, f4, f5⟩ : w.frozen? ⟨x, 3, none⟩ = false ∧ w.frozen? ⟨x, 4, none⟩ = false ∧ w.frozen? ⟨x, 5, none⟩ = false := ⟨h.frozen 3, h.frozen 4, h.frozen 5⟩
  have HT := Lib.hid h
  have hs := ok.2.2.2.2.1
  have hw := ok.2.2.2.2.2
  clear h ok
  by_cases hsd : t.sd = true
  · have HE : Hid (rc (t.reck r) = ((rc t).setIfInBounds 5 (.int .u64 ((t.w - t.w / 4 + (max r (t.s / 8) - min r (t.s / 8)) : Nat) : Int))).setIfInBounds 4 (.int .u64 ((t.s - t.s / 8 + r : Nat) : Int))) := Lib.hid (by unfold T.reck dist; rw [if_pos hsd]; simp [rc, hsd])
    rw [hsd] at c3
    have CS := Lib.hid (smooth_any HT.out hs)
    have hq : t.s / 8 ≤ 4294967296 := by omega
    have hq8 : t.s / 8 ≤ t.s := by omega
    generalize t.s / 8 = q at CS hq hq8 HE
    have e1 : (r < q ∧ ¬ q < r ∧ IntKind.u64.wrap ((q : Int) - (r : Int)) = ((max r q - min r q : Nat) : Int)) ∨ (¬ r < q ∧ q < r ∧ IntKind.u64.wrap ((r : Int) - (q : Int)) = ((max r q - min r q : Nat) : Int)) ∨ (¬ r < q ∧ ¬ q < r ∧ max r q - min r q = 0) := by
      rcases Nat.lt_trichotomy r q with hl | hl | hl
      · exact .inl ⟨hl, by omega, u64e (by omega) (by omega)⟩
      · exact .inr (.inr ⟨by omega, by omega, by omega⟩)
      · exact .inr (.inl ⟨by omega, hl, u64e (by omega) (by omega)⟩)
    have hd : max r q - min r q ≤ 4294967296 := by omega
    generalize max r q - min r q = d at e1 hd HE
    have e2 : IntKind.u64.wrap ((t.w : Int) / 4) = ((t.w / 4 : Nat) : Int) := u64e (by omega) (by omega)
    have e3 : IntKind.u64.wrap ((t.w : Int) - ((t.w / 4 : Nat) : Int)) = ((t.w - t.w / 4 : Nat) : Int) := u64e (by omega) (by omega)
    have e4 : IntKind.u64.wrap (((t.w - t.w / 4 : Nat) : Int) + (d : Int)) = ((t.w - t.w / 4 + d : Nat) : Int) := u64e (by omega) (by omega)
    have e5 : IntKind.u64.wrap ((t.s : Int) - (q : Int)) = ((t.s - q : Nat) : Int) := u64e (by omega) (by omega)
    have e6 : IntKind.u64.wrap (((t.s - q : Nat) : Int) + (r : Int)) = ((t.s - q + r : Nat) : Int) := u64e (by omega) (by omega)
    generalize t.s - q + r = s2 at e6 HE
    generalize t.s - q = s1 at e5 e6
    generalize t.w - t.w / 4 + d = w2 at e4 HE
    generalize t.w - t.w / 4 = w1 at e3 e4
    generalize t.w / 4 = w0 at e2 e3
    clear hq hq8 hd hw hs hr
    rcases e1 with ⟨l1, l2, e1⟩ | ⟨l1, l2, e1⟩ | ⟨l1, l2, e1⟩
    case' inr.inr =>
      subst e1
      have e4' : IntKind.u64.wrap (w1 : Int) = (w2 : Int) := by simpa using e4
    all_goals
      go_enter Try.func114, Try.ntmps114
      go_wp2_with fail
      refine CS.out.mono ?_
      rintro e w ⟨rfl, rfl⟩
      go_wp2_with fail
      go_region
      have g4 := ((HT.out.set 5 (.int .u64 (w2 : Int))).drew).cell 4
      have j4 := ((HT.out.set 5 (.int .u64 (w2 : Int))).drew).frozen 4
      have HT2 := Lib.hid ((HT.out.set 5 (.int .u64 (w2 : Int))).drew)
      have HG2 := Lib.hid (grown_drew (setc_grown w x 5 (.int .u64 (w2 : Int))))
      simp only [rc, List.size_toArray] at g4
      clear c0 c1 c2 c3 c4 c5 f3 f4 f5 HT
      generalize (World.setCell w ⟨x, 5, none⟩ (.int .u64 (w2 : Int))).drew = W2 at g4 j4 HT2 HG2 ⊢
      go_wp2_with fail
      go_end0
      exact ⟨rfl, tk_of (HT2.out.set 4 _) HE.out.symm, grown_set HG2.out _ _⟩
  · have hsd2 : t.sd = false := by simpa using hsd
    have HE : Hid (rc (t.reck r) = (((rc t).setIfInBounds 3 (.bool true)).setIfInBounds 4 (.int .u64 ((8 * r : Nat) : Int))).setIfInBounds 5 (.int .u64 ((2 * r : Nat) : Int))) := Lib.hid (by unfold T.reck; rw [if_neg hsd]; rfl)
    rw [hsd2] at c3
    have e1 : IntKind.u64.wrap (8 * (r : Int)) = ((8 * r : Nat) : Int) := u64e (by omega) (by omega)
    have e2 : IntKind.u64.wrap (2 * (r : Int)) = ((2 * r : Nat) : Int) := u64e (by omega) (by omega)
    generalize 8 * r = r8 at e1 HE
    generalize 2 * r = r2 at e2 HE
    go_enter Try.func114, Try.ntmps114
    go_wp2_with fail
    (try simp only [Exit.inBlock, Exit.then])
    refine bodyPost_ret (results_none rfl _ _ _) rfl ?_
    exact ⟨rfl, tk_of (((HT.out.set 3 _).set 4 _).set 5 _) HE.out.symm, grown_set (grown_set (setc_grown _ _ _ _) _ _) _ _⟩
end Rt
end Go.Proofs.Ytednkcjmlpgipaa
