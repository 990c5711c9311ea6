/-
  What the window's methods do to it in memory.
-/
import Derived.Test.YtednkcjmlpgipaaCwP
import Derived.Test.YtednkcjmlpgipaaStar
import Derived.Deep.RegionHeld3
import Derived.Deep.RegionWith
import Derived.Deep.WholeRow
import Derived.Maps.AppendAt
import Derived.Lib.Hide
import Derived.BigQuiet
import Derived.Deep.Cut
namespace Go.Proofs.Ytednkcjmlpgipaa
set_option maxRecDepth 4000
open Go.RowKit
namespace Cw
set_option linter.unusedVariables false
set_option linter.unusedSimpArgs false

def rc (t : T) : Array Value := #[.int .i64 (t.m : Int), .int .i64 (t.sz : Int), .int .i64 (t.th : Int), .int .i64 (t.pt : Int)]
/-- The window t lies in block x. -/
def Tk (w : World) (x : Nat) (t : T) : Prop := Bk w x (rc t) 170
theorem Tk.cells {w : World} {x : Nat} {t : T} (h : Tk w x t) : w.cell? ⟨x, 0, none⟩ = some (.int .i64 (t.m : Int)) ∧ w.cell? ⟨x, 1, none⟩ = some (.int .i64 (t.sz : Int)) ∧ w.cell? ⟨x, 2, none⟩ = some (.int .i64 (t.th : Int)) ∧ w.cell? ⟨x, 3, none⟩ = some (.int .i64 (t.pt : Int)) :=
  ⟨h.cell 0, h.cell 1, h.cell 2, h.cell 3⟩
theorem i64n {n : Nat} (h : n ≤ 8796093022208) : wrap64 (n : Int) = (n : Int) := by unfold wrap64; omega
theorem i64e {z : Int} {n : Nat} (e : z = (n : Int)) (h : n ≤ 8796093022208) : wrap64 z = (n : Int) := by rw [e]; exact i64n h
theorem grown_set {a w : World} {b : Nat} (h : a.grownBy w (some b)) (i : Nat) (v : Value) : a.grownBy (w.setCell ⟨b, i, none⟩ v) (some b) := h.trans (setc_grown w b i v)
theorem grown_drew {w W : World} {r : Option Nat} (h : w.grownBy W r) : w.grownBy W.drew r := ⟨h.os, h.tape, h.output, h.size, h.block⟩
theorem tk_of {w : World} {x : Nat} {t : T} {cs : Array Value} (h : Bk w x cs 170) (e : cs = rc t) : Tk w x t := by rw [e] at h; exact h
theorem Tk.next {w w' : World} {x : Nat} {t : T} (h : Tk w x t) (hb : Below w.heap.size w w') : Tk w' x t := Bk.next h hb
theorem Tk.kept {w w' : World} {x : Nat} {t : T} {row : Option Nat} (h : Tk w x t) (hg : w.grownBy w' row) (hne : some x ≠ row) : Tk w' x t := Bk.kept h hg hne
theorem size_any {w : World} {x : Nat} {t : T} (h : Tk w x t) : Calls Try.prog 102 #[.pointer (some ⟨x, 0, none⟩)] w fun e w' => e = .returned (.int .i64 (t.sz : Int)) ∧ w = w' := by
  obtain ⟨c0, c1, c2, c3⟩ := h.cells
  clear h
  go_enter Try.func102, Try.ntmps102
  go_wp2
  go_ret
  exact ⟨rfl, rfl⟩
theorem size_nil (w : World) : Calls Try.prog 102 #[.pointer none] w fun e w' => e = .returned (.int .i64 0) ∧ w = w' := by
  go_enter Try.func102, Try.ntmps102
  go_wp2
  go_ret
  exact ⟨rfl, rfl⟩
theorem copy_nil (w : World) : Calls Try.prog 75 #[.pointer none] w fun e w' => e = .returned (.pointer none) ∧ w = w' := by
  go_enter Try.func75, Try.ntmps75
  go_wp2
  go_ret
  exact ⟨rfl, rfl⟩
theorem loss_nil (w : World) : Calls Try.prog 104 #[.pointer none] w fun e w' => e = .returned (.tuple #[]) ∧ w = w' := by
  go_enter Try.func104, Try.ntmps104
  go_wp2
  (try simp only [Exit.inBlock, Exit.then])
  refine bodyPost_ret (results_none rfl _ _ _) rfl ?_
  exact ⟨rfl, rfl⟩
theorem tout_nil (w : World) : Calls Try.prog 105 #[.pointer none] w fun e w' => e = .returned (.tuple #[]) ∧ w = w' := by
  go_enter Try.func105, Try.ntmps105
  go_wp2
  (try simp only [Exit.inBlock, Exit.then])
  refine bodyPost_ret (results_none rfl _ _ _) rfl ?_
  exact ⟨rfl, rfl⟩
theorem ack_nil (w : World) (n : Int) (f : Bool) : Calls Try.prog 103 #[.pointer none, .int .i64 n, .bool f] w fun e w' => e = .returned (.tuple #[]) ∧ w = w' := by
  go_enter Try.func103, Try.ntmps103
  go_wp2
  (try simp only [Exit.inBlock, Exit.then])
  refine bodyPost_ret (results_none rfl _ _ _) rfl ?_
  exact ⟨rfl, rfl⟩
theorem copy_any {w : World} {x : Nat} {t : T} (h : Tk w x t) : Calls Try.prog 75 #[.pointer (some ⟨x, 0, none⟩)] w fun e w' => e = .returned (.pointer (some ⟨w.heap.size, 0, none⟩)) ∧ Tk w' w.heap.size t ∧ Below w.heap.size w w' := by
  obtain ⟨c0, c1, c2, c3⟩ := h.cells
  have HT := Lib.hid h
  clear h
  go_enter Try.func75, Try.ntmps75
  go_wp2
  go_ret
  exact ⟨rfl, Bk.new _ _ _, (Below.refl _ _).alloc (Nat.le_refl _) _⟩
theorem fall_any {w : World} {x : Nat} {t : T} {b : Nat} (h : Tk w x t) (ok : t.Ok b) : Calls Try.prog 117 #[.pointer (some ⟨x, 0, none⟩)] w fun e w' => e = .returned (.tuple #[]) ∧ Tk w' x ⟨t.m, t.sz, max (t.sz / 2) (4 * t.m), 0⟩ ∧ w.grownBy w' (some x) := by
  obtain ⟨c0, c1, c2, c3⟩ := h.cells
  have f2 := h.frozen 2
  have f3 := h.frozen 3
  have e1 : wrap64 ((t.sz : Int) / 2) = ((t.sz / 2 : Nat) : Int) := i64e (by omega) (by have := ok.2.1; omega)
  have e1' : wrap64 (Int.tdiv (t.sz : Int) 2) = ((t.sz / 2 : Nat) : Int) := by rw [Int.tdiv_eq_ediv_of_nonneg (by omega)]; exact e1
  have e2 : wrap64 (4 * (t.m : Int)) = ((4 * t.m : Nat) : Int) := i64e (by omega) (by have := ok.1; omega)
  have HT := Lib.hid h
  have HB : Hid (rc ⟨t.m, t.sz, max (t.sz / 2) (4 * t.m), 0⟩ = ((rc t).setIfInBounds 2 (.int .i64 ((max (t.sz / 2) (4 * t.m) : Nat) : Int))).setIfInBounds 3 (.int .i64 0)) := Lib.hid rfl
  clear h ok
  generalize (⟨t.m, t.sz, max (t.sz / 2) (4 * t.m), 0⟩ : T) = t2 at HB ⊢
  generalize t.sz / 2 = s2 at e1 e1' HB
  generalize 4 * t.m = m4 at e2 HB
  have x1 : (if s2 < m4 then (m4 : Int) else (s2 : Int)) = ((max s2 m4 : Nat) : Int) := by split <;> omega
  have x2 : (if (s2 : Int) < (m4 : Int) then (m4 : Int) else (s2 : Int)) = ((max s2 m4 : Nat) : Int) := by split <;> omega
  have x3 : (if (m4 : Int) > (s2 : Int) then (m4 : Int) else (s2 : Int)) = ((max s2 m4 : Nat) : Int) := by split <;> omega
  generalize max s2 m4 = k at x1 x2 x3 HB
  go_enter Try.func117, Try.ntmps117
  go_wp2_with fail
  go_region
  have j3 := ((HT.out.set 2 (.int .i64 (k : Int))).drew).frozen 3
  have HT2 := Lib.hid ((HT.out.set 2 (.int .i64 (k : Int))).drew)
  have HG2 := Lib.hid (grown_drew (setc_grown w x 2 (.int .i64 (k : Int))))
  clear c0 c1 c2 c3 f2 f3 HT x1 x2 x3 e1 e1' e2
  have g3 : ((w.setCell ⟨x, 2, none⟩ (.int .i64 (k : Int))).drew).cell? ⟨x, 3, none⟩ = some (.int .i64 (t.pt : Int)) := HT2.out.cell 3
  generalize (World.setCell w ⟨x, 2, none⟩ (.int .i64 (k : Int))).drew = W2 at j3 g3 HT2 HG2 ⊢
  go_wp2_with fail
  go_end0
  exact ⟨rfl, tk_of (HT2.out.set 3 _) HB.out.symm, grown_set HG2.out _ _⟩
theorem loss_any {w : World} {x : Nat} {t : T} {b : Nat} (h : Tk w x t) (ok : t.Ok b) : Calls Try.prog 104 #[.pointer (some ⟨x, 0, none⟩)] w fun e w' => e = .returned (.tuple #[]) ∧ Tk w' x t.loss ∧ w.grownBy w' (some x) := by
  have C := Lib.hid (fall_any h ok)
  have HB : Hid (rc t.loss = (rc ⟨t.m, t.sz, max (t.sz / 2) (4 * t.m), 0⟩).setIfInBounds 1 (.int .i64 ((max (t.sz / 2) (4 * t.m) : Nat) : Int))) := Lib.hid rfl
  clear h ok
  generalize t.loss = t2 at HB ⊢
  generalize max (t.sz / 2) (4 * t.m) = k at C HB
  go_enter Try.func104, Try.ntmps104
  go_wp2_with fail
  refine C.out.mono ?_
  rintro e w1 ⟨rfl, h1, hg⟩
  obtain ⟨c0, c1, c2, c3⟩ := h1.cells
  have f1 := h1.frozen 1
  have HT := Lib.hid h1
  have HG := Lib.hid hg
  clear h1 hg C
  go_wp2_with fail
  go_end0
  exact ⟨rfl, tk_of (HT.out.set 1 _) HB.out.symm, grown_set HG.out _ _⟩
theorem tout_any {w : World} {x : Nat} {t : T} {b : Nat} (h : Tk w x t) (ok : t.Ok b) : Calls Try.prog 105 #[.pointer (some ⟨x, 0, none⟩)] w fun e w' => e = .returned (.tuple #[]) ∧ Tk w' x t.tout ∧ w.grownBy w' (some x) := by
  have C := Lib.hid (fall_any h ok)
  have HB : Hid (rc t.tout = (rc ⟨t.m, t.sz, max (t.sz / 2) (4 * t.m), 0⟩).setIfInBounds 1 (.int .i64 (t.m : Int))) := Lib.hid rfl
  clear h ok
  generalize t.tout = t2 at HB ⊢
  generalize max (t.sz / 2) (4 * t.m) = k at C HB
  go_enter Try.func105, Try.ntmps105
  go_wp2_with fail
  refine C.out.mono ?_
  rintro e w1 ⟨rfl, h1, hg⟩
  obtain ⟨c0, c1, c2, c3⟩ := h1.cells
  have f1 := h1.frozen 1
  have HT := Lib.hid h1
  have HG := Lib.hid hg
  clear h1 hg C
  go_wp2_with fail
  go_end0
  exact ⟨rfl, tk_of (HT.out.set 1 _) HB.out.symm, grown_set HG.out _ _⟩
/-- What 'growth' answers: the one closure or the other, over a block g that holds the window's pointer. -/
theorem growth_any {w : World} {x : Nat} {t : T} (h : Tk w x t) : Calls Try.prog 116 #[.pointer (some ⟨x, 0, none⟩)] w fun e w' => e = .returned (if t.sz ≤ t.th then .func (Fn.func 122) #[] #[.pointer (some ⟨w.heap.size, 0, none⟩)] else .func (Fn.func 123) #[] #[.pointer (some ⟨w.heap.size, 0, none⟩)]) ∧ Bk w' w.heap.size #[.pointer (some ⟨x, 0, none⟩)] 122 ∧ Below w.heap.size w w' := by
  have HB := Lib.hid (fun q : Nat => (Bk.new w #[.pointer (some ⟨x, 0, none⟩)] 122).drewN q)
  have HBB : Hid (∀ q : Nat, Below w.heap.size w ((w.alloc (.cells #[.pointer (some ⟨x, 0, none⟩)] 122)).drewN q)) := Lib.hid fun q => by
    have := (Below.refl w.heap.size w).alloc (Nat.le_refl _) (.cells #[.pointer (some ⟨x, 0, none⟩)] 122)
    exact ⟨this.os, this.tape, this.output, this.size, this.block⟩
  have g1 : (w.alloc (.cells #[.pointer (some ⟨x, 0, none⟩)] 122)).cell? ⟨x, 1, none⟩ = some (.int .i64 (t.sz : Int)) := (h.alloc _).cell 1
  have g2 : (w.alloc (.cells #[.pointer (some ⟨x, 0, none⟩)] 122)).cell? ⟨x, 2, none⟩ = some (.int .i64 (t.th : Int)) := (h.alloc _).cell 2
  clear h
  by_cases hle : t.sz ≤ t.th
  · rw [if_pos hle]
    go_enter Try.func116, Try.ntmps116
    go_wp2_with fail
    go_quiet (fail)
    go_wp2_with fail
    go_ret
    exact ⟨rfl, HB.out _, HBB.out _⟩
  · rw [if_neg hle]
    go_enter Try.func116, Try.ntmps116
    go_wp2_with fail
    go_quiet (fail)
    go_wp2_with fail
    go_ret
    exact ⟨rfl, HB.out _, HBB.out _⟩
/-- The one closure. -/
theorem small_any {w : World} {x g : Nat} {t : T} (h : Tk w x t) (hg : Bk w g #[.pointer (some ⟨x, 0, none⟩)] 122) (q : Nat) : Calls Try.prog 122 #[.int .i64 (q : Int), .pointer (some ⟨g, 0, none⟩)] w fun e w' => e = .returned (.int .i64 ((min q t.m : Nat) : Int)) ∧ w = w' := by
  obtain ⟨c0, c1, c2, c3⟩ := h.cells
  have g0 := hg.cell 0
  simp at g0
  clear h hg
  have x1 : (if t.m < q then (t.m : Int) else (q : Int)) = ((min q t.m : Nat) : Int) := by split <;> omega
  have x2 : (if (t.m : Int) < (q : Int) then (t.m : Int) else (q : Int)) = ((min q t.m : Nat) : Int) := by split <;> omega
  generalize min q t.m = k at x1 x2 ⊢
  go_enter Try.func122, Try.ntmps122
  go_wp2
  go_ret
  exact ⟨by first | rfl | simp [x1, x2], rfl⟩
/-- The other. -/
theorem big_any {w : World} {x g : Nat} {t : T} {b : Nat} (h : Tk w x t) (hg : Bk w g #[.pointer (some ⟨x, 0, none⟩)] 122) (hne : g ≠ x) (ok : t.Ok b) (hb : b ≤ 4398046511104) (q : Nat) (hq : q ≤ 1073741824) : Calls Try.prog 123 #[.int .i64 (q : Int), .pointer (some ⟨g, 0, none⟩)] w fun e w' => e = .returned (.int .i64 (((if t.pt + q < t.sz then 0 else t.m) : Nat) : Int)) ∧ Tk w' x ⟨t.m, t.sz, t.th, if t.pt + q < t.sz then t.pt + q else t.pt + q - t.sz⟩ ∧ w.grownBy w' (some x) := by
  obtain ⟨c0, c1, c2, c3⟩ := h.cells
  have f3 := h.frozen 3
  have g0 := hg.cell 0
  simp at g0
  have e1 : wrap64 ((t.pt : Int) + (q : Int)) = ((t.pt + q : Nat) : Int) := i64e (by omega) (by have := ok.2.2.2; omega)
  have HT := Lib.hid h
  have HG := Lib.hid hg
  by_cases hlt : t.pt + q < t.sz
  · have hlt2 : ((t.pt + q : Nat) : Int) < (t.sz : Int) := by omega
    simp only [if_pos hlt]
    clear h hg ok
    have HE : Hid (rc ⟨t.m, t.sz, t.th, t.pt + q⟩ = (rc t).setIfInBounds 3 (.int .i64 ((t.pt + q : Nat) : Int))) := Lib.hid rfl
    generalize (⟨t.m, t.sz, t.th, t.pt + q⟩ : T) = t2 at HE ⊢
    generalize t.pt + q = p at e1 hlt hlt2 HE
    go_enter Try.func123, Try.ntmps123
    go_upto_region 2 with fail
    have HT2 := Lib.hid (HT.out.set 3 (.int .i64 (p : Int)))
    have HG2 := Lib.hid (setc_grown w x 3 (.int .i64 (p : Int)))
    have HK := Lib.hid (HG.out.kept HG2.out (by simp; exact hne))
    have k0 := HK.out.cell 0
    simp at k0
    have k1 : (w.setCell ⟨x, 3, none⟩ (.int .i64 (p : Int))).cell? ⟨x, 1, none⟩ = some (.int .i64 (t.sz : Int)) := HT2.out.cell 1
    have k3 : (w.setCell ⟨x, 3, none⟩ (.int .i64 (p : Int))).cell? ⟨x, 3, none⟩ = some (.int .i64 (p : Int)) := HT2.out.cell 3
    clear c0 c1 c2 c3 f3 g0 HT HG
    generalize World.setCell w ⟨x, 3, none⟩ (.int .i64 (p : Int)) = W2 at HT2 HG2 HK k0 k1 k3 ⊢
    go_quiet (fail)
    go_wp2_with fail
    go_ret
    exact ⟨rfl, tk_of (HT2.out.drewN _) HE.out.symm, ⟨HG2.out.os, HG2.out.tape, HG2.out.output, HG2.out.size, HG2.out.block⟩⟩
  · have hlt2 : ¬ ((t.pt + q : Nat) : Int) < (t.sz : Int) := by omega
    have e2 : wrap64 (((t.pt + q : Nat) : Int) - (t.sz : Int)) = ((t.pt + q - t.sz : Nat) : Int) := i64e (by omega) (by have := ok.2.2.2; omega)
    simp only [if_neg hlt]
    clear h hg ok
    have HE : Hid (rc ⟨t.m, t.sz, t.th, t.pt + q - t.sz⟩ = ((rc t).setIfInBounds 3 (.int .i64 ((t.pt + q : Nat) : Int))).setIfInBounds 3 (.int .i64 ((t.pt + q - t.sz : Nat) : Int))) := Lib.hid rfl
    generalize (⟨t.m, t.sz, t.th, t.pt + q - t.sz⟩ : T) = t2 at HE ⊢
    generalize t.pt + q - t.sz = r at e2 HE
    generalize t.pt + q = p at e1 e2 hlt hlt2 HE
    go_enter Try.func123, Try.ntmps123
    go_upto_region 2 with fail
    have HT2 := Lib.hid (HT.out.set 3 (.int .i64 (p : Int)))
    have HG2 := Lib.hid (setc_grown w x 3 (.int .i64 (p : Int)))
    have HK := Lib.hid (HG.out.kept HG2.out (by simp; exact hne))
    have k0 := HK.out.cell 0
    simp at k0
    have k1 : (w.setCell ⟨x, 3, none⟩ (.int .i64 (p : Int))).cell? ⟨x, 1, none⟩ = some (.int .i64 (t.sz : Int)) := HT2.out.cell 1
    have k3 : (w.setCell ⟨x, 3, none⟩ (.int .i64 (p : Int))).cell? ⟨x, 3, none⟩ = some (.int .i64 (p : Int)) := HT2.out.cell 3
    clear c0 c1 c2 c3 f3 g0 HT HG
    generalize World.setCell w ⟨x, 3, none⟩ (.int .i64 (p : Int)) = W2 at HT2 HG2 HK k0 k1 k3 ⊢
    go_upto_region 4 with (go_quiet (fail))
    have HT3 := Lib.hid (HT2.out.drewN nq)
    have HK3 := Lib.hid (HK.out.drewN nq)
    have HG3 : Hid (w.grownBy (W2.drewN nq) (some x)) := Lib.hid ⟨HG2.out.os, HG2.out.tape, HG2.out.output, HG2.out.size, HG2.out.block⟩
    clear HT2 HK HG2 k0 k1 k3
    generalize W2.drewN nq = W3 at HT3 HK3 HG3 ⊢
    have k0 := HK3.out.cell 0
    simp at k0
    have k1 : W3.cell? ⟨x, 1, none⟩ = some (.int .i64 (t.sz : Int)) := HT3.out.cell 1
    have k3 : W3.cell? ⟨x, 3, none⟩ = some (.int .i64 (p : Int)) := HT3.out.cell 3
    have f3 := HT3.out.frozen 3
    go_region
    have HT4 := Lib.hid ((HT3.out.set 3 (.int .i64 (r : Int))).drew)
    have HG4 := Lib.hid (grown_drew (grown_set HG3.out 3 (.int .i64 (r : Int))))
    have HK4 := Lib.hid ((HK3.out.kept (setc_grown W3 x 3 (.int .i64 (r : Int))) (by simp; exact hne)).drew)
    have j0 : (W3.setCell ⟨x, 3, none⟩ (.int .i64 (r : Int))).drew.cell? ⟨g, 0, none⟩ = some (.pointer (some ⟨x, 0, none⟩)) := HK4.out.cell 0
    have j1 : (W3.setCell ⟨x, 3, none⟩ (.int .i64 (r : Int))).drew.cell? ⟨x, 0, none⟩ = some (.int .i64 (t.m : Int)) := HT4.out.cell 0
    clear k0 k1 k3 f3 HT3 HG3 HK3
    generalize (World.setCell W3 ⟨x, 3, none⟩ (.int .i64 (r : Int))).drew = W4 at HT4 HG4 HK4 j0 j1 ⊢
    go_wp2_with fail
    go_ret
    exact ⟨rfl, tk_of HT4.out HE.out.symm, HG4.out⟩
end Cw
end Go.Proofs.Ytednkcjmlpgipaa
