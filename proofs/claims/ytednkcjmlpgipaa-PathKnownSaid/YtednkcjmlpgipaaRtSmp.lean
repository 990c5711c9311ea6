/-
  What Sample does to a timer in memory.
-/
import Derived.Test.YtednkcjmlpgipaaRtLow
import Derived.Deep.Cut
namespace Go.Proofs.Ytednkcjmlpgipaa
set_option maxRecDepth 4000
open Go.RowKit
namespace Rt
set_option linter.unusedVariables false
set_option linter.unusedSimpArgs false

set_option maxHeartbeats 1000000 in
theorem sample_any {w : World} {x : Nat} {t : T} (h : Tk w x t) (ok : t.Ok) (r : Nat) : Calls Try.prog 100 #[.pointer (some ⟨x, 0, none⟩), .int .u64 (r : Int)] w fun e w' => e = .returned (.tuple #[]) ∧ Tk w' x (t.sample r) ∧ w.grownBy w' (some x) := by
  obtain ⟨b1, b2, g1, g2, hj⟩ := reck_bounds ok (r := min r 4294967296) (by omega)
  have b3 : (t.reck (min r 4294967296)).lo ≤ (t.reck (min r 4294967296)).hi := by rw [g1, g2]; have := ok.2.1; have := ok.2.2.1; omega
  clear hj g1 g2
  have HK := Lib.hid (reckon_any h ok (min r 4294967296) (by omega))
  have HE : Hid (rc (t.sample r) = (rc (t.reck (min r 4294967296))).setIfInBounds 2 (.int .u64 ((min (max ((t.reck (min r 4294967296)).s / 8 + max (t.reck (min r 4294967296)).w 1) (t.reck (min r 4294967296)).lo) (t.reck (min r 4294967296)).hi : Nat) : Int))) := Lib.hid rfl
  clear h
  generalize t.reck (min r 4294967296) = t1 at b1 b2 b3 HK HE
  generalize t.sample r = t2 at HE ⊢
  clear ok t
  have hm : (4294967296 < r ∧ min r 4294967296 = 4294967296) ∨ (¬ 4294967296 < r ∧ min r 4294967296 = r) := by omega
  rcases hm with ⟨hm, e⟩ | ⟨hm, e⟩
  all_goals
    rw [e] at HK
    clear e
    go_enter Try.func100, Try.ntmps100
    go_wp2_with fail
    refine HK.out.mono ?_
    rintro e w1 ⟨rfl, h1, hg1⟩
    have HF := Lib.hid (h1.frozen 2)
    have C := Lib.hid (smooth_any (w := w1.drew) h1 b1)
    have H1 := Lib.hid h1
    have HG1 := Lib.hid hg1
    have hs : w1.drew.cell? ⟨x, 5, none⟩ = some (.int .u64 (t1.w : Int)) ∧ w1.drew.cell? ⟨x, 0, none⟩ = some (.int .u64 (t1.lo : Int)) ∧ w1.drew.cell? ⟨x, 1, none⟩ = some (.int .u64 (t1.hi : Int)) := ⟨h1.cells.2.2.2.2.2, h1.cells.1, h1.cells.2.1⟩
    have c2 : w1.drew.cell? ⟨x, 2, none⟩ = some (.int .u64 (t1.v : Int)) := h1.cells.2.2.1
    have f2 : w1.drew.frozen? ⟨x, 2, none⟩ = false := h1.frozen 2
    have HKP : Hid (∀ v, (w1.drew.setCell ⟨x, 2, none⟩ v).cell? ⟨x, 5, none⟩ = some (.int .u64 (t1.w : Int)) ∧ (w1.drew.setCell ⟨x, 2, none⟩ v).cell? ⟨x, 0, none⟩ = some (.int .u64 (t1.lo : Int)) ∧ (w1.drew.setCell ⟨x, 2, none⟩ v).cell? ⟨x, 1, none⟩ = some (.int .u64 (t1.hi : Int))) := Lib.hid fun v => ⟨(Bk.set (W := w1.drew) h1 2 v).cell 5, (Bk.set (W := w1.drew) h1 2 v).cell 0, (Bk.set (W := w1.drew) h1 2 v).cell 1⟩
    clear h1 hg1 HK
    have hq : t1.s / 8 ≤ 4294967296 := by omega
    generalize t1.s / 8 = q at C HE hq
    have x1 : (if t1.w = 0 then (1 : Int) else (t1.w : Int)) = ((max t1.w 1 : Nat) : Int) := by split <;> omega
    have x2 : (if t1.w < 1 then (1 : Int) else (t1.w : Int)) = ((max t1.w 1 : Nat) : Int) := by split <;> omega
    have x3 : (if (1 : Int) > (t1.w : Int) then (1 : Int) else (t1.w : Int)) = ((max t1.w 1 : Nat) : Int) := by split <;> omega
    have x4 : (if (t1.w : Int) < 1 then (1 : Int) else (t1.w : Int)) = ((max t1.w 1 : Nat) : Int) := by split <;> omega
    have hmw : max t1.w 1 ≤ 17179869184 := by omega
    generalize max t1.w 1 = m at x1 x2 x3 x4 hmw HE
    have e2 : IntKind.u64.wrap ((q : Int) + (m : Int)) = ((q + m : Nat) : Int) := u64e (by omega) (by omega)
    generalize q + m = k at e2 HE
    have y1 : (if k < t1.lo then (t1.lo : Int) else (k : Int)) = ((max k t1.lo : Nat) : Int) := by split <;> omega
    have y2 : (if (t1.lo : Int) > (k : Int) then (t1.lo : Int) else (k : Int)) = ((max k t1.lo : Nat) : Int) := by split <;> omega
    have y3 : (if (k : Int) < (t1.lo : Int) then (t1.lo : Int) else (k : Int)) = ((max k t1.lo : Nat) : Int) := by split <;> omega
    generalize max k t1.lo = p at y1 y2 y3 HE
    have z1 : (if t1.hi < p then (t1.hi : Int) else (p : Int)) = ((min p t1.hi : Nat) : Int) := by split <;> omega
    have z2 : (if (t1.hi : Int) < (p : Int) then (t1.hi : Int) else (p : Int)) = ((min p t1.hi : Nat) : Int) := by split <;> omega
    generalize min p t1.hi = v at z1 z2 HE
    clear hq b1 b2 b3 hmw
    go_wp2_with fail
    go_region_held3 (fun W => W.cell? ⟨x, 5, none⟩ = some (.int .u64 (t1.w : Int)) ∧ W.cell? ⟨x, 0, none⟩ = some (.int .u64 (t1.lo : Int)) ∧ W.cell? ⟨x, 1, none⟩ = some (.int .u64 (t1.hi : Int))) (first | exact hs | exact HKP.out _) ((go_at_call 115; (with_reducible refine C.out.mono ?_); rintro e w2 ⟨rfl, rfl⟩))
    all_goals
      go_wp2_with fail
      go_end0
      exact ⟨rfl, tk_of ((H1.out.set 2 _).drew) HE.out.symm, grown_drew (grown_set HG1.out _ _)⟩
end Rt
end Go.Proofs.Ytednkcjmlpgipaa
