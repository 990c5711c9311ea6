/-
  What Ack does to a window in memory; a window is made.
-/
import Derived.Test.YtednkcjmlpgipaaCwLow
import Derived.Deep.RegionLaw
import Derived.Deep.AppendLies
import Derived.Handy
namespace Go.Proofs.Ytednkcjmlpgipaa
set_option maxRecDepth 4000
open Go.RowKit
namespace Cw
set_option linter.unusedVariables false
set_option linter.unusedSimpArgs false

theorem grown_of_below {w w' : World} (h : Below w.heap.size w w') (row : Option Nat) : w.grownBy w' row := ⟨h.os, h.tape, h.output, h.size, fun k hk _ => h.block k hk⟩
theorem ack_still {w : World} {x : Nat} {t : T} (h : Tk w x t) (n : Int) (full : Bool) (hn : ¬ (full = true ∧ 1 ≤ n)) : Calls Try.prog 103 #[.pointer (some ⟨x, 0, none⟩), .int .i64 n, .bool full] w fun e w' => e = .returned (.tuple #[]) ∧ w = w' := by
  clear h
  cases full
  · go_enter Try.func103, Try.ntmps103
    go_wp2_with fail
    (try simp only [Exit.inBlock, Exit.then])
    refine bodyPost_ret (results_none rfl _ _ _) rfl ?_
    exact ⟨rfl, rfl⟩
  · have h1 : n < 1 := by
      have : ¬ 1 ≤ n := fun h => hn ⟨rfl, h⟩
      omega
    go_enter Try.func103, Try.ntmps103
    go_wp2_with fail
    (try simp only [Exit.inBlock, Exit.then])
    refine bodyPost_ret (results_none rfl _ _ _) rfl ?_
    exact ⟨rfl, rfl⟩
theorem i64w {z : Int} {n : Nat} (e : z = (n : Int)) (h : n ≤ 8796093022208) : IntKind.i64.wrap z = (n : Int) := by
  rw [e]
  simp [IntKind.wrap, IntKind.signed, IntKind.bits]
  omega
theorem ack_small {w : World} {x : Nat} {t : T} {b : Nat} (h : Tk w x t) (ok : t.Ok b) (n : Int) (h1 : 1 ≤ n) (hle : t.sz ≤ t.th) : Calls Try.prog 103 #[.pointer (some ⟨x, 0, none⟩), .int .i64 n, .bool true] w fun e w' => e = .returned (.tuple #[]) ∧ Tk w' x ⟨t.m, min (t.sz + min (cnt n) t.m) 1048576, t.th, t.pt⟩ ∧ w.grownBy w' (some x) := by
  have HC := Lib.hid (growth_any h)
  rw [if_pos hle] at HC
  have HT := Lib.hid h
  have hlt := h.lt
  have hn1 : ¬ n < 1 := by omega
  have i1 : (if (1073741824 : Int) < n then (1073741824 : Int) else n) = ((cnt n : Nat) : Int) := by unfold cnt; split <;> omega
  have i2 : (if n > (1073741824 : Int) then (1073741824 : Int) else n) = ((cnt n : Nat) : Int) := i1
  clear h hle
  generalize cnt n = q at i1 i2 ⊢
  have E1 : IntKind.i64.wrap ((t.sz : Int) + ((min q t.m : Nat) : Int)) = ((t.sz + min q t.m : Nat) : Int) := i64w (by omega) (by have := ok.1; have := ok.2.1; omega)
  have HE : Hid (rc ⟨t.m, min (t.sz + min q t.m) 1048576, t.th, t.pt⟩ = (rc t).setIfInBounds 1 (.int .i64 ((min (t.sz + min q t.m) 1048576 : Nat) : Int))) := Lib.hid rfl
  clear ok
  generalize (⟨t.m, min (t.sz + min q t.m) 1048576, t.th, t.pt⟩ : T) = t2 at HE ⊢
  have HSM : Hid (∀ W g, Tk W x t → Bk W g #[.pointer (some ⟨x, 0, none⟩)] 122 → Calls Try.prog 122 #[.int .i64 (q : Int), .pointer (some ⟨g, 0, none⟩)] W fun e w' => e = .returned (.int .i64 ((min q t.m : Nat) : Int)) ∧ W = w') := Lib.hid fun W g h1 h2 => small_any h1 h2 q
  generalize min q t.m = k at E1 HE HSM
  generalize t.sz + k = p at E1 HE
  have i3 : (if (1048576 : Int) < (p : Int) then (1048576 : Int) else (p : Int)) = ((min p 1048576 : Nat) : Int) := by split <;> omega
  generalize min p 1048576 = s2 at i3 HE
  go_enter Try.func103, Try.ntmps103
  go_wp2_with fail
  refine HC.out.mono ?_
  rintro e w1 ⟨rfl, hg, hb⟩
  have HT1 := Lib.hid (HT.out.next hb)
  have HG1 := Lib.hid (grown_of_below hb (some x))
  have hgx : w.heap.size ≠ x := by omega
  have HB1 := Lib.hid hg
  clear HC HT hb hg hlt
  generalize w.heap.size = g at HB1 hgx ⊢
  have c1 : w1.cell? ⟨x, 1, none⟩ = some (.int .i64 (t.sz : Int)) := HT1.out.cell 1
  have f1 := HT1.out.frozen 1
  have C := Lib.hid (HSM.out w1.drew g HT1.out HB1.out)
  clear HSM
  go_wp2_with fail
  go_region_law (first | (go_simp; go_at_call 122; (with_reducible refine C.out.mono ?_); rintro e w2 ⟨rfl, rfl⟩))
  all_goals
    (try rw [E1, i3])
    go_end0
    exact ⟨rfl, tk_of ((HT1.out.set 1 _).drew) HE.out.symm, grown_drew (grown_set HG1.out _ _)⟩
theorem ack_big {w : World} {x : Nat} {t : T} {b : Nat} (h : Tk w x t) (ok : t.Ok b) (hb : b ≤ 4398046511104) (n : Int) (h1 : 1 ≤ n) (hle : ¬ t.sz ≤ t.th) : Calls Try.prog 103 #[.pointer (some ⟨x, 0, none⟩), .int .i64 n, .bool true] w fun e w' => e = .returned (.tuple #[]) ∧ Tk w' x ⟨t.m, min (t.sz + if t.pt + cnt n < t.sz then 0 else t.m) 1048576, t.th, if t.pt + cnt n < t.sz then t.pt + cnt n else t.pt + cnt n - t.sz⟩ ∧ w.grownBy w' (some x) := by
  have HC := Lib.hid (growth_any h)
  rw [if_neg hle] at HC
  have HT := Lib.hid h
  have hlt := h.lt
  have hn1 : ¬ n < 1 := by omega
  have hq := cnt_le n
  have i1 : (if (1073741824 : Int) < n then (1073741824 : Int) else n) = ((cnt n : Nat) : Int) := by unfold cnt; split <;> omega
  have i2 : (if n > (1073741824 : Int) then (1073741824 : Int) else n) = ((cnt n : Nat) : Int) := i1
  clear h hle
  generalize cnt n = q at i1 i2 hq ⊢
  have HBG : Hid (∀ W g, Tk W x t → Bk W g #[.pointer (some ⟨x, 0, none⟩)] 122 → g ≠ x → Calls Try.prog 123 #[.int .i64 (q : Int), .pointer (some ⟨g, 0, none⟩)] W fun e w' => e = .returned (.int .i64 (((if t.pt + q < t.sz then 0 else t.m) : Nat) : Int)) ∧ Tk w' x ⟨t.m, t.sz, t.th, if t.pt + q < t.sz then t.pt + q else t.pt + q - t.sz⟩ ∧ W.grownBy w' (some x)) := Lib.hid fun W g h1 h2 h3 => big_any h1 h2 h3 ok hb q hq
  have hk : (if t.pt + q < t.sz then 0 else t.m) ≤ 1500 := by have := ok.1; split <;> omega
  generalize (if t.pt + q < t.sz then 0 else t.m) = k at hk HBG ⊢
  generalize (if t.pt + q < t.sz then t.pt + q else t.pt + q - t.sz) = pp at HBG ⊢
  have E1 : IntKind.i64.wrap ((t.sz : Int) + (k : Int)) = ((t.sz + k : Nat) : Int) := i64w (by omega) (by have := ok.2.1; omega)
  have HE : Hid (rc ⟨t.m, min (t.sz + k) 1048576, t.th, pp⟩ = (rc ⟨t.m, t.sz, t.th, pp⟩).setIfInBounds 1 (.int .i64 ((min (t.sz + k) 1048576 : Nat) : Int))) := Lib.hid rfl
  clear ok hq hk hb
  generalize (⟨t.m, min (t.sz + k) 1048576, t.th, pp⟩ : T) = t2 at HE ⊢
  generalize t.sz + k = p at E1 HE
  have i3 : (if (1048576 : Int) < (p : Int) then (1048576 : Int) else (p : Int)) = ((min p 1048576 : Nat) : Int) := by split <;> omega
  generalize min p 1048576 = s2 at i3 HE
  go_enter Try.func103, Try.ntmps103
  go_wp2_with fail
  refine HC.out.mono ?_
  rintro e w1 ⟨rfl, hg, hb⟩
  have HT1 := Lib.hid (HT.out.next hb)
  have HG1 := Lib.hid (grown_of_below hb (some x))
  have hgx : w.heap.size ≠ x := by omega
  have HB1 := Lib.hid hg
  clear HC HT hb hg hlt
  generalize w.heap.size = g at HB1 hgx ⊢
  have c1 : w1.cell? ⟨x, 1, none⟩ = some (.int .i64 (t.sz : Int)) := HT1.out.cell 1
  have f1 := HT1.out.frozen 1
  have C := Lib.hid (HBG.out w1.drew g HT1.out HB1.out hgx)
  clear HBG
  go_wp2_with fail
  go_region_law (first | (go_simp; go_at_call 123; (with_reducible refine C.out.mono ?_); rintro e w2 ⟨rfl, ht2, hg2⟩; have d1 : w2.cell? ⟨x, 1, none⟩ = some (.int .i64 (t.sz : Int)) := Bk.cell ht2 1; have j1 := Bk.frozen ht2 1; have HT2 := Lib.hid ht2; have HG2 := Lib.hid hg2; clear ht2 hg2))
  all_goals
    (try rw [E1, i3])
    go_end0
    exact ⟨rfl, tk_of (HT2.out.set 1 _) HE.out.symm, grown_set (HG1.out.trans (World.grownBy.trans (grown_drew (grown_refl w1 (some x))) HG2.out)) _ _⟩
theorem ack_any {w : World} {x : Nat} {t : T} {b : Nat} (h : Tk w x t) (ok : t.Ok b) (hb : b ≤ 4398046511104) (n : Int) (full : Bool) : Calls Try.prog 103 #[.pointer (some ⟨x, 0, none⟩), .int .i64 n, .bool full] w fun e w' => e = .returned (.tuple #[]) ∧ Tk w' x (t.ack n full) ∧ w.grownBy w' (some x) := by
  by_cases hc : full = true ∧ 1 ≤ n
  · have e : t.ack n full = t.more (cnt n) := by unfold T.ack; rw [if_pos hc]
    rw [e]
    obtain ⟨rfl, h1⟩ := hc
    by_cases hle : t.sz ≤ t.th
    · have e2 : t.more (cnt n) = ⟨t.m, min (t.sz + min (cnt n) t.m) 1048576, t.th, t.pt⟩ := by unfold T.more; rw [if_pos hle]
      rw [e2]
      exact ack_small h ok n h1 hle
    · have e2 : t.more (cnt n) = ⟨t.m, min (t.sz + if t.pt + cnt n < t.sz then 0 else t.m) 1048576, t.th, if t.pt + cnt n < t.sz then t.pt + cnt n else t.pt + cnt n - t.sz⟩ := by
        unfold T.more
        rw [if_neg hle]
        by_cases c : t.pt + cnt n < t.sz
        · simp [c]
        · simp [c]
      rw [e2]
      exact ack_big h ok hb n h1 hle
  · have e : t.ack n full = t := by unfold T.ack; rw [if_neg hc]
    rw [e]
    exact (ack_still h n full hc).mono fun _ w' ⟨h1, h2⟩ => ⟨h1, h2 ▸ h, h2 ▸ grown_refl w (some x)⟩
def t0 (m : Nat) : T := ⟨m, 2 * m, 65536, 0⟩
theorem new_ok (m : Int) (w : World) (h1 : 64 ≤ m) (h2 : m ≤ 1500) : Calls Try.prog 70 #[.int .i64 m] w fun e w' => ∃ g, e = .returned (.tuple #[.pointer (some ⟨g, 0, none⟩), .int .i64 0]) ∧ w.heap.size ≤ g ∧ Tk w' g (t0 m.toNat) ∧ Below w.heap.size w w' := by
  have e1 : wrap64 (2 * m) = ((2 * m.toNat : Nat) : Int) := i64e (by omega) (by omega)
  have e2 : m = (m.toNat : Int) := by omega
  have e3 : ((2 * m.toNat : Nat) : Int) = 2 * m := by omega
  have HT : Hid (rc (t0 m.toNat) = #[.int .i64 m, .int .i64 (2 * m), .int .i64 65536, .int .i64 0]) := Lib.hid (by unfold rc t0; simp only [e3, ← e2]; rfl)
  clear e3
  have d1 : ¬ m < 64 := by omega
  have d2 : ¬ 1500 < m := by omega
  clear e2 h1 h2
  generalize t0 m.toNat = t at HT ⊢
  go_enter Try.func70, Try.ntmps70
  go_wp2_with fail
  go_returns
  refine ⟨_, rfl, Nat.le_refl _, ?_, (Below.refl _ _).alloc (Nat.le_refl _) _⟩
  unfold Tk
  rw [HT.out]
  exact Bk.new _ _ _
theorem new_bad (m : Int) (w : World) (h : ¬ (64 ≤ m ∧ m ≤ 1500)) : Calls Try.prog 70 #[.int .i64 m] w fun e w' => e = .returned (.tuple #[.pointer none, .int .i64 2]) ∧ w = w' := by
  by_cases h1 : m < 64
  · clear h
    go_enter Try.func70, Try.ntmps70
    go_wp2_with fail
    go_returns
    exact ⟨rfl, rfl⟩
  · have h2 : 1500 < m := by omega
    clear h
    go_enter Try.func70, Try.ntmps70
    go_wp2_with fail
    go_returns
    exact ⟨rfl, rfl⟩
end Cw
end Go.Proofs.Ytednkcjmlpgipaa
