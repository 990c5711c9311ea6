/-
  The document's window: New, Ack, Loss, Timeout.
-/
import Derived.Test.YthdhkjbfhbkdjaaCwAck
import Derived.Deep.CutRange
namespace Go.Proofs.Ythdhkjbfhbkdjaa
set_option maxRecDepth 4000
open Go.RowKit
namespace Cw
set_option linter.unusedVariables false
set_option linter.unusedSimpArgs false

theorem two_al (w : World) (o1 o2 : Obj) : Below w.heap.size w ((w.alloc o1).alloc o2) := ((Below.refl _ _).alloc (Nat.le_refl _) _).alloc (by simp) _
/-- The document's window as cells. -/
def dc (t : T) : Array Value := #[.int .i64 (t.m : Int), .int .i64 (t.sz : Int), .int .i64 (t.th : Int), .int .i64 (t.pt : Int)]
theorem rnew_any (m : Int) (w : World) (h1 : 64 ≤ m) (h2 : m ≤ 1500) : Calls Try.prog 39 #[.int .i64 m] w fun e w' => e = .returned (.agg (dc (t0 m.toNat))) ∧ Below w.heap.size w w' := by
  have e2 : m = (m.toNat : Int) := by omega
  have e3 : ((2 * m.toNat : Nat) : Int) = 2 * m := by omega
  have HT : Hid (dc (t0 m.toNat) = #[.int .i64 m, .int .i64 (2 * m), .int .i64 65536, .int .i64 0]) := Lib.hid (by unfold dc t0; simp only [e3, ← e2]; rfl)
  clear e2 e3
  generalize t0 m.toNat = t at HT ⊢
  go_enter Try.func39, Try.ntmps39
  go_wp2_with fail
  go_returns
  first
    | exact ⟨by rw [HT.out], Below.refl _ _⟩
    | exact ⟨by rw [HT.out], (Below.refl _ _).alloc (Nat.le_refl _) _⟩
theorem rloss_any (t : T) (b : Nat) (ok : t.Ok b) (w : World) : Calls Try.prog 65 #[.agg (dc t)] w fun e w' => e = .returned (.agg (dc t.loss)) ∧ w' = (w.alloc (.cells (dc t.loss) 82)).alloc (.cells (dc t.loss) 82) := by
  have e1 : wrap64 ((t.sz : Int) / 2) = ((t.sz / 2 : Nat) : Int) := i64e (by omega) (by have := ok.2.1; omega)
  have e2 : wrap64 (4 * (t.m : Int)) = ((4 * t.m : Nat) : Int) := i64e (by omega) (by have := ok.1; omega)
  have hk : (t.sz / 2 < 4 * t.m ∧ max (t.sz / 2) (4 * t.m) = 4 * t.m) ∨ (¬ t.sz / 2 < 4 * t.m ∧ max (t.sz / 2) (4 * t.m) = t.sz / 2) := by omega
  have HD : Hid (dc t.loss = #[.int .i64 (t.m : Int), .int .i64 ((max (t.sz / 2) (4 * t.m) : Nat) : Int), .int .i64 ((max (t.sz / 2) (4 * t.m) : Nat) : Int), .int .i64 0]) := Lib.hid rfl
  have hd0 : dc t = #[.int .i64 (t.m : Int), .int .i64 (t.sz : Int), .int .i64 (t.th : Int), .int .i64 (t.pt : Int)] := rfl
  rw [hd0]
  clear hd0 ok
  generalize t.loss = t2 at HD ⊢
  generalize t.sz / 2 = s2 at e1 hk HD
  generalize 4 * t.m = m4 at e2 hk HD
  generalize max s2 m4 = k at hk HD
  rcases hk with ⟨hk, rfl⟩ | ⟨hk, rfl⟩
  all_goals
    go_enter Try.func65, Try.ntmps65
    go_wp2_with fail
    go_returns
    exact ⟨by rw [HD.out], by rw [HD.out]⟩
theorem rtout_any (t : T) (b : Nat) (ok : t.Ok b) (w : World) : Calls Try.prog 66 #[.agg (dc t)] w fun e w' => e = .returned (.agg (dc t.tout)) ∧ Below w.heap.size w w' := by
  have C := Lib.hid fun W => rloss_any t b ok W
  have HD : Hid (dc t.tout = #[.int .i64 (t.m : Int), .int .i64 (t.m : Int), .int .i64 ((max (t.sz / 2) (4 * t.m) : Nat) : Int), .int .i64 0]) := Lib.hid rfl
  have HL : dc t.loss = #[.int .i64 (t.m : Int), .int .i64 ((max (t.sz / 2) (4 * t.m) : Nat) : Int), .int .i64 ((max (t.sz / 2) (4 * t.m) : Nat) : Int), .int .i64 0] := rfl
  have hd0 : dc t = #[.int .i64 (t.m : Int), .int .i64 (t.sz : Int), .int .i64 (t.th : Int), .int .i64 (t.pt : Int)] := rfl
  rw [HL] at C
  rw [hd0] at C ⊢
  clear hd0 ok HL
  generalize t.tout = t2 at HD ⊢
  generalize max (t.sz / 2) (4 * t.m) = k at C HD
  go_enter Try.func66, Try.ntmps66
  go_wp2_with fail
  refine (C.out _).mono ?_
  rintro e W2 ⟨rfl, rfl⟩
  go_wp2_with fail
  go_returns
  refine ⟨by rw [HD.out], ?_⟩
  exact (((Below.refl _ _).alloc (Nat.le_refl _) _).alloc (by simp) _).alloc (by simp; omega) _ |>.alloc (by simp; omega) _
theorem rloss_below (t : T) (b : Nat) (ok : t.Ok b) (w : World) : Calls Try.prog 65 #[.agg (dc t)] w fun e w' => e = .returned (.agg (dc t.loss)) ∧ Below w.heap.size w w' :=
  (rloss_any t b ok w).mono fun e w' ⟨h1, h2⟩ => ⟨h1, h2 ▸ two_al w _ _⟩
theorem rack_still (t : T) (n : Int) (full : Bool) (hn : ¬ (full = true ∧ 1 ≤ n)) (w : World) : Calls Try.prog 64 #[.agg (dc t), .int .i64 n, .bool full] w fun e w' => e = .returned (.agg (dc t)) ∧ Below w.heap.size w w' := by
  have hd0 : dc t = #[.int .i64 (t.m : Int), .int .i64 (t.sz : Int), .int .i64 (t.th : Int), .int .i64 (t.pt : Int)] := rfl
  rw [hd0]
  clear hd0
  cases full
  · clear hn
    go_enter Try.func64, Try.ntmps64
    go_wp2_with fail
    go_returns
    exact ⟨rfl, two_al _ _ _⟩
  · have h1 : n < 1 := by
      have : ¬ 1 ≤ n := fun h => hn ⟨rfl, h⟩
      omega
    clear hn
    go_enter Try.func64, Try.ntmps64
    go_wp2_with fail
    go_returns
    exact ⟨rfl, two_al _ _ _⟩
set_option maxHeartbeats 1000000 in
theorem rack_small (t : T) (b : Nat) (ok : t.Ok b) (n : Int) (h1 : 1 ≤ n) (hle : t.sz ≤ t.th) (w : World) : Calls Try.prog 64 #[.agg (dc t), .int .i64 n, .bool true] w fun e w' => e = .returned (.agg (dc ⟨t.m, min (t.sz + min (cnt n) t.m) 1048576, t.th, t.pt⟩)) ∧ Below w.heap.size w w' := by
  have hn1 : ¬ n < 1 := by omega
  have hq : (1073741824 < n ∧ cnt n = 1073741824) ∨ (¬ 1073741824 < n ∧ n = ((cnt n : Nat) : Int)) := by unfold cnt; omega
  have hm := ok.1
  have hs := ok.2.1
  have HD : Hid (∀ k, dc ⟨t.m, k, t.th, t.pt⟩ = #[.int .i64 (t.m : Int), .int .i64 (k : Int), .int .i64 (t.th : Int), .int .i64 (t.pt : Int)]) := Lib.hid fun k => rfl
  have hd0 : dc t = #[.int .i64 (t.m : Int), .int .i64 (t.sz : Int), .int .i64 (t.th : Int), .int .i64 (t.pt : Int)] := rfl
  rw [hd0, HD.out]
  clear hd0 HD ok h1
  generalize cnt n = q at hq ⊢
  obtain ⟨m, sz, th, pt⟩ := t
  simp only at *
  have hk : (1073741824 < n ∧ (m : Int) < 1073741824 ∧ min q m = m) ∨ (¬ 1073741824 < n ∧ n = (q : Int) ∧ (m : Int) < (q : Int) ∧ min q m = m) ∨ (¬ 1073741824 < n ∧ n = (q : Int) ∧ ¬ ((m : Int) < (q : Int)) ∧ min q m = q) := by omega
  have hkm : min q m ≤ 1500 := by omega
  generalize min q m = k at hk hkm ⊢
  have e1 : wrap64 ((sz : Int) + (k : Int)) = ((sz + k : Nat) : Int) := i64e (by omega) (by omega)
  have hc : (1048576 < sz + k ∧ min (sz + k) 1048576 = 1048576) ∨ (¬ 1048576 < sz + k ∧ min (sz + k) 1048576 = sz + k) := by omega
  generalize min (sz + k) 1048576 = s2 at hc ⊢
  generalize sz + k = p at e1 hc
  clear hkm hm hs hq
  have hk' : (decide (1073741824 < n) = true ∧ decide ((m : Int) < 1073741824) = true ∧ k = m) ∨ (decide (1073741824 < n) = false ∧ n = (q : Int) ∧ (m : Int) < (q : Int) ∧ k = m) ∨ (decide (1073741824 < n) = false ∧ n = (q : Int) ∧ ¬ ((m : Int) < (q : Int)) ∧ k = q) := by
    rcases hk with ⟨k1, k2, k3⟩ | ⟨k1, k2, k3, k4⟩ | ⟨k1, k2, k3, k4⟩
    · exact .inl ⟨decide_eq_true k1, decide_eq_true k2, k3⟩
    · exact .inr (.inl ⟨decide_eq_false k1, k2, k3, k4⟩)
    · exact .inr (.inr ⟨decide_eq_false k1, k2, k3, k4⟩)
  have hc' : (decide ((1048576 : Int) < (p : Int)) = true ∧ s2 = 1048576) ∨ (decide ((1048576 : Int) < (p : Int)) = false ∧ s2 = p) := by
    rcases hc with ⟨c1, c2⟩ | ⟨c1, c2⟩
    · exact .inl ⟨decide_eq_true (by omega), c2⟩
    · exact .inr ⟨decide_eq_false (by omega), c2⟩
  clear hk hc
  rcases hk' with ⟨k1, k2, rfl⟩ | ⟨k1, rfl, k2, rfl⟩ | ⟨k1, rfl, k2, rfl⟩ <;> rcases hc' with ⟨c1, rfl⟩ | ⟨c1, rfl⟩
  all_goals
    go_enter Try.func64, Try.ntmps64
    go_wp2_with fail
    go_returns
    exact ⟨rfl, two_al _ _ _⟩
set_option maxHeartbeats 1000000 in
theorem rack_big (t : T) (b : Nat) (ok : t.Ok b) (hb : b ≤ 4398046511104) (n : Int) (h1 : 1 ≤ n) (hle : ¬ t.sz ≤ t.th) (w : World) : Calls Try.prog 64 #[.agg (dc t), .int .i64 n, .bool true] w fun e w' => e = .returned (.agg (dc ⟨t.m, min (t.sz + if t.pt + cnt n < t.sz then 0 else t.m) 1048576, t.th, if t.pt + cnt n < t.sz then t.pt + cnt n else t.pt + cnt n - t.sz⟩)) ∧ Below w.heap.size w w' := by
  have hn1 : ¬ n < 1 := by omega
  have hq : (1073741824 < n ∧ cnt n = 1073741824) ∨ (¬ 1073741824 < n ∧ n = ((cnt n : Nat) : Int)) := by unfold cnt; omega
  have hql := cnt_le n
  have hm := ok.1
  have hs := ok.2.1
  have hp := ok.2.2.2
  have HD : Hid (∀ k r, dc ⟨t.m, k, t.th, r⟩ = #[.int .i64 (t.m : Int), .int .i64 (k : Int), .int .i64 (t.th : Int), .int .i64 (r : Int)]) := Lib.hid fun k r => rfl
  have hd0 : dc t = #[.int .i64 (t.m : Int), .int .i64 (t.sz : Int), .int .i64 (t.th : Int), .int .i64 (t.pt : Int)] := rfl
  rw [hd0, HD.out]
  clear hd0 HD ok h1
  generalize cnt n = q at hq hql ⊢
  obtain ⟨m, sz, th, pt⟩ := t
  simp only at *
  have hn : (decide (1073741824 < n) = true ∧ wrap64 ((pt : Int) + 1073741824) = ((pt + q : Nat) : Int)) ∨ (decide (1073741824 < n) = false ∧ n = (q : Int) ∧ wrap64 ((pt : Int) + (q : Int)) = ((pt + q : Nat) : Int)) := by
    rcases hq with ⟨k1, k2⟩ | ⟨k1, k2⟩
    · exact .inl ⟨decide_eq_true k1, i64e (by omega) (by omega)⟩
    · exact .inr ⟨decide_eq_false k1, k2, i64e (by omega) (by omega)⟩
  have e2 : wrap64 (((pt + q : Nat) : Int) - (sz : Int)) = ((pt + q - sz : Nat) : Int) ∨ pt + q < sz := by
    by_cases h : pt + q < sz
    · exact .inr h
    · exact .inl (i64e (by omega) (by omega))
  clear hq hp hb hql
  generalize pt + q = p at hn e2 ⊢
  by_cases hlt : p < sz
  · have e0 : wrap64 ((sz : Int) + 0) = (sz : Int) := i64e (by omega) (by omega)
    have e0' : wrap64 (sz : Int) = (sz : Int) := i64e rfl (by omega)
    have d1 : decide ((1048576 : Int) < (sz : Int)) = false := decide_eq_false (by omega)
    rw [if_pos hlt, if_pos hlt, show min (sz + 0) 1048576 = sz by omega]
    have hlt2 : ¬ ((sz : Int) ≤ (p : Int)) := by omega
    have hlt3 : ¬ sz ≤ p := by omega
    clear e2 hm hs
    rcases hn with ⟨k1, e1⟩ | ⟨k1, rfl, e1⟩
    all_goals
      go_enter Try.func64, Try.ntmps64
      go_wp2_with fail
      go_returns
      exact ⟨rfl, two_al _ _ _⟩
  · have e3 : wrap64 ((p : Int) - (sz : Int)) = ((p - sz : Nat) : Int) := by
      rcases e2 with e2 | e2
      · exact e2
      · exact absurd e2 hlt
    rw [if_neg hlt, if_neg hlt]
    have hlt2 : ((sz : Int) ≤ (p : Int)) := by omega
    have hlt3 : sz ≤ p := by omega
    have e4 : wrap64 ((sz : Int) + (m : Int)) = ((sz + m : Nat) : Int) := i64e (by omega) (by omega)
    have hc : (decide ((1048576 : Int) < ((sz + m : Nat) : Int)) = true ∧ min (sz + m) 1048576 = 1048576) ∨ (decide ((1048576 : Int) < ((sz + m : Nat) : Int)) = false ∧ min (sz + m) 1048576 = sz + m) := by
      by_cases h : 1048576 < sz + m
      · exact .inl ⟨decide_eq_true (by omega), by omega⟩
      · exact .inr ⟨decide_eq_false (by omega), by omega⟩
    generalize min (sz + m) 1048576 = s2 at hc ⊢
    generalize sz + m = k at e4 hc
    generalize p - sz = r at e3 ⊢
    clear e2 hm hs
    rcases hn with ⟨k1, e1⟩ | ⟨k1, rfl, e1⟩ <;> rcases hc with ⟨c1, rfl⟩ | ⟨c1, rfl⟩
    all_goals
      go_enter Try.func64, Try.ntmps64
      go_wp2_with fail
      go_returns
      exact ⟨rfl, two_al _ _ _⟩
theorem rack_any (t : T) (b : Nat) (ok : t.Ok b) (hb : b ≤ 4398046511104) (n : Int) (full : Bool) (w : World) : Calls Try.prog 64 #[.agg (dc t), .int .i64 n, .bool full] w fun e w' => e = .returned (.agg (dc (t.ack n full))) ∧ Below w.heap.size w w' := by
  by_cases hc : full = true ∧ 1 ≤ n
  · have e : t.ack n full = t.more (cnt n) := by unfold T.ack; rw [if_pos hc]
    rw [e]
    obtain ⟨rfl, h1⟩ := hc
    by_cases hle : t.sz ≤ t.th
    · have e2 : t.more (cnt n) = ⟨t.m, min (t.sz + min (cnt n) t.m) 1048576, t.th, t.pt⟩ := by unfold T.more; rw [if_pos hle]
      rw [e2]
      exact rack_small t b ok n h1 hle w
    · have e2 : t.more (cnt n) = ⟨t.m, min (t.sz + if t.pt + cnt n < t.sz then 0 else t.m) 1048576, t.th, if t.pt + cnt n < t.sz then t.pt + cnt n else t.pt + cnt n - t.sz⟩ := by
        unfold T.more
        rw [if_neg hle]
        by_cases c : t.pt + cnt n < t.sz
        · simp [c]
        · simp [c]
      rw [e2]
      exact rack_big t b ok hb n h1 hle w
  · have e : t.ack n full = t := by unfold T.ack; rw [if_neg hc]
    rw [e]
    exact rack_still t n full hc w
end Cw
end Go.Proofs.Ythdhkjbfhbkdjaa
