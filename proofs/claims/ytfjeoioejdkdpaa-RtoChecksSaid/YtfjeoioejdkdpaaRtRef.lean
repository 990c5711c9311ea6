/-
  The document's timer: New, Sample, Back; and whether a configuration may be.
-/
import Derived.Test.YtfjeoioejdkdpaaRtCfg
import Derived.Deep.CutRange
namespace Go.Proofs.Ytfjeoioejdkdpaa
set_option maxRecDepth 4000
open Go.RowKit
namespace Rt
set_option linter.unusedVariables false
set_option linter.unusedSimpArgs false

theorem in_any (n a b : Int) (w : World) : Calls Try.prog 71 #[.int .i64 n, .int .i64 a, .int .i64 b] w fun e w' => e = .returned (.bool (decide (a ≤ n) && decide (n ≤ b))) ∧ w = w' := by
  by_cases h1 : a ≤ n
  · have h1' : ¬ n < a := by omega
    have d1 : decide (a ≤ n) = true := decide_eq_true h1
    go_enter Try.func71, Try.ntmps71
    go_wp2_with fail
    go_ret
    simp [h1]
  · have h1' : n < a := by omega
    have d1 : decide (a ≤ n) = false := decide_eq_false h1
    go_enter Try.func71, Try.ntmps71
    go_wp2_with fail
    go_ret
    simp [h1]
/-- The document's timer as cells. -/
def dc (t : T) : Array Value := #[.int .u64 (t.lo : Int), .int .u64 (t.hi : Int), .int .u64 (t.v : Int), .int .u64 (t.s : Int), .int .u64 (t.w : Int), .bool t.sd]
theorem two_al (w : World) (o1 o2 : Obj) : Below w.heap.size w ((w.alloc o1).alloc o2) := ((Below.refl _ _).alloc (Nat.le_refl _) _).alloc (by simp) _
theorem rback_any (t : T) (ok : t.Ok) (w : World) : Calls Try.prog 43 #[.agg (dc t)] w fun e w' => e = .returned (.agg (dc t.back)) ∧ Below w.heap.size w w' := by
  have hv := ok.2.2.1
  have hx := ok.2.2.2.1
  have e1 : IntKind.u64.wrap (2 * (t.v : Int)) = ((2 * t.v : Nat) : Int) := u64e (by omega) (by omega)
  have HD : Hid (dc t.back = #[.int .u64 (t.lo : Int), .int .u64 (t.hi : Int), .int .u64 ((min (2 * t.v) t.hi : Nat) : Int), .int .u64 (t.s : Int), .int .u64 (t.w : Int), .bool t.sd]) := Lib.hid rfl
  have hd0 : dc t = #[.int .u64 (t.lo : Int), .int .u64 (t.hi : Int), .int .u64 (t.v : Int), .int .u64 (t.s : Int), .int .u64 (t.w : Int), .bool t.sd] := rfl
  rw [hd0]
  clear ok hv hx hd0
  generalize 2 * t.v = k at e1 HD
  generalize t.back = u at HD ⊢
  have h : (t.hi < k ∧ min k t.hi = t.hi) ∨ (¬ t.hi < k ∧ min k t.hi = k) := by omega
  rcases h with ⟨h, e⟩ | ⟨h, e⟩
  all_goals
    rw [e] at HD
    clear e
    go_enter Try.func43, Try.ntmps43
    go_wp2_with fail
    go_returns
    exact ⟨by rw [HD.out], two_al _ _ _⟩
theorem rnew_any (c : Cf) (w : World) (hn : 0 ≤ c.rn ∧ c.rn < 4294967296) (hx : 0 ≤ c.rx ∧ c.rx < 4294967296) (hi : 0 ≤ c.ri ∧ c.ri < 4294967296) : Calls Try.prog 42 #[.agg (cv c)] w fun e w' => e = .returned (.agg (dc ⟨c.rn.toNat, c.rx.toNat, c.ri.toNat, false, 0, 0⟩)) ∧ Below w.heap.size w w' := by
  have e1 : IntKind.u64.wrap c.rn = ((c.rn.toNat : Nat) : Int) := u64e (by omega) (by omega)
  have e2 : IntKind.u64.wrap c.rx = ((c.rx.toNat : Nat) : Int) := u64e (by omega) (by omega)
  have e3 : IntKind.u64.wrap c.ri = ((c.ri.toNat : Nat) : Int) := u64e (by omega) (by omega)
  clear hn hx hi
  generalize c.rn.toNat = rn at e1 ⊢
  generalize c.rx.toNat = rx at e2 ⊢
  generalize c.ri.toNat = ri at e3 ⊢
  unfold cv
  go_enter Try.func42, Try.ntmps42
  go_wp2_with fail
  go_returns
  exact ⟨by rfl, two_al _ _ _⟩
set_option maxHeartbeats 4000000 in
theorem rsample_any (t : T) (ok : t.Ok) (r : Nat) (w : World) : Calls Try.prog 44 #[.agg (dc t), .int .u64 (r : Int)] w fun e w' => e = .returned (.agg (dc (t.sample r))) ∧ Below w.heap.size w w' := by
  obtain ⟨b1, b2, g1, g2, hj⟩ := reck_bounds ok (r := min r 4294967296) (by omega)
  have hlh : t.lo ≤ t.hi := by have := ok.2.1; have := ok.2.2.1; omega
  have hs := ok.2.2.2.2.1
  have hw := ok.2.2.2.2.2
  clear hj ok
  have HD : Hid (dc (t.sample r) = #[.int .u64 (t.lo : Int), .int .u64 (t.hi : Int), .int .u64 ((min (max ((t.reck (min r 4294967296)).s / 8 + max (t.reck (min r 4294967296)).w 1) t.lo) t.hi : Nat) : Int), .int .u64 ((t.reck (min r 4294967296)).s : Int), .int .u64 ((t.reck (min r 4294967296)).w : Int), .bool true]) := Lib.hid (by
    unfold T.sample T.sett T.reck clamp dc
    by_cases h : t.sd = true <;> simp [h])
  have HR : Hid (t.sd = false → (t.reck (min r 4294967296)).s = 8 * min r 4294967296 ∧ (t.reck (min r 4294967296)).w = 2 * min r 4294967296) := Lib.hid fun h => by
    unfold T.reck
    simp [h]
  have HR2 : Hid (t.sd = true → (t.reck (min r 4294967296)).s = t.s - t.s / 8 + min r 4294967296 ∧ (t.reck (min r 4294967296)).w = t.w - t.w / 4 + dist (min r 4294967296) (t.s / 8)) := Lib.hid fun h => by
    unfold T.reck
    simp [h]
  generalize t.reck (min r 4294967296) = t1 at b1 b2 HD HR HR2
  generalize t.sample r = u at HD ⊢
  have hd0 : dc t = #[.int .u64 (t.lo : Int), .int .u64 (t.hi : Int), .int .u64 (t.v : Int), .int .u64 (t.s : Int), .int .u64 (t.w : Int), .bool t.sd] := rfl
  rw [hd0]
  clear hd0
  obtain ⟨lo, hi, v, sd, s, w0⟩ := t
  obtain ⟨_, _, _, _, s2, w2⟩ := t1
  simp only at *
  have hz : (w2 = 0 ∧ IntKind.u64.wrap (((s2 / 8 : Nat) : Int) + 1) = ((s2 / 8 + max w2 1 : Nat) : Int)) ∨ (¬ w2 = 0 ∧ IntKind.u64.wrap (((s2 / 8 : Nat) : Int) + (w2 : Int)) = ((s2 / 8 + max w2 1 : Nat) : Int)) := by
    by_cases h : w2 = 0
    · exact .inl ⟨h, u64e (by omega) (by omega)⟩
    · exact .inr ⟨h, u64e (by omega) (by omega)⟩
  have e9 : IntKind.u64.wrap ((s2 : Int) / 8) = ((s2 / 8 : Nat) : Int) := u64e (by omega) (by omega)
  have hv : (s2 / 8 + max w2 1 < lo ∧ ¬ hi < lo ∧ min (max (s2 / 8 + max w2 1) lo) hi = lo) ∨ (¬ s2 / 8 + max w2 1 < lo ∧ hi < s2 / 8 + max w2 1 ∧ min (max (s2 / 8 + max w2 1) lo) hi = hi) ∨ (¬ s2 / 8 + max w2 1 < lo ∧ ¬ hi < s2 / 8 + max w2 1 ∧ min (max (s2 / 8 + max w2 1) lo) hi = s2 / 8 + max w2 1) := by omega
  generalize s2 / 8 + max w2 1 = k at hz hv HD
  generalize s2 / 8 = q2 at hz e9
  clear b1 b2 hlh
  have hm : (4294967296 < r ∧ min r 4294967296 = 4294967296) ∨ (¬ 4294967296 < r ∧ min r 4294967296 = r) := by omega
  have hq : min r 4294967296 ≤ 4294967296 := by omega
  generalize min r 4294967296 = q at hm hq HR HR2
  go_enter Try.func44, Try.ntmps44
  go_upto_if 8 with fail
  clear g1 g2
  go_cut [1] from 7 to 8 (fun v1 W => v1 = .int .u64 (q : Int) ∧ W = (w.alloc (.cells #[.int .u64 (lo : Int), .int .u64 (hi : Int), .int .u64 (v : Int), .int .u64 (s : Int), .int .u64 (w0 : Int), .bool sd] 88)).alloc (.cells #[.int .u64 0, .int .u64 0, .int .u64 0, .int .u64 0, .int .u64 0, .bool false] 88))
  case first =>
    rcases hm with ⟨hm, rfl⟩ | ⟨hm, rfl⟩
    all_goals
      go_wp2_with fail
      go_meet
      case rel => exact ⟨rfl, rfl⟩
  case rest =>
    obtain ⟨rfl, rfl⟩ := hcut
    clear hm
    go_upto_if 11 with fail
    go_cut [1] from 9 to 48 (fun v1 W => v1 = .int .u64 (q : Int) ∧ W = (w.alloc (.cells #[.int .u64 (lo : Int), .int .u64 (hi : Int), .int .u64 (v : Int), .int .u64 (s2 : Int), .int .u64 (w2 : Int), .bool true] 88)).alloc (.cells #[.int .u64 0, .int .u64 0, .int .u64 0, .int .u64 0, .int .u64 0, .bool false] 88))
    case first =>
      clear hz e9 hv HD
      cases sd
      · obtain ⟨hs2, hw2⟩ := HR.out rfl
        have e1 : IntKind.u64.wrap (8 * (q : Int)) = (s2 : Int) := u64e (by omega) (by omega)
        have e2 : IntKind.u64.wrap (2 * (q : Int)) = (w2 : Int) := u64e (by omega) (by omega)
        clear HR HR2 hs2 hw2
        go_wp2_with fail
        go_meet
        case rel => exact ⟨rfl, rfl⟩
      · obtain ⟨hs2, hw2⟩ := HR2.out rfl
        clear HR HR2
        have hm8 : s / 8 ≤ 4294967296 := by omega
        have e0 : IntKind.u64.wrap ((s : Int) / 8) = ((s / 8 : Nat) : Int) := u64e (by omega) (by omega)
        have e1 : IntKind.u64.wrap ((s : Int) - ((s / 8 : Nat) : Int)) = ((s - s / 8 : Nat) : Int) := u64e (by omega) (by omega)
        have e2 : IntKind.u64.wrap (((s - s / 8 : Nat) : Int) + (q : Int)) = (s2 : Int) := u64e (by omega) (by omega)
        have e3 : IntKind.u64.wrap ((w0 : Int) / 4) = ((w0 / 4 : Nat) : Int) := u64e (by omega) (by omega)
        have e4 : IntKind.u64.wrap ((w0 : Int) - ((w0 / 4 : Nat) : Int)) = ((w0 - w0 / 4 : Nat) : Int) := u64e (by omega) (by omega)
        have hd : (q ≤ s / 8 ∧ IntKind.u64.wrap (((s / 8 : Nat) : Int) - (q : Int)) = ((dist q (s / 8) : Nat) : Int)) ∨ (¬ q ≤ s / 8 ∧ IntKind.u64.wrap ((q : Int) - ((s / 8 : Nat) : Int)) = ((dist q (s / 8) : Nat) : Int)) := by
          unfold dist
          by_cases hle : q ≤ s / 8
          · exact .inl ⟨hle, u64e (by omega) (by omega)⟩
          · exact .inr ⟨hle, u64e (by omega) (by omega)⟩
        have hdb : dist q (s / 8) ≤ 4294967296 := by unfold dist; omega
        generalize dist q (s / 8) = d at hd hdb hw2
        have e5 : IntKind.u64.wrap (((w0 - w0 / 4 : Nat) : Int) + (d : Int)) = (w2 : Int) := u64e (by omega) (by omega)
        clear hs2 hw2 hdb hm8 hs hw hq
        generalize s - s / 8 = s1 at e1 e2
        generalize s / 8 = mn at e0 e1 hd
        generalize w0 - w0 / 4 = w1 at e4 e5
        generalize w0 / 4 = w4 at e3 e4
        rcases hd with ⟨hd, e6⟩ | ⟨hd, e6⟩
        all_goals
          go_wp2_with fail
          go_meet
          case rel => exact ⟨rfl, rfl⟩
    case rest =>
      obtain ⟨rfl, rfl⟩ := hcut
      clear HR HR2
      generalize min (max k lo) hi = vv at hv HD
      rcases hz with ⟨hz, e8⟩ | ⟨hz, e8⟩ <;> rcases hv with ⟨l1, l2, rfl⟩ | ⟨l1, l2, rfl⟩ | ⟨l1, l2, rfl⟩
      all_goals
        go_wp2_with fail
        go_returns
        exact ⟨by first | (rw [HD.out]; done) | (rw [HD.out, hz]; rfl), two_al _ _ _⟩
end Rt
end Go.Proofs.Ytfjeoioejdkdpaa
