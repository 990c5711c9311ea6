/-
  The walk of SipSums.
-/
import Derived.Test.YtgjobmhpghgnfaaSipKnown
import Derived.Test.YtgjobmhpghgnfaaArgs
import Derived.Laws.AppendOwnNone
namespace Go.Proofs.Ytgjobmhpghgnfaa
open Go.RowKit Sip

theorem owns_any {w : World} {B : Nat} {e : TypeId} {v : Value} {n : Nat} {l : List Int} (h : w.ownsRow B e 1 v n (bs l)) :
    ∃ a c, v = .slice a n c ∧ n ≤ c ∧ Row w a (bs l) := by
  by_cases h0 : 0 < n
  · obtain ⟨a, c, h1, h2, _, h4⟩ := owns_row h h0
    exact ⟨_, _, h1, h2, h4⟩
  · have hn : n = 0 := by omega
    subst hn
    have hl : l = [] := by
      have := h.1
      simp [bs] at this
      exact this
    subst hl
    rcases h.2 with ⟨h1, _⟩ | ⟨g, cap, cur, h1, _⟩
    · exact ⟨none, 0, h1, Nat.le_refl _, Row.nil_ _ _⟩
    · exact ⟨_, cap, h1, Nat.zero_le _, Row.nil_ _ _⟩
theorem bs_append (l m : List Int) : bs (l ++ m) = bs l ++ bs m := by simp [bs]
theorem bs_one (l : List Int) : ∀ v ∈ bs l, v.oneCell' = true := by intro v hv; simp [bs] at hv; obtain ⟨n, _, rfl⟩ := hv; rfl

theorem Kd.grown {w W W' : World} {C : Array Value} {row : Option Nat} (h : Kd w C W) (hg : W.grownBy W' row) (hr : ∀ k, row = some k → w.heap.size + 1 ≤ k) : Kd w C W' :=
  ⟨(hg.block _ (Array.getElem?_eq_some_iff.1 h.1).1 (fun e => by have := hr _ e.symm; omega)).trans h.1, h.2.grown hg h.2.size (fun k hk => by have := hr k hk; omega)⟩

/-- The key's block, the parts, all bytes in one row. -/
def Two (w : World) (C : Array Value) (P A : Option Addr) (ps : List (Value × List Int)) (l : List Int) (W : World) : Prop := Kd w C W ∧ Parts W P ps ∧ Row W A (bs l)
theorem Two.next {w W W' : World} {C : Array Value} {P A : Option Addr} {ps : List (Value × List Int)} {l : List Int} (h : Two w C P A ps l W) (hb : Below W.heap.size W W') : Two w C P A ps l W' := ⟨h.1.next hb, h.2.1.below hb, h.2.2.below hb⟩
theorem Two.drew {w W : World} {C : Array Value} {P A : Option Addr} {ps : List (Value × List Int)} {l : List Int} (h : Two w C P A ps l W) : Two w C P A ps l W.drew := ⟨h.1.drew, h.2.1.drewN 1, h.2.2.drewN 1⟩
theorem Two.heap {w W : World} {C : Array Value} {P A : Option Addr} {ps : List (Value × List Int)} {l : List Int} (h : Two w C P A ps l W) : W.heap[w.heap.size]? = some (.cells C 23 (0, 0)) := h.1.1

set_option maxRecDepth 100000 in
set_option maxHeartbeats 4000000 in
theorem sipSums_walk (k : List Int) (P : Option Addr) (np cp : Nat) (ps : List (Value × List Int)) (w : World) (hk : k.length = 16) (hkb : Byt k) (hp : Parts0 w P np cp ps) :
    Calls Try.prog 3 #[.agg (kv k), .slice P np cp] w fun e w' => e = .returned (.bool true) ∧ Below w.heap.size w w' := by
  obtain ⟨i0, hi0, hz0, hz1, hz2⟩ := info_parts Try_info8
  have HI := Lib.hid hi0
  have HZ0 := Lib.hid hz0
  have HZ1 := Lib.hid hz1
  have HZ2 := Lib.hid hz2
  have hnm : np ≤ 9223372036854775807 := by have := hp.2.1; have := hp.2.2.1; unfold maxLen at this; omega
  have HP := Lib.hid hp
  have HKN := Lib.hid known_any
  have hks : (kv k).size = 16 := by rw [kv_size, hk]
  have HK := Lib.hid hk
  have HKB := Lib.hid hkb
  clear hp hi0 hz0 hz1 hz2 hk hkb
  have HKD : Hid (Kd w (kv k) (w.alloc (.cells (kv k) 23))) := Lib.hid ⟨heap_alloc_new _ _, (Below.refl _ _).alloc (Nat.le_refl _) _⟩
  generalize hC : kv k = C at hks HKD
  have HC := Lib.hid hC
  clear hC
  go_enter Try.func3, Try.ntmps3
  go_wp2_with fail
  refine (HKN.out _).mono ?_
  rintro e w1 ⟨rfl, hb1⟩
  have HD1 := Lib.hid (HKD.out.next hb1)
  clear hb1
  by_cases hn : (100 : Int) < (np : Int)
  · go_wp2_with fail
    go_ret
    exact ⟨rfl, HD1.out.2⟩
  · have hnp : np ≤ 100 := by omega
    clear hnm
    go_wp2_with fail
    go_loopw [5, 15] (fun v i W => ∃ q n : Nat, q ≤ np ∧ n ≤ 5000 ∧ i = .int .i64 q ∧ W.ownsRow (w.heap.size + 1) 5 1 v n (bs (flat (ps.take q))) ∧ Kd w C W) (fun _ i _ => np - (intOf i).toNat)
    case atStart => exact ⟨0, 0, by omega, by omega, rfl, World.ownsRow_nil _ _ _ _, HD1.out⟩
    case round =>
      obtain ⟨q, n, hq, hn5, rfl, hown, hd⟩ := hrel
      by_cases hlt : q < np
      · obtain ⟨hk', a, A, m, c, l, rfl, hc, he, hll, hmc, hcm, hlb, hlr, hA⟩ := (HP.out.below hd.2).at hlt
        have HE := Lib.hid (flat_take_succ hk' he)
        obtain ⟨A0, c0, rfl, hnc0, hr0⟩ := owns_any hown
        have hm9 : m ≤ 140737488351232 := by omega
        have HO := Lib.hid hown
        have HD := Lib.hid hd
        have HLR := Lib.hid hlr
        have HLL := Lib.hid hll
        have HA := Lib.hid hA
        have HMC := Lib.hid hmc
        clear hown hd he hlr hcm hnc0 hr0 hlb hll hA hmc
        by_cases h5 : (5000 : Int) < (n : Int) + (m : Int)
        · go_wp2_with fail
          go_ret
          exact ⟨rfl, HD.out.2⟩
        · clear hm9
          rcases A with _ | A
          · have hc00 : c = 0 := HA.out rfl
            have hm0 : m = 0 := by have := HMC.out; omega
            subst hm0
            subst hc00
            go_wp2_with (at_builtin; refine wpList_append_own_none rfl _ _ 26 rfl (w.heap.size + 1) 5 i0 1 Try.underlying26 HI.out _ _ _ rfl HO.out rfl ?_)
            go_roundw
            case rel => exact ⟨q + 1, n, by omega, by omega, by go_num, by rw [HE.out, bs_append, List.eq_nil_of_length_eq_zero HLL.out]; simpa [bs] using HO.out, HD.out⟩
            case measure => simp [intOf]; omega
          · go_wp2_with (at_builtin; refine wpList_append_own _ rfl _ _ 26 rfl (w.heap.size + 1) 5 i0 (.int .u8 0) 1 1 Try.underlying26 HI.out HZ0.out HZ1.out HZ2.out rfl (by decide) _ _ _ rfl HO.out A m c (bs l) rfl ?c1 ?c2 (bs_one l) ?c3 ?c4 ?c5 ?_)
            case c1 => rw [bs_len, HLL.out]
            case c2 =>
              intro j u hj
              obtain ⟨b, hb, hcc⟩ := HLR.out j u hj
              injection hb with hb
              subst hb
              exact hcc
            case c3 => unfold maxLen; omega
            case c4 => omega
            case c5 => exact (Array.getElem?_eq_some_iff.1 HD.out.1).1
            · intro v' w2 hown' hgrow _
              have hd' := HD.out.grown hgrow (fun b hb => (HO.out.lt b hb).1)
              rw [← bs_append, ← HE.out] at hown'
              have HO' := Lib.hid hown'
              have HD' := Lib.hid hd'
              clear hown' hd' hgrow
              go_wp2_with fail
              go_roundw
              case rel => exact ⟨q + 1, n + m, by omega, by omega, by go_num, HO'.out, HD'.out⟩
              case measure => simp [intOf]; omega
      · have hqn : q = np := by omega
        subst hqn
        have hfl : ps.take q = ps := List.take_of_length_le (by rw [HP.out.1]; exact Nat.le_refl _)
        rw [hfl] at hown
        have hln : (flat ps).length = n := by
          have := hown.1
          rw [bs_len] at this
          omega
        have hps := (HP.out.below hd.2).bounded (by omega)
        have hbt := flat_byt hps
        obtain ⟨A0, c0, rfl, hnc0, hr0⟩ := owns_any hown
        have hg : Two w C P A0 ps (flat ps) wr := ⟨hd, hps, hr0⟩
        have hg2 := hg.drew
        have H1 := Lib.hid fun W (hW : Two w C P A0 ps (flat ps) W) => keep_of (Two w C P A0 ps (flat ps)) (of_any k P q cp ps W HK.out HKB.out HP.out.1 (by omega) (by omega) hW.2.1) fun _ hw => hW.next hw
        have H2 := Lib.hid fun W (hW : Two w C P A0 ps (flat ps) W) => keep_of (Two w C P A0 ps (flat ps)) (rof_any k A0 n c0 (flat ps) W HK.out HKB.out hln (by omega) hnc0 hbt hW.2.2) fun _ hw => hW.next hw
        rw [HC.out] at H1 H2
        clear hown hd hln hps hbt hr0 hfl
        generalize sip k (flat ps) = z at H1 H2
        clear HC HKD HD1
        obtain ⟨k0, k1, k2, k3, k4, k5, k6, k7, k8, k9, k10, k11, k12, k13, k14, k15, rfl⟩ := sixteen hks
        go_wp2_with fail
        have l1 := key_cells hg2.1
        go_region_with (first
          | (go_at_call 6; (with_reducible refine (H1.out _ ?_).mono ?_); assumption; rintro e w2 ⟨rfl, hg3⟩; have l2 := key_cells hg3.1)
          | (go_at_call 7; (with_reducible refine (H2.out _ ?_).mono ?_); assumption; rintro e w3 ⟨rfl, hg4⟩; have l3 := key_cells hg4.1))
        all_goals
          go_wp2_with fail
          go_ret
          exact ⟨rfl, by first | exact hg4.1.2 | exact hg3.1.2⟩
end Go.Proofs.Ytgjobmhpghgnfaa
