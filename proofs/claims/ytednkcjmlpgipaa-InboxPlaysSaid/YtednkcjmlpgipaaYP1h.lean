/-
  The document's inbox: bound.
-/
import Derived.Test.YtednkcjmlpgipaaYIxNew
import Derived.Test.YtednkcjmlpgipaaYP1a
import Derived.Handy
import Derived.Test.YtednkcjmlpgipaaYP1d
import Derived.Test.YtednkcjmlpgipaaYP1e
import Derived.Deep.RegionLaw
import Derived.Deep.AppendLies
import Derived.Deep.CutRange
import Derived.Test.YtednkcjmlpgipaaYIxDeal
import Derived.BigQuiet
import Derived.Test.YtednkcjmlpgipaaYGpRAdd3
import Derived.Test.YtednkcjmlpgipaaYP1g
import Derived.Test.YtednkcjmlpgipaaYIxAdd
namespace Go.Proofs.Ytednkcjmlpgipaa
set_option maxRecDepth 4000
open Go.RowKit Go.Maps
namespace Ix
set_option linter.unusedVariables false
set_option linter.unusedSimpArgs false

theorem dbound_any (n : Int) (w : World) : Calls Try.prog 50 #[.int .i64 n] w fun e w' => e = .returned (.int .i64 (bnd n : Nat)) ∧ w = w' := by
  have h : min (max n 0) (1048576 : Int) = ((bnd n : Nat) : Int) := by unfold bnd; omega
  by_cases h1 : n < 0
  · go_enter Try.func50, Try.ntmps50
    go_wp2_with fail
    go_ret
    exact ⟨ret_eq (by omega), rfl⟩
  · by_cases h2 : 1048576 < n
    · go_enter Try.func50, Try.ntmps50
      go_wp2_with fail
      go_ret
      exact ⟨ret_eq (by omega), rfl⟩
    · go_enter Try.func50, Try.ntmps50
      go_wp2_with fail
      go_ret
      exact ⟨ret_eq (by omega), rfl⟩
end Ix
end Go.Proofs.Ytednkcjmlpgipaa
/-
  The document's inbox is made: a block of 65543 cells.
-/
namespace Go.Proofs.Ytednkcjmlpgipaa
set_option maxRecDepth 4000
open Go.RowKit
namespace Ix
set_option linter.unusedVariables false
set_option linter.unusedSimpArgs false

def zrest : List Value := List.replicate 65536 (Value.int .u16 0) ++ [Value.slice none 0 0, Value.slice none 0 0]
def zcl : List Value := [Value.int .u16 0, Value.int .i64 0, Value.int .i64 0, Value.pointer none, Value.pointer none] ++ zrest
def same : List Value → List Value → Bool
  | [], [] => true
  | a :: l, b :: m => (match a, b with
    | .int k n, .int k' n' => k == k' && n == n'
    | .pointer none, .pointer none => true
    | .slice none 0 0, .slice none 0 0 => true
    | _, _ => false) && same l m
  | _, _ => false
theorem same_eq : ∀ {l m : List Value}, same l m = true → l = m
  | [], [], _ => rfl
  | a :: l, b :: m, h => by
    simp only [same, Bool.and_eq_true] at h
    obtain ⟨h1, h2⟩ := h
    have e := same_eq h2
    subst e
    split at h1
    · simp only [Bool.and_eq_true, beq_iff_eq] at h1
      rw [h1.1, h1.2]
    · rfl
    · rfl
    · cases h1
  | [], _ :: _, h => by simp [same] at h
  | _ :: _, [], h => by simp [same] at h
set_option maxRecDepth 1000000 in
theorem zis : same Try.zeroCells61.toList zcl = true := by kernel_rfl
theorem zcells_is (v0 v1 v2 v3 v4 : Value) : (((((Try.zeroCells61.setIfInBounds 0 v0).setIfInBounds 1 v1).setIfInBounds 2 v2).setIfInBounds 3 v3).setIfInBounds 4 v4) = ([v0, v1, v2, v3, v4] ++ zrest).toArray := by
  have e : Try.zeroCells61 = zcl.toArray := by rw [← same_eq zis]
  rw [e]
  unfold zcl
  generalize zrest = r
  simp
/-- The document's inbox in block x. -/
def dxc (str room most : Nat) (s j : Nat) (nx : List Nat) (vw vr : Value) : Array Value := ([Value.int .u16 (str : Int), Value.int .i64 (room : Int), Value.int .i64 (most : Int), Value.pointer (some ⟨s, 0, none⟩), Value.pointer (some ⟨j, 0, none⟩)] ++ (ns .u16 nx ++ [vw, vr])).toArray
theorem dxc_new (str room most s j : Nat) : ([Value.int .u16 (str : Int), Value.int .i64 (room : Int), Value.int .i64 (most : Int), Value.pointer (some ⟨s, 0, none⟩), Value.pointer (some ⟨j, 0, none⟩)] ++ zrest).toArray = dxc str room most s j (List.replicate 65536 0) (.slice none 0 0) (.slice none 0 0) := by
  unfold dxc zrest ns
  rw [List.map_replicate]
  rfl
theorem dinew_any (str : Nat) (room most : Int) (cum : Nat) (w : World) : Calls Try.prog 10 #[.int .u16 (str : Int), .int .i64 room, .int .i64 most, .int .u32 (cum : Int)] w fun e w' => e = .returned (.pointer (some ⟨w.heap.size + 1 + 1, 0, none⟩)) ∧ w' = ((w.alloc (.cells #[.int .u32 (cum : Int), .slice none 0 0, .slice none 0 0] 54)).alloc (.cells #[.slice none 0 0] 103)).alloc (.cells (dxc str (bnd room) (bnd most) w.heap.size (w.heap.size + 1) (List.replicate 65536 0) (.slice none 0 0) (.slice none 0 0)) 61) := by
  have C := Lib.hid fun n W => dbound_any n W
  obtain ⟨rb, hrb⟩ : ∃ b, bnd room = b := ⟨_, rfl⟩
  obtain ⟨mb, hmb⟩ : ∃ b, bnd most = b := ⟨_, rfl⟩
  have C1 := Lib.hid fun W => dbound_any room W
  have C2 := Lib.hid fun W => dbound_any most W
  rw [hrb] at C1 ⊢
  rw [hmb] at C2 ⊢
  clear hrb hmb C
  go_enter Try.func10, Try.ntmps10
  go_wp2_with fail
  refine (C1.out _).mono ?_
  rintro e W1 ⟨rfl, rfl⟩
  go_wp2_with fail
  refine (C2.out _).mono ?_
  rintro e W1 ⟨rfl, rfl⟩
  go_wp2_with fail
  rw [zcells_is, dxc_new]
  generalize List.replicate 65536 0 = nx
  go_ret
  exact ⟨rfl, rfl⟩
end Ix
end Go.Proofs.Ytednkcjmlpgipaa
/-
  The document's inbox: a message that waits is looked for.
-/
namespace Go.Proofs.Ytednkcjmlpgipaa
set_option maxRecDepth 4000
open Go.RowKit Go.Maps
namespace Ix
set_option linter.unusedVariables false
set_option linter.unusedSimpArgs false
open Fg (Pc Ms)

/-- A message that waits, with where its bytes lie, and its number. -/
abbrev Wq := (Ms × (Option Addr × Nat × Nat)) × Nat
def wcl (q : Wq) : List Value := [.int .u16 (q.1.1.s : Int), .bool q.1.1.u, .int .u32 (q.1.1.p : Int), .slice q.1.2.1 q.1.2.2.1 q.1.2.2.2, .int .u16 (q.2 : Int)]
def wfl (qs : List Wq) : List Value := qs.flatMap wcl
theorem wfl_get : ∀ {qs : List Wq} {i : Nat} (h : i < qs.length) (k : Nat), k < 5 → (wfl qs)[i * 5 + k]? = (wcl qs[i])[k]?
  | q :: qs, 0, _, k, hk => by
    have e : wfl (q :: qs) = wcl q ++ wfl qs := by simp [wfl]
    rw [e, List.getElem?_append_left (by simp [wcl]; omega)]
    simp
  | q :: qs, i + 1, h, k, hk => by
    have ih := wfl_get (qs := qs) (i := i) (by simpa using h) k hk
    have e : wfl (q :: qs) = wcl q ++ wfl qs := by simp [wfl]
    have hl : (wcl q).length = 5 := rfl
    rw [e, List.getElem?_append_right (by omega), hl, show (i + 1) * 5 + k - 5 = i * 5 + k by omega]
    exact ih
theorem wfl_at {W : World} {A : Option Addr} {qs : List Wq} (h : Row W A (wfl qs)) {i : Nat} (hi : i < qs.length) :
    ∃ a, A = some a ∧ W.cell? (a.add (i * 5)) = some (.int .u16 (qs[i].1.1.s : Int)) ∧ W.cell? { block := (a.add (i * 5)).block, off := (a.add (i * 5)).off + 4 } = some (.int .u16 (qs[i].2 : Int)) := by
  obtain ⟨a, rfl, k0⟩ := h _ _ ((wfl_get hi 0 (by omega)).trans rfl)
  obtain ⟨b, hb, k1⟩ := h _ _ ((wfl_get hi 4 (by omega)).trans rfl)
  injection hb with hb
  subst hb
  refine ⟨a, rfl, k0, ?_⟩
  rw [← k1]
  congr 1
  unfold Addr.add
  by_cases h0 : i * 5 = 0
  · simp [h0]
  · simp [h0, Nat.add_assoc]
/-- Where it stands; -1: nowhere. -/
def WAt (qs : List Wq) (s n : Nat) (r : Int) : Prop := (r = -1 ∧ ∀ q ∈ qs, ¬ (q.1.1.s = s ∧ q.2 = n)) ∨ ∃ (i : Nat) (h : i < qs.length), r = i ∧ (qs[i].1.1.s = s ∧ qs[i].2 = n) ∧ ∀ k (hk : k < i), ¬ ((qs[k]'(by omega)).1.1.s = s ∧ (qs[k]'(by omega)).2 = n)
theorem dwfind_any {W : World} {x : Nat} {A : Option Addr} {n c : Nat} {qs : List Wq} (c6 : W.cell? ⟨x, 65541, none⟩ = some (.slice A n c)) (hl : qs.length = n) (hn : n ≤ 10000000) (hnc : n ≤ c) (hcm : c ≤ maxLen) (hr : Row W A (wfl qs)) (s t : Nat) :
    Calls Try.prog 95 #[.pointer (some ⟨x, 0, none⟩), .int .u16 (s : Int), .int .u16 (t : Int)] W fun e w' => (∃ r, e = .returned (.int .i64 r) ∧ WAt qs s t r) ∧ W = w' := by
  have HL := Lib.hid hl
  have HR := Lib.hid hr
  clear hl hr
  go_enter Try.func95, Try.ntmps95
  go_wp2_with fail
  go_loop [7] (fun v7 => ∃ k : Nat, v7 = .int .i64 k ∧ k ≤ n ∧ Hid (∀ i (hi : i < k) (hi2 : i < qs.length), ¬ (qs[i].1.1.s = s ∧ qs[i].2 = t))) (fun v7 => n - (intOf v7).toNat)
  case atStart => exact ⟨0, rfl, Nat.zero_le _, Lib.hid (fun i hi => by omega)⟩
  case round =>
    obtain ⟨k, rfl, hk, HB⟩ := hrel
    by_cases hlt : k < n
    · have hkl : k < qs.length := by rw [HL.out]; exact hlt
      obtain ⟨a, rfl, g0, g4⟩ := wfl_at HR.out hkl
      have HY : Hid ((qs[k].1.1.s = s ∧ qs[k].2 = t) → WAt qs s t (k : Int)) := Lib.hid (fun h => .inr ⟨k, hkl, rfl, h, fun i hi => HB.out i hi (by omega)⟩)
      have HN : Hid (¬ (qs[k].1.1.s = s ∧ qs[k].2 = t) → ∀ i (hi : i < k + 1) (hi2 : i < qs.length), ¬ (qs[i].1.1.s = s ∧ qs[i].2 = t)) := Lib.hid (fun h i hi hi2 => by
        by_cases e : i = k
        · subst e; exact h
        · exact HB.out i (by omega) hi2)
      generalize qs[k].1.1.s = s2 at g0 HY HN
      generalize qs[k].2 = t2 at g4 HY HN
      clear hkl HB
      by_cases h1 : s2 = s
      · subst h1
        by_cases h2 : t2 = t
        · subst h2
          have HA := Lib.hid (HY.out ⟨rfl, rfl⟩)
          clear HY HN
          go_wp2_with fail
          go_ret
          exact ⟨⟨_, rfl, HA.out⟩, rfl⟩
        · have HB2 := Lib.hid (HN.out (fun h => h2 h.2))
          have bs : ((t2 : Int) == (t : Int)) = false := by rw [beq_eq_false_iff_ne]; omega
          clear HY HN
          go_wp2_with fail
          go_round
          case rel => exact ⟨k + 1, by go_num, by omega, HB2⟩
          case measure => simp [intOf] <;> omega
      · have HB2 := Lib.hid (HN.out (fun h => h1 h.1))
        have bs : ((s2 : Int) == (s : Int)) = false := by rw [beq_eq_false_iff_ne]; omega
        clear HY HN
        go_wp2_with fail
        go_round
        case rel => exact ⟨k + 1, by go_num, by omega, HB2⟩
        case measure => simp [intOf] <;> omega
    · have HA : Hid (WAt qs s t (-1)) := Lib.hid (.inl ⟨rfl, fun q hq => by
        obtain ⟨i, hi, rfl⟩ := List.getElem_of_mem hq
        exact HB.out i (by have := HL.out; omega) hi⟩)
      clear HB
      go_wp2_with fail
      go_ret
      exact ⟨⟨_, rfl, HA.out⟩, rfl⟩
end Ix
end Go.Proofs.Ytednkcjmlpgipaa
/-
  The document's inbox: how many bytes are held.
-/
namespace Go.Proofs.Ytednkcjmlpgipaa
set_option maxRecDepth 4000
open Go.RowKit Go.Maps
namespace Ix
set_option linter.unusedVariables false
set_option linter.unusedSimpArgs false
open Fg (Pc Ms Pq Dj dheld_any tot)

/-- A message that is ready, with where its bytes lie. -/
abbrev Mq := Ms × (Option Addr × Nat × Nat)
def mdl (q : Mq) : List Value := [.int .u16 (q.1.s : Int), .bool q.1.u, .int .u32 (q.1.p : Int), .slice q.2.1 q.2.2.1 q.2.2.2]
def mdf (qs : List Mq) : List Value := qs.flatMap mdl
theorem mdf_get : ∀ {qs : List Mq} {i : Nat} (h : i < qs.length) (k : Nat), k < 4 → (mdf qs)[i * 4 + k]? = (mdl qs[i])[k]?
  | q :: qs, 0, _, k, hk => by
    have e : mdf (q :: qs) = mdl q ++ mdf qs := by simp [mdf]
    rw [e, List.getElem?_append_left (by simp [mdl]; omega)]
    simp
  | q :: qs, i + 1, h, k, hk => by
    have ih := mdf_get (qs := qs) (i := i) (by simpa using h) k hk
    have e : mdf (q :: qs) = mdl q ++ mdf qs := by simp [mdf]
    have hl : (mdl q).length = 4 := rfl
    rw [e, List.getElem?_append_right (by omega), hl, show (i + 1) * 4 + k - 4 = i * 4 + k by omega]
    exact ih
theorem cell3 {W : World} {a : Addr} {i s : Nat} {v : Value} (h : W.cell? (a.add (i * s + 3)) = some v) : W.cell? { block := (a.add (i * s)).block, off := (a.add (i * s)).off + 3 } = some v := by
  rw [← h]
  congr 1
  unfold Addr.add
  by_cases h0 : i * s = 0
  · simp [h0]
  · simp [h0, Nat.add_assoc]
theorem wfl_len {W : World} {A : Option Addr} {qs : List Wq} (h : Row W A (wfl qs)) {i : Nat} (hi : i < qs.length) :
    ∃ a, A = some a ∧ W.cell? { block := (a.add (i * 5)).block, off := (a.add (i * 5)).off + 3 } = some (.slice qs[i].1.2.1 qs[i].1.2.2.1 qs[i].1.2.2.2) := by
  obtain ⟨a, rfl, k0⟩ := h _ _ ((wfl_get hi 3 (by omega)).trans rfl)
  exact ⟨a, rfl, cell3 k0⟩
theorem mdf_len {W : World} {A : Option Addr} {qs : List Mq} (h : Row W A (mdf qs)) {i : Nat} (hi : i < qs.length) :
    ∃ a, A = some a ∧ W.cell? { block := (a.add (i * 4)).block, off := (a.add (i * 4)).off + 3 } = some (.slice qs[i].2.1 qs[i].2.2.1 qs[i].2.2.2) := by
  obtain ⟨a, rfl, k0⟩ := h _ _ ((mdf_get hi 3 (by omega)).trans rfl)
  exact ⟨a, rfl, cell3 k0⟩
def wtot (qs : List Wq) : Nat := (qs.map fun q => q.1.2.2.1).sum
def mtot (qs : List Mq) : Nat := (qs.map fun q => q.2.2.1).sum
theorem sum_take {α : Type} (f : α → Nat) {l : List α} {k : Nat} (h : k < l.length) : ((l.take (k + 1)).map f).sum = ((l.take k).map f).sum + f l[k] := by
  rw [List.take_succ_eq_append_getElem h, List.map_append, List.sum_append]
  simp
theorem sum_take_le {α : Type} (f : α → Nat) (l : List α) (k : Nat) : ((l.take k).map f).sum ≤ (l.map f).sum := by
  have : (l.map f).sum = ((l.take k).map f).sum + ((l.drop k).map f).sum := by
    conv => lhs; rw [← List.take_append_drop k l]
    rw [List.map_append, List.sum_append]
  omega
theorem diheld_any {W : World} {x j : Nat} {Aj A B : Option Addr} {nj cj n c m d : Nat} {ps : List Pq} {qs : List Wq} {rs : List Mq} (c4 : W.cell? ⟨x, 4, none⟩ = some (.pointer (some ⟨j, 0, none⟩))) (hj : Dj W j Aj nj cj ps)
    (c6 : W.cell? ⟨x, 65541, none⟩ = some (.slice A n c)) (hl : qs.length = n) (hn : n ≤ 10000000) (hr : Row W A (wfl qs)) (c7 : W.cell? ⟨x, 65542, none⟩ = some (.slice B m d)) (hl2 : rs.length = m) (hm : m ≤ 10000000) (hr2 : Row W B (mdf rs)) (ht : tot ps + wtot qs + mtot rs ≤ 1099511627776) :
    Calls Try.prog 23 #[.pointer (some ⟨x, 0, none⟩)] W fun e w' => e = .returned (.int .i64 ((tot ps + wtot qs + mtot rs : Nat) : Int)) ∧ W = w' := by
  have C := Lib.hid (dheld_any hj (by omega))
  have HL := Lib.hid hl
  have HR := Lib.hid hr
  have HL2 := Lib.hid hl2
  have HR2 := Lib.hid hr2
  clear hl hr hl2 hr2 hj
  generalize tot ps = tp at C ht
  go_enter Try.func23, Try.ntmps23
  go_wp2_with fail
  refine C.out.mono ?_
  rintro e w ⟨rfl, rfl⟩
  go_wp2_with fail
  go_loop [3, 4] (fun v3 v4 => ∃ k : Nat, v4 = .int .i64 k ∧ k ≤ n ∧ v3 = .int .i64 ((tp + wtot (qs.take k) : Nat) : Int)) (fun _ v4 => n - (intOf v4).toNat)
  case atStart => exact ⟨0, rfl, Nat.zero_le _, by simp [wtot]⟩
  case round =>
    obtain ⟨k, rfl, hk, rfl⟩ := hrel
    by_cases hlt : k < n
    · have hkl : k < qs.length := by rw [HL.out]; exact hlt
      obtain ⟨a, rfl, g3⟩ := wfl_len HR.out hkl
      have hst : wtot (qs.take (k + 1)) = wtot (qs.take k) + qs[k].1.2.2.1 := sum_take _ hkl
      have hle : wtot (qs.take (k + 1)) ≤ wtot qs := sum_take_le _ _ _
      rw [hst] at hle
      have HT := Lib.hid hst
      generalize qs[k].1.2.2.1 = y at g3 HT hle hst
      generalize qs[k].1.2.1 = z1 at g3
      generalize qs[k].1.2.2.2 = z2 at g3
      clear hst
      generalize wtot (qs.take k) = u at HT hle
      have hw : wrap64 (((tp + u : Nat) : Int) + (y : Int)) = ((tp + (u + y) : Nat) : Int) := by unfold wrap64; omega
      generalize tp + u = tu at hw
      clear hle
      go_wp2_with fail
      go_round
      case rel => exact ⟨k + 1, by go_num, by omega, by rw [HT.out]; first | rfl | (have := hw; simp only [Value.int.injEq, true_and]; omega)⟩
      case measure => simp [intOf] <;> omega
    · obtain rfl : k = n := by omega
      have hta : qs.take k = qs := List.take_of_length_le (by rw [HL.out]; omega)
      rw [hta]
      clear hta
      obtain ⟨X, hX⟩ : ∃ X, tp + wtot qs = X := ⟨_, rfl⟩
      rw [hX]
      have htw : X + mtot rs ≤ 1099511627776 := by omega
      have HX := Lib.hid hX
      clear hX ht
      go_wp2_with fail
      go_loop [3, 5] (fun v3 v5 => ∃ i : Nat, v5 = .int .i64 i ∧ i ≤ m ∧ v3 = .int .i64 ((X + mtot (rs.take i) : Nat) : Int)) (fun _ v5 => m - (intOf v5).toNat)
      case atStart => exact ⟨0, rfl, Nat.zero_le _, by simp [mtot]⟩
      case round =>
        obtain ⟨i, rfl, hi, rfl⟩ := hrel
        by_cases hlt2 : i < m
        · have hil : i < rs.length := by rw [HL2.out]; exact hlt2
          obtain ⟨a2, rfl, g3⟩ := mdf_len HR2.out hil
          have hst : mtot (rs.take (i + 1)) = mtot (rs.take i) + rs[i].2.2.1 := sum_take _ hil
          have hle : mtot (rs.take (i + 1)) ≤ mtot rs := sum_take_le _ _ _
          rw [hst] at hle
          have HT := Lib.hid hst
          generalize rs[i].2.2.1 = y at g3 HT hle hst
          generalize rs[i].2.1 = z1 at g3
          generalize rs[i].2.2.2 = z2 at g3
          clear hst
          generalize mtot (rs.take i) = u at HT hle
          have hw : wrap64 (((X + u : Nat) : Int) + (y : Int)) = ((X + (u + y) : Nat) : Int) := by unfold wrap64; omega
          generalize X + u = tu at hw
          clear hle
          go_wp2_with fail
          go_round
          case rel => exact ⟨i + 1, by go_num, by omega, by rw [HT.out]; first | rfl | (have := hw; simp only [Value.int.injEq, true_and]; omega)⟩
          case measure => simp [intOf] <;> omega
        · obtain rfl : i = m := by omega
          have hta2 : rs.take i = rs := List.take_of_length_le (by rw [HL2.out]; omega)
          rw [hta2]
          go_wp2_with fail
          go_ret
          exact ⟨ret_eq (by have := HX.out; omega), rfl⟩
end Ix
end Go.Proofs.Ytednkcjmlpgipaa
/-
  The document's inbox as it lies in memory.
-/
namespace Go.Proofs.Ytednkcjmlpgipaa
set_option maxRecDepth 4000
open Go.RowKit Go.Maps
namespace Fg
theorem DO.frame {w w' : World} {F G : Nat → Prop} {j : Nat} {A : Option Addr} {n c : Nat} {qs : List Pq} (h : DO w G j A n c qs) (hk : Kp w w' F) (hd : ∀ b, G b → ¬ F b) : DO w' G j A n c qs :=
  ⟨(hk.block _ h.bk.lt (hd _ h.fj)).trans h.bk, own_keep h.own hk (fun g e => hd g (h.fo g e)), h.len, h.most, h.fj, h.fo, fun k hk2 => Nat.lt_of_lt_of_le (h.fb k hk2) hk.size⟩
end Fg
namespace Ix
set_option linter.unusedVariables false
set_option linter.unusedSimpArgs false
open Fg (Pc Ms mv Pq)

section
variable {pre mid : List Value} {a b v : Value} {N : Nat}
theorem dx_mid (hp : pre.length = 5) (hm : mid.length = N) {i : Nat} (hi : i < N) : (pre ++ (mid ++ [a, b])).toArray[5 + i]? = mid[i]? := by
  rw [List.getElem?_toArray, List.getElem?_append_right (by omega), hp, show 5 + i - 5 = i by omega, List.getElem?_append_left (by omega)]
theorem dx_a (hp : pre.length = 5) (hm : mid.length = N) : (pre ++ (mid ++ [a, b])).toArray[5 + N]? = some a := by
  rw [List.getElem?_toArray, List.getElem?_append_right (by omega), hp, show 5 + N - 5 = N by omega, List.getElem?_append_right (by omega), hm, Nat.sub_self]
  rfl
theorem dx_b (hp : pre.length = 5) (hm : mid.length = N) : (pre ++ (mid ++ [a, b])).toArray[5 + N + 1]? = some b := by
  rw [List.getElem?_toArray, List.getElem?_append_right (by omega), hp, show 5 + N + 1 - 5 = N + 1 by omega, List.getElem?_append_right (by omega), hm, show N + 1 - N = 1 by omega]
  rfl
theorem dx_set_mid (hp : pre.length = 5) (hm : mid.length = N) {i : Nat} (hi : i < N) : (pre ++ (mid ++ [a, b])).toArray.setIfInBounds (5 + i) v = (pre ++ (mid.set i v ++ [a, b])).toArray := by
  rw [List.setIfInBounds_toArray, List.set_append_right _ _ (by omega), hp, show 5 + i - 5 = i by omega, List.set_append_left _ _ (by omega)]
theorem dx_set_a (hp : pre.length = 5) (hm : mid.length = N) : (pre ++ (mid ++ [a, b])).toArray.setIfInBounds (5 + N) v = (pre ++ (mid ++ [v, b])).toArray := by
  rw [List.setIfInBounds_toArray, List.set_append_right _ _ (by omega), hp, show 5 + N - 5 = N by omega, List.set_append_right _ _ (by omega), hm, Nat.sub_self]
  rfl
theorem dx_set_b (hp : pre.length = 5) (hm : mid.length = N) : (pre ++ (mid ++ [a, b])).toArray.setIfInBounds (5 + N + 1) v = (pre ++ (mid ++ [a, v])).toArray := by
  rw [List.setIfInBounds_toArray, List.set_append_right _ _ (by omega), hp, show 5 + N + 1 - 5 = N + 1 by omega, List.set_append_right _ _ (by omega), hm, show N + 1 - N = 1 by omega]
  rfl
end
section
variable {str room most s j : Nat} {nx : List Nat} {vw vr v : Value}
theorem dxc_head : (dxc str room most s j nx vw vr)[0]? = some (.int .u16 (str : Int)) ∧ (dxc str room most s j nx vw vr)[1]? = some (.int .i64 (room : Int)) ∧ (dxc str room most s j nx vw vr)[2]? = some (.int .i64 (most : Int)) ∧ (dxc str room most s j nx vw vr)[3]? = some (.pointer (some ⟨s, 0, none⟩)) ∧ (dxc str room most s j nx vw vr)[4]? = some (.pointer (some ⟨j, 0, none⟩)) := by
  unfold dxc
  generalize ns .u16 nx ++ [vw, vr] = r
  exact ⟨rfl, rfl, rfl, rfl, rfl⟩
theorem dxc_next (h : nx.length = 65536) {i : Nat} (hi : i < 65536) : (dxc str room most s j nx vw vr)[5 + i]? = some (.int .u16 ((nx.getD i 0 : Nat) : Int)) := by
  unfold dxc
  rw [dx_mid (N := 65536) rfl (by rw [ns_len, h]) hi, ns_get (by omega)]
theorem dxc_waits (h : nx.length = 65536) : (dxc str room most s j nx vw vr)[65541]? = some vw := by
  unfold dxc
  exact dx_a (N := 65536) rfl (by rw [ns_len, h])
theorem dxc_ready (h : nx.length = 65536) : (dxc str room most s j nx vw vr)[65542]? = some vr := by
  unfold dxc
  exact dx_b (N := 65536) rfl (by rw [ns_len, h])
theorem dxc_set_next (h : nx.length = 65536) {i n : Nat} (hi : i < 65536) : (dxc str room most s j nx vw vr).setIfInBounds (5 + i) (.int .u16 (n : Int)) = dxc str room most s j (nx.set i n) vw vr := by
  unfold dxc
  rw [dx_set_mid (N := 65536) rfl (by rw [ns_len, h]) hi]
  simp [ns, List.map_set]
theorem dxc_set_waits (h : nx.length = 65536) : (dxc str room most s j nx vw vr).setIfInBounds 65541 v = dxc str room most s j nx v vr := by
  unfold dxc
  exact dx_set_a (N := 65536) rfl (by rw [ns_len, h])
theorem dxc_set_ready (h : nx.length = 65536) : (dxc str room most s j nx vw vr).setIfInBounds 65542 v = dxc str room most s j nx vw v := by
  unfold dxc
  exact dx_set_b (N := 65536) rfl (by rw [ns_len, h])
end
/-- The document's set, and its joiner. -/
abbrev DSs (s : Nat) (st : Gp.St) : As := ⟨fun w F => Gp.DSet w F s st, ⟨fun w w' F G h hk hd => Gp.DSet.frame h hk hd, fun w F h => by obtain ⟨vw, v, _, _, _, _, _, _, f4, _⟩ := h; exact f4⟩⟩
def DJR (j : Nat) (qs : List Pq) (w : World) (F : Nat → Prop) : Prop := ∃ A n c, Fg.DO w F j A n c qs
theorem DJR_fr (j : Nat) (qs : List Pq) : Fr (DJR j qs) := ⟨fun w w' F G ⟨A, n, c, h⟩ hk hd => ⟨A, n, c, h.frame hk hd⟩, fun w F ⟨A, n, c, h⟩ => h.fb⟩
abbrev DJs (j : Nat) (qs : List Pq) : As := ⟨DJR j qs, DJR_fr j qs⟩
/-- What waits. -/
def WaR (v : Value) (l : List Wq) (w : World) (F : Nat → Prop) : Prop := w.ownsRow 0 115 5 v l.length (wfl l) ∧ (∀ g, v.ownBlock = some g → F g) ∧ ∀ k, F k → k < w.heap.size
theorem WaR_fr (v : Value) (l : List Wq) : Fr (WaR v l) :=
  ⟨fun w w' F G ⟨h, hf, hb⟩ hk hd => ⟨own_fr h hk (fun g hg => hd g (hf g hg)), hf, fun k hk2 => Nat.lt_of_lt_of_le (hb k hk2) hk.size⟩, fun w F h => h.2.2⟩
abbrev WaA (v : Value) (l : List Wq) : As := ⟨WaR v l, WaR_fr v l⟩
/-- Where the parts of the document's inbox lie. -/
structure Dv where
  s : Nat
  j : Nat
  nx : List Nat
  vw : Value
  vr : Value
  qs : List Pq
  wl : List Wq
  rM : List Me
def Dv.parts (i : Dv) (x : Nat) (b : Ib) (L : List Me) (R : List As) : List As :=
  BkA x (dxc b.nx.length b.room b.most i.s i.j i.nx i.vw i.vr) 61 :: DSs i.s b.st :: DJs i.j i.qs :: WaA i.vw i.wl :: QuA i.vr i.rM :: DatA L :: R
/-- A piece whose bytes came in. -/
def Pin (W : World) (q : Pq) : Prop := q.1.d.length = q.2.2.1 ∧ Row W q.2.1 (bs q.1.d) ∧ (q.2.1 = none → q.2.2.1 = 0 ∧ q.2.2.2 = 0) ∧ ∀ a, q.2.1 = some a → a.block < W.heap.size
structure Dv.Fit (i : Dv) (W : World) (b : Ib) (L : List Me) : Prop where
  nx : i.nx.length = 65536
  nxs : ∀ k, k < b.nx.length → i.nx.getD k 0 = b.nx.getD k 0
  qs : i.qs.map (·.1) = b.K
  ws : i.wl.map eplain = b.ws
  rd : i.rM.map (·.1) = b.rd
  inw : ∀ e ∈ i.wl, e.1 ∈ L
  inr : ∀ e ∈ i.rM, e ∈ L
  dat : ∀ e ∈ L, e.1.d.length = e.2.2.1
  dq : ∀ q ∈ i.qs, Pin W q
/-- The document's inbox at x stands so, beside R. -/
def DX (W w : World) (x : Nat) (b : Ib) (L : List Me) (R : List As) : Prop := ∃ i : Dv, Nw W w (i.parts x b L R) ∧ i.Fit W b L
section
variable {W w w' : World} {x : Nat} {b : Ib} {L : List Me} {R : List As}
theorem DX.below (h : DX W w x b L R) : Below W.heap.size W w := by
  obtain ⟨i, h, _⟩ := h
  exact h.below
theorem DX.next (h : DX W w x b L R) (hb : Below w.heap.size w w') : DX W w' x b L R := by
  obtain ⟨i, h, hf⟩ := h
  exact ⟨i, h.next hb, hf⟩
theorem DX.rest (h : DX W w x b L R) : Nw W w R := by
  obtain ⟨i, h, _⟩ := h
  exact h.drop.drop.drop.drop.drop.drop
end
end Ix
end Go.Proofs.Ytednkcjmlpgipaa
/-
  The document's inbox: its window.
-/
namespace Go.Proofs.Ytednkcjmlpgipaa
set_option maxRecDepth 4000
open Go.RowKit Go.Maps
namespace Ix
set_option linter.unusedVariables false
set_option linter.unusedSimpArgs false

theorem dirwnd_any {W : World} {x : Nat} {r m q : Nat} (c1 : W.cell? ⟨x, 1, none⟩ = some (.int .i64 (r : Int))) (c2 : W.cell? ⟨x, 2, none⟩ = some (.int .i64 (m : Int))) (hr : r ≤ 1048576) (hm : m ≤ 1048576) (hq : q ≤ 1048576)
    (C0 : Calls Try.prog 23 #[.pointer (some ⟨x, 0, none⟩)] W.drew fun e w' => e = .returned (.int .i64 (q : Int)) ∧ W.drew = w') :
    Calls Try.prog 25 #[.pointer (some ⟨x, 0, none⟩)] W fun e w' => e = .returned (.int .u32 ((r - m - q : Nat) : Int)) ∧ W.drew = w' := by
  have C := Lib.hid C0
  clear C0
  have hs : W.drew.cell? ⟨x, 1, none⟩ = some (.int .i64 (r : Int)) ∧ W.drew.cell? ⟨x, 2, none⟩ = some (.int .i64 (m : Int)) := ⟨c1, c2⟩
  clear c1 c2
  have hw1 : wrap64 ((r : Int) - (m : Int)) = (r : Int) - (m : Int) := by unfold wrap64; omega
  obtain ⟨z, hz⟩ : ∃ z : Int, z = (r : Int) - (m : Int) - (q : Int) := ⟨_, rfl⟩
  have hw2 : wrap64 ((r : Int) - (m : Int) - (q : Int)) = z := by unfold wrap64; omega
  have hv1 : IntKind.i64.wrap ((r : Int) - (m : Int)) = (r : Int) - (m : Int) := by
    simp [IntKind.wrap, IntKind.signed, IntKind.bits]
    omega
  have hv2 : IntKind.i64.wrap ((r : Int) - (m : Int) - (q : Int)) = z := by
    simp [IntKind.wrap, IntKind.signed, IntKind.bits]
    omega
  have hcase : (z < 0 ∧ r - m - q = 0) ∨ (¬ z < 0 ∧ IntKind.u32.wrap z = ((r - m - q : Nat) : Int)) := by
    by_cases h0 : z < 0
    · exact .inl ⟨h0, by omega⟩
    · exact .inr ⟨h0, by rw [IntKind.wrap_u32]; omega⟩
  clear hz hr hm hq
  generalize r - m - q = y at hcase ⊢
  rcases hcase with ⟨h0, rfl⟩ | ⟨h0, hcv⟩
  all_goals
    go_enter Try.func25, Try.ntmps25
    go_wp2_with fail
    first | go_region_held3 (fun W => W.cell? ⟨x, 1, none⟩ = some (.int .i64 (r : Int)) ∧ W.cell? ⟨x, 2, none⟩ = some (.int .i64 (m : Int))) (exact hs) ((go_at_call 23; (with_reducible refine C.out.mono ?_); rintro e w2 ⟨rfl, rfl⟩)) | fail
    all_goals
      go_wp2_with fail
      go_ret
      exact ⟨rfl, rfl⟩
end Ix
end Go.Proofs.Ytednkcjmlpgipaa
/-
  The document's inbox: what is held, how much room there is.
-/
namespace Go.Proofs.Ytednkcjmlpgipaa
set_option maxRecDepth 4000
open Go.RowKit Go.Maps
namespace Ix
set_option linter.unusedVariables false
set_option linter.unusedSimpArgs false
open Fg (Pc Ms mv Pq)

theorem qu_row {w : World} {e : TypeId} {sz n c : Nat} {A : Option Addr} {xs : List Value} (h : Qu w e sz (.slice A n c) n xs) : Row w A xs := fun i v hv => by
  rcases id h.2 with ⟨h1, h2⟩ | ⟨g, off, cap, cur, h1, _⟩
  · have h3 := h.1
    have h4 := (List.getElem?_eq_some_iff.1 hv).1
    rw [h2] at h3
    omega
  · simp only [Value.slice.injEq] at h1
    obtain ⟨rfl, _, _⟩ := h1
    refine ⟨_, rfl, ?_⟩
    have e1 : (⟨g, off, none⟩ : Addr).add i = ⟨g, off + i, none⟩ := by unfold Addr.add; split <;> simp_all
    rw [e1]
    exact h.cellAt hv
section
variable {W w : World} {x : Nat} {b : Ib} {L : List Me} {R : List As}
/-- What the parts hold together. -/
theorem Dv.Fit.held {i : Dv} (h : i.Fit W b L) : Fg.tot i.qs + wtot i.wl + mtot i.rM = b.held := by
  have e1 : Fg.tot i.qs = Fg.held b.K := by
    rw [← h.qs]
    unfold Fg.tot Fg.held
    rw [List.map_map]
    congr 1
    exact List.map_congr_left fun q hq => (h.dq q hq).1.symm
  have e2 : wtot i.wl + mtot i.rM = b.whole := by
    unfold Ib.whole bsum wtot mtot
    rw [← h.ws, ← h.rd]
    simp only [List.map_map]
    congr 2
    · exact List.map_congr_left fun e he => (h.dat _ (h.inw e he)).symm
    · exact List.map_congr_left fun e he => (h.dat _ (h.inr e he)).symm
  unfold Ib.held
  omega
theorem dheld_dx (h : DX W w x b L R) (ok : b.Ok) : Calls Try.prog 23 #[.pointer (some ⟨x, 0, none⟩)] w fun e w' => e = .returned (.int .i64 (b.held : Int)) ∧ w = w' := by
  obtain ⟨i, hN, hf⟩ := h
  have hh := hf.held
  have hnx := hf.nx
  have hlen := ok.len
  have hok := ok.held
  have hroom := ok.room
  have hws := hf.ws
  have hrd := hf.rd
  have hbx := hN.bk (k := 0) rfl
  obtain ⟨F1, ⟨A, n, c, hj⟩, _⟩ := hN.at (k := 2) rfl
  obtain ⟨F2, hw2, _⟩ := hN.at (k := 3) rfl
  obtain ⟨F3, hq3, _⟩ := hN.at (k := 4) rfl
  obtain ⟨Aw, cw, hvw⟩ := own_form hw2.1
  obtain ⟨Ar, cr, hvr, _, _⟩ := hq3.1.form
  have hw3 := hw2.1
  have hq4 := hq3.1
  rw [hvw] at hw3
  rw [hvr] at hq4
  have c4 := (hbx.cell 4).trans dxc_head.2.2.2.2
  have c6 := (hbx.cell 65541).trans (dxc_waits hnx)
  have c7 := (hbx.cell 65542).trans (dxc_ready hnx)
  rw [hvw] at c6
  rw [hvr] at c7
  have := diheld_any (qs := i.wl) (rs := i.rM) c4 hj.dj c6 rfl (by have h1 := congrArg List.length hws; rw [List.length_map] at h1; omega) (Fg.own_row hw3) c7 rfl (by have h1 := congrArg List.length hrd; rw [List.length_map] at h1; omega) (qu_row hq4) (by rw [hh]; omega)
  rw [hh] at this
  exact this
theorem drwnd_dx (h : DX W w x b L R) (ok : b.Ok) : Calls Try.prog 25 #[.pointer (some ⟨x, 0, none⟩)] w fun e w' => e = .returned (.int .u32 (b.rwnd : Int)) ∧ w.drew = w' := by
  have C := dheld_dx (h.next (Below.refl _ _).drew) ok
  obtain ⟨i, hN, hf⟩ := h
  have hbx := hN.bk (k := 0) rfl
  have c1 := (hbx.cell 1).trans dxc_head.2.1
  have c2 := (hbx.cell 2).trans dxc_head.2.2.1
  exact dirwnd_any c1 c2 ok.room ok.most (by have := ok.held; have := ok.room; omega) C
/-- What the law loads of it. -/
theorem DX.loads (h : DX W w x b L R) : ∃ (s : Nat) (A : Option Addr) (c : Nat), w.cell? ⟨x, 3, none⟩ = some (.pointer (some ⟨s, 0, none⟩)) ∧ w.cell? ⟨s, 0, none⟩ = some (.int .u32 (b.st.cum : Int)) ∧ w.cell? ⟨x, 65542, none⟩ = some (.slice A b.rd.length c) := by
  obtain ⟨i, hN, hf⟩ := h
  have hbx := hN.bk (k := 0) rfl
  obtain ⟨F0, hs, _⟩ := hN.at (k := 1) rfl
  obtain ⟨vw, v, hsb, _⟩ := id hs
  obtain ⟨F3, hq3, _⟩ := hN.at (k := 4) rfl
  obtain ⟨Ar, cr, hvr, _, _⟩ := hq3.1.form
  have c7 := (hbx.cell 65542).trans (dxc_ready hf.nx)
  have e1 : b.rd.length = i.rM.length := by rw [← hf.rd, List.length_map]
  rw [hvr, ← e1] at c7
  exact ⟨i.s, Ar, cr, (hbx.cell 3).trans dxc_head.2.2.2.1, (hsb.cell 0).trans rfl, c7⟩
end
end Ix
end Go.Proofs.Ytednkcjmlpgipaa
/-
  The document's inbox: a message that is whole.
-/
namespace Go.Proofs.Ytednkcjmlpgipaa
set_option maxRecDepth 4000
open Go.RowKit Go.Maps
namespace Ix
set_option linter.unusedVariables false
set_option linter.unusedSimpArgs false
open Fg (Pc Ms mv Pq)

/-- The document's inbox, with the message in a block. -/
def DB (W w : World) (x g : Nat) (me : Me) (b : Ib) (L : List Me) (R : List As) : Prop := ∃ i : Dv, Nw W w (BkA g #[.int .u16 (me.1.s : Int), .bool me.1.u, .int .u32 (me.1.p : Int), .slice me.2.1 me.2.2.1 me.2.2.2] 39 :: i.parts x b L R) ∧ i.Fit W b L
section
variable {W w w' w9 : World} {x g : Nat} {me e : Me} {b : Ib} {L : List Me} {R : List As}
theorem DB.next (h : DB W w x g me b L R) (hb : Below w.heap.size w w') : DB W w' x g me b L R := by
  obtain ⟨i, h, hf⟩ := h
  exact ⟨i, h.next hb, hf⟩
theorem DB.unbox (h : DB W w x g me b L R) : DX W w x b L R := by
  obtain ⟨i, h, hf⟩ := h
  exact ⟨i, h.drop, hf⟩
theorem DX.boxed (h : DX W w x b L R) (me : Me) : DB W (w.alloc (.cells #[.int .u16 (me.1.s : Int), .bool me.1.u, .int .u32 (me.1.p : Int), .slice me.2.1 me.2.2.1 me.2.2.2] 39)) x w.heap.size me b L R := by
  obtain ⟨i, h, hf⟩ := h
  exact ⟨i, h.box _ _, hf⟩
theorem DB.cells (h : DB W w x g me b L R) : (w.cell? ⟨g, 0, none⟩ = some (.int .u16 (me.1.s : Int)) ∧ w.cell? ⟨g, 1, none⟩ = some (.bool me.1.u) ∧ w.cell? ⟨g, 2, none⟩ = some (.int .u32 (me.1.p : Int)) ∧ w.cell? ⟨g, 3, none⟩ = some (.slice me.2.1 me.2.2.1 me.2.2.2)) := by
  obtain ⟨i, h, hf⟩ := h
  have hb := h.bk (k := 0) rfl
  exact ⟨hb.cell 0, hb.cell 1, hb.cell 2, hb.cell 3⟩
/-- The row of what is ready: it is loaded; one more is appended. -/
theorem DB.ready (h : DB W w x g me b L R) : ∃ (A : Option Addr) (c : Nat) (rM : List Me), rM.map (·.1) = b.rd ∧ (∀ w2, Below w.heap.size w w2 → w2.cell? ⟨x, 65542, none⟩ = some (.slice A rM.length c) ∧ w2.frozen? ⟨x, 65542, none⟩ = false ∧ Qu w2 39 4 (.slice A rM.length c) rM.length (mf rM)) ∧
    ∀ (w2 w9 : World) (e : Me) (v' : Value), Below w.heap.size w w2 → e ∈ L → Qu w9 39 4 v' (rM ++ [e]).length (mf (rM ++ [e])) → w2.grownBy w9 (Value.slice A rM.length c).ownBlock → (∀ k, v'.ownBlock = some k → (Value.slice A rM.length c).ownBlock = some k ∨ w2.heap.size ≤ k) → (w9.cell? ⟨x, 65542, none⟩ = some (.slice A rM.length c) ∧ w9.frozen? ⟨x, 65542, none⟩ = false) ∧ DB W (w9.setCell ⟨x, 65542, none⟩ v') x g me { b with rd := b.rd ++ [e.1] } L R := by
  obtain ⟨i, hN, hf⟩ := h
  obtain ⟨F3, hq3, _⟩ := hN.at (k := 5) rfl
  obtain ⟨A, c, hvr, _, _⟩ := hq3.1.form
  have hnx := hf.nx
  refine ⟨A, c, i.rM, hf.rd, fun w2 hb => ?_, fun w2 w9 e v' hb he hq hg hat => ?_⟩
  · have h2 := hN.next hb
    have hbx := h2.bk (k := 1) rfl
    obtain ⟨F4, hq4, _⟩ := h2.at (k := 5) rfl
    have c7 := (hbx.cell 65542).trans (dxc_ready hnx)
    rw [hvr] at c7
    have h4 := hq4.1
    rw [hvr] at h4
    exact ⟨c7, hbx.frozen 65542, h4⟩
  · have h2 := hN.next hb
    rw [← hvr] at hg hat ⊢
    have h3 := h2.quApp (k := 5) rfl hq hg hat
    have hb3 := h3.bk (k := 1) rfl
    refine ⟨⟨(hb3.cell 65542).trans (dxc_ready hnx), hb3.frozen 65542⟩, ⟨i.s, i.j, i.nx, i.vw, v', i.qs, i.wl, i.rM ++ [e]⟩, ?_, ⟨hf.nx, hf.nxs, hf.qs, hf.ws, ?_, hf.inw, fun y hy => ?_, hf.dat, hf.dq⟩⟩
    · have h4 := h3.store (k := 1) rfl 65542 v'
      have e1 := dxc_set_ready (str := b.nx.length) (room := b.room) (most := b.most) (s := i.s) (j := i.j) (vw := i.vw) (vr := i.vr) (v := v') hnx
      rw [e1] at h4
      exact h4
    · show (i.rM ++ [e]).map (·.1) = b.rd ++ [e.1]
      rw [List.map_append, hf.rd]
      rfl
    · rcases List.mem_append.1 hy with h5 | h5
      · exact hf.inr y h5
      · rw [List.mem_singleton] at h5
        rw [h5]
        exact he
/-- The number of a stream that is next: it is loaded, and set. -/
theorem DB.num (h : DB W w x g me b L R) {s : Nat} (hs : s < b.nx.length) (hlt : b.nx.length < 65536) : ∀ w2, Below w.heap.size w w2 → (w2.cell? ⟨x, 5 + s, none⟩ = some (.int .u16 ((b.nxt s : Nat) : Int)) ∧ w2.frozen? ⟨x, 5 + s, none⟩ = false) ∧ ∀ n : Nat, DB W (w2.setCell ⟨x, 5 + s, none⟩ (.int .u16 (n : Int))) x g me { b with nx := b.nx.set s n } L R := by
  obtain ⟨i, hN, hf⟩ := h
  have hnx := hf.nx
  intro w2 hb
  have h2 := hN.next hb
  have hbx := h2.bk (k := 1) rfl
  refine ⟨⟨(hbx.cell (5 + s)).trans ((dxc_next hnx (by omega)).trans (by rw [hf.nxs s hs]; rfl)), hbx.frozen (5 + s)⟩, fun n => ⟨⟨i.s, i.j, i.nx.set s n, i.vw, i.vr, i.qs, i.wl, i.rM⟩, ?_, ⟨by rw [List.length_set]; exact hnx, fun k hk => ?_, hf.qs, hf.ws, hf.rd, hf.inw, hf.inr, hf.dat, hf.dq⟩⟩⟩
  · have h4 := h2.store (k := 1) rfl (5 + s) (.int .u16 (n : Int))
    have e1 := dxc_set_next (str := b.nx.length) (room := b.room) (most := b.most) (s := i.s) (j := i.j) (vw := i.vw) (vr := i.vr) hnx (i := s) (n := n) (by omega)
    rw [e1] at h4
    show Nw W _ (_ :: BkA x (dxc (b.nx.set s n).length _ _ _ _ _ _ _) _ :: _)
    rw [List.length_set]
    exact h4
  · have hk2 : k < b.nx.length := by simpa using hk
    show (i.nx.set s n).getD k 0 = (b.nx.set s n).getD k 0
    have h5 := hf.nxs k hk2
    simp only [List.getD] at h5 ⊢
    rw [List.getElem?_set, List.getElem?_set]
    by_cases e : s = k
    · subst e
      rw [if_pos rfl, if_pos rfl, if_pos (by omega), if_pos hk2]
    · rw [if_neg e, if_neg e]
      exact h5
end
end Ix
end Go.Proofs.Ytednkcjmlpgipaa
/-
  The document's inbox: what waits, opened.
-/
namespace Go.Proofs.Ytednkcjmlpgipaa
set_option maxRecDepth 4000
open Go.RowKit Go.Maps
namespace Ix
set_option linter.unusedVariables false
set_option linter.unusedSimpArgs false
open Fg (Pc Ms mv Pq)

section
variable {W w w' : World} {x g : Nat} {me : Me} {b : Ib} {L : List Me} {R l : List As} {k : Nat}
theorem _root_.Go.Proofs.Ytednkcjmlpgipaa.Nw.waPut {v v' : Value} {wl wl' : List Wq} (h : Nw W w l) (hk : l[k]? = some (WaA v wl)) (hq : w'.ownsRow 0 115 5 v' wl'.length (wfl wl')) (hg : w.grownBy w' v.ownBlock) (hat : ∀ g, v'.ownBlock = some g → v.ownBlock = some g ∨ w.heap.size ≤ g) : Nw W w' (l.set k (WaA v' wl')) := by
  obtain ⟨F, ⟨r1, r2, r3⟩, hh⟩ := h.turn hk
  refine hh w' (fun k => F k ∨ v'.ownBlock = some k) (WaA v' wl') ⟨Kp.grown hg r2, fun k hk2 => ?_⟩ ⟨hq, fun g hg2 => .inr hg2, fun k hk2 => ?_⟩
  · rcases hk2 with h1 | h1
    · exact .inl h1
    · rcases hat k h1 with h2 | h2
      · exact .inl (r2 k h2)
      · exact .inr h2
  · rcases hk2 with h1 | h1
    · exact Nat.lt_of_lt_of_le (r3 k h1) hg.size
    · exact (World.ownsRow.lt hq k h1).2
theorem DB.waits (h : DB W w x g me b L R) : ∃ (A : Option Addr) (c : Nat) (wl : List Wq), wl.map eplain = b.ws ∧ (∀ q ∈ wl, q.1 ∈ L) ∧ (∀ w2, Below w.heap.size w w2 → w2.cell? ⟨x, 65541, none⟩ = some (.slice A wl.length c) ∧ w2.frozen? ⟨x, 65541, none⟩ = false ∧ w2.ownsRow 0 115 5 (.slice A wl.length c) wl.length (wfl wl)) ∧
    ∀ (w2 w9 : World) (wl' : List Wq) (v' : Value), Below w.heap.size w w2 → (∀ q ∈ wl', q.1 ∈ L) → w9.ownsRow 0 115 5 v' wl'.length (wfl wl') → w2.grownBy w9 (Value.slice A wl.length c).ownBlock → (∀ k, v'.ownBlock = some k → (Value.slice A wl.length c).ownBlock = some k ∨ w2.heap.size ≤ k) → (w9.cell? ⟨x, 65541, none⟩ = some (.slice A wl.length c) ∧ w9.frozen? ⟨x, 65541, none⟩ = false) ∧ DB W (w9.setCell ⟨x, 65541, none⟩ v') x g me { b with ws := wl'.map eplain } L R := by
  obtain ⟨i, hN, hf⟩ := h
  obtain ⟨F3, hq3, _⟩ := hN.at (k := 4) rfl
  obtain ⟨A, c, hvr⟩ := own_form hq3.1
  have hnx := hf.nx
  refine ⟨A, c, i.wl, hf.ws, hf.inw, fun w2 hb => ?_, fun w2 w9 wl' v' hb he hq hg hat => ?_⟩
  · have h2 := hN.next hb
    have hbx := h2.bk (k := 1) rfl
    obtain ⟨F4, hq4, _⟩ := h2.at (k := 4) rfl
    have c7 := (hbx.cell 65541).trans (dxc_waits hnx)
    rw [hvr] at c7
    have h4 := hq4.1
    rw [hvr] at h4
    exact ⟨c7, hbx.frozen 65541, h4⟩
  · have h2 := hN.next hb
    rw [← hvr] at hg hat ⊢
    have h3 := h2.waPut (k := 4) rfl hq hg hat
    have hb3 := h3.bk (k := 1) rfl
    refine ⟨⟨(hb3.cell 65541).trans (dxc_waits hnx), hb3.frozen 65541⟩, ⟨i.s, i.j, i.nx, v', i.vr, i.qs, wl', i.rM⟩, ?_, ⟨hf.nx, hf.nxs, hf.qs, rfl, hf.rd, he, hf.inr, hf.dat, hf.dq⟩⟩
    have h4 := h3.store (k := 1) rfl 65541 v'
    have e1 := dxc_set_waits (str := b.nx.length) (room := b.room) (most := b.most) (s := i.s) (j := i.j) (vw := i.vw) (vr := i.vr) (v := v') hnx
    rw [e1] at h4
    exact h4
end
/-- Where a message that waits stands, and whether one does by its key. -/
theorem wat_look {wl : List Wq} {ws : List (Ms × Nat)} {s n : Nat} {r : Int} (hw : wl.map eplain = ws) (hn : ∀ e ∈ ws, e.2 < 65536) (hn2 : n < 65536) (h : WAt wl s n r) :
    (r = -1 ∧ alook wkey ws (s * 65536 + n) = none) ∨ ∃ (i : Nat) (hi : i < wl.length), r = i ∧ alook wkey ws (s * 65536 + n) = some (eplain wl[i]) := by
  have hkey : ∀ q ∈ wl, (wkey (eplain q) = s * 65536 + n ↔ q.1.1.s = s ∧ q.2 = n) := fun q hq => by
    have h1 := hn (eplain q) (by rw [← hw]; exact List.mem_map_of_mem hq)
    have h2 : q.2 < 65536 := h1
    show q.1.1.s * 65536 + q.2 = s * 65536 + n ↔ _
    omega
  rcases h with ⟨rfl, hno⟩ | ⟨i, hi, rfl, hit, hfst⟩
  · refine .inl ⟨rfl, alook_none.2 fun e he hk => ?_⟩
    rw [← hw] at he
    obtain ⟨q, hq, rfl⟩ := List.mem_map.1 he
    exact hno q hq ((hkey q hq).1 hk)
  · refine .inr ⟨i, hi, rfl, ?_⟩
    unfold alook
    rw [← hw, List.find?_map]
    have : wl.find? ((fun y => wkey y == s * 65536 + n) ∘ eplain) = some wl[i] := by
      rw [List.find?_eq_some_iff_getElem]
      refine ⟨by simp only [Function.comp, beq_iff_eq]; exact (hkey _ (List.getElem_mem hi)).2 hit, i, hi, rfl, fun k hk => ?_⟩
      simp only [Function.comp, Bool.not_eq_true', beq_eq_false_iff_ne]
      exact fun e => hfst k hk ((hkey _ (List.getElem_mem (by omega))).1 e)
    rw [this]
    rfl
end Ix
end Go.Proofs.Ytednkcjmlpgipaa
/-
  The document's inbox: a message that is whole: the walk.
-/
namespace Go.Proofs.Ytednkcjmlpgipaa
set_option maxRecDepth 4000
open Go.RowKit Go.Maps
namespace Ix
set_option linter.unusedVariables false
set_option linter.unusedSimpArgs false
open Fg (Pc Ms mv Pq)

section
variable {W w : World} {x : Nat} {b : Ib} {L : List Me} {R : List As}
set_option maxHeartbeats 4000000 in
theorem dwh_un (h : DX W w x b L R) (hlen : b.rd.length ≤ 1100000) (me : Me) (hm : me ∈ L) (hu : me.1.u = true) (ssn : Nat) :
    Calls Try.prog 60 #[.pointer (some ⟨x, 0, none⟩), .agg #[.int .u16 (me.1.s : Int), .bool me.1.u, .int .u32 (me.1.p : Int), .slice me.2.1 me.2.2.1 me.2.2.2], .int .u16 (ssn : Int)] w fun e w' => e = .returned (.tuple #[]) ∧ DX W w' x { b with rd := b.rd ++ [me.1] } L R := by
  have HB := Lib.hid (h.boxed me)
  clear h
  go_enter Try.func60, Try.ntmps60
  rw [hu]
  rw [hu] at HB
  go_upto_region 1 with fail
  generalize w.alloc (.cells #[.int .u16 (me.1.s : Int), .bool true, .int .u32 (me.1.p : Int), .slice me.2.1 me.2.2.1 me.2.2.2] 39) = w1 at HB ⊢
  generalize w.heap.size = g at HB ⊢
  obtain ⟨r0, r1, r2, r3⟩ := HB.out.cells
  rw [hu] at r1
  obtain ⟨A, c, rM, hrm, hld, hst⟩ := HB.out.ready
  have HST := Lib.hid hst
  have HLD := Lib.hid hld
  have hrl : rM.length = b.rd.length := by rw [← hrm, List.length_map]
  obtain ⟨n, hn⟩ : ∃ n, rM.length = n := ⟨_, rfl⟩
  have hn9 : rM.length ≤ 1100000 := by omega
  have cj : w1.cell? ⟨x, 65542, none⟩ = some (.slice A rM.length c) := (HLD.out w1 (Below.refl _ _)).1
  have cja : ∀ o, (w1.alloc o).cell? ⟨x, 65542, none⟩ = some (.slice A rM.length c) := fun o => (HLD.out _ ((Below.refl _ _).alloc (Nat.le_refl _) o)).1
  have HRW : Hid (Row (w1.alloc (.cells #[.int .u16 (me.1.s : Int), .bool true, .int .u32 (me.1.p : Int), .slice me.2.1 me.2.2.1 me.2.2.2] 39)).drew (some ⟨w1.heap.size, 0, none⟩) (mcl me)) := Lib.hid (by
    have := Row.new w1.drew (mcl me) 39 (0, 0)
    unfold mcl at this ⊢
    rw [hu] at this ⊢
    exact this)
  have HB2 : Hid (Below w1.heap.size w1 (w1.alloc (.cells #[.int .u16 (me.1.s : Int), .bool true, .int .u32 (me.1.p : Int), .slice me.2.1 me.2.2.1 me.2.2.2] 39)).drew) := Lib.hid ((Below.refl _ _).drew.alloc (Nat.le_refl _) _)
  clear hst hld hrm hrl hn
  go_upto_region 2 with fail
  first | go_region_law (first
    | (refine qu_reg rfl (.tmp 14) (.tmp 16) rfl (.slice A rM.length c) rM rfl (HLD.out _ HB2.out).2.2 w1.heap.size 1 me rfl HRW.out (by omega) ?_; intro A9 c9 w9 hq9 hgr9 hat9; have hz9 := HST.out _ w9 me (.slice A9 (rM.length + 1) c9) HB2.out hm hq9 hgr9 hat9; have z9 := hz9.1.1; have f9 := hz9.1.2; have HD9 := Lib.hid hz9.2; clear hq9 hgr9 hat9 hz9)) | fail
  all_goals
    go_wp2_with fail
    (try simp only [Exit.inBlock, Exit.then])
    refine bodyPost_ret (results_none rfl _ _ _) rfl ?_
    exact ⟨rfl, HD9.out.unbox.next (by first | exact (Below.refl _ _).drew | exact Below.refl _ _)⟩
end
end Ix
end Go.Proofs.Ytednkcjmlpgipaa
/-
  The document's inbox: a message that is whole, whose turn it is not.
-/
namespace Go.Proofs.Ytednkcjmlpgipaa
set_option maxRecDepth 4000
open Go.RowKit Go.Maps
namespace Ix
set_option linter.unusedVariables false
set_option linter.unusedSimpArgs false
open Fg (Pc Ms mv Pq)

def zwt : Value := .agg #[.int .u16 0, .bool false, .int .u32 0, .slice none 0 0, .int .u16 0]
theorem infoWq : (Try.prog.info? 115).map (fun i => (i.zero, i.size, i.bytes)) = some (some zwt, 5, 40) := by kernel_rfl
theorem wcl_one (q : Wq) : ∀ u ∈ wcl q, u.oneCell' = true := fun u hu => by
  simp [wcl] at hu
  rcases hu with rfl | rfl | rfl | rfl | rfl <;> rfl
/-- An append of one that waits, as a step of a region that draws its order. -/
theorem wq_reg {w : World} {ops : Array Oper} {o : Oper} {a : Act} {K : Act → World → Prop} {Q : Exit → Act → World → Prop} {E : Prop} (hgd : o.guard = none) (s x : Operand)
    (ho : o.op = .call { callee := .builtin .append, args := #[s, x], argTypes := #[58, 58] }) (A0 : Option Addr) (c0 : Nat) (wl : List Wq) (hs : a.eval s = .slice A0 wl.length c0) (hown : w.ownsRow 0 115 5 (.slice A0 wl.length c0) wl.length (wfl wl))
    (b c : Nat) (q : Wq) (hx : a.eval x = .slice (some ⟨b, 0, none⟩) 1 c) (hr : Row w (some ⟨b, 0, none⟩) (wcl q)) (hb : wl.length ≤ 2000000) (H : Nat) (hH : w.heap.size = H)
    (h : ∀ g c' w', w'.ownsRow 0 115 5 (.slice (some ⟨g, 0, none⟩) (wl.length + 1) c') (wl ++ [q]).length (wfl (wl ++ [q])) → w.grownBy w' (Value.slice A0 wl.length c0).ownBlock → ((Value.slice A0 wl.length c0).ownBlock = some g ∨ g = H) → K (a.put o.dst (.slice (some ⟨g, 0, none⟩) (wl.length + 1) c')) w') :
    if Region.wanted o (yielded ops a.tmps) = true then Oper.wp Try.prog o a w K Q else E := by
  obtain ⟨i0, hi0, hz0, hz1, hz2⟩ := info_parts infoWq
  refine step_append_lies w hgd s x 58 ho 0 115 i0 _ 5 40 Try.underlying58 hi0 hz0 hz1 hz2 rfl (by omega) _ wl.length (wfl wl) hs hown ⟨b, 0, none⟩ 1 c (wcl q) hx rfl (bcells hr) (wcl_one q) (by omega) (by unfold maxLen; omega) (by omega) (Nat.zero_le _) H hH ?_
  intro g cap w' h1 h2 h3 _
  refine h g cap w' ?_ h2 h3
  have e1 : wfl (wl ++ [q]) = wfl wl ++ wcl q := by simp [wfl]
  rw [e1, List.length_append]
  exact h1
section
variable {W w : World} {x : Nat} {b : Ib} {L : List Me} {R : List As}
set_option maxHeartbeats 4000000 in
theorem dwh_wait (h : DX W w x b L R) (ok : b.Core) (hlen : b.ws.length ≤ 1100000) (me : Me) (hm : me ∈ L) (hu : me.1.u = false) (hms : me.1.s < b.nx.length) (ssn : Nat) (hss : ssn < 65536) (hne : ssn ≠ b.nxt me.1.s) (b' : Ib) (hb' : (if (alook wkey b.ws (me.1.s * 65536 + ssn)).isNone && bf16 (b.nxt me.1.s) ssn then { b with ws := b.ws ++ [(me.1, ssn)] } else b) = b') :
    Calls Try.prog 60 #[.pointer (some ⟨x, 0, none⟩), .agg #[.int .u16 (me.1.s : Int), .bool me.1.u, .int .u32 (me.1.p : Int), .slice me.2.1 me.2.2.1 me.2.2.2], .int .u16 (ssn : Int)] w fun e w' => e = .returned (.tuple #[]) ∧ DX W w' x b' L R := by
  have HB := Lib.hid (h.boxed me)
  have HOK := Lib.hid ok
  have HBP := Lib.hid hb'
  clear hb'
  have hnl := ok.nx
  have hnn : b.nxt me.1.s < 65536 := by
    unfold Ib.nxt
    rw [List.getD, List.getElem?_eq_getElem hms]
    exact ok.nxs _ (List.getElem_mem hms)
  clear h ok
  go_enter Try.func60, Try.ntmps60
  rw [hu]
  rw [hu] at HB
  go_upto_region 1 with fail
  generalize w.alloc (.cells #[.int .u16 (me.1.s : Int), .bool false, .int .u32 (me.1.p : Int), .slice me.2.1 me.2.2.1 me.2.2.2] 39) = w1 at HB ⊢
  generalize w.heap.size = g at HB ⊢
  obtain ⟨r0, r1, r2, r3⟩ := HB.out.cells
  rw [hu] at r1
  have hnum := (HB.out.num hms hnl w1 (Below.refl _ _)).1.1
  have hs64 : me.1.s < 65536 := by omega
  obtain ⟨A, c, wl, hwl, hwL, hld, hst⟩ := HB.out.waits
  have HST := Lib.hid hst
  have HLD := Lib.hid hld
  have HWL := Lib.hid hwl
  have HWI := Lib.hid hwL
  clear hst hld hwl hwL
  obtain ⟨nn, hnx⟩ : ∃ nn, b.nxt me.1.s = nn := ⟨_, rfl⟩
  rw [hnx] at hnum hnn hne
  have HNX := Lib.hid hnx
  have hne2 : ((ssn : Int) == (nn : Int)) = false := by rw [beq_eq_false_iff_ne]; omega
  clear hnx
  go_upto_region 4 with (go_quiet (fail))
  have hq2 : Below w1.heap.size w1 (w1.drewN nq) := ⟨rfl, rfl, rfl, Nat.le_refl _, fun _ _ => rfl⟩
  have HB2 := Lib.hid (HB.out.next hq2)
  have hld2 := HLD.out _ hq2
  have HQ2 := Lib.hid hq2
  clear r0 r1 r2 r3 hnum HB hq2
  generalize w1.drewN nq = w2 at HB2 hld2 HQ2 ⊢
  obtain ⟨r0, r1, r2, r3⟩ := HB2.out.cells
  rw [hu] at r1
  have CB := Lib.hid fun W => dbefore16_any nn ssn W hnn hss
  have hwll : wl.length = b.ws.length := by rw [← HWL.out, List.length_map]
  have CF := Lib.hid (dwfind_any hld2.1 rfl (by omega) (Fg.own_caps hld2.2.2).1 (Fg.own_caps hld2.2.2).2.1 (Fg.own_row hld2.2.2) me.1.s ssn)
  obtain ⟨bf, hbf⟩ : ∃ bf, bf16 nn ssn = bf := ⟨_, rfl⟩
  rw [hbf] at CB
  have HBF := Lib.hid hbf
  clear hbf hld2
  cases bf
  · have HE : Hid (b = b') := Lib.hid (by rw [← HBP.out, HNX.out, HBF.out, Bool.and_false]; rfl)
    clear CF
    go_wp2_with (go_at_call 94; (with_reducible refine (CB.out _).mono ?_); rintro e w9 ⟨rfl, rfl⟩)
    (try simp only [Exit.inBlock, Exit.then])
    refine bodyPost_ret (results_none rfl _ _ _) rfl ?_
    refine ⟨rfl, ?_⟩
    rw [← HE.out]
    exact HB2.out.unbox
  · go_upto_region 6 with (first
      | (go_at_call 94; (with_reducible refine (CB.out _).mono ?_); rintro e w9 ⟨rfl, rfl⟩)
      | (go_at_call 95; (with_reducible refine CF.out.mono ?_); rintro e w9 ⟨⟨r, rfl, hat⟩, rfl⟩; rcases wat_look HWL.out (fun e he => (HOK.out.ws e he).2.2) hss hat with ⟨rfl, hno⟩ | ⟨i, hi, rfl, hsome⟩))
    · have HE : Hid ({ b with ws := (wl ++ [((me, ssn) : Wq)]).map eplain } = b') := Lib.hid (by
        rw [← HBP.out, HNX.out, HBF.out, hno, List.map_append, HWL.out]
        rfl)
      have HHU := Lib.hid hu
      have cj : w2.cell? ⟨x, 65541, none⟩ = some (.slice A wl.length c) := (HLD.out w2 HQ2.out).1
      have cja : ∀ o, (w2.alloc o).cell? ⟨x, 65541, none⟩ = some (.slice A wl.length c) := fun o => (HLD.out _ (bnext HQ2.out ((Below.refl _ _).alloc (Nat.le_refl _) o))).1
      have HB4 : Hid (Below w1.heap.size w1 (w2.alloc (.cells #[.int .u16 (me.1.s : Int), .bool false, .int .u32 (me.1.p : Int), .slice me.2.1 me.2.2.1 me.2.2.2, .int .u16 (ssn : Int)] 115)).drew) := Lib.hid (bnext HQ2.out ((Below.refl _ _).drew.alloc (Nat.le_refl _) _))
      have HRW : Hid (Row (w2.alloc (.cells #[.int .u16 (me.1.s : Int), .bool false, .int .u32 (me.1.p : Int), .slice me.2.1 me.2.2.1 me.2.2.2, .int .u16 (ssn : Int)] 115)).drew (some ⟨w2.heap.size, 0, none⟩) (wcl (me, ssn))) := Lib.hid (by
        have := Row.new w2.drew (wcl (me, ssn)) 115 (0, 0)
        unfold wcl at this ⊢
        simp only [HHU.out] at this ⊢
        exact this)
      have HMI : Hid (∀ q ∈ wl ++ [((me, ssn) : Wq)], q.1 ∈ L) := Lib.hid (fun q hq => by
        rcases List.mem_append.1 hq with h | h
        · exact HWI.out q h
        · rw [List.mem_singleton] at h
          rw [h]
          exact hm)
      have hwl9 : wl.length ≤ 2000000 := by omega
      clear hno hat CF CB hwll
      first | go_region_law (first
        | (refine wq_reg rfl (.tmp 45) (.tmp 49) rfl A c wl rfl (HLD.out _ HB4.out).2.2 w2.heap.size 1 (me, ssn) rfl HRW.out hwl9 _ rfl ?_; intro g9 c9 w9 hq9 hgr9 hat9; have hz9 := HST.out _ w9 (wl ++ [((me, ssn) : Wq)]) (.slice (some ⟨g9, 0, none⟩) (wl.length + 1) c9) HB4.out HMI.out hq9 hgr9 (fun k e => by simp only [Value.ownBlock, Option.some.injEq] at e; subst e; rcases hat9 with h | h; exact .inl h; exact .inr (by rw [h]; exact Nat.le_refl _)); have z9 := hz9.1.1; have f9 := hz9.1.2; have HD9 := Lib.hid hz9.2; clear hq9 hgr9 hat9 hz9)) | fail
      all_goals
        go_wp2_with fail
        (try simp only [Exit.inBlock, Exit.then])
        refine bodyPost_ret (results_none rfl _ _ _) rfl ?_
        refine ⟨rfl, ?_⟩
        have h9 := HD9.out.unbox
        rw [HE.out] at h9
        exact h9.next (by first | exact (Below.refl _ _).drew | exact Below.refl _ _)
    · have HE : Hid (b = b') := Lib.hid (by rw [← HBP.out, hsome]; rfl)
      (try simp only [Exit.inBlock, Exit.then])
      refine bodyPost_ret (results_none rfl _ _ _) rfl ?_
      refine ⟨rfl, ?_⟩
      rw [← HE.out]
      exact HB2.out.unbox
end
end Ix
end Go.Proofs.Ytednkcjmlpgipaa
/-
  The document's inbox: one that waits is taken out of the row.
-/
namespace Go.Proofs.Ytednkcjmlpgipaa
set_option maxRecDepth 4000
open Go.RowKit Go.Maps
namespace Ix
set_option linter.unusedVariables false
set_option linter.unusedSimpArgs false
open Fg (Pc Ms mv Pq)

theorem wfl_app (a b : List Wq) : wfl (a ++ b) = wfl a ++ wfl b := by simp [wfl]
theorem wfl_size (l : List Wq) : (wfl l).length = l.length * 5 := by
  induction l with
  | nil => rfl
  | cons q l ih =>
    have e : wfl (q :: l) = wcl q ++ wfl l := by simp [wfl]
    have hl : (wcl q).length = 5 := rfl
    rw [e, List.length_append, hl, ih, List.length_cons]
    omega
theorem wfl_take : ∀ (k : Nat) (l : List Wq), (wfl l).take (k * 5) = wfl (l.take k)
  | 0, l => by simp [wfl]
  | k + 1, [] => by simp [wfl]
  | k + 1, q :: l => by
    have e : wfl (q :: l) = wcl q ++ wfl l := by simp [wfl]
    have hl : (wcl q).length = 5 := rfl
    rw [e, List.take_append, hl, List.take_of_length_le (by rw [hl]; omega), show (k + 1) * 5 - 5 = k * 5 by omega, wfl_take k l]
    simp [wfl]
theorem wfl_drop : ∀ (k : Nat) (l : List Wq), (wfl l).drop (k * 5) = wfl (l.drop k)
  | 0, l => by simp
  | k + 1, [] => by simp [wfl]
  | k + 1, q :: l => by
    have e : wfl (q :: l) = wcl q ++ wfl l := by simp [wfl]
    have hl : (wcl q).length = 5 := rfl
    rw [e, List.drop_append, hl, List.drop_eq_nil_of_le (by rw [hl]; omega), show (k + 1) * 5 - 5 = k * 5 by omega, wfl_drop k l]
    simp
theorem wcut_front {w : World} {A : Option Addr} {l : List Wq} {c n : Nat} (h : Row w A (wfl l)) (hn : l.length = n) (hc : n ≤ c) (k : Nat) (hk : k ≤ n) : Row w (cutS A c 0 5) (wfl (l.take k)) := by
  have := h.cutS (c := c) (lo := 0) (hi := k) (sz := 5) (by omega) (by omega)
  rw [Nat.zero_mul, List.drop_zero, wfl_take] at this
  exact this
theorem wcut_row {w : World} {A : Option Addr} {l : List Wq} {c n : Nat} (h : Row w A (wfl l)) (hn : l.length = n) (hc : n ≤ c) (k : Nat) : Row w (cutS A c k 5) (wfl (l.drop k)) := by
  have := h.cutS (c := c) (lo := k) (hi := n) (sz := 5) hc (by omega)
  rw [List.take_of_length_le (by rw [wfl_size, hn]; exact Nat.le_refl _), wfl_drop] at this
  exact this
/-- An append of some that wait, possibly of none, as a step of a region that draws its order. -/
theorem wm_reg {w : World} {ops : Array Oper} {o : Oper} {a : Act} {K : Act → World → Prop} {Q : Exit → Act → World → Prop} {E : Prop} (hgd : o.guard = none) (s x : Operand)
    (ho : o.op = .call { callee := .builtin .append, args := #[s, x], argTypes := #[58, 58] }) (B : Nat) (A0 : Option Addr) (n c0 : Nat) (qs : List Wq) (hs : a.eval s = .slice A0 n c0) (hown : w.ownsRow B 115 5 (.slice A0 n c0) n (wfl qs))
    (A : Option Addr) (m c : Nat) (ps : List Wq) (hx : a.eval x = .slice A m c) (hl : ps.length = m) (hr : Row w A (wfl ps)) (hz : A = none → m = 0 ∧ c = 0) (N : Nat) (hN : n + m = N) (hb : N ≤ 1000000000) (hbase : B ≤ w.heap.size)
    (h : ∀ A' c' w', w'.ownsRow B 115 5 (.slice A' N c') N (wfl (qs ++ ps)) → w.grownBy w' (Value.slice A0 n c0).ownBlock → K (a.put o.dst (.slice A' N c')) w') :
    if Region.wanted o (yielded ops a.tmps) = true then Oper.wp Try.prog o a w K Q else E := by
  obtain ⟨i0, hi0, hz0, hz1, hz2⟩ := info_parts infoWq
  rw [if_pos (by simp [Region.wanted, hgd])]
  subst hN
  cases A with
  | none =>
    obtain ⟨rfl, rfl⟩ := hz rfl
    obtain rfl := List.eq_nil_of_length_eq_zero hl
    have hrun := run_append_owned_none (P := Try.prog) (w := w) B 58 o.type 115 i0 5 Try.underlying58 hi0 _ n (wfl qs) hown
    unfold Oper.wp
    simp [execOp, ho, resolve, invoke, builtin, hs, hx, hrun, Result.andThen]
    exact h A0 c0 w (by simpa using hown) ⟨rfl, rfl, rfl, Nat.le_refl _, fun _ _ _ => rfl⟩
  | some ad =>
    refine wp_append_own w s x 58 ho B 115 i0 _ 5 40 Try.underlying58 hi0 hz0 hz1 hz2 rfl (by omega) _ n (wfl qs) hs hown ad m c (wfl ps) hx (by rw [wfl_size, hl]) (bcells hr) (fun u hu => ?_) (by unfold maxLen; omega) (by omega) hbase ?_
    · obtain ⟨q, _, hq⟩ := List.mem_flatMap.1 hu
      exact wcl_one q u hq
    · intro v' w2 ho2 hg2 _
      obtain ⟨A', c', rfl⟩ := own_form ho2
      exact h A' c' w2 (by rw [wfl_app]; exact ho2) hg2
/-- What is taken out by its place is taken out by its key. -/
theorem out_gen {α β : Type} {eplain : α → β} {wkey : β → Nat} : ∀ {wl : List α} {i t : Nat} (hi : i < wl.length), wkey (eplain wl[i]) = t → (wl.map eplain).Pairwise (fun a b => wkey a ≠ wkey b) → (wl.take i ++ wl.drop (i + 1)).map eplain = adel wkey (wl.map eplain) t
  | q :: wl, 0, t, _, ht, ha => by
    obtain ⟨h1, _⟩ := List.pairwise_cons.1 (show (eplain q :: wl.map eplain).Pairwise _ from ha)
    have ht : wkey (eplain q) = t := ht
    have e : adel wkey (wl.map eplain) t = wl.map eplain := by
      unfold adel
      rw [List.filter_eq_self]
      intro p hp
      have h3 := h1 p hp
      rw [Bool.not_eq_true', beq_eq_false_iff_ne]
      exact fun e => h3 (ht.trans e.symm)
    have e2 : adel wkey ((q :: wl).map eplain) t = adel wkey (wl.map eplain) t := by
      unfold adel
      rw [List.map_cons, List.filter_cons]
      simp [ht]
    rw [e2, e]
    simp
  | q :: wl, i + 1, t, h, ht, ha => by
    obtain ⟨h1, h2⟩ := List.pairwise_cons.1 (show (eplain q :: wl.map eplain).Pairwise _ from ha)
    have hi : i < wl.length := by simpa using h
    have ht : wkey (eplain wl[i]) = t := by simpa using ht
    have ih := out_gen hi ht h2
    have hne : wkey (eplain q) ≠ t := fun e => h1 (eplain wl[i]) (List.mem_map_of_mem (List.getElem_mem hi)) (e.trans ht.symm)
    have e2 : adel wkey ((q :: wl).map eplain) t = eplain q :: adel wkey (wl.map eplain) t := by
      unfold adel
      rw [List.map_cons, List.filter_cons]
      simp [hne]
    rw [e2, ← ih]
    simp
theorem out_key {wl : List Wq} {i t : Nat} (hi : i < wl.length) (h : wkey (eplain wl[i]) = t) (ha : Alone wkey (wl.map eplain)) : (wl.take i ++ wl.drop (i + 1)).map eplain = adel wkey (wl.map eplain) t := out_gen hi h ha
end Ix
end Go.Proofs.Ytednkcjmlpgipaa
/-
  The document's inbox: what find answers is one number.
-/
namespace Go.Proofs.Ytednkcjmlpgipaa
set_option maxRecDepth 4000
open Go.RowKit Go.Maps
namespace Ix
set_option linter.unusedVariables false
set_option linter.unusedSimpArgs false

theorem wat_uniq {wl : List Wq} {s n : Nat} {r r' : Int} (h : WAt wl s n r) (h' : WAt wl s n r') : r = r' := by
  rcases h with ⟨rfl, hno⟩ | ⟨i, hi, rfl, hit, hfst⟩ <;> rcases h' with ⟨rfl, hno'⟩ | ⟨i', hi', rfl, hit', hfst'⟩
  · rfl
  · exact absurd hit' (hno _ (List.getElem_mem hi'))
  · exact absurd hit (hno' _ (List.getElem_mem hi))
  · rcases Nat.lt_trichotomy i i' with h1 | h1 | h1
    · exact absurd hit (hfst' i h1)
    · rw [h1]
    · exact absurd hit' (hfst i' h1)
theorem wat_ex : ∀ (wl : List Wq) (s n : Nat), ∃ r, WAt wl s n r
  | [], s, n => ⟨-1, .inl ⟨rfl, fun q hq => by simp at hq⟩⟩
  | q :: wl, s, n => by
    by_cases h : q.1.1.s = s ∧ q.2 = n
    · exact ⟨0, .inr ⟨0, by simp, rfl, h, fun k hk => by omega⟩⟩
    · obtain ⟨r, hr⟩ := wat_ex wl s n
      rcases hr with ⟨rfl, hno⟩ | ⟨i, hi, rfl, hit, hfst⟩
      · exact ⟨-1, .inl ⟨rfl, fun p hp => by
          rcases List.mem_cons.1 hp with rfl | hp
          · exact h
          · exact hno p hp⟩⟩
      · refine ⟨((i + 1 : Nat) : Int), .inr ⟨i + 1, by simpa using hi, rfl, by simpa using hit, fun k hk => ?_⟩⟩
        cases k with
        | zero => exact h
        | succ k => exact hfst k (by omega)
theorem dwfind_fix {W : World} {x : Nat} {A : Option Addr} {n c : Nat} {qs : List Wq} (c6 : W.cell? ⟨x, 65541, none⟩ = some (.slice A n c)) (hl : qs.length = n) (hn : n ≤ 10000000) (hnc : n ≤ c) (hcm : c ≤ maxLen) (hr : Row W A (wfl qs)) (s t : Nat) {r : Int} (h : WAt qs s t r) :
    Calls Try.prog 95 #[.pointer (some ⟨x, 0, none⟩), .int .u16 (s : Int), .int .u16 (t : Int)] W fun e w' => e = .returned (.int .i64 r) ∧ W = w' :=
  (dwfind_any c6 hl hn hnc hcm hr s t).mono fun e w' ⟨⟨r', h1, h2⟩, h3⟩ => ⟨by rw [h1, wat_uniq h2 h], h3⟩
end Ix
end Go.Proofs.Ytednkcjmlpgipaa
/-
  The document's inbox: a message that is whole, whose turn it is: plainly, one round.
-/
namespace Go.Proofs.Ytednkcjmlpgipaa
set_option maxRecDepth 4000
open Go.RowKit Go.Maps
namespace Ix
set_option linter.unusedVariables false
set_option linter.unusedSimpArgs false
open Fg (Pc Ms mv Pq)

theorem turn_nxt {b : Ib} {m : Ms} (h : m.s < b.nx.length) : (b.turn m).nxt m.s = (b.nxt m.s + 1) % 65536 := by
  unfold Ib.turn
  show (b.nx.set m.s ((b.nxt m.s + 1) % 65536)).getD m.s 0 = _
  rw [List.getD, List.getElem?_set, if_pos rfl, if_pos h]
  rfl
theorem wat_same {wl wl' : List Wq} (h : wl.map eplain = wl'.map eplain) {s n : Nat} {r : Int} (hw : WAt wl s n r) : WAt wl' s n r := by
  have hl : wl.length = wl'.length := by simpa using congrArg List.length h
  have he : ∀ i (hi : i < wl.length), wl[i].1.1 = (wl'[i]'(by omega)).1.1 ∧ wl[i].2 = (wl'[i]'(by omega)).2 := fun i hi => by
    have h1 : (wl.map eplain)[i]'(by simpa using hi) = (wl'.map eplain)[i]'(by simpa using (by omega : i < wl'.length)) := by simp only [h]
    rw [List.getElem_map, List.getElem_map] at h1
    unfold eplain at h1
    injection h1 with h2 h3
    exact ⟨h2, h3⟩
  rcases hw with ⟨rfl, hno⟩ | ⟨i, hi, rfl, hit, hfst⟩
  · refine .inl ⟨rfl, fun q hq => ?_⟩
    obtain ⟨i, hi, rfl⟩ := List.getElem_of_mem hq
    obtain ⟨e1, e2⟩ := he i (by omega)
    rw [← e1, ← e2]
    exact hno _ (List.getElem_mem _)
  · refine .inr ⟨i, by omega, rfl, ?_, fun k hk => ?_⟩
    · obtain ⟨e1, e2⟩ := he i hi
      rw [← e1, ← e2]
      exact hit
    · obtain ⟨e1, e2⟩ := he k (by omega)
      rw [← e1, ← e2]
      exact hfst k hk
/-- How it stands in a round: bb is b0 with the message m0 told; r is where the next one waits. -/
structure Tw (b0 : Ib) (m0 : Ms) (bb : Ib) (s gq : Nat) (r : Int) (b' : Ib) : Prop where
  turn : b0.turn m0 = bb
  len : b0.ws.length = gq
  sid : m0.s = s
  lt : s < b0.nx.length
  ws : ∀ e ∈ b0.ws, e.2 < 65536
  al : Alone wkey b0.ws
  nxl : b0.nx.length < 65536
  room : bb.rd.length + b0.ws.length ≤ 1048577
  wat : ∀ wl : List Wq, wl.map eplain = b0.ws → WAt wl s (bb.nxt s) r
  go : goOn (b0.ws.length + 1) b0 m0 = b'
section
variable {b0 bb b' : Ib} {m0 : Ms} {s gq : Nat} {r : Int}
theorem Tw.nxt (h : Tw b0 m0 bb s gq r b') : bb.nxt s = (b0.nxt s + 1) % 65536 := by
  rw [← h.turn, ← h.sid]
  exact turn_nxt (by rw [h.sid]; exact h.lt)
theorem Tw.key (h : Tw b0 m0 bb s gq r b') : b0.nk m0 = s * 65536 + bb.nxt s := by
  rw [h.nxt]
  unfold Ib.nk
  rw [h.sid]
theorem Tw.bws (h : Tw b0 m0 bb s gq r b') : bb.ws = b0.ws := by rw [← h.turn]; rfl
theorem Tw.bnx (h : Tw b0 m0 bb s gq r b') : bb.nx.length = b0.nx.length := by rw [← h.turn]; simp [Ib.turn]
/-- Nothing more waits. -/
theorem Tw.fin (h : Tw b0 m0 bb s gq r b') (hn : alook wkey b0.ws (s * 65536 + bb.nxt s) = none) : bb = b' := by
  rw [← h.go, goOn_none (by rw [h.key]; exact hn), h.turn]
/-- One more is told. -/
theorem Tw.more (h : Tw b0 m0 bb s gq r b') {e : Ms × Nat} (hn : alook wkey b0.ws (s * 65536 + bb.nxt s) = some e) (hes : e.1.s = s) {wl : List Wq} (hw : wl.map eplain = adel wkey b0.ws (s * 65536 + bb.nxt s)) {r' : Int}
    (hr : WAt wl s (((bb.less (s * 65536 + bb.nxt s)).turn e.1).nxt s) r') : ∃ g, g < gq ∧ Tw (bb.less (s * 65536 + bb.nxt s)) e.1 ((bb.less (s * 65536 + bb.nxt s)).turn e.1) s g r' b' := by
  obtain ⟨_, hd⟩ := ws_del h.al hn
  refine ⟨(adel wkey b0.ws (s * 65536 + bb.nxt s)).length, by have := h.len; omega, rfl, ?_, hes, ?_, ?_, ?_, ?_, ?_, ?_, ?_⟩
  · show (adel wkey bb.ws _).length = _
    rw [h.bws]
  · show s < bb.nx.length
    rw [h.bnx]; exact h.lt
  · intro y hy
    have hy2 : y ∈ adel wkey bb.ws (s * 65536 + bb.nxt s) := hy
    rw [h.bws] at hy2
    exact h.ws y (mem_del hy2)
  · show Alone wkey (adel wkey bb.ws _)
    rw [h.bws]
    exact alone_del h.al
  · show bb.nx.length < 65536
    rw [h.bnx]; exact h.nxl
  · show (bb.rd ++ [e.1]).length + (adel wkey bb.ws _).length ≤ 1048577
    rw [h.bws, List.length_append]
    have := h.room
    simp only [List.length_cons, List.length_nil]
    omega
  · intro wl' hw'
    refine wat_same ?_ hr
    rw [hw, hw']
    show _ = adel wkey bb.ws _
    rw [h.bws]
  · rw [← h.go]
    have e1 : (bb.less (s * 65536 + bb.nxt s)).ws.length + 1 = b0.ws.length := by
      show (adel wkey bb.ws _).length + 1 = _
      rw [h.bws]
      exact hd
    rw [e1, goOn_some (f := b0.ws.length) (by rw [h.key]; exact hn), h.turn, h.key]
end
/-- The message of one that waits, in memory. -/
theorem wfl_at4 {W : World} {A : Option Addr} {qs : List Wq} (h : Row W A (wfl qs)) {i : Nat} (hi : i < qs.length) :
    ∃ a, A = some a ∧ W.cell? (a.add (i * 5)) = some (.int .u16 (qs[i].1.1.s : Int)) ∧ W.cell? { block := (a.add (i * 5)).block, off := (a.add (i * 5)).off + 1 } = some (.bool qs[i].1.1.u) ∧ W.cell? { block := (a.add (i * 5)).block, off := (a.add (i * 5)).off + 2 } = some (.int .u32 (qs[i].1.1.p : Int)) ∧ W.cell? { block := (a.add (i * 5)).block, off := (a.add (i * 5)).off + 3 } = some (.slice qs[i].1.2.1 qs[i].1.2.2.1 qs[i].1.2.2.2) := by
  have hk : ∀ (a : Addr) (j : Nat), 0 < j → a.add (i * 5 + j) = { block := (a.add (i * 5)).block, off := (a.add (i * 5)).off + j } := fun a j hj => by
    unfold Addr.add
    by_cases h0 : i * 5 = 0
    · simp [h0, show j ≠ 0 by omega]
    · simp [h0, Nat.add_assoc]
  obtain ⟨a, rfl, k0⟩ := h _ _ ((wfl_get hi 0 (by omega)).trans rfl)
  obtain ⟨b, hb, k1⟩ := h _ _ ((wfl_get hi 1 (by omega)).trans rfl)
  injection hb with hb
  subst hb
  obtain ⟨b, hb, k2⟩ := h _ _ ((wfl_get hi 2 (by omega)).trans rfl)
  injection hb with hb
  subst hb
  obtain ⟨b, hb, k3⟩ := h _ _ ((wfl_get hi 3 (by omega)).trans rfl)
  injection hb with hb
  subst hb
  rw [hk _ _ (by omega)] at k1 k2 k3
  exact ⟨a, rfl, k0, k1, k2, k3⟩
end Ix
end Go.Proofs.Ytednkcjmlpgipaa
/-
  The document's inbox: its set is asked, and turned; a block beside the inbox.
-/
namespace Go.Proofs.Ytednkcjmlpgipaa
set_option maxRecDepth 4000
open Go.RowKit Go.Maps
namespace Ix
set_option linter.unusedVariables false
set_option linter.unusedSimpArgs false
open Fg (Pc Ms mv Pq)

theorem parts_st (i : Dv) (x : Nat) (b : Ib) (L : List Me) (R : List As) (st : Gp.St) : (i.parts x b L R).set 1 (DSs i.s st) = i.parts x { b with st := st } L R := rfl
section
variable {W w : World} {x : Nat} {b : Ib} {L : List Me} {R : List As}
/-- A new block lies beside the inbox. -/
theorem DX.box (h : DX W w x b L R) (cs : Array Value) (t : TypeId) : DX W (w.alloc (.cells cs t)) x b L (BkA w.heap.size cs t :: R) := by
  obtain ⟨i, hN, hf⟩ := h
  exact ⟨i, (hN.box cs t).perm (by unfold Dv.parts; exact List.perm_middle (l₁ := [_, _, _, _, _, _]).symm), hf⟩
theorem DX.less {a : As} (h : DX W w x b L (a :: R)) : DX W w x b L R := by
  obtain ⟨i, hN, hf⟩ := h
  have h2 := hN.perm (l' := a :: i.parts x b L R) (by unfold Dv.parts; exact List.perm_middle (l₁ := [_, _, _, _, _, _]))
  exact ⟨i, h2.drop, hf⟩
theorem DX.bkR {g : Nat} {cs : Array Value} {t : TypeId} (h : DX W w x b L (BkA g cs t :: R)) : Bk w g cs t := by
  obtain ⟨i, hN, hf⟩ := h
  exact hN.bk (k := 6) rfl
/-- Its set. -/
theorem DX.set (h : DX W w x b L R) {t : Nat} (ht : t < 4294967296) : ∃ s, (∀ w2, Below w.heap.size w w2 → w2.cell? ⟨x, 3, none⟩ = some (.pointer (some ⟨s, 0, none⟩)) ∧ w2.cell? ⟨s, 0, none⟩ = some (.int .u32 (b.st.cum : Int)) ∧
    (Calls Try.prog 57 #[.pointer (some ⟨s, 0, none⟩), .int .u32 (t : Int)] w2 fun e w' => e = .returned (.bool (b.st.has t)) ∧ w2 = w') ∧
    (Calls Try.prog 58 #[.pointer (some ⟨s, 0, none⟩), .int .u32 (t : Int)] w2 fun e w' => e = .returned (.int .u8 ((b.st.add t).2 : Nat)) ∧ DX W w' x (b.noted t) L R)) := by
  obtain ⟨i, hN, hf⟩ := h
  refine ⟨i.s, fun w2 hb => ?_⟩
  have h2 := hN.next hb
  have hbx := h2.bk (k := 0) rfl
  obtain ⟨F, r, hh⟩ := h2.turn (k := 1) rfl
  obtain ⟨vw, v, hsb, _⟩ := id r
  refine ⟨(hbx.cell 3).trans dxc_head.2.2.2.1, (hsb.cell 0).trans rfl, Gp.rhas_any w2 F i.s t b.st r ht, ?_⟩
  refine (Gp.radd_any w2 F i.s t b.st r ht).mono ?_
  rintro e w' ⟨F', h1, h3, h4⟩
  have h5 := hh w' F' (DSs i.s (b.st.add t).1) h4 h3
  have e1 := parts_st i x b L R (b.st.add t).1
  rw [e1] at h5
  refine ⟨h1, i, h5, ?_⟩
  clear h5 e1 h4 h3 h1 hh r
  unfold Ib.noted Ib.setSt
  generalize (b.st.add t).1 = st2
  exact ⟨hf.nx, hf.nxs, hf.qs, hf.ws, hf.rd, hf.inw, hf.inr, hf.dat, hf.dq⟩
end
end Ix
end Go.Proofs.Ytednkcjmlpgipaa
/-
  The document's inbox is made: its parts.
-/
namespace Go.Proofs.Ytednkcjmlpgipaa
set_option maxRecDepth 4000
open Go.RowKit Go.Maps
namespace Ix
set_option linter.unusedVariables false
set_option linter.unusedSimpArgs false
open Fg (Pc Ms mv Pq)

section
variable {W w : World} {R : List As}
theorem bk_set {s c : Nat} {F : Nat → Prop} (hc : c < 4294967296) (h : BkR s #[.int .u32 (c : Int), .slice none 0 0, .slice none 0 0] 54 w F) : Gp.DSet w F s ⟨c, [], []⟩ :=
  ⟨.slice none 0 0, .slice none 0 0, h.1, Ir.nil _ _ _, Ir.nil _ _ _, h.2.1, (fun g e => by cases e), (fun g e => by cases e), h.2.2, Gp.new_ok c hc⟩
theorem bk_join {j : Nat} {F : Nat → Prop} (h : BkR j #[.slice none 0 0] 103 w F) : DJR j [] w F :=
  ⟨none, 0, 0, h.1, World.ownsRow_nil _ _ _ _, rfl, Nat.zero_le _, h.2.1, (fun g e => by cases e), h.2.2⟩
theorem dnew_dx (h : Nw W w R) (n : Nat) (room most : Int) (c : Nat) (hn : n < 65536) (hc : c < 4294967296) :
    Calls Try.prog 10 #[.int .u16 (n : Int), .int .i64 room, .int .i64 most, .int .u32 (c : Int)] w fun e w' => ∃ x, e = .returned (.pointer (some ⟨x, 0, none⟩)) ∧ DX W w' x ⟨bnd room, bnd most, ⟨c, [], []⟩, [], List.replicate n 0, [], []⟩ [] R := by
  refine (dinew_any n room most c w).mono ?_
  rintro e w' ⟨rfl, rfl⟩
  refine ⟨_, rfl, ⟨w.heap.size, w.heap.size + 1, List.replicate 65536 0, .slice none 0 0, .slice none 0 0, [], [], []⟩, ?_, ?_⟩
  · have h1 := (h.box #[.int .u32 (c : Int), .slice none 0 0, .slice none 0 0] 54).sub (k := 0) (b := DSs w.heap.size ⟨c, [], []⟩) rfl (fun F hF => bk_set hc hF)
    have h2 := (h1.box #[.slice none 0 0] 103).sub (k := 0) (b := DJs (w.heap.size + 1) []) rfl (fun F hF => by
      have h3 : BkR (w.alloc (.cells #[.int .u32 (c : Int), .slice none 0 0, .slice none 0 0] 54)).heap.size #[.slice none 0 0] 103 _ F := hF
      rw [show (w.alloc (.cells #[.int .u32 (c : Int), .slice none 0 0, .slice none 0 0] 54)).heap.size = w.heap.size + 1 by simp] at h3
      exact bk_join h3)
    have h3 : Nw W _ (DJs (w.heap.size + 1) [] :: DSs w.heap.size ⟨c, [], []⟩ :: R) := h2
    have h4 : Nw W _ (DSs w.heap.size ⟨c, [], []⟩ :: DJs (w.heap.size + 1) [] :: R) := h3.perm (List.Perm.swap _ _ _)
    have h5 := h4.box (dxc n (bnd room) (bnd most) w.heap.size (w.heap.size + 1) (List.replicate 65536 0) (.slice none 0 0) (.slice none 0 0)) 61
    rw [show ((w.alloc (.cells #[.int .u32 (c : Int), .slice none 0 0, .slice none 0 0] 54)).alloc (.cells #[.slice none 0 0] 103)).heap.size = w.heap.size + 1 + 1 by simp] at h5
    have h6 := ((h5.more (Below.refl _ _) (DatA []) (F1 := fun _ => False) ⟨fun e he => by simp at he, fun k h => h.elim⟩ (fun k h => h.elim)).more (Below.refl _ _) (QuA (.slice none 0 0) []) (F1 := fun _ => False) ⟨Qu.nil _ _ _, fun g hg => by simp [Value.ownBlock] at hg, fun k h => h.elim⟩ (fun k h => h.elim)).more (Below.refl _ _) (WaA (.slice none 0 0) []) (F1 := fun _ => False) ⟨World.ownsRow_nil _ _ _ _, fun g hg => by simp [Value.ownBlock] at hg, fun k h => h.elim⟩ (fun k h => h.elim)
    generalize List.replicate 65536 0 = nx at h6 ⊢
    have hr : (List.replicate n 0 : List Nat).length = n := List.length_replicate
    show Nw W _ (BkA _ (dxc (List.replicate n 0).length _ _ _ _ _ _ _) _ :: _)
    rw [hr]
    exact h6.perm (by
      refine List.Perm.trans (List.perm_middle (l₁ := [_, _, _])) ?_
      refine List.Perm.cons _ ?_
      refine List.Perm.trans (List.perm_middle (l₁ := [_, _, _])) ?_
      refine List.Perm.cons _ ?_
      exact List.perm_middle (l₁ := [_, _, _]))
  · refine ⟨List.length_replicate, fun k hk => ?_, rfl, rfl, rfl, fun e he => by simp at he, fun e he => by simp at he, fun e he => by simp at he, fun e he => by simp at he⟩
    have hk2 : k < n := by simpa using hk
    simp only [List.getD, List.getElem?_replicate]
    rw [if_pos (by omega), if_pos hk2]
end
end Ix
end Go.Proofs.Ytednkcjmlpgipaa
/-
  The document's inbox: the first message that is ready is taken.
-/
namespace Go.Proofs.Ytednkcjmlpgipaa
set_option maxRecDepth 4000
open Go.RowKit Go.Maps
namespace Ix
set_option linter.unusedVariables false
set_option linter.unusedSimpArgs false
open Fg (Pc Ms mv Pq)

theorem qu_tail {w : World} {e : TypeId} {sz g off n c : Nat} {xs : List Value} (h : Qu w e sz (.slice (some ⟨g, off, none⟩) (n + 1) c) (n + 1) xs) :
    Qu w e sz (.slice (if c = 1 then some ⟨g, off, none⟩ else some ⟨g, off + sz, none⟩) n (c - 1)) n (xs.drop sz) := by
  obtain ⟨h1, h2⟩ := h
  rcases h2 with ⟨h3, _⟩ | ⟨g', off', cap, cur, hv, hg, hn, hc, hs, hx⟩
  · cases h3
  · simp only [Value.slice.injEq, Option.some.injEq, Addr.mk.injEq] at hv
    obtain ⟨⟨rfl, rfl, _⟩, _, rfl⟩ := hv
    refine ⟨by rw [List.length_drop, h1, Nat.add_mul]; omega, .inr ?_⟩
    by_cases hc1 : c = 1
    · subst hc1
      obtain rfl : n = 0 := by omega
      refine ⟨g, off, 0, cur, by simp, hg, Nat.le_refl _, Nat.zero_le _, by omega, fun j u hu => ?_⟩
      have := (List.getElem?_eq_some_iff.1 hu).1
      rw [List.length_drop, h1] at this
      omega
    · refine ⟨g, off + sz, c - 1, cur, by rw [if_neg hc1], hg, by omega, by omega, ?_, fun j u hu => ?_⟩
      · have : c * sz = (c - 1) * sz + sz := by
          obtain ⟨k, rfl⟩ : ∃ k, c = k + 1 := ⟨c - 1, by omega⟩
          rw [Nat.add_sub_cancel, Nat.add_mul, Nat.one_mul]
        omega
      · rw [List.getElem?_drop] at hu
        have := hx (sz + j) u hu
        rw [show off + sz + j = off + (sz + j) by omega]
        exact this
theorem quA_tail {w : World} {g off n c : Nat} {e : Me} {rM : List Me} {F : Nat → Prop} (hn : rM.length = n) (h : QuR (.slice (some ⟨g, off, none⟩) (n + 1) c) (e :: rM) w F) : QuR (.slice (if c = 1 then some ⟨g, off, none⟩ else some ⟨g, off + 4, none⟩) n (c - 1)) rM w F := by
  subst hn
  obtain ⟨h1, h2, h3⟩ := h
  have h4 := qu_tail h1
  have e1 : (mf (e :: rM)).drop 4 = mf rM := by
    have : mf (e :: rM) = mcl e ++ mf rM := by simp [mf]
    rw [this]
    rfl
  rw [e1] at h4
  exact ⟨h4, fun k hk => h2 k (by split at hk <;> exact hk), h3⟩
section
variable {W w : World} {x : Nat} {b : Ib} {L : List Me} {R : List As}
set_option maxHeartbeats 4000000 in
theorem drecv_any (h : DX W w x b L R) :
    Calls Try.prog 14 #[.pointer (some ⟨x, 0, none⟩)] w fun e w' => (b.rd = [] ∧ e = .returned (.tuple #[.agg #[.int .u16 0, .bool false, .int .u32 0, .slice none 0 0], .bool false]) ∧ DX W w' x b L R) ∨
      ∃ (m : Ms) (l : List Ms) (A : Option Addr) (k c : Nat), b.rd = m :: l ∧ (m, (A, k, c)) ∈ L ∧ e = .returned (.tuple #[.agg #[.int .u16 (m.s : Int), .bool m.u, .int .u32 (m.p : Int), .slice A k c], .bool true]) ∧ DX W w' x { b with rd := l } L R := by
  obtain ⟨i, hN, hf⟩ := h
  obtain ⟨ps, pj, nx, vw, vr, qs, wl, rM⟩ := i
  have hnx := hf.nx
  simp only at hnx
  have HF := Lib.hid hf
  have HN1 := Lib.hid (hN.box #[.int .u16 0, .bool false, .int .u32 0, .slice none 0 0] 39)
  clear hf hN
  go_enter Try.func14, Try.ntmps14
  go_upto_region 1 with fail
  generalize w.alloc (.cells #[.int .u16 0, .bool false, .int .u32 0, .slice none 0 0] 39) = w1 at HN1 ⊢
  generalize w.heap.size = g at HN1 ⊢
  obtain ⟨Fq, hq, _⟩ := HN1.out.at (k := 5) rfl
  obtain ⟨A0, c0, hv0, hle, hcm⟩ := hq.1.form
  simp only at hv0 hle
  subst hv0
  have hbx := HN1.out.bk (k := 1) rfl
  have hbg := HN1.out.bk (k := 0) rfl
  have c7 : w1.cell? ⟨x, 65542, none⟩ = some (.slice A0 rM.length c0) := (hbx.cell 65542).trans (dxc_ready hnx)
  have HQ := Lib.hid hq
  have r0 : w1.cell? ⟨g, 0, none⟩ = some (.int .u16 0) := hbg.cell 0
  have r1 : w1.cell? ⟨g, 1, none⟩ = some (.bool false) := hbg.cell 1
  have r2 : w1.cell? ⟨g, 2, none⟩ = some (.int .u32 0) := hbg.cell 2
  have r3 : w1.cell? ⟨g, 3, none⟩ = some (.slice none 0 0) := hbg.cell 3
  have f0 := hbg.frozen 0
  have f1 := hbg.frozen 1
  have f2 := hbg.frozen 2
  have f3 := hbg.frozen 3
  clear hbx hbg hq
  cases rM with
  | nil =>
    have HRD : Hid (b.rd = []) := Lib.hid HF.out.rd.symm
    simp only [List.length_nil] at c7
    go_wp2_with fail
    generalize hW9 : World.setCell (World.setCell (World.setCell (World.setCell w1 _ _) _ _) _ _) _ _ = W9
    have HN9 := Lib.hid ((((HN1.out.store (k := 0) rfl 0 (.int .u16 0)).store (k := 0) rfl 1 (.bool false)).store (k := 0) rfl 2 (.int .u32 0)).store (k := 0) rfl 3 (.slice none 0 0))
    rw [hW9] at HN9
    have hb9 := HN9.out.bk (k := 0) rfl
    have z0 : W9.cell? ⟨g, 0, none⟩ = some (.int .u16 0) := hb9.cell 0
    have z1 : W9.cell? ⟨g, 1, none⟩ = some (.bool false) := hb9.cell 1
    have z2 : W9.cell? ⟨g, 2, none⟩ = some (.int .u32 0) := hb9.cell 2
    have z3 : W9.cell? ⟨g, 3, none⟩ = some (.slice none 0 0) := hb9.cell 3
    refine bodyPost_ret (v := .tuple #[.agg #[.int .u16 0, .bool false, .int .u32 0, .slice none 0 0], .bool false]) (by simp [results, Try.results14, go_sem, z0, z1, z2, z3]) rfl ?_
    exact .inl ⟨HRD.out, rfl, ⟨ps, pj, nx, vw, .slice A0 0 c0, qs, wl, []⟩, HN9.out.drop, HF.out⟩
  | cons e rM =>
    obtain ⟨m, A, k, c⟩ := e
    obtain ⟨gq, off, cq, hv⟩ := HQ.out.1.pos (by simp)
    simp only [Value.slice.injEq] at hv
    obtain ⟨rfl, _, rfl⟩ := hv
    have hq1 := HQ.out.1
    have q0 : w1.cell? ⟨gq, off, none⟩ = some (.int .u16 (m.s : Int)) := by
      have := hq1.cellAt (j := 0) (u := .int .u16 (m.s : Int)) rfl
      simpa using this
    have q1 : w1.cell? ⟨gq, off + 1, none⟩ = some (.bool m.u) := hq1.cellAt (j := 1) (u := .bool m.u) rfl
    have q2 : w1.cell? ⟨gq, off + 2, none⟩ = some (.int .u32 (m.p : Int)) := hq1.cellAt (j := 2) (u := .int .u32 (m.p : Int)) rfl
    have q3 : w1.cell? ⟨gq, off + 3, none⟩ = some (.slice A k c) := hq1.cellAt (j := 3) (u := .slice A k c) rfl
    have hlen : (((m, (A, k, c)) :: rM : List Me)).length = rM.length + 1 := rfl
    rw [hlen] at c7 hle
    have hz : (((rM.length + 1 : Nat) : Int) == 0) = false := by rw [beq_eq_false_iff_ne]; omega
    have hk2 := fun W => run_cut_front (P := Try.prog) (n := rM.length) (g := gq) (off := off) (c := c0) Try.underlying59 size4 W
    have HML : Hid ((m, (A, k, c)) ∈ L) := Lib.hid (HF.out.inr _ (List.mem_cons_self ..))
    obtain ⟨l, hl⟩ : ∃ l, rM.map (·.1) = l := ⟨_, rfl⟩
    have HRD : Hid (b.rd = m :: l) := Lib.hid (by have := HF.out.rd; rw [← this, ← hl]; rfl)
    have HLL := Lib.hid hl
    clear hl hq1 hlen HQ
    obtain ⟨n, hn⟩ : ∃ n, rM.length = n := ⟨_, rfl⟩
    have HNN := Lib.hid hn
    rw [hn] at c7 hz hk2 hle
    clear hn
    go_upto_region 4 with fail
    have HN2 := Lib.hid (HN1.out.box #[.int .u16 (m.s : Int), .bool m.u, .int .u32 (m.p : Int), .slice A k c] 39)
    clear HN1 q0 q1 q2 q3 c7 r0 r1 r2 r3 f0 f1 f2 f3
    generalize w1.alloc (.cells #[.int .u16 (m.s : Int), .bool m.u, .int .u32 (m.p : Int), .slice A k c] 39) = w2 at HN2 ⊢
    generalize w1.heap.size = g2 at HN2 ⊢
    have hbx := HN2.out.bk (k := 2) rfl
    have c7 : w2.cell? ⟨x, 65542, none⟩ = some (.slice (some ⟨gq, off, none⟩) (n + 1) c0) := (hbx.cell 65542).trans (by rw [dxc_ready hnx, ← HNN.out]; rfl)
    have f7 := hbx.frozen 65542
    clear hbx
    obtain ⟨A2, hA2⟩ : ∃ A2, (if c0 = 1 then some (⟨gq, off, none⟩ : Addr) else some ⟨gq, off + 4, none⟩) = A2 := ⟨_, rfl⟩
    rw [hA2] at hk2
    have HN3 := Lib.hid ((HN2.out.store (k := 2) rfl 65542 (.slice A2 n (c0 - 1))).sub (k := 6) (b := QuA (.slice A2 n (c0 - 1)) rM) rfl (fun F hF => by
      have h1 := quA_tail (n := n) HNN.out (by have h2 : QuR (.slice (some ⟨gq, off, none⟩) (rM.length + 1) c0) ((m, (A, k, c)) :: rM) _ F := hF; rw [HNN.out] at h2; exact h2)
      rw [hA2] at h1
      exact h1))
    clear HN2 hA2
    go_upto_region 5 with fail
    generalize w2.setCell ⟨x, 65542, none⟩ (.slice A2 n (c0 - 1)) = w3 at HN3 ⊢
    clear c7 f7 hk2
    have hb0 := HN3.out.bk (k := 0) rfl
    have hb1 := HN3.out.bk (k := 1) rfl
    have a0 : w3.cell? ⟨g2, 0, none⟩ = some (.int .u16 (m.s : Int)) := hb0.cell 0
    have a1 : w3.cell? ⟨g2, 1, none⟩ = some (.bool m.u) := hb0.cell 1
    have a2 : w3.cell? ⟨g2, 2, none⟩ = some (.int .u32 (m.p : Int)) := hb0.cell 2
    have a3 : w3.cell? ⟨g2, 3, none⟩ = some (.slice A k c) := hb0.cell 3
    have r0 : w3.cell? ⟨g, 0, none⟩ = some (.int .u16 0) := hb1.cell 0
    have r1 : w3.cell? ⟨g, 1, none⟩ = some (.bool false) := hb1.cell 1
    have r2 : w3.cell? ⟨g, 2, none⟩ = some (.int .u32 0) := hb1.cell 2
    have r3 : w3.cell? ⟨g, 3, none⟩ = some (.slice none 0 0) := hb1.cell 3
    have f0 := hb1.frozen 0
    have f1 := hb1.frozen 1
    have f2 := hb1.frozen 2
    have f3 := hb1.frozen 3
    clear hb0 hb1
    go_wp2_with fail
    generalize hW9 : World.setCell (World.setCell (World.setCell (World.setCell w3 _ _) _ _) _ _) _ _ = W9
    have HN9 := Lib.hid ((((HN3.out.store (k := 1) rfl 0 (.int .u16 (m.s : Int))).store (k := 1) rfl 1 (.bool m.u)).store (k := 1) rfl 2 (.int .u32 (m.p : Int))).store (k := 1) rfl 3 (.slice A k c))
    rw [hW9] at HN9
    have hb9 := HN9.out.bk (k := 1) rfl
    have z0 : W9.cell? ⟨g, 0, none⟩ = some (.int .u16 (m.s : Int)) := hb9.cell 0
    have z1 : W9.cell? ⟨g, 1, none⟩ = some (.bool m.u) := hb9.cell 1
    have z2 : W9.cell? ⟨g, 2, none⟩ = some (.int .u32 (m.p : Int)) := hb9.cell 2
    have z3 : W9.cell? ⟨g, 3, none⟩ = some (.slice A k c) := hb9.cell 3
    refine bodyPost_ret (v := .tuple #[.agg #[.int .u16 (m.s : Int), .bool m.u, .int .u32 (m.p : Int), .slice A k c], .bool true]) (by simp [results, Try.results14, go_sem, z0, z1, z2, z3]) rfl ?_
    refine .inr ⟨m, l, HRD.out, A, k, c, HML.out, rfl, ⟨ps, pj, nx, vw, .slice A2 n (c0 - 1), qs, wl, rM⟩, ?_, ⟨HF.out.nx, HF.out.nxs, HF.out.qs, HF.out.ws, HLL.out, HF.out.inw, fun e he => HF.out.inr e (List.mem_cons_of_mem _ he), HF.out.dat, HF.out.dq⟩⟩
    have h9 := HN9.out.drop.drop
    have e1 := dxc_set_ready (str := b.nx.length) (room := b.room) (most := b.most) (s := ps) (j := pj) (vw := vw) (vr := .slice (some ⟨gq, off, none⟩) (((m, (A, k, c)) :: rM : List Me)).length c0) (v := .slice A2 n (c0 - 1)) hnx
    rw [e1] at h9
    exact h9
end
end Ix
end Go.Proofs.Ytednkcjmlpgipaa
/-
  A new inbox is in order; a piece's bytes are among all.
-/
namespace Go.Proofs.Ytednkcjmlpgipaa
set_option maxRecDepth 4000
open Go.RowKit Go.Maps
namespace Ix
open Fg
set_option linter.unusedVariables false
set_option linter.unusedSimpArgs false

theorem new_ok (n : Nat) (room most : Int) (c : Nat) (hn : n < 65536) (hc : c < 4294967296) : Ib.Ok ⟨bnd room, bnd most, ⟨c, [], []⟩, [], List.replicate n 0, [], []⟩ := by
  refine ⟨⟨?_, ?_, ⟨hc, ⟨by simp, by simp⟩, by simp, by simp⟩, by simpa using hn, fun m hm => by have := List.eq_of_mem_replicate hm; omega, by simp, ?_, by simp, ?_, by simp⟩, by simp [Ib.held, Ib.whole, bsum, Fg.held]⟩
  · unfold bnd; show (min (max room 0) 1048576).toNat ≤ 1048576; omega
  · unfold bnd; show (min (max most 0) 1048576).toNat ≤ 1048576; omega
  all_goals exact List.Pairwise.nil
theorem mem_dtot {qs : List Dq} {q : Dq} (h : q ∈ qs) : q.2.2.2.1 ≤ dtot qs := by
  obtain ⟨l1, l2, rfl⟩ := List.append_of_mem h
  unfold dtot
  simp
  omega
end Ix
end Go.Proofs.Ytednkcjmlpgipaa
/-
  The law's own piece; whether the next message that is taken has these bytes.
-/
namespace Go.Proofs.Ytednkcjmlpgipaa
set_option maxRecDepth 4000
open Go.RowKit Go.Maps
namespace Ix
set_option linter.unusedVariables false
set_option linter.unusedSimpArgs false
open Fg (Pc Ms mv JA JA_fr)

theorem one_any (t s n : Nat) (sb : ByteArray) (l : List Int) (w : World) (hl : strOf l = sb) (hb : Byt l) :
    Calls Try.prog 45 #[.int .u32 (t : Int), .int .u16 (s : Int), .int .u16 (n : Int), .string sb] w fun e w' => ∃ A k c, e = .returned (.agg #[.int .u32 (t : Int), .int .u8 3, .int .u16 (s : Int), .int .u16 (n : Int), .int .u32 0, .slice A k c]) ∧ l.length = k ∧ Row w' A (bs l) ∧ Below w.heap.size w w' ∧ ∀ a, A = some a → w.heap.size ≤ a.block := by
  have hcv := fun W => run_bytes_of_string (P := Try.prog) W 9 31 5 sb Try.underlying9 Try.underlying31 Try.underlying5
  have hsz : sb.size = l.length := by rw [← hl, Str.size_of]
  have HROW : Hid (∀ (W : World) cap t fr, Row (W.alloc (.cells (bytesRow sb cap) t fr)) (some ⟨W.heap.size, 0, none⟩) (bs l)) := Lib.hid fun W cap t fr => Str.row_of hl hb W cap t fr
  have HSZ := Lib.hid hsz
  clear hl hb hsz
  go_enter Try.func45, Try.ntmps45
  go_wp2_with fail
  generalize grownCap _ sb.size 0 5 = cap
  go_returns
  refine ⟨some ⟨w.heap.size + 1, 0, none⟩, sb.size, cap, rfl, HSZ.out.symm, ?_, ?_, fun a e => by injection e with e; subst e; exact Nat.le_succ _⟩
  · have h := HROW.out (w.alloc (.cells #[.int .u32 (t : Int), .int .u8 3, .int .u16 (s : Int), .int .u16 (n : Int), .int .u32 0, .slice (some ⟨w.heap.size + 1, 0, none⟩) sb.size cap] 33)) cap 5 ((bytesRow sb cap).size, (bytesRow sb cap).size + 1)
    rw [show (w.alloc (.cells #[.int .u32 (t : Int), .int .u8 3, .int .u16 (s : Int), .int .u16 (n : Int), .int .u32 0, .slice (some ⟨w.heap.size + 1, 0, none⟩) sb.size cap] 33)).heap.size = w.heap.size + 1 by simp] at h
    exact h
  · first | exact (Fg.two_new _ _ _).drew | exact Fg.two_new _ _ _ | go_grown
end Ix
end Go.Proofs.Ytednkcjmlpgipaa
/-
  Whether the next message that is taken has these bytes.
-/
namespace Go.Proofs.Ytednkcjmlpgipaa
set_option maxRecDepth 4000
open Go.RowKit Go.Maps
namespace Ix
set_option linter.unusedVariables false
set_option linter.unusedSimpArgs false
open Fg (Pc Ms mv JA JA_fr)

section
variable {W w : World} {x : Nat} {b : Ib} {L : List Me} {R : List As}
/-- The bytes of a message that was told. -/
theorem IX.row (h : IX W w x b L R) {e : Me} (he : e ∈ L) : e.1.d.length = e.2.2.1 ∧ Row w e.2.1 (bs e.1.d) := by
  obtain ⟨i, hN, hf⟩ := h
  obtain ⟨F, hd, _⟩ := hN.at (k := 6) rfl
  exact ⟨hf.dat e he, row_of_own (hd.1 e he).2.1⟩
theorem is_some (h : IX W w x b L R) (ok : b.Ok) (m : Ms) (l : List Ms) (sb : ByteArray) (hrd : b.rd = m :: l) (hs : strOf m.d = sb) (hne : sb.toList.isEmpty = false) :
    Calls Try.prog 46 #[.pointer (some ⟨x, 0, none⟩), .string sb] w fun e w' => e = .returned (.bool true) ∧ IX W w' x { b with rd := l } L R := by
  have C := Lib.hid (recv_any h ok)
  have HRD := Lib.hid hrd
  have HS := Lib.hid hs
  have hn2 : ¬ sb.toList = [] := fun e => by rw [e] at hne; cases hne
  clear h ok hrd hs
  go_enter Try.func46, Try.ntmps46
  go_wp2_with fail
  refine C.out.mono ?_
  rintro e w1 h1
  rcases h1 with ⟨h1, _⟩ | ⟨m', l', A, k, c, h1, h2, rfl, h3⟩
  · exfalso
    rw [HRD.out] at h1
    cases h1
  · rw [HRD.out] at h1
    simp only [List.cons.injEq] at h1
    obtain ⟨rfl, rfl⟩ := h1
    have HI := Lib.hid h3
    obtain ⟨hl, hr⟩ := h3.row h2
    simp only at hl hr
    have hr2 : Row (w1.alloc (.cells #[.int .u16 (m.s : Int), .bool m.u, .int .u32 (m.p : Int), .slice A k c] 39)) A (bs m.d) := hr.alloc _
    have cv := run_strOf (P := Try.prog) (src := 31) (dst := 9) (c := c) Try.underlying31 Try.underlying5 Try.underlying9 hl hr2
    rw [HS.out] at cv
    have HB := Lib.hid ((Below.refl w1.heap.size w1).alloc (Nat.le_refl _) (.cells #[.int .u16 (m.s : Int), .bool m.u, .int .u32 (m.p : Int), .slice A k c] 39))
    clear h2 h3 hl hr hr2 C
    go_wp2_with fail
    all_goals
      go_ret
      exact ⟨by simp [hne], HI.out.next HB.out⟩
theorem is_none (h : IX W w x b L R) (ok : b.Ok) (hrd : b.rd = []) :
    Calls Try.prog 46 #[.pointer (some ⟨x, 0, none⟩), .string (ByteArray.mk #[])] w fun e w' => e = .returned (.bool true) ∧ IX W w' x b L R := by
  have C := Lib.hid (recv_any h ok)
  have HRD := Lib.hid hrd
  clear h ok hrd
  go_enter Try.func46, Try.ntmps46
  go_wp2_with fail
  refine C.out.mono ?_
  rintro e w1 h1
  rcases h1 with ⟨_, rfl, h3⟩ | ⟨m', l', A, k, c, h1, _⟩
  · have HI := Lib.hid h3
    clear h3 C
    have cv : ∀ w2 : World, (convert 31 9 (.slice none 0 0)).run Try.prog w2 = .ok (.string (ByteArray.mk #[])) w2 := fun w2 => run_strOf (P := Try.prog) (src := 31) (dst := 9) (c := 0) (l := []) Try.underlying31 Try.underlying5 Try.underlying9 rfl (fun i v h => by simp [bs] at h)
    have HB := Lib.hid ((Below.refl w1.heap.size w1).alloc (Nat.le_refl _) (.cells #[.int .u16 0, .bool false, .int .u32 0, .slice none 0 0] 39))
    go_wp2_with fail
    all_goals
      go_ret
      exact ⟨by simp, HI.out.next HB.out⟩
  · exfalso
    rw [HRD.out] at h1
    cases h1
end
end Ix
end Go.Proofs.Ytednkcjmlpgipaa
