/-
  The pieces of several messages, one behind the other: plain.
-/
import Derived.Test.YthgbngnhlgaioaaFgBackQ
import Derived.Test.YthgbngnhlgaioaaFgCutP
namespace Go.Proofs.Ythgbngnhlgaioaa
set_option maxRecDepth 4000
namespace Fg
set_option linter.unusedVariables false
set_option linter.unusedSimpArgs false

/-- A message with its Ssn, and of how many bytes its pieces are. -/
structure Mq where
  s : Nat
  u : Bool
  p : Nat
  d : List Int
  n : Nat
  z : Nat
def Mq.cnt (x : Mq) : Nat := cutN x.d x.z
def Mq.pc (x : Mq) (tsn at_ i : Nat) : Pc := ⟨fw tsn (at_ + i), cutF x.u x.cnt i, x.s, x.n, x.p, part x.d x.z i⟩
def Mq.ps (x : Mq) (tsn at_ : Nat) : List Pc := (List.range x.cnt).map (x.pc tsn at_)
def m0 : Mq := ⟨0, false, 0, [], 0, 0⟩
def p0 : Pc := ⟨0, 0, 0, 0, 0, []⟩
def st (M : List Mq) (m : Nat) : Nat := ((M.take m).map Mq.cnt).sum
structure Built (M : List Mq) (tsn : Nat) (all : List Pc) (of : List Nat) : Prop where
  len : all.length = st M M.length
  len2 : of.length = st M M.length
  at_ : ∀ q, q < all.length → of.getD q 0 < M.length ∧ st M (of.getD q 0) ≤ q ∧ q < st M (of.getD q 0 + 1) ∧ all.getD q p0 = (M.getD (of.getD q 0) m0).pc tsn (st M (of.getD q 0)) (q - st M (of.getD q 0))
theorem st_succ {M : List Mq} {m : Nat} (h : m < M.length) : st M (m + 1) = st M m + (M.getD m m0).cnt := by
  unfold st
  rw [List.take_succ_eq_append_getElem h, List.map_append, List.sum_append]
  simp [List.getD, List.getElem?_eq_getElem h]
theorem st_mono (M : List Mq) {a b : Nat} (h : a ≤ b) : st M a ≤ st M b := by
  unfold st
  have : M.take b = M.take a ++ (M.take b).drop a := by
    conv => lhs; rw [← List.take_append_drop a (M.take b)]
    rw [List.take_take, Nat.min_eq_left h]
  rw [this, List.map_append, List.sum_append]
  omega
theorem st_app {M : List Mq} (x : Mq) {m : Nat} (h : m ≤ M.length) : st (M ++ [x]) m = st M m := by
  unfold st
  rw [List.take_append_of_le_length h]
theorem st_all (M : List Mq) (x : Mq) : st (M ++ [x]) (M.length + 1) = st M M.length + x.cnt := by
  rw [st_succ (by simp), st_app x (Nat.le_refl _)]
  simp [List.getD]
theorem built_nil (tsn : Nat) : Built [] tsn [] [] := ⟨rfl, rfl, fun q hq => by simp at hq⟩
theorem Built.more {M : List Mq} {tsn : Nat} {all : List Pc} {of : List Nat} (h : Built M tsn all of) (x : Mq) : Built (M ++ [x]) tsn (all ++ x.ps tsn all.length) (of ++ List.replicate x.cnt M.length) := by
  have hl : (all ++ x.ps tsn all.length).length = st (M ++ [x]) (M ++ [x]).length := by
    rw [List.length_append, List.length_append, List.length_singleton, st_all, h.len]
    simp [Mq.ps]
  refine ⟨hl, ?_, fun q hq => ?_⟩
  · rw [List.length_append, List.length_append, List.length_singleton, st_all, h.len2]
    simp
  · by_cases e : q < all.length
    · obtain ⟨k1, k2, k3, k4⟩ := h.at_ q e
      have hq2 : q < of.length := by rw [h.len2, ← h.len]; exact e
      have g1 : (of ++ List.replicate x.cnt M.length).getD q 0 = of.getD q 0 := by
        simp only [List.getD]
        rw [List.getElem?_append_left hq2]
      have g2 : (all ++ x.ps tsn all.length).getD q p0 = all.getD q p0 := by
        simp only [List.getD]
        rw [List.getElem?_append_left e]
      have g3 : (M ++ [x]).getD (of.getD q 0) m0 = M.getD (of.getD q 0) m0 := by
        simp only [List.getD] at k1 ⊢
        rw [List.getElem?_append_left k1]
      rw [g1, g2, g3, st_app x (by omega), st_app x (by omega)]
      exact ⟨by rw [List.length_append]; omega, k2, k3, k4⟩
    · rw [List.length_append] at hq
      have hps : (x.ps tsn all.length).length = x.cnt := by simp [Mq.ps]
      rw [hps] at hq
      have ho : of.length = all.length := by rw [h.len2, h.len]
      have g1 : (of ++ List.replicate x.cnt M.length).getD q 0 = M.length := by
        simp only [List.getD]
        rw [List.getElem?_append_right (by omega), List.getElem?_replicate, if_pos (by omega)]
        rfl
      have g3 : (M ++ [x]).getD M.length m0 = x := by simp [List.getD]
      have g4 : st (M ++ [x]) M.length = all.length := by rw [st_app x (Nat.le_refl _), h.len]
      have g2 : (all ++ x.ps tsn all.length).getD q p0 = x.pc tsn all.length (q - all.length) := by
        simp only [List.getD]
        rw [List.getElem?_append_right (by omega)]
        unfold Mq.ps
        rw [List.getElem?_map, List.getElem?_range (by omega)]
        rfl
      rw [g1, g3, g4, g2, st_all, ← h.len]
      exact ⟨by simp, by omega, by omega, rfl⟩
theorem cutF_bg (u : Bool) (N i : Nat) : bg (cutF u N i) = decide (i = 0) := by
  unfold cutF bg fb
  by_cases h1 : i = 0 <;> by_cases h2 : i + 1 = N <;> first | (rw [if_pos h1, if_pos h2, decide_eq_true h1]; cases u <;> rfl) | (rw [if_pos h1, if_neg h2, decide_eq_true h1]; cases u <;> rfl) | (rw [if_neg h1, if_pos h2, decide_eq_false h1]; cases u <;> rfl) | (rw [if_neg h1, if_neg h2, decide_eq_false h1]; cases u <;> rfl)
theorem cutF_en (u : Bool) (N i : Nat) : en (cutF u N i) = decide (i + 1 = N) := by
  unfold cutF en fb
  by_cases h1 : i = 0 <;> by_cases h2 : i + 1 = N <;> first | (rw [if_pos h1, if_pos h2, decide_eq_true h2]; cases u <;> rfl) | (rw [if_pos h1, if_neg h2, decide_eq_false h2]; cases u <;> rfl) | (rw [if_neg h1, if_pos h2, decide_eq_true h2]; cases u <;> rfl) | (rw [if_neg h1, if_neg h2, decide_eq_false h2]; cases u <;> rfl)
theorem cutF_un (u : Bool) (N i : Nat) : un (cutF u N i) = u := by
  unfold cutF un fb
  by_cases h1 : i = 0 <;> by_cases h2 : i + 1 = N <;> first | (rw [if_pos h1, if_pos h2]; cases u <;> rfl) | (rw [if_pos h1, if_neg h2]; cases u <;> rfl) | (rw [if_neg h1, if_pos h2]; cases u <;> rfl) | (rw [if_neg h1, if_neg h2]; cases u <;> rfl)
/-- They are in messages. -/
theorem Built.lay {M : List Mq} {tsn : Nat} {all : List Pc} {of : List Nat} (h : Built M tsn all of) (hN : all.length < 4294967296) (ht : tsn < 4294967296) :
    Lay all.length tsn (fun q => all.getD q p0) (fun q => of.getD q 0) (st M) (fun m => st M (m + 1)) (fun m => (M.getD m m0).s) (fun m => (M.getD m m0).n) (fun m => (M.getD m m0).p) (fun m => (M.getD m m0).u) := by
  refine ⟨hN, ht, fun q hq => ?_, fun q hq => (h.at_ q hq).2.1, fun q hq => (h.at_ q hq).2.2.1, fun q hq => ?_, fun q hq r h1 h2 => ?_, fun q hq => ?_, fun q hq => ?_, fun q hq => ?_, fun q hq => ?_, fun q hq => ?_, fun q hq => ?_⟩
  all_goals obtain ⟨k1, k2, k3, k4⟩ := h.at_ q hq
  · simp only [k4, Mq.pc]
    congr 1
    omega
  · rw [h.len]
    exact st_mono M (by omega)
  · have hr : r < all.length := by
      have := st_mono M (show of.getD q 0 + 1 ≤ M.length by omega)
      rw [h.len]
      omega
    obtain ⟨j1, j2, j3, _⟩ := h.at_ r hr
    by_cases e : of.getD r 0 < of.getD q 0
    · have := st_mono M (show of.getD r 0 + 1 ≤ of.getD q 0 by omega)
      omega
    · by_cases e2 : of.getD q 0 < of.getD r 0
      · have := st_mono M (show of.getD q 0 + 1 ≤ of.getD r 0 by omega)
        omega
      · omega
  · simp only [k4, Mq.pc, cutF_bg, decide_eq_decide]
    omega
  · have := st_succ k1
    simp only [k4, Mq.pc, cutF_en, decide_eq_decide]
    omega
  · simp only [k4, Mq.pc, cutF_un]
  · simp only [k4, Mq.pc]
  · simp only [k4, Mq.pc]
  · simp only [k4, Mq.pc]
theorem parts_take (d : List Int) (z : Nat) : ∀ k, (List.range k).flatMap (part d z) = d.take (k * z)
  | 0 => by simp
  | k + 1 => by
    rw [List.range_succ, List.flatMap_append, parts_take d z k, Nat.add_mul, Nat.one_mul, List.take_add]
    simp [part]
theorem parts_all {d : List Int} {z : Nat} (hz : 1 ≤ z) : (List.range (cutN d z)).flatMap (part d z) = d := by
  rw [parts_take]
  refine List.take_of_length_le ?_
  unfold cutN
  have h1 := Nat.div_add_mod (d.length + z - 1) z
  have h2 := Nat.mod_lt (d.length + z - 1) (show z > 0 by omega)
  rw [Nat.mul_comm] at h1
  omega
/-- Their bytes are the message's. -/
theorem Built.bytes {M : List Mq} {tsn : Nat} {all : List Pc} {of : List Nat} (h : Built M tsn all of) {m : Nat} (hm : m < M.length) (hz : 1 ≤ (M.getD m m0).z) : bytes (fun q => all.getD q p0) (st M m) (st M (m + 1) - st M m) = (M.getD m m0).d := by
  have hs := st_succ hm
  have hle := st_mono M (show m + 1 ≤ M.length by omega)
  rw [hs, Nat.add_sub_cancel_left]
  unfold Fg.bytes
  rw [← parts_all (d := (M.getD m m0).d) hz]
  rw [List.flatMap_def, List.flatMap_def]
  refine congrArg List.flatten (List.map_congr_left fun i hi => ?_)
  have hi' : i < (M.getD m m0).cnt := List.mem_range.1 hi
  obtain ⟨k1, k2, k3, k4⟩ := h.at_ (st M m + i) (by rw [h.len]; omega)
  have e : of.getD (st M m + i) 0 = m := by
    by_cases e : of.getD (st M m + i) 0 < m
    · have := st_mono M (show of.getD (st M m + i) 0 + 1 ≤ m by omega)
      omega
    · by_cases e2 : m < of.getD (st M m + i) 0
      · have := st_mono M (show m + 1 ≤ of.getD (st M m + i) 0 by omega)
        omega
      · omega
  rw [e] at k4
  simp only [k4, Mq.pc]
  congr 1
  omega
end Fg
end Go.Proofs.Ythgbngnhlgaioaa
