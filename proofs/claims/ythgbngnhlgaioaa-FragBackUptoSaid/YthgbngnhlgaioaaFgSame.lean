/-
  What the document's SamePiece and SameMessage answer of things that are one; whether pieces are too great.
-/
import Derived.Test.YthgbngnhlgaioaaFgPut
namespace Go.Proofs.Ythgbngnhlgaioaa
set_option maxRecDepth 4000
open Go.RowKit Go.Maps
namespace Fg
set_option linter.unusedVariables false

theorem row_two {w : World} {A : Option Addr} {l : List Value} (h : Row w A l) (o o' : Obj) : Row ((w.alloc o).alloc o') A l := (h.alloc o).alloc o'
set_option maxRecDepth 100000 in
set_option maxHeartbeats 1000000 in
theorem sameMessage_any (s : Nat) (u : Bool) (p : Nat) (d : List Int) (A : Option Addr) (n c : Nat) (A' : Option Addr) (n' c' : Nat) (w : World) (hl : d.length = n) (hl' : d.length = n') (hr : Row w A (bs d)) (hr' : Row w A' (bs d)) :
    Calls Try.prog 12 #[.agg (mv s u p A n c), .agg (mv s u p A' n' c')] w fun e w' => e = .returned (.bool true) ∧ Below w.heap.size w w' := by
  unfold mv
  have h1 := row_two hr (.cells #[.int .u16 (s : Int), .bool u, .int .u32 (p : Int), .slice A n c] 31) (.cells #[.int .u16 (s : Int), .bool u, .int .u32 (p : Int), .slice A' n' c'] 31)
  have h2 := row_two hr' (.cells #[.int .u16 (s : Int), .bool u, .int .u32 (p : Int), .slice A n c] 31) (.cells #[.int .u16 (s : Int), .bool u, .int .u32 (p : Int), .slice A' n' c'] 31)
  have cv1 := run_strOf (P := Try.prog) (src := 29) (dst := 9) (c := c) Try.underlying29 Try.underlying5 Try.underlying9 hl h1
  have cv2 := run_strOf (P := Try.prog) (src := 29) (dst := 9) (c := c') Try.underlying29 Try.underlying5 Try.underlying9 hl' h2
  have HB := Lib.hid (two_new w (.cells #[.int .u16 (s : Int), .bool u, .int .u32 (p : Int), .slice A n c] 31) (.cells #[.int .u16 (s : Int), .bool u, .int .u32 (p : Int), .slice A' n' c'] 31))
  generalize strOf d = q at cv1 cv2
  clear hl hl' hr hr' h1 h2
  have hu : (u == u) = true := by simp
  go_enter Try.func12, Try.ntmps12
  go_wp2_with fail
  go_ret
  exact ⟨rfl, HB.out⟩
/-- Pieces, one behind the other, each with its slice. -/
abbrev Pq := Pc × (Option Addr × Nat × Nat)
def pcl (q : Pq) : List Value := [.int .u32 (q.1.t : Int), .int .u8 (q.1.f : Int), .int .u16 (q.1.s : Int), .int .u16 (q.1.n : Int), .int .u32 (q.1.p : Int), .slice q.2.1 q.2.2.1 q.2.2.2]
def pf (qs : List Pq) : List Value := qs.flatMap pcl
theorem pf_get : ∀ {qs : List Pq} {i : Nat} (h : i < qs.length) (k : Nat), k < 6 → (pf qs)[i * 6 + k]? = (pcl qs[i])[k]?
  | q :: qs, 0, _, k, hk => by
    have e : pf (q :: qs) = pcl q ++ pf qs := by simp [pf]
    rw [e, List.getElem?_append_left (by simp [pcl]; omega)]
    simp
  | q :: qs, i + 1, h, k, hk => by
    have ih := pf_get (qs := qs) (i := i) (by simpa using h) k hk
    have e : pf (q :: qs) = pcl q ++ pf qs := by simp [pf]
    have hl : (pcl q).length = 6 := rfl
    rw [e, List.getElem?_append_right (by omega), hl, show (i + 1) * 6 + k - 6 = i * 6 + k by omega]
    exact ih
theorem pf_len (qs : List Pq) : (pf qs).length = qs.length * 6 := by
  induction qs with
  | nil => rfl
  | cons q qs ih =>
    have e : pf (q :: qs) = pcl q ++ pf qs := by simp [pf]
    have hl : (pcl q).length = 6 := rfl
    rw [e, List.length_append, hl, ih, List.length_cons]
    omega
theorem add_off (a : Addr) (i k : Nat) (h : 0 < k) : a.add (i + k) = { block := (a.add i).block, off := (a.add i).off + k } := by
  unfold Addr.add
  by_cases h0 : i = 0
  · subst h0
    simp
    omega
  · rw [if_neg (by omega), if_neg h0]
    simp [Nat.add_assoc]
/-- The cells of one. -/
theorem pf_at {W : World} {A : Option Addr} {qs : List Pq} (h : Row W A (pf qs)) {i : Nat} (hi : i < qs.length) :
    ∃ a, A = some a ∧ W.cell? (a.add (i * 6)) = some (.int .u32 (qs[i].1.t : Int)) ∧ W.cell? { block := (a.add (i * 6)).block, off := (a.add (i * 6)).off + 1 } = some (.int .u8 (qs[i].1.f : Int)) ∧
      W.cell? { block := (a.add (i * 6)).block, off := (a.add (i * 6)).off + 2 } = some (.int .u16 (qs[i].1.s : Int)) ∧ W.cell? { block := (a.add (i * 6)).block, off := (a.add (i * 6)).off + 3 } = some (.int .u16 (qs[i].1.n : Int)) ∧
      W.cell? { block := (a.add (i * 6)).block, off := (a.add (i * 6)).off + 4 } = some (.int .u32 (qs[i].1.p : Int)) ∧ W.cell? { block := (a.add (i * 6)).block, off := (a.add (i * 6)).off + 5 } = some (.slice qs[i].2.1 qs[i].2.2.1 qs[i].2.2.2) := by
  have g := fun k hk => pf_get hi k hk
  obtain ⟨a, ha, k0⟩ := h (i * 6) _ ((g 0 (by omega)).trans rfl)
  have hc : ∀ k v, 0 < k → k < 6 → (pcl qs[i])[k]? = some v → W.cell? { block := (a.add (i * 6)).block, off := (a.add (i * 6)).off + k } = some v := fun k v h0 h6 hv => by
    obtain ⟨b, hb, kc⟩ := h (i * 6 + k) v ((g k h6).trans hv)
    rw [ha] at hb
    injection hb with hb
    subst hb
    rw [← add_off a (i * 6) k h0]
    exact kc
  exact ⟨a, ha, k0, hc 1 _ (by omega) (by omega) rfl, hc 2 _ (by omega) (by omega) rfl, hc 3 _ (by omega) (by omega) rfl, hc 4 _ (by omega) (by omega) rfl, hc 5 _ (by omega) (by omega) rfl⟩
def tot (qs : List Pq) : Nat := (qs.map fun q => q.2.2.1).sum
def great (qs : List Pq) : Bool := decide (20000 < tot qs) || decide (60 < qs.length)
theorem tot_take {qs : List Pq} {k : Nat} (h : k < qs.length) : tot (qs.take (k + 1)) = tot (qs.take k) + qs[k].2.2.1 := by
  rw [List.take_succ_eq_append_getElem h]
  unfold tot
  rw [List.map_append, List.sum_append]
  simp
theorem tot_take_le (qs : List Pq) (k : Nat) : tot (qs.take k) ≤ tot qs := by
  have : tot qs = tot (qs.take k) + tot (qs.drop k) := by
    conv => lhs; rw [← List.take_append_drop k qs]
    unfold tot
    rw [List.map_append, List.sum_append]
  omega
set_option maxHeartbeats 1000000 in
theorem great_any (A : Option Addr) (n c : Nat) (qs : List Pq) (w : World) (hl : qs.length = n) (hn : n ≤ 140737488355328) (hr : Row w A (pf qs)) (hk : ∀ q ∈ qs, q.2.2.1 ≤ 140737488355328) :
    Calls Try.prog 9 #[.slice A n c] w fun e w' => e = .returned (.bool (great qs)) ∧ w = w' := by
  have HL := Lib.hid hl
  have HR := Lib.hid hr
  have HK := Lib.hid hk
  clear hl hr hk
  go_enter Try.func9, Try.ntmps9
  go_wp2_with fail
  go_loop [3, 4] (fun x i => ∃ k : Nat, k ≤ n ∧ i = .int .i64 k ∧ x = .int .i64 (tot (qs.take k) : Nat) ∧ tot (qs.take k) ≤ 20000) (fun _ i => n - (intOf i).toNat)
  case atStart => exact ⟨0, by omega, rfl, rfl, by simp [tot]⟩
  case round =>
    obtain ⟨k, hkn, rfl, rfl, hx⟩ := hrel
    by_cases hlt : k < n
    · have hkl : k < qs.length := by rw [HL.out]; exact hlt
      obtain ⟨a, rfl, _, _, _, _, _, g5⟩ := pf_at HR.out hkl
      have hb := HK.out _ (List.getElem_mem hkl)
      have HT := Lib.hid (tot_take hkl)
      have HTL := Lib.hid (tot_take_le qs (k + 1))
      generalize qs[k].2.2.1 = m at g5 hb HT
      generalize qs[k].2.1 = B at g5
      generalize qs[k].2.2.2 = d at g5
      generalize tot (qs.take k) = x at HT hx
      by_cases hgt : 20000 < x + m
      · have hz : decide ((20000 : Int) < (x : Int) + (m : Int)) = true := decide_eq_true (by omega)
        have HG : Hid (great qs = true) := Lib.hid (by
          have h1 := HT.out
          have h2 := HTL.out
          unfold great
          rw [decide_eq_true (by omega)]
          rfl)
        clear hgt
        go_wp2_with fail
        go_ret
        exact ⟨ret_b HG.out.symm, rfl⟩
      · have hz : decide ((20000 : Int) < (x : Int) + (m : Int)) = false := decide_eq_false (by omega)
        have hxm : x + m ≤ 20000 := by omega
        clear hgt
        go_wp2_with fail
        go_round
        case rel => exact ⟨k + 1, by omega, by go_num, by rw [HT.out]; go_num, by rw [HT.out]; exact hxm⟩
        case measure => simp [intOf]; try omega
    · obtain rfl : k = n := by omega
      have ht : qs.take k = qs := List.take_of_length_le (by rw [HL.out]; omega)
      rw [ht] at hx ⊢
      have HG : Hid (great qs = decide (60 < k)) := Lib.hid (by
        unfold great
        rw [decide_eq_false (by omega), Bool.false_or, HL.out])
      have hz : decide ((60 : Int) < (k : Int)) = decide (60 < k) := by
        by_cases e : 60 < k
        · rw [decide_eq_true e, decide_eq_true (by omega)]
        · rw [decide_eq_false e, decide_eq_false (by omega)]
      go_wp2_with fail
      go_ret
      exact ⟨ret_b (by first | (rw [HG.out]; done) | (rw [HG.out]; exact hz)), rfl⟩
end Fg
end Go.Proofs.Ythgbngnhlgaioaa
