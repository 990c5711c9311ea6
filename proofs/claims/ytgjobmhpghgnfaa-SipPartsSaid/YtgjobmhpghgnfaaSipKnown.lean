/-
  The statements' 'row' and 'known'.
-/
import Derived.Test.YtgjobmhpghgnfaaSipOf
import Derived.Deep.RegionWith
import Derived.Laws.CopyOwn
namespace Go.Proofs.Ytgjobmhpghgnfaa
open Go.RowKit Sip

theorem Try_info8 : (Try.prog.info? 5).map (fun i => (i.zero, i.size, i.bytes)) = some (some (.int .u8 0), 1, 1) := by kernel_rfl
def nums (n : Nat) : List Int := (List.range n).map fun i : Nat => (i : Int)
theorem nums_succ (n : Nat) : nums (n + 1) = nums n ++ [(n : Int)] := by simp [nums, List.range_succ]
theorem nums_len (n : Nat) : (nums n).length = n := by simp [nums]
theorem nums_bs (n : Nat) : bs (nums (n + 1)) = bs (nums n) ++ [.int .u8 (n : Int)] := by rw [nums_succ]; simp [bs]
theorem owns_row {w : World} {B : Nat} {e : TypeId} {v : Value} {n : Nat} {l : List Int} (h : w.ownsRow B e 1 v n (bs l)) (h0 : 0 < n) :
    ∃ a c, v = .slice (some a) n c ∧ n ≤ c ∧ c ≤ maxLen ∧ Row w (some a) (bs l) := by
  rcases h with ⟨hl, ⟨_, h1⟩ | ⟨g, cap, cur, rfl, h1, h2, h3, h4, h5, h6⟩⟩
  · omega
  · refine ⟨_, _, rfl, h3, h4, fun i v hv => ⟨_, rfl, ?_⟩⟩
    have e : (⟨g, 0, none⟩ : Addr).add i = ⟨g, i, none⟩ := by unfold Addr.add; split <;> simp_all
    rw [e, cell_of_row _ _ _ _ _ _ h2]
    rw [← h6, List.getElem?_take] at hv
    split at hv
    · simpa using hv
    · cases hv

set_option maxRecDepth 100000 in
set_option maxHeartbeats 400000 in
theorem row_any (n : Nat) (w : World) (h0 : 0 < n) (hn : n ≤ 200) :
    Calls Try.prog 8 #[.int .i64 (n : Int)] w fun e w' => ∃ a c, e = .returned (.slice (some a) n c) ∧ n ≤ c ∧ Row w' (some a) (bs (nums n)) ∧ Below w.heap.size w w' := by
  obtain ⟨i0, hi0, hz0, hz1, hz2⟩ := info_parts Try_info8
  have HI := Lib.hid hi0
  have HZ0 := Lib.hid hz0
  have HZ1 := Lib.hid hz1
  have HZ2 := Lib.hid hz2
  clear hi0 hz0 hz1 hz2
  go_enter Try.func8, Try.ntmps8
  go_wp2
  go_loopw [3, 6] (fun v i W => ∃ k : Nat, k ≤ n ∧ i = .int .i64 k ∧ W.ownsRow w.heap.size 5 1 v k (bs (nums k)) ∧ Below w.heap.size w W) (fun _ i _ => n - (intOf i).toNat)
  case atStart => exact ⟨0, by omega, rfl, World.ownsRow_nil _ _ _ _, Below.refl _ _⟩
  case round =>
    obtain ⟨k, hk, rfl, hown, hb⟩ := hrel
    by_cases hlt : k < n
    · have HO := Lib.hid hown
      have HB := Lib.hid hb
      clear hown hb
      go_wp2_with (at_builtin; refine wpList_append_own _ rfl _ _ 26 rfl w.heap.size 5 i0 (.int .u8 0) 1 1 Try.underlying26 HI.out HZ0.out HZ1.out HZ2.out rfl (by decide) _ _ _ rfl (HO.out.alloc _) ⟨wr.heap.size, 0, none⟩ 1 1 [.int .u8 (k : Int)] rfl rfl ?c1 ?c2 ?c3 ?c4 ?c5 ?_)
      case c1 =>
        intro j u hj
        match j, hj with
        | 0, hj => simp at hj; subst hj; simp [Addr.add]
      case c2 => intro u hu; simp at hu; subst hu; rfl
      case c3 => unfold maxLen; omega
      case c4 => omega
      case c5 => have := HB.out.size; simp; omega
      · intro v' w1 hown' hgrow _
        rw [← nums_bs] at hown'
        have hb' := (HB.out.alloc HB.out.size (.cells #[.int .u8 (k : Int)] 5)).grown hgrow (by have := HB.out.size; simp; omega) (fun q hq => (HO.out.lt q hq).1)
        have HO' := Lib.hid hown'
        have HB' := Lib.hid hb'
        clear hown' hgrow hb'
        go_wp2
        go_roundw
        case rel => exact ⟨k + 1, by omega, by go_num, HO'.out, HB'.out⟩
        case measure => simp [intOf]; omega
    · have hkn : k = n := by omega
      subst hkn
      obtain ⟨a, c, rfl, hc, _, hr⟩ := owns_row hown h0
      go_wp2
      go_ret
      exact ⟨a, c, rfl, hc, hr, hb⟩

theorem nums16 : nums 16 = key := by decide
theorem nums15 : nums 15 = key.take 15 := by decide
theorem parts_nil (w : World) : Parts w none [] := ⟨fun i v h => by simp at h, fun q hq => by simp at hq⟩
theorem parts_one {w : World} {A : Addr} {a : Option Addr} {n c : Nat} {l : List Int} (hc : w.cell? A = some (.slice a n c)) (hl : l.length = n) (hn : n ≤ 1000000) (hb : Byt l) (hr : Row w a (bs l)) :
    Parts w (some A) [(.slice a n c, l)] := by
  refine ⟨fun i v h => ⟨A, rfl, ?_⟩, fun q hq => ?_⟩
  · match i, h with
    | 0, h => simp at h; subst h; simpa [Addr.add] using hc
  · simp at hq; subst hq; exact ⟨a, n, c, rfl, hl, hn, hb, hr⟩
theorem flat_one (v : Value) (l : List Int) : flat [(v, l)] = l := by simp [flat]
theorem flat_nil : flat [] = [] := rfl

/-- Block N (the first new one) holds a key, and what stood before is as it was. -/
def Kd (w : World) (C : Array Value) (W : World) : Prop := W.heap[w.heap.size]? = some (.cells C 23 (0, 0)) ∧ Below w.heap.size w W
theorem Kd.next {w W W' : World} {C : Array Value} (h : Kd w C W) (hb : Below W.heap.size W W') : Kd w C W' :=
  ⟨(hb.block _ (Array.getElem?_eq_some_iff.1 h.1).1).trans h.1, h.2.trans (hb.mono (Nat.le_of_lt (Array.getElem?_eq_some_iff.1 h.1).1))⟩
theorem Kd.heap {w W : World} {C : Array Value} (h : Kd w C W) : W.heap[w.heap.size]? = some (.cells C 23 (0, 0)) := h.1
theorem Kd.drew {w W : World} {C : Array Value} (h : Kd w C W) : Kd w C W.drew := ⟨h.1, h.2.drew⟩
theorem Kd.alloc {w W : World} {C : Array Value} (h : Kd w C W) (o : Obj) : Kd w C (W.alloc o) := h.next ((Below.refl _ _).alloc (Nat.le_refl _) _)
def zeros : List Value := List.replicate 16 (.int .u8 0)
theorem kd_new (w : World) : Kd w zeros.toArray (w.alloc (.cells #[.int .u8 0, .int .u8 0, .int .u8 0, .int .u8 0, .int .u8 0, .int .u8 0, .int .u8 0, .int .u8 0, .int .u8 0, .int .u8 0, .int .u8 0, .int .u8 0, .int .u8 0, .int .u8 0, .int .u8 0, .int .u8 0] 23)) :=
  ⟨heap_alloc_new _ _, (Below.refl _ _).alloc (Nat.le_refl _) _⟩
theorem key_one : ∀ v ∈ bs key, v.oneCell' = true := by intro v hv; simp [bs] at hv; obtain ⟨n, _, rfl⟩ := hv; rfl
theorem sixteen {C : Array Value} (h : C.size = 16) : ∃ c0 c1 c2 c3 c4 c5 c6 c7 c8 c9 c10 c11 c12 c13 c14 c15, C = #[c0, c1, c2, c3, c4, c5, c6, c7, c8, c9, c10, c11, c12, c13, c14, c15] := by
  rcases C with ⟨l⟩
  simp only [List.size_toArray] at h
  match l, h with
  | [c0, c1, c2, c3, c4, c5, c6, c7, c8, c9, c10, c11, c12, c13, c14, c15], _ => exact ⟨c0, c1, c2, c3, c4, c5, c6, c7, c8, c9, c10, c11, c12, c13, c14, c15, rfl⟩
theorem key_cells {w W : World} {C : Array Value} (h : Kd w C W) : ∀ i, W.cell? ⟨w.heap.size, i, none⟩ = C[i]? := fun i => cell_of_row _ _ i _ _ _ h.1
theorem copy_key {w W : World} {a : Addr} {c : Nat} (h : Kd w zeros.toArray W) (hr : Row W (some a) (bs key)) :
    (Builtin.copy_ #[26, 26] 3 #[.slice (some ⟨w.heap.size, 0, none⟩) 16 16, .slice (some a) 16 c]).run Try.prog W = .ok (.int .i64 16) (W.setRow w.heap.size (kv key)) ∧ Kd w (kv key) (W.setRow w.heap.size (kv key)) := by
  refine ⟨run_copy_row (P := Try.prog) W 26 26 3 5 w.heap.size 0 16 16 a 16 c zeros.toArray 23 (bs key) Try.underlying26 Try_size1 h.1 rfl (fun j v hv => ?_) (by decide) key_one, setRow_heap _ _ _ _ _ _ h.1, below_setRow h.2 (Nat.le_refl _) _⟩
  obtain ⟨b, hb, hc⟩ := hr j v hv
  injection hb with hb
  subst hb
  exact hc

set_option maxRecDepth 100000 in
set_option maxHeartbeats 4000000 in
theorem known_any (w : World) :
    Calls Try.prog 5 #[] w fun e w' => e = .returned (.bool true) ∧ Below w.heap.size w w' := by
  have hk : key.length = 16 := rfl
  have h15 : (key.take 15).length = 15 := rfl
  have h1 : ∀ W, Kd w (kv key) W → Calls Try.prog 6 #[.agg (kv key), .slice none 0 0] W fun e w' => e = .returned (.int .u64 8246050544436514353) ∧ Kd w (kv key) w' := fun W h => (of_any key none 0 0 [] W hk key_byt rfl (by omega) (by decide) (parts_nil W)).mono fun e w' ⟨he, hb⟩ => ⟨by rw [he, flat_nil, known_none]; rfl, h.next hb⟩
  have h2 : ∀ (W : World) (a : Addr) (c : Nat), Kd w (kv key) W → Row W (some a) (bs (key.take 15)) → Calls Try.prog 6 #[.agg (kv key), .slice (some ⟨W.heap.size, 0, none⟩) 1 1] (W.alloc (.cells #[.slice (some a) 15 c] 26)) fun e w' => e = .returned (.int .u64 11613035633349379557) ∧ Kd w (kv key) w' :=
    fun W a c h hr => (of_any key (some ⟨W.heap.size, 0, none⟩) 1 1 [(.slice (some a) 15 c, key.take 15)] _ hk key_byt rfl (by omega) (by rw [flat_one]; decide) (parts_one (by simp) h15 (by omega) (Byt.take key_byt 15) (hr.alloc _))).mono fun e w' ⟨he, hb⟩ => ⟨by rw [he, flat_one, known_fifteen]; rfl, (h.alloc _).next hb⟩
  have r16 : ∀ W, Kd w zeros.toArray W → Calls Try.prog 8 #[.int .i64 16] W fun e w' => ∃ a c, e = Ending.returned (.slice (some a) 16 c) ∧
      (Builtin.copy_ #[26, 26] 3 #[.slice (some ⟨w.heap.size, 0, none⟩) 16 16, .slice (some a) 16 c]).run Try.prog w' = .ok (.int .i64 16) (w'.setRow w.heap.size (kv key)) ∧ Kd w (kv key) (w'.setRow w.heap.size (kv key)) :=
    fun W h => (row_any 16 W (by omega) (by omega)).mono fun e w' ⟨a, c, he, hc, hr, hb⟩ => ⟨a, c, he, copy_key (h.next hb) (by rw [← nums16]; exact hr)⟩
  have r15 : ∀ W, Kd w (kv key) W → Calls Try.prog 8 #[.int .i64 15] W fun e w' => ∃ a c, e = Ending.returned (.slice (some a) 15 c) ∧ Row w' (some a) (bs (nums 15)) ∧ Kd w (kv key) w' :=
    fun W h => (row_any 15 W (by omega) (by omega)).mono fun e w' ⟨a, c, he, hc, hr, hb⟩ => ⟨a, c, he, hr, h.next hb⟩
  rw [nums15] at r15
  have hks : (kv key).size = 16 := rfl
  have H1 := Lib.hid h1
  have H2 := Lib.hid h2
  have R16 := Lib.hid r16
  have R15 := Lib.hid r15
  have HKS := Lib.hid hks
  clear h1 h2 r16 r15 h15 hk hks
  go_enter Try.func5, Try.ntmps5
  go_wp2_with fail
  have hg0 := (kd_new w).drew
  go_region_with (first
    | (go_at_call 8; (with_reducible refine (R16.out _ ?_).mono ?_); assumption; rintro e w1 ⟨a1, cc1, rfl, hcp, hg1⟩))
  have hg2 := hg1.drew
  clear hcp hg0
  generalize w1.setRow w.heap.size (kv key) = W1 at hg1 hg2 ⊢
  generalize kv key = C at HKS H1 H2 R15 hg1 hg2
  obtain ⟨c0, c1, c2, c3, c4, c5, c6, c7, c8, c9, c10, c11, c12, c13, c14, c15, rfl⟩ := sixteen HKS.out
  go_wp2_with fail
  have l1 := key_cells hg2
  go_region_with (first
    | (go_at_call 6; (with_reducible refine (H1.out _ ?_).mono ?_); assumption; rintro e w2 ⟨rfl, hg3⟩; have l2 := key_cells hg3)
    | (go_at_call 8; (with_reducible refine (R15.out _ ?_).mono ?_); assumption; rintro e w3 ⟨a2, cc2, rfl, hr4, hg4⟩; have l3 := key_cells hg4; have l4 := key_cells (hg4.alloc (.cells #[.slice (some a2) 15 cc2] 26)))
    | (go_at_call 6; (with_reducible refine (H2.out _ _ _ ?_ ?_).mono ?_); assumption; assumption; rintro e w5 ⟨rfl, hg5⟩))
  all_goals
    go_wp2_with fail
    go_ret
    exact ⟨rfl, hg5.2⟩
end Go.Proofs.Ytgjobmhpghgnfaa
