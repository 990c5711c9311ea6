/-
  What bytes.Clone, head.behind and head.sum do.
-/
import Derived.Test.YtgepmicodfhhmaaHeadLow
import Derived.Deep.RegionWith
import Derived.Deep.AppendLies
import Derived.Lib.SliceRun
import Derived.Laws.AppendOwnNone
namespace Go.Proofs.Ytgepmicodfhhmaa
open Go.RowKit Crc Head

theorem bcells {w : World} {a : Addr} {l : List Value} (h : Row w (some a) l) : ∀ j u, l[j]? = some u → w.cell? (a.add j) = some u := fun j u hu => by
  obtain ⟨b, hb, hc⟩ := h j u hu
  injection hb with hb
  subst hb
  exact hc
theorem Row.take {w : World} {A : Option Addr} {l : List Value} (h : Row w A l) (k : Nat) : Row w A (l.take k) := fun i v hv => by
  rw [List.getElem?_take] at hv
  split at hv
  · exact h i v hv
  · cases hv
theorem cut0 (A : Option Addr) (c : Nat) : cutA A c 0 = A := by
  unfold cutA
  split
  · rfl
  · cases A <;> simp [Addr.add]
theorem bs_one (l : List Int) : ∀ u ∈ bs l, u.oneCell' = true := fun u hu => by
  obtain ⟨x, _, rfl⟩ := List.mem_map.1 hu
  rfl
theorem bs_app (l m : List Int) : bs l ++ bs m = bs (l ++ m) := by simp [bs]
theorem own_form {w : World} {base : Nat} {e : TypeId} {s : Nat} {v : Value} {n : Nat} {xs : List Value} (h : w.ownsRow base e s v n xs) : ∃ A c, v = .slice A n c := by
  rcases h.2 with ⟨rfl, rfl⟩ | ⟨g, cap, _, rfl, _⟩
  · exact ⟨none, 0, rfl⟩
  · exact ⟨_, _, rfl⟩
theorem own_nil (w : World) : Own w w none 0 0 [] := ⟨World.ownsRow_nil _ _ _ _, Below.refl _ _⟩

set_option maxRecDepth 100000 in
set_option maxHeartbeats 400000 in
theorem clone_any (A : Option Addr) (n c : Nat) (l : List Int) (w : World) (hl : l.length = n) (hn : n ≤ 100000) (hr : Row w A (bs l)) :
    Calls Try.prog 16 #[.slice A n c] w fun e w' => ∃ A' c', e = .returned (.slice A' n c') ∧ Own w w' A' n c' l := by
  rcases A with _ | a
  · have h0 : l = [] := by
      rcases l with _ | ⟨x, l⟩
      · rfl
      · obtain ⟨a, ha, _⟩ := Row.byte hr (k := 0) (by simp)
        cases ha
    subst h0
    obtain rfl : n = 0 := by simpa using hl.symm
    clear hr hl
    have hnil := fun W : World => Lib.run_eql_slice_nil (P := Try.prog) W 26 5 none 0 c 0 0 Try.underlying26
    go_enter Try.func16, Try.ntmps16
    go_wp2
    go_ret
    exact ⟨none, 0, rfl, own_nil _⟩
  · obtain ⟨i0, hi0, hz0, hz1, hz2⟩ := info_parts Try_info8
    have HI := Lib.hid hi0
    have HZ0 := Lib.hid hz0
    have HZ1 := Lib.hid hz1
    have HZ2 := Lib.hid hz2
    have HR := Lib.hid hr
    have HN := Lib.hid hn
    clear hi0 hz0 hz1 hz2 hr hn
    have hnil := fun W : World => Lib.run_eql_slice_nil (P := Try.prog) W 26 5 (some a) n c 0 0 Try.underlying26
    have HL := Lib.hid hl
    clear hl
    go_enter Try.func16, Try.ntmps16
    go_wp2_with (at_builtin; refine wpList_append_own _ rfl (.tmp 5) (.tmp 6) 26 rfl w.heap.size 5 i0 (.int .u8 0) 1 1 Try.underlying26 HI.out HZ0.out HZ1.out HZ2.out rfl (by omega) _ 0 [] rfl (World.ownsRow_made w #[] 0 (Nat.le_refl _) (by decide) rfl) a n c (bs l) rfl (by rw [bs_len, HL.out]; omega) (bcells (HR.out.alloc _)) (bs_one l) (by have := HN.out; unfold maxLen; omega) (by have := HN.out; omega) (by simp) ?_; intro v' w2 hown hgr hv)
    rw [Nat.zero_add, List.nil_append] at hown
    obtain ⟨A', c', rfl⟩ := own_form hown
    go_wp2
    go_ret
    exact ⟨A', c', rfl, hown, ((Below.refl _ _).alloc (Nat.le_refl _) _).grown hgr (by simp) fun k hk => by injection hk with hk; exact Nat.le_of_eq hk⟩

theorem be4 (x : Nat) : be 4 x = [((x / 256 / 256 / 256 % 256 : Nat) : Int), ((x / 256 / 256 % 256 : Nat) : Int), ((x / 256 % 256 : Nat) : Int), ((x % 256 : Nat) : Int)] := rfl
theorem bs_be4 {x : Nat} (hx : x < 4294967296) : bs (be 4 x) = [.int .u8 ((x : Int) / 16777216), .int .u8 ((x : Int) / 65536 % 256), .int .u8 ((x : Int) / 256 % 256), .int .u8 ((x : Int) % 256)] := by
  rw [be4]
  simp only [bs, List.map_cons, List.map_nil]
  rw [show ((x / 256 / 256 / 256 % 256 : Nat) : Int) = (x : Int) / 16777216 by omega, show ((x / 256 / 256 % 256 : Nat) : Int) = (x : Int) / 65536 % 256 by omega, show ((x / 256 % 256 : Nat) : Int) = (x : Int) / 256 % 256 by omega, show ((x % 256 : Nat) : Int) = (x : Int) % 256 by omega]
theorem new_be4 {x : Nat} (hx : x < 4294967296) (w : World) : ∀ j u, (bs (be 4 x))[j]? = some u → (w.alloc (.cells #[.int .u8 ((x : Int) / 16777216), .int .u8 ((x : Int) / 65536 % 256), .int .u8 ((x : Int) / 256 % 256), .int .u8 ((x : Int) % 256)] 5)).cell? ((⟨w.heap.size, 0, none⟩ : Addr).add j) = some u := by
  rw [bs_be4 hx]
  exact bcells (Row.new w _ _ _)
set_option maxRecDepth 100000 in
set_option maxHeartbeats 400000 in
theorem hbehind_any (base : Nat) (A : Option Addr) (n c : Nat) (l : List Int) (x : Nat) (w : World) (hn : n ≤ 100000) (hx : x < 4294967296) (hb : base ≤ w.heap.size) (hown : w.ownsRow base 5 1 (.slice A n c) n (bs l)) :
    Calls Try.prog 11 #[.slice A n c, .int .u32 (x : Int)] w fun e w' => ∃ g c', e = .returned (.slice (some ⟨g, 0, none⟩) (n + 4) c') ∧ w'.ownsRow base 5 1 (.slice (some ⟨g, 0, none⟩) (n + 4) c') (n + 4) (bs (l ++ be 4 x)) ∧ Below base w w' := by
  obtain ⟨i0, hi0, hz0, hz1, hz2⟩ := info_parts Try_info8
  have HI := Lib.hid hi0
  have HZ0 := Lib.hid hz0
  have HZ1 := Lib.hid hz1
  have HZ2 := Lib.hid hz2
  have HO := Lib.hid hown
  have HC := Lib.hid (new_be4 hx w)
  clear hi0 hz0 hz1 hz2 hown
  go_enter Try.func11, Try.ntmps11
  go_wp2_with (at_builtin; refine wpList_append_lies _ rfl (.tmp 5) (.tmp 17) 26 rfl base 5 i0 (.int .u8 0) 1 1 Try.underlying26 HI.out HZ0.out HZ1.out HZ2.out rfl (by omega) _ n (bs l) rfl (HO.out.alloc _) ⟨w.heap.size, 0, none⟩ 4 4 (bs (be 4 x)) rfl (by rw [bs_len, be_len]) HC.out (bs_one _) (by omega) (by unfold maxLen; omega) (by omega) (by simp; omega) _ rfl ?_; intro g cap w3 hown3 hgrow3 _ _)
  rw [bs_app] at hown3
  have hb3 := ((Below.refl base w).alloc hb (.cells #[.int .u8 ((x : Int) / 16777216), .int .u8 ((x : Int) / 65536 % 256), .int .u8 ((x : Int) / 256 % 256), .int .u8 ((x : Int) % 256)] 5)).grown hgrow3 (by simp; omega) (fun k hk => (HO.out.lt k hk).1)
  have HO3 := Lib.hid hown3
  have HB3 := Lib.hid hb3
  clear hown3 hgrow3 hb3
  go_wp2
  go_ret
  exact ⟨g, cap, rfl, HO3.out, HB3.out⟩

set_option maxRecDepth 100000 in
set_option maxHeartbeats 400000 in
theorem hsum_any (A : Option Addr) (n c : Nat) (l : List Int) (w : World) (hl : l.length = n) (hn : 12 ≤ n) (hnc : n ≤ c) (hcm : c ≤ maxLen) (hb : Byt l) (hr : Row w A (bs l)) :
    Calls Try.prog 12 #[.slice A n c] w fun e w' => e = .returned (.int .u32 (sm l : Nat)) ∧ Below w.heap.size w w' := by
  have hm9 : n ≤ 9223372036854775807 := by unfold maxLen at hcm; omega
  have hnm : n ≤ maxLen := by omega
  have sz : (Try.prog.info? 5).map (·.size) = some 1 := by kernel_rfl
  have q1 : ∀ W, (Instr.slice 26 (.slice A n c) none (some (.int .i64 8)) none).run Try.prog W = .ok (.slice A 8 c) W := fun W => by
    have := run_cut_h (P := Try.prog) Try.underlying26 sz (k := .i64) A n c 8 (by omega) W
    rw [cut0] at this
    exact this
  have q2 : ∀ W, (Instr.slice 26 (.slice A n c) (some (.int .i64 12)) none none).run Try.prog W = .ok (.slice (cutA A c 12) (n - 12) (c - 12)) W := fun W => run_cut_l (P := Try.prog) Try.underlying26 sz (k := .i64) A n c 12 hn W
  have hmk : ∀ W, (Instr.makeSlice 26 (.int .i64 4) (.int .i64 4)).run Try.prog W = .ok (.slice (some ⟨W.heap.size, 0, none⟩) 4 4) (W.alloc (.cells (vb [0, 0, 0, 0]) 5)) := fun W => run_make_bytes 4 (by omega) W
  obtain ⟨z, hz⟩ : ∃ z, vb [0, 0, 0, 0] = z := ⟨_, rfl⟩
  have c1 : ∀ W, Row W A (bs l) → Calls Try.prog 19 #[.slice A 8 c] W fun e w' => e = .returned (.int .u32 (more 0 (l.take 8) : Nat)) ∧ Below W.heap.size W w' := fun W hr =>
    sum_any _ 8 c (l.take 8) W (by simp; omega) (by decide) (Byt.take hb 8) (by have := hr.take 8; simpa [bs] using this)
  have c2 : ∀ W, Row W (some ⟨w.heap.size, 0, none⟩) (bs [0, 0, 0, 0]) → Calls Try.prog 18 #[.int .u32 (more 0 (l.take 8) : Nat), .slice (some ⟨w.heap.size, 0, none⟩) 4 4] W fun e w' => e = .returned (.int .u32 (more (more 0 (l.take 8)) [0, 0, 0, 0] : Nat)) ∧ Below W.heap.size W w' := fun W hr =>
    more_any _ _ 4 4 [0, 0, 0, 0] W (more_lt _ _) rfl (by decide) (by intro c hc; simp at hc; omega) hr
  have c3 : ∀ W, Row W A (bs l) → Calls Try.prog 18 #[.int .u32 (more (more 0 (l.take 8)) [0, 0, 0, 0] : Nat), .slice (cutA A c 12) (n - 12) (c - 12)] W fun e w' => e = .returned (.int .u32 (more (more (more 0 (l.take 8)) [0, 0, 0, 0]) (l.drop 12) : Nat)) ∧ Below W.heap.size W w' := fun W hr =>
    more_any _ _ (n - 12) (c - 12) (l.drop 12) W (more_lt _ _) (by simp; omega) (by omega) (Byt.drop hb 12) (by
      have := hr.cut (c := c) (lo := 12) hnc
      rw [List.take_of_length_le (by simp [bs]; omega)] at this
      simpa [bs] using this)
  have hs : sm l = more (more (more 0 (l.take 8)) [0, 0, 0, 0]) (l.drop 12) := by
    rw [more_append (s := 0) (by omega) (Byt.take hb 8), more_append (s := 0) (by omega) (byt_app (Byt.take hb 8) (by intro c hc; simp at hc; omega)), List.append_assoc]
    rfl
  have g0 : Row (w.alloc (.cells (vb [0, 0, 0, 0]) 5)) A (bs l) ∧ Row (w.alloc (.cells (vb [0, 0, 0, 0]) 5)) (some ⟨w.heap.size, 0, none⟩) (bs [0, 0, 0, 0]) ∧ Below w.heap.size w (w.alloc (.cells (vb [0, 0, 0, 0]) 5)) := ⟨hr.alloc _, Row.new _ _ _ _, (Below.refl _ _).alloc (Nat.le_refl _) _⟩
  rw [hz] at hmk g0
  have c1' : ∀ W, Hid (Row W A (bs l) ∧ Row W (some ⟨w.heap.size, 0, none⟩) (bs [0, 0, 0, 0]) ∧ Below w.heap.size w W) → Calls Try.prog 19 #[.slice A 8 c] W fun e w' => e = .returned (.int .u32 (more 0 (l.take 8) : Nat)) ∧ Hid (Row w' A (bs l) ∧ Row w' (some ⟨w.heap.size, 0, none⟩) (bs [0, 0, 0, 0]) ∧ Below w.heap.size w w') := fun W hg =>
    (c1 W hg.out.1).mono fun e w' ⟨he, hw⟩ => ⟨he, hg.out.1.below hw, hg.out.2.1.below hw, bnext hg.out.2.2 hw⟩
  have c2' : ∀ W, Hid (Row W A (bs l) ∧ Row W (some ⟨w.heap.size, 0, none⟩) (bs [0, 0, 0, 0]) ∧ Below w.heap.size w W) → Calls Try.prog 18 #[.int .u32 (more 0 (l.take 8) : Nat), .slice (some ⟨w.heap.size, 0, none⟩) 4 4] W fun e w' => e = .returned (.int .u32 (more (more 0 (l.take 8)) [0, 0, 0, 0] : Nat)) ∧ Hid (Row w' A (bs l) ∧ Row w' (some ⟨w.heap.size, 0, none⟩) (bs [0, 0, 0, 0]) ∧ Below w.heap.size w w') := fun W hg =>
    (c2 W hg.out.2.1).mono fun e w' ⟨he, hw⟩ => ⟨he, hg.out.1.below hw, hg.out.2.1.below hw, bnext hg.out.2.2 hw⟩
  have c3' : ∀ W, Hid (Row W A (bs l) ∧ Row W (some ⟨w.heap.size, 0, none⟩) (bs [0, 0, 0, 0]) ∧ Below w.heap.size w W) → Calls Try.prog 18 #[.int .u32 (more (more 0 (l.take 8)) [0, 0, 0, 0] : Nat), .slice (cutA A c 12) (n - 12) (c - 12)] W fun e w' => e = .returned (.int .u32 (sm l : Nat)) ∧ Hid (Row w' A (bs l) ∧ Row w' (some ⟨w.heap.size, 0, none⟩) (bs [0, 0, 0, 0]) ∧ Below w.heap.size w w') := fun W hg =>
    (c3 W hg.out.1).mono fun e w' ⟨he, hw⟩ => ⟨by rw [he, hs], hg.out.1.below hw, hg.out.2.1.below hw, bnext hg.out.2.2 hw⟩
  have C1 := Lib.hid c1'
  have C2 := Lib.hid c2'
  have C3 := Lib.hid c3'
  have hg0 : Hid _ := g0
  clear c1 c2 c3 c1' c2' c3' g0 hs hz hr hb hl hcm hnm hn hnc hm9
  generalize more 0 (l.take 8) = S1 at C1 C2 C3
  generalize more S1 [0, 0, 0, 0] = S2 at C2 C3
  generalize sm l = S3 at C3
  go_enter Try.func12, Try.ntmps12
  go_wp2_with fail
  have hg2 : Hid (Row (w.alloc (.cells z 5)).drew A (bs l) ∧ Row (w.alloc (.cells z 5)).drew (some ⟨w.heap.size, 0, none⟩) (bs [0, 0, 0, 0]) ∧ Below w.heap.size w (w.alloc (.cells z 5)).drew) := ⟨hg0.1, hg0.2.1, hg0.2.2.drew⟩
  go_region_with (first
    | (go_at_call 19; (with_reducible refine (C1.out _ ?_).mono ?_); assumption; rintro e w3 ⟨rfl, hg3⟩)
    | (go_at_call 18; (with_reducible refine (C2.out _ ?_).mono ?_); assumption; rintro e w4 ⟨rfl, hg4⟩)
    | (go_at_call 18; (with_reducible refine (C3.out _ ?_).mono ?_); assumption; rintro e w5 ⟨rfl, hg5⟩))
  go_wp2_with fail
  go_ret
  exact ⟨rfl, hg5.2.2⟩
end Go.Proofs.Ytgepmicodfhhmaa
