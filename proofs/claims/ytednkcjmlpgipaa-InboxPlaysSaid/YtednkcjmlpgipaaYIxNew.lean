/-
  A new inbox.
-/
import Derived.Test.YtednkcjmlpgipaaYIxDeal
import Derived.Laws.MakeOwn
import Derived.Deep.RegionHeld3
namespace Go.Proofs.Ytednkcjmlpgipaa
set_option maxRecDepth 4000
open Go.RowKit Go.Maps
namespace Ix
set_option linter.unusedVariables false
set_option linter.unusedSimpArgs false
open Fg (Pc Ms mv JA JA_fr)

/-- A number of bytes as it counts. -/
def bnd (n : Int) : Nat := (min (max n 0) 1048576).toNat
theorem bounded_any (n : Int) (w : World) : Calls Try.prog 47 #[.int .i64 n] w fun e w' => e = .returned (.int .i64 (bnd n : Nat)) ∧ w = w' := by
  have h : min (max n 0) (1048576 : Int) = ((bnd n : Nat) : Int) := by unfold bnd; omega
  go_enter Try.func47, Try.ntmps47
  go_wp2
  all_goals
    go_ret
    exact ⟨ret_eq (by omega), rfl⟩
theorem info16 : (Try.prog.info? 22).map (fun i => (i.zero, i.size, i.bytes)) = some (some (.int .u16 0), 1, 2) := by kernel_rfl
/-- A row of so many zeros. -/
theorem make16 (n : Nat) (hn : n < 65536) : ∃ Z : Array Value, (∀ W : World, (Instr.makeSlice 65 (.int .u16 (n : Int)) (.int .u16 (n : Int))).run Try.prog W = .ok (.slice (some ⟨W.heap.size, 0, none⟩) n n) (W.alloc (.cells Z 22))) ∧
    ∀ W : World, Ir .u16 22 (W.alloc (.cells Z 22)) (.slice (some ⟨W.heap.size, 0, none⟩) n n) (List.replicate n 0) := by
  obtain ⟨i0, hi0, hz0, hz1, hz2⟩ := info_parts info16
  refine ⟨madeCells (Value.int .u16 0).cells (n * i0.size), fun W => ?_, fun W => ?_⟩
  · have h := run_make (P := Try.prog) W 65 22 i0 (.int .u16 0) Try.underlying65 hi0 hz0 .u16 .u16 (n : Int) (n : Int) (by omega) (by omega) (by rw [hz2]; omega) (by omega)
    simpa using h
  · have hlen : (List.replicate n 0).length = n := by simp
    unfold Ir
    rw [hlen]
    refine ⟨by simp [ns], .inr ⟨W.heap.size, n, _, rfl, Nat.zero_le _, heap_alloc_new _ _, Nat.le_refl _, by unfold maxLen; omega, ?_, ?_⟩⟩
    · rw [size_madeCells, hz1]
    · rw [hz1]
      apply List.ext_getElem?
      intro j
      by_cases hj : j < n
      · simp [madeCells, ns, Value.cells, hj, Nat.mod_one]
      · rw [List.getElem?_eq_none (by simp [madeCells, Value.cells]; omega), List.getElem?_eq_none (by simp [ns]; omega)]
section
variable {W w : World} {R l : List As}
theorem Nw_map {g : Nat} (hg : w.heap.size = g) (h : Nw W w l) : Nw W (w.alloc (.map #[] 0)) (WtA g [] :: l) := by
  subst hg
  exact h.more ((Below.refl _ _).alloc (Nat.le_refl _) _) (WtA w.heap.size []) (F1 := fun k => k = w.heap.size) (amr_new w) (fun k hk => by omega)
theorem Nw_slice {Z : Array Value} {n : Nat} (hir : ∀ W : World, Ir .u16 22 (W.alloc (.cells Z 22)) (.slice (some ⟨W.heap.size, 0, none⟩) n n) (List.replicate n 0)) {g : Nat} (hg : w.heap.size = g) (h : Nw W w l) : Nw W (w.alloc (.cells Z 22)) (IrA .u16 22 (.slice (some ⟨g, 0, none⟩) n n) (List.replicate n 0) :: l) := by
  subst hg
  exact h.more ((Below.refl _ _).alloc (Nat.le_refl _) _) (IrA .u16 22 (.slice (some ⟨w.heap.size, 0, none⟩) n n) (List.replicate n 0)) (F1 := fun k => k = w.heap.size) ⟨hir w, fun g hg => (Option.some.inj hg).symm, fun k hk => by subst hk; simp⟩ (fun k hk => by omega)
theorem Nw_none (h : Nw W w R) : Nw W w (QuA (.slice none 0 0) [] :: DatA [] :: R) :=
  (h.more (Below.refl _ _) (DatA []) (F1 := fun _ => False) ⟨fun e he => by simp at he, fun k h => h.elim⟩ (fun k h => h.elim)).more (Below.refl _ _) (QuA (.slice none 0 0) []) (F1 := fun _ => False) ⟨Qu.nil _ _ _, fun g hg => by simp [Value.ownBlock] at hg, fun k h => h.elim⟩ (fun k h => h.elim)
theorem new_fin {s j gs gm n c ro mo x : Nat} (hx : w.heap.size = x) (h : Nw W w (PAs s ⟨c, [], []⟩ :: JAs j [] :: IrA .u16 22 (.slice (some ⟨gs, 0, none⟩) n n) (List.replicate n 0) :: WtA gm [] :: QuA (.slice none 0 0) [] :: DatA [] :: R)) :
    IX W (w.alloc (.cells #[.int .i64 (ro : Int), .int .i64 (mo : Int), .pointer (some ⟨s, 0, none⟩), .pointer (some ⟨j, 0, none⟩), .slice (some ⟨gs, 0, none⟩) n n, .map (some gm), .slice none 0 0, .int .i64 0] 101)) x ⟨ro, mo, ⟨c, [], []⟩, [], List.replicate n 0, [], []⟩ [] R := by
  subst hx
  exact ⟨⟨s, j, gm, .slice (some ⟨gs, 0, none⟩) n n, .slice none 0 0, [], []⟩, h.box _ _, ⟨rfl, rfl, fun e he => by simp at he, fun e he => by simp at he, fun e he => by simp at he⟩⟩
end
set_option maxHeartbeats 4000000 in
theorem new_any {W w : World} {R : List As} (h : Nw W w R) (n : Nat) (room most : Int) (c : Nat) (hn : n < 65536) (hc : c < 4294967296) :
    Calls Try.prog 9 #[.int .u16 (n : Int), .int .i64 room, .int .i64 most, .int .u32 (c : Int)] w fun e w' => ∃ x, e = .returned (.pointer (some ⟨x, 0, none⟩)) ∧ IX W w' x ⟨bnd room, bnd most, ⟨c, [], []⟩, [], List.replicate n 0, [], []⟩ [] R := by
  obtain ⟨Z, hmk, hir⟩ := make16 n hn
  have HIR := Lib.hid hir
  have hmm := @run_makeMap Try.prog
  have CB := Lib.hid bounded_any
  have CG := Lib.hid fun w2 => Gp.new_any c w2 hc
  have CJ := Lib.hid fun w2 => Fg.new_any w2
  have HN0 := Lib.hid (Nw_none (h.next (Below.refl _ _).drew))
  clear h hir
  go_enter Try.func9, Try.ntmps9
  go_wp2_with fail
  go_region_held3 (fun _ => True) (exact trivial) ((first
    | (go_at_call 47; (with_reducible refine (CB.out _ _).mono ?_); rintro e w ⟨rfl, rfl⟩)
    | (go_at_call 48; (with_reducible refine (CG.out _).mono ?_); rintro e w3 ⟨s, F3, rfl, hp3, hn3, hb3⟩)
    | (go_at_call 49; (with_reducible refine (CJ.out _).mono ?_); rintro e w4 ⟨j, F4, rfl, hp4, hn4, hb4⟩)))
  all_goals
    go_wp2_with fail
    go_ret
    refine ⟨_, rfl, ?_⟩
    first
      | exact new_fin (by simp) ((Nw_map (by simp) ((Nw_slice HIR.out (by simp) (((((HN0.out).more hb3 (PAs s ⟨c, [], []⟩) hp3 hn3)).more hb4 (JAs j []) hp4 hn4))))).perm ((((((List.Perm.swap _ _ _).trans (List.Perm.cons _ (List.Perm.swap _ _ _))).trans (List.Perm.cons _ (List.Perm.cons _ (List.Perm.swap _ _ _)))).trans (List.Perm.swap _ _ _)).trans (List.Perm.cons _ (List.Perm.swap _ _ _))).trans (List.Perm.swap _ _ _)))
      | exact new_fin (by simp) ((Nw_slice HIR.out (by simp) ((Nw_map (by simp) (((((HN0.out).more hb3 (PAs s ⟨c, [], []⟩) hp3 hn3)).more hb4 (JAs j []) hp4 hn4))))).perm (((((List.Perm.cons _ (List.Perm.swap _ _ _)).trans (List.Perm.cons _ (List.Perm.cons _ (List.Perm.swap _ _ _)))).trans (List.Perm.swap _ _ _)).trans (List.Perm.cons _ (List.Perm.swap _ _ _))).trans (List.Perm.swap _ _ _)))
      | exact new_fin (by simp) ((Nw_map (by simp) ((((Nw_slice HIR.out (by simp) (((HN0.out).more hb3 (PAs s ⟨c, [], []⟩) hp3 hn3)))).more hb4 (JAs j []) hp4 hn4))).perm (((((List.Perm.swap _ _ _).trans (List.Perm.cons _ (List.Perm.swap _ _ _))).trans (List.Perm.cons _ (List.Perm.cons _ (List.Perm.swap _ _ _)))).trans (List.Perm.cons _ (List.Perm.swap _ _ _))).trans (List.Perm.swap _ _ _)))
      | exact new_fin (by simp) ((((Nw_map (by simp) ((Nw_slice HIR.out (by simp) (((HN0.out).more hb3 (PAs s ⟨c, [], []⟩) hp3 hn3)))))).more hb4 (JAs j []) hp4 hn4).perm ((((List.Perm.cons _ (List.Perm.swap _ _ _)).trans (List.Perm.cons _ (List.Perm.cons _ (List.Perm.swap _ _ _)))).trans (List.Perm.cons _ (List.Perm.swap _ _ _))).trans (List.Perm.swap _ _ _)))
      | exact new_fin (by simp) ((Nw_slice HIR.out (by simp) ((((Nw_map (by simp) (((HN0.out).more hb3 (PAs s ⟨c, [], []⟩) hp3 hn3)))).more hb4 (JAs j []) hp4 hn4))).perm ((((List.Perm.swap _ _ _).trans (List.Perm.cons _ (List.Perm.cons _ (List.Perm.swap _ _ _)))).trans (List.Perm.cons _ (List.Perm.swap _ _ _))).trans (List.Perm.swap _ _ _)))
      | exact new_fin (by simp) ((((Nw_slice HIR.out (by simp) ((Nw_map (by simp) (((HN0.out).more hb3 (PAs s ⟨c, [], []⟩) hp3 hn3)))))).more hb4 (JAs j []) hp4 hn4).perm (((List.Perm.cons _ (List.Perm.cons _ (List.Perm.swap _ _ _))).trans (List.Perm.cons _ (List.Perm.swap _ _ _))).trans (List.Perm.swap _ _ _)))
      | exact new_fin (by simp) ((Nw_map (by simp) ((((((Nw_slice HIR.out (by simp) (HN0.out))).more hb3 (PAs s ⟨c, [], []⟩) hp3 hn3)).more hb4 (JAs j []) hp4 hn4))).perm ((((List.Perm.swap _ _ _).trans (List.Perm.cons _ (List.Perm.swap _ _ _))).trans (List.Perm.cons _ (List.Perm.cons _ (List.Perm.swap _ _ _)))).trans (List.Perm.swap _ _ _)))
      | exact new_fin (by simp) ((((Nw_map (by simp) ((((Nw_slice HIR.out (by simp) (HN0.out))).more hb3 (PAs s ⟨c, [], []⟩) hp3 hn3)))).more hb4 (JAs j []) hp4 hn4).perm (((List.Perm.cons _ (List.Perm.swap _ _ _)).trans (List.Perm.cons _ (List.Perm.cons _ (List.Perm.swap _ _ _)))).trans (List.Perm.swap _ _ _)))
      | exact new_fin (by simp) ((((((Nw_map (by simp) ((Nw_slice HIR.out (by simp) (HN0.out))))).more hb3 (PAs s ⟨c, [], []⟩) hp3 hn3)).more hb4 (JAs j []) hp4 hn4).perm ((List.Perm.swap _ _ _).trans (List.Perm.cons _ (List.Perm.cons _ (List.Perm.swap _ _ _)))))
      | exact new_fin (by simp) ((Nw_slice HIR.out (by simp) ((((((Nw_map (by simp) (HN0.out))).more hb3 (PAs s ⟨c, [], []⟩) hp3 hn3)).more hb4 (JAs j []) hp4 hn4))).perm (((List.Perm.swap _ _ _).trans (List.Perm.cons _ (List.Perm.swap _ _ _))).trans (List.Perm.swap _ _ _)))
      | exact new_fin (by simp) ((((Nw_slice HIR.out (by simp) ((((Nw_map (by simp) (HN0.out))).more hb3 (PAs s ⟨c, [], []⟩) hp3 hn3)))).more hb4 (JAs j []) hp4 hn4).perm ((List.Perm.cons _ (List.Perm.swap _ _ _)).trans (List.Perm.swap _ _ _)))
      | exact new_fin (by simp) ((((((Nw_slice HIR.out (by simp) ((Nw_map (by simp) (HN0.out))))).more hb3 (PAs s ⟨c, [], []⟩) hp3 hn3)).more hb4 (JAs j []) hp4 hn4).perm (List.Perm.swap _ _ _))
end Ix
end Go.Proofs.Ytednkcjmlpgipaa
