/-
  A joiner is made; what is asked of it: has, Held, Len: and of none.
-/
import Derived.Test.YthgbngnhlgaioaaFgMem
namespace Go.Proofs.Ythgbngnhlgaioaa
set_option maxRecDepth 4000
open Go.RowKit Go.Maps
namespace Fg
set_option linter.unusedVariables false

theorem ret_b {a b : Bool} (h : a = b) : Ending.returned (.bool a) = .returned (.bool b) := by rw [h]
theorem JA.cells {j : Nat} {K : List Pc} {w : World} {F : Nat → Prop} (h : JA j K w F) :
    ∃ m, w.cell? ⟨j, 0, none⟩ = some (.map (some m)) ∧ w.cell? ⟨j, 1, none⟩ = some (.int .i64 (held K : Int)) ∧ MK m K w F ∧ w.frozen? ⟨j, 1, none⟩ = false := by
  obtain ⟨m, hb, hm, _⟩ := h
  exact ⟨m, (hb.cell 0).trans rfl, (hb.cell 1).trans rfl, hm, hb.frozen 1⟩
theorem new_any (W : World) :
    Calls Try.prog 10 #[] W fun e w' => ∃ j F, e = .returned (.pointer (some ⟨j, 0, none⟩)) ∧ JA j [] w' F ∧ (∀ k, F k → W.heap.size ≤ k) ∧ Below W.heap.size W w' := by
  have hmk := @run_makeMap Try.prog
  go_enter Try.func10, Try.ntmps10
  go_wp2
  go_ret
  refine ⟨W.heap.size + 1, fun k => k = W.heap.size ∨ k = W.heap.size + 1, rfl, ⟨W.heap.size, ?_, ⟨.map [], ?_, view_nil _ _, .inl rfl, List.Pairwise.nil, fun k hk => ?_⟩, .inr rfl, fun x hx => by cases hx⟩, fun k hk => by omega, ((Below.refl _ _).alloc (Nat.le_refl _) _).alloc (by simp) _⟩
  · have := Bk.new (W.alloc (.map #[] 0)) #[.map (some W.heap.size), .int .i64 0] 93
    show Bk _ _ #[.map (some W.heap.size), .int .i64 0] _
    simpa using this
  · exact (World.ownsMap_made W Try.prog 23 tok).alloc _
  · simp; omega
theorem s_new {W w : World} {R : World → (Nat → Prop) → Prop} (h : Now W w R) (hR : Fr R) :
    Calls Try.prog 10 #[] w fun e w' => ∃ j, e = .returned (.pointer (some ⟨j, 0, none⟩)) ∧ Now W w' (star (JA j []) R) :=
  (new_any w).mono fun e w' ⟨j, F, he, hj, hn, hb⟩ => ⟨j, he, h.more hR hb hj hn (fun k hk => (JA_fr j []).bound _ _ hj k hk)⟩
theorem held_any (W : World) (F : Nat → Prop) (j : Nat) (K : List Pc) (h : JA j K W F) :
    Calls Try.prog 13 #[.pointer (some ⟨j, 0, none⟩)] W fun e w' => e = .returned (.int .i64 (held K : Int)) ∧ W = w' := by
  obtain ⟨m, c0, c1, hm, _⟩ := h.cells
  clear h
  generalize held K = x at c1 ⊢
  go_enter Try.func13, Try.ntmps13
  go_wp2
  go_ret
  exact ⟨rfl, rfl⟩
theorem held_nil (W : World) : Calls Try.prog 13 #[.pointer none] W fun e w' => e = .returned (.int .i64 0) ∧ W = w' := by
  go_enter Try.func13, Try.ntmps13
  go_wp2
  go_ret
  exact ⟨rfl, rfl⟩
theorem len_any (W : World) (F : Nat → Prop) (j : Nat) (K : List Pc) (h : JA j K W F) :
    Calls Try.prog 14 #[.pointer (some ⟨j, 0, none⟩)] W fun e w' => e = .returned (.int .i64 (K.length : Int)) ∧ W = w' := by
  obtain ⟨m, c0, c1, ⟨D, hm, hv, _⟩, _⟩ := h.cells
  have hh := Lib.hid hv.size
  clear h hv
  go_enter Try.func14, Try.ntmps14
  go_wp2_with (at_len; refine wpList_len_own _ rfl _ _ rfl 23 38 Try.underlying91 tok m _ D rfl hm ?_)
  go_ret
  exact ⟨ret_eq (by rw [hh.out]), rfl⟩
theorem len_nil (W : World) : Calls Try.prog 14 #[.pointer none] W fun e w' => e = .returned (.int .i64 0) ∧ W = w' := by
  go_enter Try.func14, Try.ntmps14
  go_wp2
  go_ret
  exact ⟨rfl, rfl⟩
theorem has_any (W : World) (F : Nat → Prop) (j t : Nat) (K : List Pc) (h : JA j K W F) (ht : t < 4294967296) :
    Calls Try.prog 38 #[.pointer (some ⟨j, 0, none⟩), .int .u32 (t : Int)] W fun e w' => e = .returned (.bool (look K t).isSome) ∧ Below W.heap.size W w' := by
  obtain ⟨m, c0, c1, hm, _⟩ := h.cells
  clear h c1
  cases hl : look K t with
  | none =>
    have hr := (mk_none hm ht hl).2
    unfold zpc at hr
    clear hm hl ht
    go_enter Try.func38, Try.ntmps38
    go_wp2
    go_ret
    exact ⟨rfl, by first | exact (Below.refl _ _).alloc (Nat.le_refl _) _ | exact ((Below.refl _ _).alloc (Nat.le_refl _) _).setCell (by simp) _⟩
  | some x =>
    obtain ⟨A, k, c, hs, _, hr⟩ := mk_some hm ht hl
    unfold pv at hr
    clear hm hl ht hs
    go_enter Try.func38, Try.ntmps38
    go_wp2
    go_ret
    exact ⟨rfl, by first | exact (Below.refl _ _).alloc (Nat.le_refl _) _ | exact ((Below.refl _ _).alloc (Nat.le_refl _) _).setCell (by simp) _⟩
end Fg
end Go.Proofs.Ythgbngnhlgaioaa
