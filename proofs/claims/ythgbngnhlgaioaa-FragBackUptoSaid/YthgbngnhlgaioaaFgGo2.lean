/-
  Whether one piece goes on with the next: the closure of bounds, walked.
-/
import Derived.Test.YthgbngnhlgaioaaFgGoes
namespace Go.Proofs.Ythgbngnhlgaioaa
set_option maxRecDepth 4000
open Go.RowKit Go.Maps
namespace Fg
set_option linter.unusedVariables false

theorem lt_of_cell {W : World} {b i : Nat} {v : Value} (h : W.cell? ⟨b, i, none⟩ = some v) : b < W.heap.size := block_lt_of_cell h
theorem cell_alloc {W : World} {b i : Nat} {v : Value} (h : W.cell? ⟨b, i, none⟩ = some v) (o : Obj) : (W.alloc o).cell? ⟨b, i, none⟩ = some v := (World.cell?_alloc_lt W o ⟨b, i, none⟩ (block_lt_of_cell h)).trans h
theorem two_new (W : World) (o o' : Obj) : Below W.heap.size W ((W.alloc o).alloc o') := ((Below.refl _ _).alloc (Nat.le_refl _) _).alloc (by simp) _
set_option maxHeartbeats 1000000 in
theorem goes_any (W : World) (F : Nat → Prop) (b j t : Nat) (K : List Pc) (h : JA j K W F) (hok : ∀ x ∈ K, x.Ok) (hb : Bk W b #[.pointer (some ⟨j, 0, none⟩)] 40) (ht : t < 4294967296) :
    Calls Try.prog 62 #[.int .u32 (t : Int), .pointer (some ⟨b, 0, none⟩)] W fun e w' => e = .returned (.bool (goes K t)) ∧ Below W.heap.size W w' := by
  obtain ⟨m, c0, c1, hm, hfz⟩ := h.cells
  have hc := hb.cell 0
  simp only [Array.getElem?_singleton, if_true] at hc
  have hc1 := fun o => cell_alloc hc o
  have c01 := fun o => cell_alloc c0 o
  clear h c1 hb hfz
  obtain ⟨u, hu⟩ : ∃ u, (t + 1) % 4294967296 = u := ⟨_, rfl⟩
  have hul : u < 4294967296 := by omega
  have hG : goes K t = gon (look K t) (look K u) := by unfold goes fw; rw [hu]
  have HG := Lib.hid hG
  have hui : ((t : Int) + 1) % 4294967296 = (u : Int) := by omega
  clear hG
  obtain ⟨r, hr0⟩ : ∃ r, goes K t = r := ⟨_, rfl⟩
  rw [hr0] at HG ⊢
  clear hr0
  have hx : ∃ (q : Pc) (p : Bool) (A : Option Addr) (k c : Nat), Hid (look K t = if p then some q else none) ∧ q.Ok ∧ (Instr.lookup 91 (.map (some m)) (.int .u32 (t : Int)) true).run Try.prog W = .ok (.tuple #[.agg (pv q A k c), .bool p]) W := by
    cases hl : look K t with
    | none => exact ⟨⟨0, 0, 0, 0, 0, []⟩, false, none, 0, 0, rfl, ⟨by decide, by decide, by decide, by decide, by decide, fun c h => by cases h⟩, (mk_none hm ht hl).2⟩
    | some x =>
      obtain ⟨A, k, c, hs, _, hr⟩ := mk_some hm ht hl
      exact ⟨x, true, A, k, c, rfl, hok x (look_mem hl).1, hr⟩
  have hy : ∃ (q : Pc) (p : Bool) (A : Option Addr) (k c : Nat), Hid (look K u = if p then some q else none) ∧ q.Ok ∧ ∀ o, (Instr.lookup 91 (.map (some m)) (.int .u32 (u : Int)) true).run Try.prog (W.alloc o) = .ok (.tuple #[.agg (pv q A k c), .bool p]) (W.alloc o) := by
    cases hl : look K u with
    | none => exact ⟨⟨0, 0, 0, 0, 0, []⟩, false, none, 0, 0, rfl, ⟨by decide, by decide, by decide, by decide, by decide, fun c h => by cases h⟩, fun o => (mk_none (MK.alloc hm o) hul hl).2⟩
    | some x =>
      obtain ⟨A, k, c, hs, _, hr⟩ := mk_some' hm hul hl
      exact ⟨x, true, A, k, c, rfl, hok x (look_mem hl).1, hr⟩
  obtain ⟨q, p, A, k, c, hl, ho, hr⟩ := hx
  obtain ⟨q', p', A', k', c', hl', ho', hr'⟩ := hy
  unfold pv at hr hr'
  have e1 := e_en ho.f
  have e2 := e_bg ho'.f
  have e3 := e_xor ho.f ho'.f
  have E1 := Lib.hid e1
  have E2 := Lib.hid e2
  have E3 := Lib.hid e3
  clear e1 e2 e3 ho ho' hm hok hul hu ht
  obtain ⟨qt, qf, qs, qn, qp, qd⟩ := q
  obtain ⟨qt', qf', qs', qn', qp', qd'⟩ := q'
  simp only at hr hr' E1 E2 E3
  go_enter Try.func62, Try.ntmps62
  go_upto_region 3 with fail
  cases p with
  | false =>
    have HR : Hid (r = false) := Lib.hid (by rw [HG.out, hl.out]; rfl)
    cases p' with
    | false =>
      go_wp2_with fail
      go_ret
      exact ⟨ret_b HR.out.symm, two_new _ _ _⟩
    | true =>
      go_wp2_with fail
      go_ret
      exact ⟨ret_b HR.out.symm, two_new _ _ _⟩
  | true =>
    cases p' with
    | false =>
      have HR : Hid (r = false) := Lib.hid (by rw [HG.out, hl.out, hl'.out]; rfl)
      go_wp2_with fail
      go_ret
      exact ⟨ret_b HR.out.symm, two_new _ _ _⟩
    | true =>
      have HR : Hid (r = (!en qf && !bg qf' && qs == qs' && qn == qn' && un qf == un qf')) := Lib.hid (by rw [HG.out, hl.out, hl'.out]; rfl)
      clear HG hl hl' hr hr'
      obtain ⟨b1, hb1⟩ : ∃ b1, (!en qf) = b1 := ⟨_, rfl⟩
      obtain ⟨b2, hb2⟩ : ∃ b2, (!bg qf') = b2 := ⟨_, rfl⟩
      obtain ⟨b5, hb5⟩ : ∃ b5, (un qf == un qf') = b5 := ⟨_, rfl⟩
      have z1 := E1.out
      have z2 := E2.out
      have z3 := E3.out
      rw [hb1] at HR z1
      rw [hb2] at HR z2
      rw [hb5] at HR z3
      have zs := ceq qs qs'
      have zn := ceq qn qn'
      obtain ⟨b3, hb3⟩ : ∃ b3, (qs == qs') = b3 := ⟨_, rfl⟩
      obtain ⟨b4, hb4⟩ : ∃ b4, (qn == qn') = b4 := ⟨_, rfl⟩
      rw [hb3] at HR zs
      rw [hb4] at HR zn
      clear hb1 hb2 hb3 hb4 hb5 E1 E2 E3
      cases b1 with
      | false =>
        go_wp2_with fail
        go_ret
        exact ⟨ret_b (by rw [HR.out]; rfl), two_new _ _ _⟩
      | true =>
      cases b2 with
      | false =>
        go_wp2_with fail
        go_ret
        exact ⟨ret_b (by rw [HR.out]; rfl), two_new _ _ _⟩
      | true =>
      cases b3 with
      | false =>
        go_wp2_with fail
        go_ret
        exact ⟨ret_b (by rw [HR.out]; rfl), two_new _ _ _⟩
      | true =>
      cases b4 with
      | false =>
        go_wp2_with fail
        go_ret
        exact ⟨ret_b (by rw [HR.out]; rfl), two_new _ _ _⟩
      | true =>
      cases b5 with
      | false =>
        go_wp2_with fail
        go_ret
        exact ⟨ret_b (by rw [HR.out]; rfl), two_new _ _ _⟩
      | true =>
        go_wp2_with fail
        go_ret
        exact ⟨ret_b (by rw [HR.out]; rfl), two_new _ _ _⟩
end Fg
end Go.Proofs.Ythgbngnhlgaioaa
