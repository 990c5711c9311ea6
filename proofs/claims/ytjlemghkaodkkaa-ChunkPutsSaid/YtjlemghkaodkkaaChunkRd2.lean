/-
  The reader of layer 5: four, own, data, last, piece, nothing.
-/
import Derived.Test.YtjlemghkaodkkaaChunkRd
import Derived.Test.YtjlemghkaodkkaaTlvAll
namespace Go.Proofs.Ytjlemghkaodkkaa
open Go.RowKit Wire Tlv Chunk

set_option maxRecDepth 100000 in
set_option maxHeartbeats 1000000 in
theorem four_r (w W : World) (b : Nat) (r : Rt) (s : Ls) (A : Option Addr) (n cap : Nat) (h : Rr w b r s A n cap W) :
    Calls Try.prog 61 #[.pointer (some ⟨b, 0, none⟩)] W (NOut w b r.n4.2 s (.int .u32 (r.n4.1 : Nat)) W) := by
  have h1 := Rt.n2_lt h.byt
  have h2 := Rt.n2_lt (Rt.n2_byt h.byt)
  have H1 := Lib.hid (two_r w W b r s A n cap h)
  have HT := Lib.hid fun W A n cap h => two_r w W b r.n2.2 s A n cap h
  have HE : Hid (r.n4 = (r.n2.1 * 65536 + r.n2.2.n2.1, r.n2.2.n2.2)) := Lib.hid rfl
  rw [HE.out]
  generalize hx : r.n2.1 = x at *
  generalize hy : r.n2.2.n2.1 = y at *
  have HW := Lib.hid (u32_word h1 h2)
  have ws : IntKind.u32.wrap ((x : Int) * 65536) = (x : Int) * 65536 := by rw [IntKind.wrap_u32]; omega
  clear h hx hy
  go_enter Try.func61, Try.ntmps61
  go_wp2_with fail
  (with_reducible refine H1.out.mono ?_)
  rintro e W1 ⟨A1, n1, c1, rfl, hr1, ho1⟩
  have HO1 := Lib.hid ho1
  have HR1 := Lib.hid hr1
  clear hr1 ho1
  go_wp2_with fail
  (with_reducible refine (HT.out _ _ _ _ HR1.out).mono ?_)
  rintro e W2 ⟨A2, n2, c2, rfl, hr2, ho2⟩
  have HO2 := Lib.hid (HO1.out.trans ho2)
  have HR2 := Lib.hid hr2
  clear hr2 ho2
  go_wp2_with fail
  go_ret
  exact ⟨_, _, _, by rw [HW.out]; rfl, HR2.out, HO2.out⟩
set_option maxHeartbeats 400000 in
theorem own_any (A : Option Addr) (n c : Nat) (l : List Int) (w : World) (hl : l.length = n) (hn : n ≤ 100000) (hr : Row w A (bs l)) :
    Calls Try.prog 68 #[.slice A n c] w fun e w' => ∃ A' c', e = .returned (.slice A' n c') ∧ Own w w' A' n c' l := by
  by_cases h0 : n = 0
  · subst h0
    have hl0 : l = [] := List.eq_nil_of_length_eq_zero hl
    subst hl0
    clear hl hr
    go_enter Try.func68, Try.ntmps68
    go_wp2_with fail
    go_ret
    exact ⟨none, 0, rfl, own_nil _⟩
  · have HC := Lib.hid (clone_any A n c l w hl hn hr)
    have d : ((n : Int) == 0) = false := by simp; omega
    clear hl hr h0
    go_enter Try.func68, Try.ntmps68
    go_wp2_with fail
    (with_reducible refine HC.out.mono ?_)
    rintro e w1 ⟨A1, c1, rfl, ho1⟩
    have HO := Lib.hid ho1
    clear ho1
    go_wp2_with fail
    go_ret
    exact ⟨_, _, rfl, HO.out⟩
theorem owns_same {W W' : World} {B z : Nat} {e : TypeId} {v : Value} {n : Nat} {xs : List Value} (h : W.ownsRow B e z v n xs) (hk : ∀ k, B ≤ k → k < W.heap.size → W'.heap[k]? = W.heap[k]?) : W'.ownsRow B e z v n xs := by
  refine ⟨h.1, ?_⟩
  rcases h.2 with h0 | ⟨g, cap, cur, hv, hg, hh, r⟩
  · exact .inl h0
  · exact .inr ⟨g, cap, cur, hv, hg, (hk g hg (Array.getElem?_eq_some_iff.1 hh).1).trans hh, r⟩
theorem owns_put {W : World} {B z b i : Nat} {u : Value} {e : TypeId} {v : Value} {n : Nat} {xs : List Value} (h : W.ownsRow B e z v n xs) (hb : b < B) : (W.setCell ⟨b, i, none⟩ u).ownsRow B e z v n xs :=
  owns_same h fun k hk _ => Below.heap_setCell _ _ _ k (by show k ≠ b; omega)
def putD (s : Ls) (A : Option Addr) (n c : Nat) : Ls := { s with dA := A, dn := n, dc := c }
theorem rv_da (A : Option Addr) (n cap : Nat) (c : Ck) (s : Ls) (bad : Bool) (l : List Int) (A' : Option Addr) (n' c' : Nat) : (rv A n cap c s bad).setIfInBounds 11 (.slice A' n' c') = rv A n cap { c with da := l } (putD s A' n' c') bad := by simp [rv, putD]
set_option maxRecDepth 100000 in
set_option maxHeartbeats 1000000 in
theorem data_r (w W : World) (b : Nat) (r : Rt) (s : Ls) (A : Option Addr) (n cap : Nat) (h : Rr w b r s A n cap W) :
    Calls Try.prog 51 #[.pointer (some ⟨b, 0, none⟩)] W fun e W' => ∃ A' n' c', e = .returned (.tuple #[]) ∧ Rr w b ⟨[], { r.c with da := r.l }, r.bad⟩ (putD s A' n' c') none 0 0 W' ∧ W'.ownsRow W.heap.size 5 1 (.slice A' n' c') n' (bs r.l) ∧ Ot W W' b := by
  have HR := Lib.hid h
  have g0 := h.bk.r0
  have HO := Lib.hid (own_any A n cap r.l W h.len (by have := h.sm; omega) (h.row.below h.bl))
  have hlt := Lib.hid h.bk.lt
  clear h
  go_enter Try.func51, Try.ntmps51
  go_wp2_with fail
  (with_reducible refine HO.out.mono ?_)
  rintro e W1 ⟨A1, c1, rfl, ho1⟩
  have hr1 := HR.out.next ho1.2
  have g11 := hr1.bk.r11
  have g0' := hr1.bk.r0
  have f11 := hr1.bk.frozen 11
  have f0 := hr1.bk.frozen 0
  have HF := Lib.hid ((hr1.put 11 (.slice A1 n c1) { r.c with da := r.l } (rv_da _ _ _ _ _ _ r.l _ _ _)).no)
  have hot := ((Ot.below b ho1.2).set 11 (.slice A1 n c1)).set 0 (.slice none 0 0)
  have HOT := Lib.hid hot
  have HOB := Lib.hid (owns_put (i := 0) (u := .slice none 0 0) (owns_put (i := 11) (u := .slice A1 n c1) ho1.1 hlt.out) hlt.out)
  clear hr1 ho1 hot
  go_wp2_with fail
  go_end0
  exact ⟨_, _, _, rfl, HF.out, HOB.out, HOT.out⟩
end Go.Proofs.Ytjlemghkaodkkaa
