/-
  Things as they lie in a slice.
-/
import Derived.Test.YtjlemghkaodkkaaTlvRef
namespace Go.Proofs.Ytjlemghkaodkkaa
open Go.RowKit Wire Tlv

/-- A thing as it lies in a slice: what it says, and its value's slice. -/
abbrev Q := Tv × Value
def tc (q : Q) : List Value := [.int .u16 (q.1.k : Int), .int .u8 (q.1.f : Int), q.2]
def tf (qs : List Q) : List Value := qs.flatMap tc
theorem tf_len (qs : List Q) : (tf qs).length = 3 * qs.length := by
  induction qs with
  | nil => rfl
  | cons q qs ih => simp [tf, tc] at ih ⊢; omega
theorem tf_snoc (qs : List Q) (q : Q) : tf (qs ++ [q]) = tf qs ++ tc q := by simp [tf]
theorem tf_get : ∀ {qs : List Q} {i : Nat} (h : i < qs.length), (tf qs)[i * 3]? = some (.int .u16 (qs[i].1.k : Int)) ∧ (tf qs)[i * 3 + 1]? = some (.int .u8 (qs[i].1.f : Int)) ∧ (tf qs)[i * 3 + 2]? = some qs[i].2
  | q :: qs, 0, _ => by simp [tf, tc]
  | q :: qs, i + 1, h => by
    have ih := tf_get (qs := qs) (i := i) (by simpa using h)
    have e : tf (q :: qs) = tc q ++ tf qs := by simp [tf]
    have hl : (tc q).length = 3 := rfl
    rw [e, List.getElem?_append_right (by omega), List.getElem?_append_right (by omega), List.getElem?_append_right (by omega), hl]
    rw [show (i + 1) * 3 - 3 = i * 3 by omega, show (i + 1) * 3 + 1 - 3 = i * 3 + 1 by omega, show (i + 1) * 3 + 2 - 3 = i * 3 + 2 by omega]
    exact ih
/-- The thing's value lies in the world. -/
def Vl (W : World) (q : Q) : Prop := ∃ A n c, q.2 = .slice A n c ∧ q.1.v.length = n ∧ n ≤ c ∧ c ≤ maxLen ∧ n ≤ 140737488351232 ∧ q.1.ok ∧ Row W A (bs q.1.v) ∧ (A = none → n = 0 ∧ c = 0)
theorem Vl.next {W W' : World} {q : Q} (h : Vl W q) (hb : Below W.heap.size W W') : Vl W' q := by
  obtain ⟨A, n, c, h1, h2, h3, h4, h8, h5, h6, h7⟩ := h
  exact ⟨A, n, c, h1, h2, h3, h4, h8, h5, h6.below hb, h7⟩
/-- Things in a slice. -/
def Ths (W : World) (A : Option Addr) (qs : List Q) : Prop := Row W A (tf qs) ∧ ∀ q ∈ qs, Vl W q
theorem Ths.next {W W' : World} {A : Option Addr} {qs : List Q} (h : Ths W A qs) (hb : Below W.heap.size W W') : Ths W' A qs := ⟨h.1.below hb, fun q hq => (h.2 q hq).next hb⟩
theorem Ths.at {W : World} {A : Option Addr} {qs : List Q} (h : Ths W A qs) {i : Nat} (hi : i < qs.length) :
    ∃ a B n c, A = some a ∧ W.cell? (a.add (i * 3)) = some (.int .u16 (qs[i].1.k : Int)) ∧ W.cell? { block := (a.add (i * 3)).block, off := (a.add (i * 3)).off + 1 } = some (.int .u8 (qs[i].1.f : Int)) ∧
      W.cell? { block := (a.add (i * 3)).block, off := (a.add (i * 3)).off + 2 } = some (.slice B n c) ∧ qs[i].2 = .slice B n c ∧ qs[i].1.v.length = n ∧ n ≤ c ∧ c ≤ maxLen ∧ n ≤ 140737488351232 ∧ qs[i].1.ok ∧ Row W B (bs qs[i].1.v) ∧ (B = none → n = 0 ∧ c = 0) := by
  obtain ⟨g0, g1, g2⟩ := tf_get hi
  obtain ⟨a, hA, k0⟩ := h.1 _ _ g0
  obtain ⟨a1, e1, k1⟩ := h.1 _ _ g1
  obtain ⟨a2, e2, k2⟩ := h.1 _ _ g2
  rw [hA] at e1 e2
  injection e1 with e1
  injection e2 with e2
  subst e1; subst e2
  obtain ⟨B, n, c, h1, h2, h3, h4, h8, h5, h6, h7⟩ := h.2 qs[i] (List.getElem_mem hi)
  rw [h1] at k2
  rw [← add_add] at k1 k2
  exact ⟨a, B, n, c, hA, k0, (by rw [← k1]; rfl), (by rw [← k2]; rfl), h1, h2, h3, h4, h8, h5, h6, h7⟩
end Go.Proofs.Ytjlemghkaodkkaa
