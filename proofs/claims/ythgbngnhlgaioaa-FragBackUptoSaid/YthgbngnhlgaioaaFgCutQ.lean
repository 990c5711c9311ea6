/-
  What Cut answers, both ways; a row of pieces as a row.
-/
import Derived.Test.YthgbngnhlgaioaaFgKnown
namespace Go.Proofs.Ythgbngnhlgaioaa
set_option maxRecDepth 4000
open Go.RowKit Go.Maps
open Fg
set_option linter.unusedVariables false
set_option linter.unusedSimpArgs false

structure MIn (W : World) (s p : Nat) (A : Option Addr) (n c : Nat) (l : List Int) : Prop where
  len : l.length = n
  cap : n ≤ c
  row : Row W A (bs l)
  byt : Byt l
theorem ps_row {B : Nat} {W : World} {A : Option Addr} {n c : Nat} {qs : List Pq} (h : Ps B W (.slice A n c) qs) (hn : qs.length = n) : Row W A (pf qs) := by
  subst hn
  intro i v hv
  have hi := (List.getElem?_eq_some_iff.1 hv).1
  rcases h.own.2 with ⟨e, h0⟩ | ⟨g, cap, cur, e, _⟩
  · have : qs = [] := List.eq_nil_of_length_eq_zero h0
    subst this
    simp [pf] at hv
  · injection e with e1 e2 e3
    subst e1
    refine ⟨_, rfl, ?_⟩
    rw [addr0, World.ownsRow.cellAt h.own i (by rw [pf_len] at hi; exact hi), hv]
def cutR (u : Bool) (s p : Nat) (l : List Int) (z : Int) : List Pc × Nat := if l.length = 0 ∨ z < 1 then ([], 2) else (cutL u s p l z.toNat, 0)
theorem cutN_le {l : List Int} {sz : Nat} (h : 0 < l.length) (hs : 1 ≤ sz) : cutN l sz ≤ l.length := by
  unfold cutN
  generalize l.length = n at h
  obtain ⟨a, rfl⟩ : ∃ a, n = a + 1 := ⟨n - 1, by omega⟩
  obtain ⟨b, rfl⟩ : ∃ b, sz = b + 1 := ⟨sz - 1, by omega⟩
  refine Nat.div_le_of_le_mul ?_
  rw [Nat.add_mul, Nat.mul_add]
  have := Nat.zero_le (b * a)
  omega
theorem cutR_len {u : Bool} {s p : Nat} {l : List Int} {z : Int} : (cutR u s p l z).1.length ≤ l.length := by
  unfold cutR
  split
  · simp
  · simp [cutL]
    exact cutN_le (by omega) (by omega)
theorem cutR_two {u : Bool} {s p : Nat} {l : List Int} {z : Int} : (cutR u s p l z).2 ≤ 2 := by
  unfold cutR
  split <;> simp
def Cutted (b : World) (R : List Pc × Nat) (e : Ending) (w' : World) : Prop :=
  ∃ A N c qs, e = .returned (.tuple #[.slice A N c, .int .i64 (R.2 : Int)]) ∧ qs.length = N ∧ qs.map (·.1) = R.1 ∧ Ps b.heap.size w' (.slice A N c) qs ∧ Below b.heap.size b w'
theorem cut_both {W w : World} {s p : Nat} {u : Bool} {A : Option Addr} {n c : Nat} {l : List Int} {z : Int} (hm : MIn W s p A n c l) (hn : n ≤ 5000) (hz : (Lit.int .i64 z).wf = true) (hb : Below W.heap.size W w) :
    Calls Try.prog 8 #[.agg #[.int .u16 (s : Int), .bool u, .int .u32 (p : Int), .slice A n c], .int .i64 z] w fun e w' => Cutted w (cutR u s p l z) e w' := by
  have h2 := wf_i64 hz
  by_cases h : n = 0 ∨ z < 1
  · refine (cut_err s u p A n c z w h).mono ?_
    rintro e w' ⟨rfl, hb'⟩
    have hR : cutR u s p l z = ([], 2) := by unfold cutR; rw [if_pos (by rw [hm.len]; exact h)]
    rw [hR]
    exact ⟨none, 0, 0, [], rfl, rfl, rfl, ⟨World.ownsRow_nil _ _ _ _, fun q hq => by cases hq⟩, hb'⟩
  · obtain ⟨y, rfl⟩ : ∃ y : Nat, z = y := ⟨z.toNat, by omega⟩
    refine (cut_any s u p A n c l y w hm.len (by omega) (by omega) hm.cap (by omega) (by omega) (hm.row.below hb)).mono ?_
    rintro e w' ⟨A', N, c', qs, rfl, h3, h4, h5, h6⟩
    have hR : cutR u s p l y = (cutL u s p l y, 0) := by unfold cutR; rw [if_neg (by rw [hm.len]; exact h)]; rfl
    rw [hR]
    exact ⟨A', N, c', qs, rfl, h3, h4, h5, h6⟩
end Go.Proofs.Ythgbngnhlgaioaa
