/-
  The library's sort at 16 bits: order2, median, medianAdjacent, choosePivot: some index among those asked, the row as it was.
-/
import Derived.Test.YtkjepopmlpfnpaaSo
namespace Go.Proofs.Ytkjepopmlpfnpaa
open Go.RowKit Go.Sort
set_option linter.unusedVariables false

theorem grown_setCell (W : World) (sb o : Nat) (v : Value) : W.grownBy (W.setCell ⟨sb, o, none⟩ v) (some sb) :=
  ⟨rfl, rfl, rfl, by simp [World.setCell], fun k _ hk => by
    have hne : sb ≠ k := fun e => hk (by rw [e])
    simp [World.setCell, Array.getElem?_modify, hne]⟩
theorem holds_far {W W' : World} {g off sb : Nat} {d : Array Int} (h : Holds u16 W g off d) (hg : W.grownBy W' (some sb)) (hne : sb ≠ g) : Holds u16 W' g off d := fun j hj => by
  have hlt : g < W.heap.size := block_lt_of_cell (h j hj).1
  exact ⟨(hg.cell_far _ hlt (by intro e; injection e with e; exact hne e.symm)).trans (h j hj).1, (hg.frozen_far _ hlt (by intro e; injection e with e; exact hne e.symm)).trans (h j hj).2⟩
/-- The row as it was; the counter in block sb holds c; nothing else has turned. -/
def CT (w : World) (g off : Nat) (d : Array Int) (sb c : Nat) (W : World) : Prop :=
  Holds u16 W g off d ∧ w.grownBy W (some sb) ∧ W.cell? ⟨sb, 0, none⟩ = some (.int .i64 (c : Int)) ∧ W.frozen? ⟨sb, 0, none⟩ = false
theorem CT.drewN {w W : World} {g off sb c : Nat} {d : Array Int} (h : CT w g off d sb c W) (q : Nat) : CT w g off d sb c (W.drewN q) := ⟨h.1, grown_drewN h.2.1 q, h.2.2.1, h.2.2.2⟩
theorem CT.set {w W : World} {g off sb c : Nat} {d : Array Int} (h : CT w g off d sb c W) (hne : sb ≠ g) (c' : Nat) : CT w g off d sb c' (W.setCell ⟨sb, 0, none⟩ (.int .i64 (c' : Int))) := by
  refine ⟨holds_far h.1 (grown_setCell W sb 0 _) hne, h.2.1.trans (grown_setCell W sb 0 _), ?_, ?_⟩
  · exact World.cell?_setCell_same' W _ _ (by rw [h.2.2.1]; rfl)
  · rw [World.frozen?_setCell]; exact h.2.2.2
theorem CT.refl {w : World} {g off sb c : Nat} {d : Array Int} (h : Holds u16 w g off d) (hc : w.cell? ⟨sb, 0, none⟩ = some (.int .i64 (c : Int))) (hf : w.frozen? ⟨sb, 0, none⟩ = false) : CT w g off d sb c w := ⟨h, grown_refl _ _, hc, hf⟩
theorem CT.trans {w W W' : World} {g off sb c c' : Nat} {d : Array Int} (h : CT w g off d sb c W) (k : CT W g off d sb c' W') : CT w g off d sb c' W' := ⟨k.1, h.2.1.trans k.2.1, k.2.2⟩
theorem order2_any (g off len cap a b sb c : Nat) (d : Array Int) (w : World) (h : CT w g off d sb c w) (hlen : d.size = len) (hne : sb ≠ g) (ha : a < len) (hb : b < len) (hsz : len < 4611686018427387904) (hc9 : c < 1000) :
    Calls Try.prog 57 #[.slice (some ⟨g, off, none⟩) len cap, .int .i64 a, .int .i64 b, .pointer (some ⟨sb, 0, none⟩)] w fun e w' =>
      ∃ x y c' : Nat, e = .returned (.tuple #[.int .i64 x, .int .i64 y]) ∧ ((x = a ∧ y = b) ∨ (x = b ∧ y = a)) ∧ c' ≤ c + 1 ∧ CT w g off d sb c' w' := by
  obtain ⟨G, HG, hc, hf⟩ := (SW.refl h.1).fam hlen
  have hcc := h.2.2.1
  have hff := h.2.2.2
  have H := Lib.hid h
  clear h hlen
  go_enter Try.func57, Try.ntmps57
  go_wp2_with fail
  go_quiet ((go_at_call 46; exact Calls.quiet_of_same (less_q _ _ _)))
  cases hl : ltInt (G b) (G a)
  · clear hl
    go_wp2_with fail
    go_ret2
    exact ⟨a, b, c, rfl, .inl ⟨rfl, rfl⟩, by omega, H.out.drewN _⟩
  · clear hl
    go_wp2_with fail
    go_ret2
    exact ⟨b, a, c + 1, rfl, .inr ⟨rfl, rfl⟩, by omega, (H.out.drewN _).set hne (c + 1)⟩
theorem median_any (g off len cap a b c sb n : Nat) (d : Array Int) (w : World) (h : CT w g off d sb n w) (hlen : d.size = len) (hne : sb ≠ g) (ha : a < len) (hb : b < len) (hc : c < len) (hsz : len < 4611686018427387904) (hn : n < 900) :
    Calls Try.prog 55 #[.slice (some ⟨g, off, none⟩) len cap, .int .i64 a, .int .i64 b, .int .i64 c, .pointer (some ⟨sb, 0, none⟩)] w fun e w' =>
      ∃ x n' : Nat, e = .returned (.int .i64 x) ∧ (x = a ∨ x = b ∨ x = c) ∧ n' ≤ n + 3 ∧ CT w g off d sb n' w' := by
  have H := Lib.hid h
  have HL := Lib.hid hlen
  clear h hlen
  go_enter Try.func55, Try.ntmps55
  go_wp2_with fail
  refine (order2_any g off len cap a b sb n d _ H.out HL.out hne ha hb hsz (by omega)).mono ?_
  rintro e w1 ⟨a1, b1, n1, rfl, h1, hn1, hw1⟩
  have H1 := Lib.hid (CT.trans H.out hw1)
  have C1 := Lib.hid hw1
  clear hw1
  have ha1 : a1 < len := by omega
  have hb1 : b1 < len := by omega
  go_wp2_with fail
  refine (order2_any g off len cap b1 c sb n1 d _ (CT.refl H1.out.1 H1.out.2.2.1 H1.out.2.2.2) HL.out hne hb1 hc hsz (by omega)).mono ?_
  rintro e w2 ⟨b2, c2, n2, rfl, h2, hn2, hw2⟩
  have H2 := Lib.hid (CT.trans H1.out hw2)
  clear hw2
  have hb2 : b2 < len := by omega
  go_wp2_with fail
  refine (order2_any g off len cap a1 b2 sb n2 d _ (CT.refl H2.out.1 H2.out.2.2.1 H2.out.2.2.2) HL.out hne ha1 hb2 hsz (by omega)).mono ?_
  rintro e w3 ⟨a3, b3, n3, rfl, h3, hn3, hw3⟩
  have H3 := Lib.hid (CT.trans H2.out hw3)
  clear hw3
  go_wp2_with fail
  go_ret
  exact ⟨b3, n3, rfl, by omega, by omega, H3.out⟩
theorem medianAdj_any (g off len cap a sb n : Nat) (d : Array Int) (w : World) (h : CT w g off d sb n w) (hlen : d.size = len) (hne : sb ≠ g) (ha0 : 1 ≤ a) (ha : a + 1 < len) (hsz : len < 4611686018427387904) (hn : n < 900) :
    Calls Try.prog 54 #[.slice (some ⟨g, off, none⟩) len cap, .int .i64 a, .pointer (some ⟨sb, 0, none⟩)] w fun e w' =>
      ∃ x n' : Nat, e = .returned (.int .i64 x) ∧ a - 1 ≤ x ∧ x ≤ a + 1 ∧ n' ≤ n + 3 ∧ CT w g off d sb n' w' := by
  have H := Lib.hid h
  have HL := Lib.hid hlen
  clear h hlen
  obtain ⟨p, rfl⟩ : ∃ p, a = p + 1 := ⟨a - 1, by omega⟩
  have e1 : ((p + 1 : Nat) : Int) - 1 = p := by omega
  have e2 : ((p + 1 : Nat) : Int) + 1 = ((p + 2 : Nat) : Int) := by omega
  have HM := Lib.hid (fun W (hW : CT w g off d sb n W) => median_any g off len cap p (p + 1) (p + 2) sb n d W (CT.refl hW.1 hW.2.2.1 hW.2.2.2) HL.out hne (by omega) (by omega) (by omega) hsz hn)
  go_enter Try.func54, Try.ntmps54
  go_wp2_with fail
  refine (HM.out _ H.out).mono ?_
  rintro e w1 ⟨x, n1, rfl, hx, hn1, hw1⟩
  have H1 := Lib.hid hw1
  clear hw1 e1 e2
  go_wp2_with fail
  go_ret
  exact ⟨x, n1, rfl, by omega, by omega, hn1, H1.out⟩
end Go.Proofs.Ytkjepopmlpfnpaa
