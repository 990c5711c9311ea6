/-
  Whether a configuration may be, as the document says it; Check says just that.
-/
import Derived.Test.YtfjeoioejdkdpaaRtRef
namespace Go.Proofs.Ytfjeoioejdkdpaa
set_option maxRecDepth 4000
open Go.RowKit
namespace Rt
set_option linter.unusedVariables false
set_option linter.unusedSimpArgs false

/-- The conditions, in the document's order. -/
def conds (c : Cf) : List Bool := [decide (64 ≤ c.mtu) && decide (c.mtu ≤ 1500), decide (c.mtu.tmod 4 = 0), decide (1 ≤ c.st) && decide (c.st ≤ 16), decide (1 ≤ c.mm) && decide (c.mm ≤ 8192), decide (wrap64 (2 * c.mm) ≤ c.sr) && decide (c.sr ≤ 65536), decide (wrap64 (2 * c.mm) ≤ c.rr) && decide (c.rr ≤ 65536),
  decide (1 ≤ c.rn), decide (c.rn ≤ c.ri), decide (c.ri ≤ c.rx), decide (c.rx ≤ 65536), decide (1 ≤ c.it), decide (1 ≤ c.pt), decide (1 ≤ c.al), decide (1 ≤ c.be) && decide (c.be ≤ 1048576), decide (1 ≤ c.ck) && decide (c.ck ≤ 1048576)]
def may (c : Cf) : Bool := (conds c).all id
theorem ask_if (e n a b : Int) (he : e = 0 ∨ e = 2) : (ask e n a b = 0 ∨ ask e n a b = 2) ∧ (ask e n a b = 0 ↔ e = 0 ∧ a ≤ n ∧ n ≤ b) := by
  unfold ask
  split
  · exact ⟨.inr rfl, by constructor <;> intro h <;> omega⟩
  · exact ⟨he, by constructor <;> intro h <;> omega⟩
theorem chk_may (c : Cf) (hc : c.Wf) : chk c = if may c then 0 else 2 := by
  obtain ⟨a1, b1⟩ := ask_if 0 c.mtu 64 1500 (.inl rfl)
  obtain ⟨a2, b2⟩ := ask_if _ (c.mtu.tmod 4) 0 0 a1
  obtain ⟨a3, b3⟩ := ask_if _ c.st 1 16 a2
  obtain ⟨a4, b4⟩ := ask_if _ c.mm 1 8192 a3
  obtain ⟨a5, b5⟩ := ask_if _ c.sr (wrap64 (2 * c.mm)) 65536 a4
  obtain ⟨a6, b6⟩ := ask_if _ c.rr (wrap64 (2 * c.mm)) 65536 a5
  obtain ⟨a7, b7⟩ := ask_if _ c.rn 1 c.ri a6
  obtain ⟨a8, b8⟩ := ask_if _ c.ri 1 c.rx a7
  obtain ⟨a9, b9⟩ := ask_if _ c.rx 1 65536 a8
  obtain ⟨a10, b10⟩ := ask_if _ c.it 1 255 a9
  obtain ⟨a11, b11⟩ := ask_if _ c.pt 1 255 a10
  obtain ⟨a12, b12⟩ := ask_if _ c.al 1 255 a11
  obtain ⟨a13, b13⟩ := ask_if _ c.be 1 1048576 a12
  obtain ⟨a14, b14⟩ := ask_if _ c.ck 1 1048576 a13
  rw [b13, b12, b11, b10, b9, b8, b7, b6, b5, b4, b3, b2, b1] at b14
  have e : chk c = ask (ask (ask (ask (ask (ask (ask (ask (ask (ask (ask (ask (ask (ask 0 c.mtu 64 1500) (c.mtu.tmod 4) 0 0) c.st 1 16) c.mm 1 8192) c.sr (wrap64 (2 * c.mm)) 65536) c.rr (wrap64 (2 * c.mm)) 65536) c.rn 1 c.ri) c.ri 1 c.rx) c.rx 1 65536) c.it 1 255) c.pt 1 255) c.al 1 255) c.be 1 1048576) c.ck 1 1048576 := rfl
  rw [e]
  clear e b1 b2 b3 b4 b5 b6 b7 b8 b9 b10 b11 b12 b13 a1 a2 a3 a4 a5 a6 a7 a8 a9 a10 a11 a12 a13
  generalize ask _ c.ck 1 1048576 = z at a14 b14 ⊢
  have hit := hc.it
  have hpt := hc.pt
  have hal := hc.al
  have hm : may c = true ↔ z = 0 := by
    rw [b14]
    simp only [may, conds, List.all_cons, List.all_nil, id, Bool.and_eq_true, decide_eq_true_eq, Bool.and_true]
    have ht : ((c.mtu.tmod 4 = 0) ↔ (0 ≤ c.mtu.tmod 4 ∧ c.mtu.tmod 4 ≤ 0)) := by
      generalize c.mtu.tmod 4 = tm
      omega
    rw [ht]
    simp only [true_and]
    generalize c.mtu.tmod 4 = tm
    constructor
    · rintro ⟨⟨h0, h1⟩, ⟨h2, h3⟩, ⟨h4, h5⟩, ⟨h6, h7⟩, ⟨h8, h9⟩, ⟨h10, h11⟩, h12, h13, h14, h15, h16, h17, h18, ⟨h19, h20⟩, h21, h22⟩
      exact ⟨⟨⟨⟨⟨⟨⟨⟨⟨⟨⟨⟨⟨⟨h0, h1⟩, h2, h3⟩, h4, h5⟩, h6, h7⟩, h8, h9⟩, h10, h11⟩, h12, h13⟩, by omega, h14⟩, by omega, h15⟩, h16, by omega⟩, h17, by omega⟩, h18, by omega⟩, h19, h20⟩, h21, h22⟩
    · rintro ⟨⟨⟨⟨⟨⟨⟨⟨⟨⟨⟨⟨⟨⟨h0, h1⟩, h2, h3⟩, h4, h5⟩, h6, h7⟩, h8, h9⟩, h10, h11⟩, h12, h13⟩, _, h14⟩, _, h15⟩, h16, _⟩, h17, _⟩, h18, _⟩, h19, h20⟩, h21, h22⟩
      exact ⟨⟨h0, h1⟩, ⟨h2, h3⟩, ⟨h4, h5⟩, ⟨h6, h7⟩, ⟨h8, h9⟩, ⟨h10, h11⟩, h12, h13, h14, h15, h16, h17, h18, ⟨h19, h20⟩, h21, h22⟩
  by_cases h : may c = true
  · rw [if_pos h]; exact hm.1 h
  · rw [if_neg h]
    rcases a14 with h0 | h2
    · exact absurd (hm.2 h0) h
    · exact h2
set_option maxHeartbeats 4000000 in
theorem may_any (c : Cf) (hc : c.Wf) (w : World) : Calls Try.prog 40 #[.agg (cv c)] w fun e w' => e = .returned (.bool (may c)) ∧ Below w.heap.size w w' := by
  have e1 := w64 (z := c.st) (by have := hc.st; omega)
  have e8 := w64 hc.be
  have e9 := w64 hc.ck
  clear hc
  obtain ⟨b0, h0⟩ : ∃ b, (decide (64 ≤ c.mtu) && decide (c.mtu ≤ 1500)) = b := ⟨_, rfl⟩
  obtain ⟨b1, h1⟩ : ∃ b, (decide (c.mtu.tmod 4 = 0)) = b := ⟨_, rfl⟩
  obtain ⟨b2, h2⟩ : ∃ b, (decide (1 ≤ c.st) && decide (c.st ≤ 16)) = b := ⟨_, rfl⟩
  obtain ⟨b3, h3⟩ : ∃ b, (decide (1 ≤ c.mm) && decide (c.mm ≤ 8192)) = b := ⟨_, rfl⟩
  obtain ⟨b4, h4⟩ : ∃ b, (decide (wrap64 (2 * c.mm) ≤ c.sr) && decide (c.sr ≤ 65536)) = b := ⟨_, rfl⟩
  obtain ⟨b5, h5⟩ : ∃ b, (decide (wrap64 (2 * c.mm) ≤ c.rr) && decide (c.rr ≤ 65536)) = b := ⟨_, rfl⟩
  obtain ⟨b6, h6⟩ : ∃ b, (decide (1 ≤ c.rn)) = b := ⟨_, rfl⟩
  obtain ⟨b7, h7⟩ : ∃ b, (decide (c.rn ≤ c.ri)) = b := ⟨_, rfl⟩
  obtain ⟨b8, h8⟩ : ∃ b, (decide (c.ri ≤ c.rx)) = b := ⟨_, rfl⟩
  obtain ⟨b9, h9⟩ : ∃ b, (decide (c.rx ≤ 65536)) = b := ⟨_, rfl⟩
  obtain ⟨b10, h10⟩ : ∃ b, (decide (1 ≤ c.it)) = b := ⟨_, rfl⟩
  obtain ⟨b11, h11⟩ : ∃ b, (decide (1 ≤ c.pt)) = b := ⟨_, rfl⟩
  obtain ⟨b12, h12⟩ : ∃ b, (decide (1 ≤ c.al)) = b := ⟨_, rfl⟩
  obtain ⟨b13, h13⟩ : ∃ b, (decide (1 ≤ c.be) && decide (c.be ≤ 1048576)) = b := ⟨_, rfl⟩
  obtain ⟨b14, h14⟩ : ∃ b, (decide (1 ≤ c.ck) && decide (c.ck ≤ 1048576)) = b := ⟨_, rfl⟩
  have HM : Hid (may c = (b0 && (b1 && (b2 && (b3 && (b4 && (b5 && (b6 && (b7 && (b8 && (b9 && (b10 && (b11 && (b12 && (b13 && (b14)))))))))))))))) := Lib.hid (by simp only [may, conds, h0, h1, h2, h3, h4, h5, h6, h7, h8, h9, h10, h11, h12, h13, h14, List.all_cons, List.all_nil, id, Bool.and_true])
  have C0 : Hid (∀ W, Calls Try.prog 71 #[.int .i64 c.mtu, .int .i64 64, .int .i64 1500] W fun e w' => e = .returned (.bool b0) ∧ W = w') := Lib.hid fun W => by
    have := in_any c.mtu 64 1500 W
    rw [h0] at this
    exact this
  have C2 : Hid (∀ W, Calls Try.prog 71 #[.int .i64 c.st, .int .i64 1, .int .i64 16] W fun e w' => e = .returned (.bool b2) ∧ W = w') := Lib.hid fun W => by
    have := in_any c.st 1 16 W
    rw [h2] at this
    exact this
  have C3 : Hid (∀ W, Calls Try.prog 71 #[.int .i64 c.mm, .int .i64 1, .int .i64 8192] W fun e w' => e = .returned (.bool b3) ∧ W = w') := Lib.hid fun W => by
    have := in_any c.mm 1 8192 W
    rw [h3] at this
    exact this
  have C4 : Hid (∀ W, Calls Try.prog 71 #[.int .i64 c.sr, .int .i64 (wrap64 (2 * c.mm)), .int .i64 65536] W fun e w' => e = .returned (.bool b4) ∧ W = w') := Lib.hid fun W => by
    have := in_any c.sr (wrap64 (2 * c.mm)) 65536 W
    rw [h4] at this
    exact this
  have C5 : Hid (∀ W, Calls Try.prog 71 #[.int .i64 c.rr, .int .i64 (wrap64 (2 * c.mm)), .int .i64 65536] W fun e w' => e = .returned (.bool b5) ∧ W = w') := Lib.hid fun W => by
    have := in_any c.rr (wrap64 (2 * c.mm)) 65536 W
    rw [h5] at this
    exact this
  have C13 : Hid (∀ W, Calls Try.prog 71 #[.int .i64 c.be, .int .i64 1, .int .i64 1048576] W fun e w' => e = .returned (.bool b13) ∧ W = w') := Lib.hid fun W => by
    have := in_any c.be 1 1048576 W
    rw [h13] at this
    exact this
  have C14 : Hid (∀ W, Calls Try.prog 71 #[.int .i64 c.ck, .int .i64 1, .int .i64 1048576] W fun e w' => e = .returned (.bool b14) ∧ W = w') := Lib.hid fun W => by
    have := in_any c.ck 1 1048576 W
    rw [h14] at this
    exact this
  clear h0 h2 h3 h4 h5 h13 h14
  unfold cv
  go_enter Try.func40, Try.ntmps40
  go_wp2_with (go_at_call 71; first | ((with_reducible refine (C0.out _).mono ?_); rintro e w' ⟨rfl, rfl⟩) | ((with_reducible refine (C2.out _).mono ?_); rintro e w' ⟨rfl, rfl⟩) | ((with_reducible refine (C3.out _).mono ?_); rintro e w' ⟨rfl, rfl⟩) | ((with_reducible refine (C4.out _).mono ?_); rintro e w' ⟨rfl, rfl⟩) | ((with_reducible refine (C5.out _).mono ?_); rintro e w' ⟨rfl, rfl⟩) | ((with_reducible refine (C13.out _).mono ?_); rintro e w' ⟨rfl, rfl⟩) | ((with_reducible refine (C14.out _).mono ?_); rintro e w' ⟨rfl, rfl⟩))
  all_goals
    go_ret
    refine ⟨?_, (Below.refl _ _).alloc (Nat.le_refl _) _⟩
    rw [HM.out]
    clear HM C0 C2 C3 C4 C5 C13 C14
    simp_all
end Rt
end Go.Proofs.Ytfjeoioejdkdpaa
