/-
  A window, plainly: its numbers, what an acknowledgement, a loss and a timeout make of it, and what follows.
-/
import Derived.Test.YtednkcjmlpgipaaMem
namespace Go.Proofs.Ytednkcjmlpgipaa
namespace Cw
set_option linter.unusedVariables false

structure T where
  m : Nat
  sz : Nat
  th : Nat
  pt : Nat
def T.loss (t : T) : T := ⟨t.m, max (t.sz / 2) (4 * t.m), max (t.sz / 2) (4 * t.m), 0⟩
def T.tout (t : T) : T := ⟨t.m, t.m, max (t.sz / 2) (4 * t.m), 0⟩
def T.more (t : T) (q : Nat) : T :=
  if t.sz ≤ t.th then ⟨t.m, min (t.sz + min q t.m) 1048576, t.th, t.pt⟩
  else if t.pt + q < t.sz then ⟨t.m, min t.sz 1048576, t.th, t.pt + q⟩
  else ⟨t.m, min (t.sz + t.m) 1048576, t.th, t.pt + q - t.sz⟩
def cnt (n : Int) : Nat := (min n 1073741824).toNat
def T.ack (t : T) (n : Int) (full : Bool) : T := if full = true ∧ 1 ≤ n then t.more (cnt n) else t
/-- Numbers that no call takes out of what an integer holds. -/
def T.Ok (t : T) (b : Nat) : Prop := t.m ≤ 1500 ∧ t.sz ≤ 1048576 ∧ t.th ≤ 1048576 ∧ t.pt ≤ b
/-- .. and those of a window of packets of mtu bytes. -/
def T.In (t : T) (mtu : Nat) : Prop := t.m = mtu ∧ mtu ≤ t.sz ∧ 4 * mtu ≤ t.th
theorem cnt_le (n : Int) : cnt n ≤ 1073741824 := by unfold cnt; omega
theorem loss_ok {t : T} {b : Nat} (h : t.Ok b) : t.loss.Ok b := by
  obtain ⟨h1, h2, h3, h4⟩ := h
  unfold T.loss T.Ok
  simp only
  omega
theorem tout_ok {t : T} {b : Nat} (h : t.Ok b) : t.tout.Ok b := by
  obtain ⟨h1, h2, h3, h4⟩ := h
  unfold T.tout T.Ok
  simp only
  omega
theorem more_ok {t : T} {b : Nat} (h : t.Ok b) (q : Nat) : (t.more q).Ok (b + q) := by
  obtain ⟨h1, h2, h3, h4⟩ := h
  unfold T.more T.Ok
  by_cases c1 : t.sz ≤ t.th
  · simp only [c1, if_true]
    omega
  · by_cases c2 : t.pt + q < t.sz
    · simp only [c1, c2, if_true, if_false]
      omega
    · simp only [c1, c2, if_false]
      omega
theorem ok_le {t : T} {b c : Nat} (h : t.Ok b) (hb : b ≤ c) : t.Ok c := ⟨h.1, h.2.1, h.2.2.1, Nat.le_trans h.2.2.2 hb⟩
theorem ack_ok {t : T} {b : Nat} (h : t.Ok b) (n : Int) (full : Bool) : (t.ack n full).Ok (b + 1073741824) := by
  unfold T.ack
  by_cases c : full = true ∧ 1 ≤ n
  · rw [if_pos c]
    exact ok_le (more_ok h _) (by have := cnt_le n; omega)
  · rw [if_neg c]
    exact ok_le h (by omega)
def bnd (k : Nat) : Nat := 1073741824 * k
theorem bnd_step (k : Nat) : bnd k + 1073741824 = bnd (k + 1) := by unfold bnd; omega
theorem bnd_le {k j : Nat} (h : k ≤ j) : bnd k ≤ bnd j := by unfold bnd; omega
theorem bnd_most {k : Nat} (h : k ≤ 4000) : bnd k ≤ 4398046511104 := by unfold bnd; omega
theorem bnd_zero : bnd 0 = 0 := rfl
theorem loss_in {t : T} {mtu : Nat} (h : t.In mtu) : t.loss.In mtu := by
  obtain ⟨h1, h2, h3⟩ := h
  unfold T.loss T.In
  simp only
  omega
theorem tout_in {t : T} {mtu : Nat} (h : t.In mtu) : t.tout.In mtu := by
  obtain ⟨h1, h2, h3⟩ := h
  unfold T.tout T.In
  simp only
  omega
/-- An acknowledgement makes it not less, and by at most mtu greater. -/
theorem more_goes {t : T} {b mtu : Nat} (h : t.In mtu) (ok : t.Ok b) (q : Nat) : (t.more q).In mtu ∧ t.sz ≤ (t.more q).sz ∧ (t.more q).sz ≤ t.sz + mtu ∧ (t.more q).th = t.th := by
  obtain ⟨h1, h2, h3⟩ := h
  obtain ⟨k1, k2, k3, k4⟩ := ok
  unfold T.more T.In
  by_cases c1 : t.sz ≤ t.th
  · simp only [c1, if_true]
    refine ⟨⟨h1, by omega, h3⟩, by omega, by omega, trivial⟩
  · by_cases c2 : t.pt + q < t.sz
    · simp only [c1, c2, if_true, if_false]
      refine ⟨⟨h1, by omega, h3⟩, by omega, by omega, trivial⟩
    · simp only [c1, c2, if_false]
      refine ⟨⟨h1, by omega, h3⟩, by omega, by omega, trivial⟩
theorem ack_goes {t : T} {b mtu : Nat} (h : t.In mtu) (ok : t.Ok b) (n : Int) (full : Bool) : (t.ack n full).In mtu ∧ t.sz ≤ (t.ack n full).sz ∧ (t.ack n full).sz ≤ t.sz + mtu ∧ (full = false → (t.ack n full).sz = t.sz) := by
  unfold T.ack
  by_cases c : full = true ∧ 1 ≤ n
  · rw [if_pos c]
    obtain ⟨g1, g2, g3, g4⟩ := more_goes h ok (cnt n)
    exact ⟨g1, g2, g3, fun e => by rw [c.1] at e; cases e⟩
  · rw [if_neg c]
    exact ⟨h, Nat.le_refl _, by omega, fun _ => rfl⟩
theorem loss_goes {t : T} : t.sz / 2 ≤ t.loss.sz ∧ t.loss.sz ≤ t.loss.th := by
  unfold T.loss
  simp only
  omega
theorem tout_goes {t : T} {mtu : Nat} (h : t.In mtu) : t.tout.sz = mtu ∧ t.tout.sz ≤ t.tout.th := by
  obtain ⟨h1, h2, h3⟩ := h
  unfold T.tout
  simp only
  omega
end Cw
end Go.Proofs.Ytednkcjmlpgipaa
