/-
  What chunk.May does.
-/
import Derived.Test.YtjlemghkaodkkaaChunkMay2
namespace Go.Proofs.Ytjlemghkaodkkaa
open Go.RowKit Wire Tlv Chunk

theorem andNot7 : ∀ k : Nat, k < 256 → (bits .andNot .u8 (k : Int) 7 == 0) = decide (k ≤ 7) := by decide +kernel
theorem andNot1 : ∀ k : Nat, k < 256 → (bits .andNot .u8 (k : Int) 1 == 0) = decide (k ≤ 1) := by decide +kernel
theorem andNot0 : ∀ k : Nat, k < 256 → (bits .andNot .u8 (k : Int) 0 == 0) = decide (k ≤ 0) := by decide +kernel
theorem andNot255 : ∀ k : Nat, k < 256 → (bits .andNot .u8 (k : Int) 255 == 0) = decide (k ≤ 255) := by decide +kernel
theorem andNot_flg {f : Nat} (k : Nat) (h : f < 256) : (bits .andNot .u8 (f : Int) (flg k : Nat) == 0) = decide (f ≤ flg k) := by
  unfold flg
  repeat' split
  · exact andNot7 f h
  · exact andNot1 f h
  · exact andNot0 f h
  · exact andNot255 f h
def fewB (s : Ls) : Bool := decide (s.an ≤ 3 ∧ s.gn ≤ 64 ∧ s.un ≤ 16)
def whoB (c : Ck) (s : Ls) : Bool := decide (s.dn ≠ 0 ∨ ¬ (c.kd = 0 ∨ c.kd = 2))
theorem unt_kinds (c : Ck) : (c.kd = 0 ∧ unt c = { c with tsn := 0, sid := 0, ssn := 0, ppid := 0, da := [] }) ∨ (c.kd = 1 ∧ unt c = { c with tag := 0, rw := 0, out := 0, inn := 0, tsn := 0, ad := [] }) ∨
    (c.kd = 2 ∧ unt c = { c with tag := 0, rw := 0, out := 0, inn := 0, tsn := 0, ad := [], da := [] }) ∨ (c.kd = 3 ∧ unt c = { c with tsn := 0, rw := 0, ga := [], du := [] }) ∨ ((c.kd = 6 ∨ c.kd = 9) ∧ unt c = { c with ca := [] }) ∨
    (c.kd = 7 ∧ unt c = { c with tsn := 0 }) ∨ ((c.kd = 8 ∨ c.kd = 11 ∨ c.kd = 14) ∧ unt c = c) ∨ ((¬ (c.kd = 0 ∨ c.kd = 1 ∨ c.kd = 2 ∨ c.kd = 3 ∨ c.kd = 6 ∨ c.kd = 9 ∨ c.kd = 7 ∨ c.kd = 8 ∨ c.kd = 11 ∨ c.kd = 14)) ∧ unt c = { c with da := [] }) := by
  unfold unt
  repeat' split
  all_goals first
    | exact .inl ⟨by omega, rfl⟩
    | exact .inr (.inl ⟨by omega, rfl⟩)
    | exact .inr (.inr (.inl ⟨by omega, rfl⟩))
    | exact .inr (.inr (.inr (.inl ⟨by omega, rfl⟩)))
    | exact .inr (.inr (.inr (.inr (.inl ⟨by omega, rfl⟩))))
    | exact .inr (.inr (.inr (.inr (.inr (.inl ⟨by omega, rfl⟩)))))
    | exact .inr (.inr (.inr (.inr (.inr (.inr (.inl ⟨by omega, rfl⟩))))))
    | exact .inr (.inr (.inr (.inr (.inr (.inr (.inr ⟨by omega, rfl⟩))))))
theorem fits_iff {c : Ck} {s : Ls} (hz : Lz c s) : Fits c ↔ (c.fl ≤ flg c.kd ∧ Noth (unt c) ∧ whoB c s = true ∧ fewB s = true) := by
  have h1 := hz.d
  have h2 := hz.a
  have h3 := hz.g
  have h4 := hz.u
  have h5 := hz.c
  simp only [whoB, fewB, decide_eq_true_eq]
  have hu := unt_kinds c
  constructor
  · rintro ⟨f1, f2, f3, f4, f5, f6, f7, f8, f9, f10, f11, f12⟩
    refine ⟨f1, ?_, by omega, by omega⟩
    simp only [hTsn, hRw, hDa, hPc, hIn, hGp, hCa] at f2 f3 f4 f5 f6 f7 f8
    unfold Noth
    rcases hu with ⟨hk, e⟩ | ⟨hk, e⟩ | ⟨hk, e⟩ | ⟨hk, e⟩ | ⟨hk, e⟩ | ⟨hk, e⟩ | ⟨hk, e⟩ | ⟨hk, e⟩
    all_goals (rw [e]; try dsimp only [List.length_nil])
    all_goals (refine ⟨?_, ?_, ?_, ?_, ?_, ?_, ?_, ?_, ?_, ?_, ?_, ?_, ?_⟩ <;> first | rfl | omega)
  · rintro ⟨f1, f2, f3, f4⟩
    unfold Noth at f2
    rcases hu with ⟨hk, e⟩ | ⟨hk, e⟩ | ⟨hk, e⟩ | ⟨hk, e⟩ | ⟨hk, e⟩ | ⟨hk, e⟩ | ⟨hk, e⟩ | ⟨hk, e⟩
    all_goals
      rw [e] at f2
      try dsimp only [List.length_nil] at f2
      constructor
      all_goals (try simp only [hTsn, hRw, hDa, hPc, hIn, hGp, hCa])
      all_goals omega
theorem may_B {c : Ck} {s : Ls} (hz : Lz c s) : mayB c = (decide (c.fl ≤ flg c.kd) && (decide (Noth (unt c)) && (whoB c s && (fewB s && apart 0 c.ga)))) := by
  by_cases h : may c
  · rw [mayB_true h]
    obtain ⟨h1, h2⟩ := h
    obtain ⟨f1, f2, f3, f4⟩ := (fits_iff hz).1 h1
    simp [f1, f2, f3, f4, h2]
  · rw [mayB_false h]
    symm
    rw [Bool.eq_false_iff]
    intro hf
    simp only [Bool.and_eq_true, decide_eq_true_eq] at hf
    obtain ⟨f1, f2, f3, f4, h2⟩ := hf
    exact h ⟨(fits_iff hz).2 ⟨f1, f2, f3, f4⟩, h2⟩
end Go.Proofs.Ytjlemghkaodkkaa
