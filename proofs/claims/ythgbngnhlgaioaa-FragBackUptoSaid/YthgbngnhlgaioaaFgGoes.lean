/-
  Whether one piece goes on with the next: the closure of bounds.
-/
import Derived.Test.YthgbngnhlgaioaaFgRead
namespace Go.Proofs.Ythgbngnhlgaioaa
set_option maxRecDepth 4000
open Go.RowKit Go.Maps
namespace Fg
set_option linter.unusedVariables false

theorem ceq (a b : Nat) : ((a : Int) == (b : Int)) = (a == b) := by
  rw [Bool.eq_iff_iff, beq_iff_eq, beq_iff_eq]
  omega
theorem and1 : ∀ f : Nat, f < 256 → bits .and .u8 (f : Int) 1 = ((f % 2 : Nat) : Int) := by decide +kernel
theorem and2 : ∀ f : Nat, f < 256 → bits .and .u8 (f : Int) 2 = ((f / 2 % 2 * 2 : Nat) : Int) := by decide +kernel
theorem and4 : ∀ f : Nat, f < 256 → bits .and .u8 (f : Int) 4 = ((f / 4 % 2 * 4 : Nat) : Int) := by decide +kernel
theorem e_en {f : Nat} (h : f < 256) : (bits .and .u8 (f : Int) 1 == 0) = !en f := by
  rw [and1 f h]
  unfold en
  rcases Nat.mod_two_eq_zero_or_one f with e | e <;> rw [e] <;> rfl
theorem n_en {f : Nat} (h : f < 256) : (bits .and .u8 (f : Int) 1 != 0) = en f := by
  unfold bne
  rw [e_en h, Bool.not_not]
theorem e_bg {f : Nat} (h : f < 256) : (bits .and .u8 (f : Int) 2 == 0) = !bg f := by
  rw [and2 f h]
  unfold bg
  rcases Nat.mod_two_eq_zero_or_one (f / 2) with e | e <;> rw [e] <;> rfl
theorem n_bg {f : Nat} (h : f < 256) : (bits .and .u8 (f : Int) 2 != 0) = bg f := by
  unfold bne
  rw [e_bg h, Bool.not_not]
theorem e_un {f : Nat} (h : f < 256) : (bits .and .u8 (f : Int) 4 == 0) = !un f := by
  rw [and4 f h]
  unfold un
  rcases Nat.mod_two_eq_zero_or_one (f / 4) with e | e <;> rw [e] <;> rfl
theorem n_un {f : Nat} (h : f < 256) : (bits .and .u8 (f : Int) 4 != 0) = un f := by
  unfold bne
  rw [e_un h, Bool.not_not]
theorem ofInt_8 (a : Nat) (ha : a < 256) : (BitVec.ofInt 8 (a : Int)).toNat = a := by
  rw [BitVec.ofInt_natCast, BitVec.toNat_ofNat]; exact Nat.mod_eq_of_lt (by omega)
theorem xor_8 {a b : Nat} (ha : a < 256) (hb : b < 256) : bits .xor .u8 (a : Int) (b : Int) = ((a ^^^ b : Nat) : Int) ∧ a ^^^ b < 256 := by
  have hx : a ^^^ b < 2 ^ 8 := Nat.xor_lt_two_pow (by omega) (by omega)
  refine ⟨?_, by omega⟩
  show IntKind.u8.wrap ((BitVec.ofInt 8 (a : Int) ^^^ BitVec.ofInt 8 (b : Int)).toNat : Int) = _
  rw [BitVec.toNat_xor, ofInt_8 a (by omega), ofInt_8 b (by omega)]
  simp only [IntKind.wrap, IntKind.signed, IntKind.bits]
  simp
  omega
theorem un_bit (f : Nat) : un f = f.testBit 2 := by
  unfold un
  rw [Nat.testBit_eq_decide_div_mod_eq]
  rcases Nat.mod_two_eq_zero_or_one (f / 4) with e | e <;> simp [e]
theorem e_xor {a b : Nat} (ha : a < 256) (hb : b < 256) : (bits .and .u8 (bits .xor .u8 (a : Int) (b : Int)) 4 == 0) = (un a == un b) := by
  rw [(xor_8 ha hb).1, e_un (xor_8 ha hb).2, un_bit, Nat.testBit_xor, ← un_bit, ← un_bit]
  cases un a <;> cases un b <;> rfl
end Fg
end Go.Proofs.Ythgbngnhlgaioaa
