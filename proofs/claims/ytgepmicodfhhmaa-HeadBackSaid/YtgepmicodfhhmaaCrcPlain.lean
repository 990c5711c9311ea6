/-
  Plain arithmetic of CRC-32C on natural numbers: the step behind a byte, that it is linear under exclusive or, that a table of 256 entries gives the same step. Nothing of the program is imported.
-/
import Derived.Test.YtgepmicodfhhmaaWords
namespace Go.Proofs.Ytgepmicodfhhmaa
namespace Crc

/-- One halving. -/
def hal (r : Nat) : Nat := if r % 2 = 1 then (r / 2) ^^^ 2197175160 else r / 2
/-- n halvings. -/
def hals : Nat → Nat → Nat
  | 0, r => r
  | n + 1, r => hal (hals n r)
def beh (r : Nat) : Nat := hals 8 r
/-- The remainder behind a byte. -/
def stp (r c : Nat) : Nat := beh (r ^^^ c)
/-- The remainder behind bytes. -/
def run (r : Nat) (l : List Int) : Nat := l.foldl (fun r c => stp r c.toNat) r

theorem xor_mod2 (a b : Nat) : (a ^^^ b) % 2 = (a % 2 + b % 2) % 2 := by
  have h := Nat.xor_mod_two_pow (a := a) (b := b) (n := 1)
  simp only [Nat.pow_one] at h
  rw [h]
  rcases Nat.mod_two_eq_zero_or_one a with ha | ha <;> rcases Nat.mod_two_eq_zero_or_one b with hb | hb <;> rw [ha, hb] <;> rfl
theorem xor_div2 (a b : Nat) : (a ^^^ b) / 2 = (a / 2) ^^^ (b / 2) := by
  have h := Nat.xor_div_two_pow (a := a) (b := b) (n := 1)
  simpa only [Nat.pow_one] using h

theorem hal_xor (a b : Nat) : hal (a ^^^ b) = hal a ^^^ hal b := by
  unfold hal
  rw [xor_mod2, xor_div2]
  rcases Nat.mod_two_eq_zero_or_one a with ha | ha <;> rcases Nat.mod_two_eq_zero_or_one b with hb | hb <;> rw [ha, hb] <;> simp
  · ac_rfl
  · ac_rfl
  · rw [Nat.xor_assoc, Nat.xor_comm 2197175160, Nat.xor_assoc, Nat.xor_self, Nat.xor_zero]
theorem hal_lt {r : Nat} (h : r < 4294967296) : hal r < 4294967296 := by
  unfold hal
  split
  · exact Nat.xor_lt_two_pow (n := 32) (by omega) (by omega)
  · omega
theorem hal_two (q : Nat) : hal (2 * q) = q := by
  unfold hal; rw [if_neg (by omega)]; omega
theorem hals_xor (n a b : Nat) : hals n (a ^^^ b) = hals n a ^^^ hals n b := by
  induction n with
  | zero => rfl
  | succ n ih => simp only [hals, ih, hal_xor]
theorem hals_lt (n : Nat) {r : Nat} (h : r < 4294967296) : hals n r < 4294967296 := by
  induction n with
  | zero => exact h
  | succ n ih => exact hal_lt ih
theorem beh_xor (a b : Nat) : beh (a ^^^ b) = beh a ^^^ beh b := hals_xor 8 a b
theorem beh_lt {r : Nat} (h : r < 4294967296) : beh r < 4294967296 := hals_lt 8 h
theorem beh_256 (q : Nat) : beh (256 * q) = q := by
  have e : 256 * q = 2 * (2 * (2 * (2 * (2 * (2 * (2 * (2 * q))))))) := by omega
  unfold beh; simp only [hals]; rw [e]; simp only [hal_two]
theorem xor_lt32 {a b : Nat} (ha : a < 4294967296) (hb : b < 4294967296) : a ^^^ b < 4294967296 := Nat.xor_lt_two_pow (n := 32) ha hb
theorem xor_lt8 {a b : Nat} (ha : a < 256) (hb : b < 256) : a ^^^ b < 256 := Nat.xor_lt_two_pow (n := 8) ha hb
theorem stp_lt {r c : Nat} (hr : r < 4294967296) (hc : c < 256) : stp r c < 4294967296 := beh_lt (xor_lt32 hr (by omega))

theorem not32 {s : Nat} (h : s < 4294967296) : 4294967295 ^^^ s = 4294967295 - s := by
  apply Nat.eq_of_testBit_eq
  intro i
  have e : 4294967295 - s = 2 ^ 32 - (s + 1) := by omega
  rw [e, Nat.testBit_two_pow_sub_succ (by omega), Nat.testBit_xor, show (4294967295 : Nat) = 2 ^ 32 - 1 from rfl, Nat.testBit_two_pow_sub_one]
  by_cases hi : i < 32
  · simp [hi]
  · have hs : s < 2 ^ i := Nat.lt_of_lt_of_le (show s < 2 ^ 32 by omega) (Nat.pow_le_pow_right (by omega) (by omega))
    simp [hi, Nat.testBit_lt_two_pow hs]
/-- A number is its high part and its low byte. -/
theorem split256 (r : Nat) : 256 * (r / 256) ^^^ r % 256 = r := by
  apply Nat.eq_of_testBit_eq
  intro i
  rw [Nat.testBit_xor, show (256 : Nat) = 2 ^ 8 from rfl, Nat.testBit_two_pow_mul, Nat.testBit_mod_two_pow, Nat.testBit_div_two_pow]
  by_cases h : 8 ≤ i
  · simp [h, show ¬ i < 8 by omega]
  · simp [h, show i < 8 by omega]
/-- The step by a table. -/
theorem stp_table (r c : Nat) : stp r c = r / 256 ^^^ beh (r % 256 ^^^ c) := by
  unfold stp
  conv => lhs; rw [← split256 r, Nat.xor_assoc, beh_xor, beh_256]

theorem run_nil (r : Nat) : run r [] = r := rfl
theorem run_snoc (r : Nat) (l : List Int) (c : Int) : run r (l ++ [c]) = stp (run r l) c.toNat := by simp [run]
theorem run_append (r : Nat) (l m : List Int) : run r (l ++ m) = run (run r l) m := by simp [run]
theorem run_lt {l : List Int} : ∀ {r : Nat}, r < 4294967296 → Byt l → run r l < 4294967296 := by
  induction l with
  | nil => intro r h _; exact h
  | cons c l ih =>
    intro r h hl
    have hc := hl c (by simp)
    exact ih (stp_lt h (by omega)) fun x hx => hl x (by simp [hx])

/-- The sum of bytes whose sum is s, and l behind them. -/
def more (s : Nat) (l : List Int) : Nat := 4294967295 - run (4294967295 - s) l
theorem more_lt (s : Nat) (l : List Int) : more s l < 4294967296 := by unfold more; omega
theorem more_append {s : Nat} {l m : List Int} (hs : s < 4294967296) (hl : Byt l) : more (more s l) m = more s (l ++ m) := by
  have h := run_lt (r := 4294967295 - s) (l := l) (by omega) hl
  unfold more
  rw [run_append, show 4294967295 - (4294967295 - run (4294967295 - s) l) = run (4294967295 - s) l by omega]

/- THE TABLE. Rounds of the inner loop, then of the outer one. -/
def inn (b r : Nat) (T : List Nat) : Nat → List Nat
  | 0 => T
  | m + 1 => (inn b r T m).set (2 * (b * m) + b) ((inn b r T m).getD (2 * (b * m)) 0 ^^^ r)
/-- The bit, the remainder and the cells behind k rounds. -/
def bitAt (k : Nat) : Nat := 128 / 2 ^ k
def restAt (k : Nat) : Nat := hals k 1
def tabAt : Nat → List Nat
  | 0 => List.replicate 256 0
  | k + 1 => inn (bitAt k) (restAt (k + 1)) (tabAt k) (2 ^ k)
def tab : List Nat := (List.range 256).map beh
set_option maxRecDepth 100000 in
theorem tab_eq : tabAt 8 = tab := by decide +kernel
theorem tab_getD (i : Nat) (h : i < 256) : tab.getD i 0 = beh i := by
  unfold tab; simp [List.getD, List.getElem?_map, List.getElem?_range h]
theorem tab_len : tab.length = 256 := by simp [tab]
theorem inn_len (b r : Nat) (T : List Nat) (m : Nat) : (inn b r T m).length = T.length := by
  induction m with
  | zero => rfl
  | succ m ih => simp [inn, ih]
theorem tabAt_len (k : Nat) : (tabAt k).length = 256 := by
  induction k with
  | zero => exact List.length_replicate
  | succ k ih => rw [tabAt, inn_len, ih]
def Small (T : List Nat) : Prop := ∀ i, T.getD i 0 < 4294967296
theorem inn_small {b r : Nat} {T : List Nat} (hr : r < 4294967296) (hT : Small T) (m : Nat) : Small (inn b r T m) := by
  induction m with
  | zero => exact hT
  | succ m ih =>
    intro i
    have h1 := ih (2 * (b * m))
    have h2 := ih i
    simp only [inn, List.getD_eq_getElem?_getD, List.getElem?_set] at *
    split
    · split
      · simp only [Option.getD_some]; exact xor_lt32 h1 hr
      · simp
    · exact h2
theorem tabAt_small (k : Nat) : Small (tabAt k) := by
  induction k with
  | zero => intro i; simp only [tabAt, List.getD_eq_getElem?_getD, List.getElem?_replicate]; split <;> simp
  | succ k ih => exact inn_small (hals_lt (k + 1) (by omega)) ih _

theorem bit_facts : ∀ k, k < 8 → bitAt k * 2 ^ k = 128 ∧ 1 ≤ bitAt k ∧ bitAt k ≤ 128 ∧ bitAt k / 2 = bitAt (k + 1) := by decide
theorem inn_steps {b M m : Nat} (h : b * M = 128) (hm : m ≤ M) : 2 * (b * m) ≤ 256 ∧ (m < M → 2 * (b * m) + b < 256 ∧ 2 * (b * m) + 2 * b ≤ 256 ∧ 2 * (b * m) + 2 * b = 2 * (b * (m + 1))) ∧ (¬ m < M → 2 * (b * m) = 256) := by
  refine ⟨by have := Nat.mul_le_mul_left b hm; omega, fun hlt => ?_, fun hge => ?_⟩
  · have h1 : b * (m + 1) ≤ b * M := Nat.mul_le_mul_left b hlt
    rw [Nat.mul_add, Nat.mul_one] at h1 ⊢
    rcases Nat.eq_zero_or_pos b with hb | hb
    · subst hb; simp at h
    · omega
  · have : m = M := by omega
    subst this; omega

end Crc
end Go.Proofs.Ytgepmicodfhhmaa
