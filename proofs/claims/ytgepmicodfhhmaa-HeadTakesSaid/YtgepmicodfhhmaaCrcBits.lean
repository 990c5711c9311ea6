/-
  Plain arithmetic: the sum is linear; bytes as one number; a difference within 32 bits never falls to nothing.
-/
import Derived.Test.YtgepmicodfhhmaaCrcPlain
namespace Go.Proofs.Ytgepmicodfhhmaa
namespace Crc

/-- Bytes as one number, the first one lowest. -/
def num : List Int → Nat
  | [] => 0
  | c :: l => c.toNat ^^^ 256 * num l

theorem hals_two (n q : Nat) : hals n (2 ^ n * q) = q := by
  induction n generalizing q with
  | zero => simp [hals]
  | succ n ih => rw [hals, show 2 ^ (n + 1) * q = 2 ^ n * (2 * q) by rw [Nat.pow_succ, Nat.mul_assoc], ih, hal_two]
theorem hals_add (m n r : Nat) : hals (m + n) r = hals m (hals n r) := by
  induction m with
  | zero => simp [hals]
  | succ m ih => rw [Nat.succ_add, hals, hals, ih]
theorem run_num (l : List Int) : ∀ r, run r l = hals (8 * l.length) (r ^^^ num l) := by
  induction l with
  | nil => intro r; simp [run, hals, num]
  | cons c l ih =>
    intro r
    have h1 : run r (c :: l) = run (stp r c.toNat) l := rfl
    rw [h1, ih, List.length_cons, show 8 * (l.length + 1) = 8 * l.length + 8 by omega, hals_add, num, ← Nat.xor_assoc, hals_xor 8, show (256 : Nat) = 2 ^ 8 from rfl, hals_two]
    rfl
theorem xor_nought {a b : Nat} (h : a ^^^ b = 0) : a = b := by
  have h1 := congrArg (fun x => x ^^^ b) h
  simpa [Nat.xor_assoc] using h1
theorem hal_inj {a b : Nat} (ha : a < 4294967296) (hb : b < 4294967296) (h : hal a = hal b) : a = b := by
  have key : ∀ x : Nat, x < 4294967296 → hal x = 0 → x = 0 := by
    intro x hx h0
    unfold hal at h0
    split at h0
    · have h1 : x / 2 = 2197175160 := by
        have := xor_nought h0
        exact this
      omega
    · omega
  have h2 : hal (a ^^^ b) = 0 := by rw [hal_xor, h, Nat.xor_self]
  exact xor_nought (key _ (xor_lt32 ha hb) h2)
theorem hals_inj (n : Nat) {a b : Nat} (ha : a < 4294967296) (hb : b < 4294967296) (h : hals n a = hals n b) : a = b := by
  induction n with
  | zero => exact h
  | succ n ih => exact ih (hal_inj (hals_lt n ha) (hals_lt n hb) h)
theorem hals_zero (n : Nat) : hals n 0 = 0 := by
  induction n with
  | zero => rfl
  | succ n ih => rw [hals, ih]; rfl

/-- What lies otherwise within 32 bits makes another sum. -/
theorem burst {l m : List Int} {at_ t : Nat} (hl : l.length = m.length) (hbl : Byt l) (hbm : Byt m) (hat : at_ + 32 ≤ 8 * l.length) (ht : t ≠ 0) (ht2 : t < 4294967296)
    (h : num m = num l ^^^ 2 ^ at_ * t) : more 0 m ≠ more 0 l := by
  intro he
  unfold more at he
  have h1 := run_lt (r := 4294967295 - 0) (by omega) hbl
  have h2 := run_lt (r := 4294967295 - 0) (by omega) hbm
  have h3 : run (4294967295 - 0) m = run (4294967295 - 0) l := by omega
  rw [run_num, run_num, h, ← hl, ← Nat.xor_assoc, hals_xor (8 * l.length) _ (2 ^ at_ * t)] at h3
  have h4 : hals (8 * l.length) (2 ^ at_ * t) = 0 := by
    have := congrArg (fun x => hals (8 * l.length) (4294967295 - 0 ^^^ num l) ^^^ x) h3
    simpa [← Nat.xor_assoc] using this
  rw [show 8 * l.length = (8 * l.length - at_) + at_ by omega, hals_add, hals_two, ← hals_zero (8 * l.length - at_)] at h4
  exact ht (hals_inj _ ht2 (by omega) h4)

/-- Three rows turned by one another. -/
theorem num_xor3 : ∀ (a b c d : List Int), a.length = d.length → b.length = d.length → c.length = d.length →
    (∀ i, i < d.length → (d.getD i 0).toNat = (a.getD i 0).toNat ^^^ (b.getD i 0).toNat ^^^ (c.getD i 0).toNat) → num d = num a ^^^ num b ^^^ num c
  | [], [], [], [], _, _, _, _ => rfl
  | x :: a, y :: b, z :: c, u :: d, ha, hb, hc, h => by
    have h0 := h 0 (by simp)
    simp only [List.getD_cons_zero] at h0
    have ih := num_xor3 a b c d (by simpa using ha) (by simpa using hb) (by simpa using hc) fun i hi => by
      have := h (i + 1) (by simpa using hi)
      simpa only [List.getD_cons_succ] using this
    simp only [num]
    rw [h0, ih, show (256 : Nat) = 2 ^ 8 from rfl, Nat.mul_comm, Nat.mul_comm (2 ^ 8) (num a), Nat.mul_comm (2 ^ 8) (num b), Nat.mul_comm (2 ^ 8) (num c)]
    simp only [← Nat.shiftLeft_eq, Nat.shiftLeft_xor_distrib]
    ac_rfl
  | [], _ :: _, _, _, ha, hb, _, _ => by simp at ha hb; simp [← ha] at hb
  | [], [], _ :: _, _, ha, _, hc, _ => by simp at ha hc; simp [← ha] at hc
  | [], [], [], _ :: _, ha, _, _, _ => by simp at ha
  | _ :: _, [], _, _, ha, hb, _, _ => by simp at ha hb; simp [← ha] at hb
  | _ :: _, _ :: _, [], _, ha, _, hc, _ => by simp at ha hc; simp [← ha] at hc
  | _ :: _, _ :: _, _ :: _, [], ha, _, _, _ => by simp at ha
theorem xor3_same (r : Nat) : r ^^^ r ^^^ r = r := by simp
theorem more_xor3 {a b c d : List Int} (ha : a.length = d.length) (hb : b.length = d.length) (hc : c.length = d.length) (Ba : Byt a) (Bb : Byt b) (Bc : Byt c) (Bd : Byt d)
    (h : ∀ i, i < d.length → (d.getD i 0).toNat = (a.getD i 0).toNat ^^^ (b.getD i 0).toNat ^^^ (c.getD i 0).toNat) : more 0 d = more 0 a ^^^ more 0 b ^^^ more 0 c := by
  have e : ∀ l, Byt l → more 0 l = 4294967295 ^^^ run 4294967295 l := fun l hl => by
    unfold more
    rw [not32 (run_lt (by omega) hl)]
  rw [e a Ba, e b Bb, e c Bc, e d Bd, run_num, run_num, run_num, run_num, num_xor3 a b c d ha hb hc h, ha, hb, hc]
  have hx : (4294967295 : Nat) ^^^ (num a ^^^ num b ^^^ num c) = (4294967295 ^^^ num a) ^^^ (4294967295 ^^^ num b) ^^^ (4294967295 ^^^ num c) := by
    conv => lhs; rw [← xor3_same 4294967295]
    ac_rfl
  rw [hx, hals_xor, hals_xor]
  generalize hals (8 * d.length) (4294967295 ^^^ num a) = x
  generalize hals (8 * d.length) (4294967295 ^^^ num b) = y
  generalize hals (8 * d.length) (4294967295 ^^^ num c) = z
  conv => lhs; rw [← xor3_same 4294967295]
  ac_rfl

/-- One byte turned. -/
theorem num_set : ∀ (l : List Int) (j m : Nat), j < l.length → num (l.set j (((l.getD j 0).toNat ^^^ m : Nat) : Int)) = num l ^^^ 2 ^ (8 * j) * m
  | [], _, _, h => by simp at h
  | c :: l, 0, m, _ => by
    simp only [List.set_cons_zero, num, List.getD_cons_zero, Int.toNat_natCast]
    rw [show 2 ^ (8 * 0) * m = m by simp]
    ac_rfl
  | c :: l, j + 1, m, h => by
    simp only [List.set_cons_succ, num, List.getD_cons_succ]
    rw [num_set l j m (by simpa using h), show 2 ^ (8 * (j + 1)) * m = 256 * (2 ^ (8 * j) * m) by rw [Nat.mul_add, Nat.pow_add, Nat.mul_comm (2 ^ (8 * j)), Nat.mul_assoc], show (256 : Nat) = 2 ^ 8 from rfl,
      Nat.mul_comm, Nat.mul_comm (2 ^ 8) (num l), Nat.mul_comm (2 ^ 8) (2 ^ (8 * j) * m)]
    simp only [← Nat.shiftLeft_eq, Nat.shiftLeft_xor_distrib]
    ac_rfl
/-- The low bits, one more. -/
theorem mod_succ_xor (t i : Nat) : t % 2 ^ (i + 1) = t % 2 ^ i ^^^ 2 ^ i * (t / 2 ^ i % 2) := by
  apply Nat.eq_of_testBit_eq
  intro j
  rw [Nat.testBit_xor, Nat.testBit_mod_two_pow, Nat.testBit_mod_two_pow, Nat.testBit_two_pow_mul, show t / 2 ^ i % 2 = t / 2 ^ i % 2 ^ 1 from rfl, Nat.testBit_mod_two_pow, Nat.testBit_div_two_pow]
  by_cases h1 : j < i
  · simp [h1, show j < i + 1 by omega, show ¬ i ≤ j by omega]
  · by_cases h2 : j = i
    · subst h2; simp
    · simp [h1, show ¬ j < i + 1 by omega, show ¬ j - i < 1 by omega]
theorem xor_mul (a b n : Nat) : 2 ^ n * (a ^^^ b) = 2 ^ n * a ^^^ 2 ^ n * b := by
  rw [Nat.mul_comm, Nat.mul_comm (2 ^ n) a, Nat.mul_comm (2 ^ n) b]
  simp only [← Nat.shiftLeft_eq, Nat.shiftLeft_xor_distrib]
/-- A round of the turning: bit i of t at place at_ + i. -/
theorem turn_round {l m : List Int} {at_ t i : Nat} (h : num m = num l ^^^ 2 ^ at_ * (t % 2 ^ i)) (hj : (at_ + i) / 8 < m.length) :
    num (m.set ((at_ + i) / 8) (((m.getD ((at_ + i) / 8) 0).toNat ^^^ (t / 2 ^ i % 2 * 2 ^ ((at_ + i) % 8)) : Nat) : Int)) = num l ^^^ 2 ^ at_ * (t % 2 ^ (i + 1)) := by
  rw [num_set m _ _ hj, h, mod_succ_xor, xor_mul, Nat.xor_assoc]
  congr 2
  rw [Nat.mul_comm (t / 2 ^ i % 2), ← Nat.mul_assoc, ← Nat.mul_assoc, ← Nat.pow_add, ← Nat.pow_add, show 8 * ((at_ + i) / 8) + (at_ + i) % 8 = at_ + i by omega]
end Crc
end Go.Proofs.Ytgepmicodfhhmaa
