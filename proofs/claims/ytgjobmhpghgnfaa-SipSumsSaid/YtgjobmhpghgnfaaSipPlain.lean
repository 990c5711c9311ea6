/-
  Plain arithmetic of the sums under a key: rounds of four numbers below 2^64; bytes taken one by one give what words give. Nothing of the program is imported.
-/
import Derived.Test.YtgjobmhpghgnfaaWords
import Derived.Laws.BitsAllLaws
namespace Go.Proofs.Ytgjobmhpghgnfaa
namespace Sip

def M : Nat := 18446744073709551616
/-- Turned to the left, round. -/
def rot (x n : Nat) : Nat := (x * 2 ^ n) % 18446744073709551616 ||| x / 2 ^ (64 - n)
def add (x y : Nat) : Nat := (x + y) % 18446744073709551616
structure V where
  a : Nat
  b : Nat
  c : Nat
  d : Nat
def V.ok (v : V) : Prop := v.a < 18446744073709551616 ∧ v.b < 18446744073709551616 ∧ v.c < 18446744073709551616 ∧ v.d < 18446744073709551616
/-- One round. -/
def rnd (v : V) : V :=
  let a1 := add v.a v.b
  let b1 := rot v.b 13 ^^^ a1
  let a2 := rot a1 32
  let c1 := add v.c v.d
  let d1 := rot v.d 16 ^^^ c1
  let a3 := add a2 d1
  let d2 := rot d1 21 ^^^ a3
  let c2 := add c1 b1
  let b2 := rot b1 17 ^^^ c2
  let c3 := rot c2 32
  ⟨a3, b2, c3, d2⟩
def rnds : Nat → V → V
  | 0, v => v
  | n + 1, v => rnd (rnds n v)
/-- A word is taken. -/
def tk (v : V) (w : Nat) : V := let u := rnds 2 { v with d := v.d ^^^ w }; { u with a := u.a ^^^ w }
def fin (v : V) : Nat := let u := rnds 4 { v with c := v.c ^^^ 255 }; u.a ^^^ u.b ^^^ u.c ^^^ u.d

theorem add_lt (x y : Nat) : add x y < 18446744073709551616 := Nat.mod_lt _ (by omega)
theorem m64 : (18446744073709551616 : Nat) = 2 ^ 64 := by decide
theorem or_lt {x y : Nat} (hx : x < 18446744073709551616) (hy : y < 18446744073709551616) : x ||| y < 18446744073709551616 := by
  rw [m64] at *; exact Nat.or_lt_two_pow hx hy
theorem xr_lt {x y : Nat} (hx : x < 18446744073709551616) (hy : y < 18446744073709551616) : x ^^^ y < 18446744073709551616 := by
  rw [m64] at *; exact Nat.xor_lt_two_pow hx hy
theorem div_lt (x n : Nat) (hx : x < 18446744073709551616) : x / n < 18446744073709551616 := Nat.lt_of_le_of_lt (Nat.div_le_self _ _) hx
theorem rot_lt (x n : Nat) (hx : x < 18446744073709551616) : rot x n < 18446744073709551616 := by
  unfold rot
  have h1 := Nat.mod_lt (x * 2 ^ n) (show 18446744073709551616 > 0 by omega)
  have h2 := div_lt x (2 ^ (64 - n)) hx
  generalize x * 2 ^ n % 18446744073709551616 = p at h1 ⊢
  generalize x / 2 ^ (64 - n) = q at h2 ⊢
  exact or_lt h1 h2
theorem rnd_ok {v : V} (h : v.ok) : (rnd v).ok := by
  obtain ⟨_, h2, _, h4⟩ := h
  unfold rnd V.ok
  have hb1 := xr_lt (rot_lt v.b 13 h2) (add_lt v.a v.b)
  have hd1 := xr_lt (rot_lt v.d 16 h4) (add_lt v.c v.d)
  exact ⟨add_lt _ _, xr_lt (rot_lt _ _ hb1) (add_lt _ _), rot_lt _ _ (add_lt _ _), xr_lt (rot_lt _ _ hd1) (add_lt _ _)⟩
theorem rnds_ok (n : Nat) {v : V} (h : v.ok) : (rnds n v).ok := by
  induction n with
  | zero => exact h
  | succ n ih => exact rnd_ok ih
theorem tk_ok {v : V} {w : Nat} (h : v.ok) (hw : w < 18446744073709551616) : (tk v w).ok := by
  have := rnds_ok 2 (v := { v with d := v.d ^^^ w }) ⟨h.1, h.2.1, h.2.2.1, xr_lt h.2.2.2 hw⟩
  unfold tk
  simp only
  generalize rnds 2 { v with d := v.d ^^^ w } = u at this ⊢
  exact ⟨xr_lt this.1 hw, this.2.1, this.2.2.1, this.2.2.2⟩
theorem fin_lt {v : V} (h : v.ok) : fin v < 18446744073709551616 := by
  have := rnds_ok 4 (v := { v with c := v.c ^^^ 255 }) ⟨h.1, h.2.1, xr_lt h.2.2.1 (by omega), h.2.2.2⟩
  unfold fin
  simp only
  generalize rnds 4 { v with c := v.c ^^^ 255 } = u at this ⊢
  exact xr_lt (xr_lt (xr_lt this.1 this.2.1) this.2.2.1) this.2.2.2

/-- The number that bytes are, the lowest first. -/
def wd : List Int → Nat
  | [] => 0
  | x :: l => x.toNat + 256 * wd l
theorem wd_lt {l : List Int} (h : Byt l) : wd l < 256 ^ l.length := by
  induction l with
  | nil => simp [wd]
  | cons x l ih =>
    have hx := h x (by simp)
    have := ih fun c hc => h c (by simp [hc])
    simp only [wd, List.length_cons, Nat.pow_succ]
    omega
theorem wd_lt8 {l : List Int} (h : Byt l) (h8 : l.length ≤ 8) : wd l < 18446744073709551616 :=
  Nat.lt_of_lt_of_le (wd_lt h) (Nat.le_trans (Nat.pow_le_pow_right (by omega) h8) (by decide))
theorem wd_append (l m : List Int) : wd (l ++ m) = wd l + 256 ^ l.length * wd m := by
  induction l with
  | nil => simp [wd]
  | cons x l ih => simp only [List.cons_append, wd, ih, List.length_cons, Nat.pow_succ, Nat.mul_add, ← Nat.mul_assoc]; rw [Nat.mul_comm 256 (256 ^ l.length)]; omega
theorem p256 (k : Nat) : 256 ^ k = 2 ^ (8 * k) := by rw [show (256 : Nat) = 2 ^ 8 from rfl, ← Nat.pow_mul]
theorem wd_or {l : List Int} {x : Int} (h : Byt l) : wd (l ++ [x]) = wd l ||| (x.toNat * 2 ^ (8 * l.length)) := by
  have hl := wd_lt h
  rw [p256] at hl
  rw [wd_append, Nat.or_comm, Nat.mul_comm x.toNat, ← Nat.two_pow_add_eq_or_of_lt hl, p256, Nat.add_comm]
  simp [wd]
theorem wd_drop (l : List Int) (i : Nat) (h : i < l.length) : wd (l.drop i) = (l.getD i 0).toNat + 256 * wd (l.drop (i + 1)) := by
  rw [List.drop_eq_getElem_cons h]
  simp [wd, List.getD, List.getElem?_eq_getElem h]
theorem wd_drop_ge (l : List Int) (i : Nat) (h : l.length ≤ i) : wd (l.drop i) = 0 := by rw [List.drop_of_length_le h]; rfl

/-- Taken so far: the four numbers, the word that is not whole yet, how many bytes. -/
structure T where
  v : V
  w : Nat
  n : Nat
/-- One byte more. -/
def one (t : T) (x : Int) : T :=
  let w := t.w ||| x.toNat * 2 ^ (t.n % 8 * 8)
  if (t.n + 1) % 8 = 0 then ⟨tk t.v w, 0, t.n + 1⟩ else ⟨t.v, w, t.n + 1⟩
def feed (t : T) (l : List Int) : T := l.foldl one t
def init (k : List Int) : V := ⟨wd (k.take 8) ^^^ 8317987319222330741, wd (k.drop 8) ^^^ 7237128888997146477, wd (k.take 8) ^^^ 7816392313619706465, wd (k.drop 8) ^^^ 8387220255154660723⟩
theorem init_def (k : List Int) : init k = ⟨wd (k.take 8) ^^^ 8317987319222330741, wd (k.drop 8) ^^^ 7237128888997146477, wd (k.take 8) ^^^ 7816392313619706465, wd (k.drop 8) ^^^ 8387220255154660723⟩ := rfl
def done (t : T) : Nat := fin (tk t.v (t.w ||| t.n * 72057594037927936 % 18446744073709551616))
/-- The sum of bytes under a key. -/
def sip (k l : List Int) : Nat := done (feed ⟨init k, 0, 0⟩ l)

theorem init_ok {k : List Int} (hk : k.length = 16) (hb : Byt k) : (init k).ok := by
  have h1 := wd_lt8 (Byt.take hb 8) (by simp; omega)
  have h2 := wd_lt8 (Byt.drop hb 8) (by simp; omega)
  exact ⟨xr_lt h1 (by omega), xr_lt h2 (by omega), xr_lt h1 (by omega), xr_lt h2 (by omega)⟩
theorem feed_snoc (t : T) (l : List Int) (x : Int) : feed t (l ++ [x]) = one (feed t l) x := by simp [feed]
theorem feed_append (t : T) (l m : List Int) : feed t (l ++ m) = feed (feed t l) m := by simp [feed]

def T.ok (t : T) : Prop := t.v.ok ∧ t.w < 256 ^ (t.n % 8)
theorem feed_n (l : List Int) : ∀ t, (feed t l).n = t.n + l.length := by
  induction l with
  | nil => intro t; rfl
  | cons x l ih =>
    intro t
    show (feed (one t x) l).n = _
    rw [ih, List.length_cons]
    unfold one
    simp only
    split
    all_goals
      show t.n + 1 + l.length = _
      omega
theorem one_lt {t : T} {x : Nat} (h : t.ok) (hx : x < 256) : (t.w ||| x * 2 ^ (t.n % 8 * 8)) < 256 ^ (t.n % 8 + 1) := by
  have hw : t.w < 2 ^ (t.n % 8 * 8 + 8) := by
    have := h.2
    rw [p256] at this
    exact Nat.lt_of_lt_of_le this (Nat.pow_le_pow_right (by omega) (by omega))
  have hx2 : x * 2 ^ (t.n % 8 * 8) < 2 ^ (t.n % 8 * 8 + 8) := by
    rw [Nat.pow_add, Nat.mul_comm]
    exact Nat.mul_lt_mul_of_pos_left hx (Nat.two_pow_pos _)
  have := Nat.or_lt_two_pow hw hx2
  rw [p256]
  rwa [show t.n % 8 * 8 + 8 = 8 * (t.n % 8 + 1) by omega] at this
theorem pow8_le {j : Nat} (h : j ≤ 8) : 256 ^ j ≤ 18446744073709551616 := Nat.le_trans (Nat.pow_le_pow_right (by omega) h) (by decide)
theorem one_ok {t : T} {x : Int} (h : t.ok) (hx : 0 ≤ x ∧ x < 256) : (one t x).ok := by
  obtain ⟨y, rfl⟩ := Int.eq_ofNat_of_zero_le hx.1
  have hl := one_lt h (x := y) (by omega)
  unfold one
  simp only [Int.toNat_natCast]
  split
  · exact ⟨tk_ok h.1 (Nat.lt_of_lt_of_le hl (pow8_le (by omega))), Nat.pow_pos (by omega)⟩
  · exact ⟨h.1, by show _ < 256 ^ ((t.n + 1) % 8); rwa [show (t.n + 1) % 8 = t.n % 8 + 1 by omega]⟩
theorem feed_ok {l : List Int} (hb : Byt l) : ∀ {t : T}, t.ok → (feed t l).ok := by
  induction l with
  | nil => intro t h; exact h
  | cons x l ih => intro t h; exact ih (fun c hc => hb c (by simp [hc])) (one_ok h (hb x (by simp)))
theorem start_ok {k : List Int} (hk : k.length = 16) (hb : Byt k) : (T.mk (init k) 0 0).ok := ⟨init_ok hk hb, Nat.pow_pos (by omega)⟩

theorem split_last {l : List Int} (h : 0 < l.length) : ∃ m x, l = m ++ [x] :=
  ⟨l.take (l.length - 1), l[l.length - 1], by
    conv => lhs; rw [← List.take_append_drop (l.length - 1) l]
    congr 1
    rw [List.drop_eq_getElem_cons (by omega), List.drop_of_length_le (by omega)]⟩
/-- Fewer than eight bytes behind whole words: a word that is not whole. -/
theorem feed_few (v : V) (i : Nat) (l : List Int) (h : l.length < 8) (hb : Byt l) : feed ⟨v, 0, 8 * i⟩ l = ⟨v, wd l, 8 * i + l.length⟩ := by
  generalize hn : l.length = n at h
  rw [← hn]
  induction n generalizing l with
  | zero =>
    have : l = [] := List.length_eq_zero_iff.1 hn
    subst this; rfl
  | succ n ih =>
    obtain ⟨l, x, rfl⟩ := split_last (l := l) (by omega)
    simp only [List.length_append, List.length_singleton] at hn
    have hb' : Byt l := fun c hc => hb c (by simp [hc])
    rw [feed_snoc, ih l hb' (by omega) (by omega)]
    unfold one
    simp only
    rw [if_neg (by omega), wd_or hb', show (8 * i + l.length) % 8 * 8 = 8 * l.length by omega]
    simp [Nat.add_assoc]
/-- Eight bytes behind whole words: one word more. -/
theorem feed_eight (v : V) (i : Nat) (l : List Int) (h : l.length = 8) (hb : Byt l) : feed ⟨v, 0, 8 * i⟩ l = ⟨tk v (wd l), 0, 8 * (i + 1)⟩ := by
  obtain ⟨m, x, rfl⟩ := split_last (l := l) (by omega)
  simp only [List.length_append, List.length_singleton] at h
  have hb' : Byt m := fun c hc => hb c (by simp [hc])
  rw [feed_snoc, feed_few v i m (by omega) hb']
  unfold one
  simp only
  rw [if_pos (by omega), wd_or hb', show (8 * i + m.length) % 8 * 8 = 8 * m.length by omega, show 8 * i + m.length + 1 = 8 * (i + 1) by omega]
/-- Behind i whole words. -/
def words (k l : List Int) (i : Nat) : V := (feed ⟨init k, 0, 0⟩ (l.take (8 * i))).v
theorem words_zero (k l : List Int) : words k l 0 = init k := by simp [words, feed]
theorem feed_words {k l : List Int} (hb : Byt l) (i : Nat) (h : 8 * i ≤ l.length) : feed ⟨init k, 0, 0⟩ (l.take (8 * i)) = ⟨words k l i, 0, 8 * i⟩ := by
  induction i with
  | zero => simp [words, feed]
  | succ i ih =>
    have e : l.take (8 * (i + 1)) = l.take (8 * i) ++ (l.drop (8 * i)).take 8 := by
      rw [show 8 * (i + 1) = 8 * i + 8 by omega, List.take_add]
    have h8 : ((l.drop (8 * i)).take 8).length = 8 := by simp; omega
    have := feed_eight (words k l i) i ((l.drop (8 * i)).take 8) h8 (Byt.take (Byt.drop hb _) _)
    have e2 : feed ⟨init k, 0, 0⟩ (l.take (8 * (i + 1))) = ⟨tk (words k l i) (wd ((l.drop (8 * i)).take 8)), 0, 8 * (i + 1)⟩ := by
      rw [e, feed_append, ih (by omega), this]
    unfold words
    rw [e2]
theorem words_succ {k l : List Int} (hb : Byt l) (i : Nat) (h : 8 * (i + 1) ≤ l.length) : words k l (i + 1) = tk (words k l i) (wd ((l.drop (8 * i)).take 8)) := by
  have h8 : ((l.drop (8 * i)).take 8).length = 8 := by simp; omega
  have := feed_eight (words k l i) i ((l.drop (8 * i)).take 8) h8 (Byt.take (Byt.drop hb _) _)
  conv => lhs; unfold words
  rw [show 8 * (i + 1) = 8 * i + 8 by omega, List.take_add, feed_append, feed_words hb i (by omega), this]
theorem words_ok {k l : List Int} (hk : k.length = 16) (hkb : Byt k) (hb : Byt l) (i : Nat) : (words k l i).ok := (feed_ok (Byt.take hb _) (start_ok hk hkb)).1
/-- The last word. -/
theorem sip_words {k l : List Int} (hb : Byt l) (i : Nat) (h : 8 * i ≤ l.length) (h2 : l.length < 8 * i + 8) :
    sip k l = fin (tk (words k l i) (wd (l.drop (8 * i)) + l.length % 256 * 72057594037927936)) := by
  have hl : (l.drop (8 * i)).length < 8 := by simp; omega
  have hw := wd_lt (Byt.drop hb (8 * i))
  have hw2 : wd (l.drop (8 * i)) < 72057594037927936 := Nat.lt_of_lt_of_le hw (Nat.le_trans (Nat.pow_le_pow_right (by omega) (show _ ≤ 7 by omega)) (by decide))
  have e : feed ⟨init k, 0, 0⟩ l = ⟨words k l i, wd (l.drop (8 * i)), l.length⟩ := by
    conv => lhs; rw [← List.take_append_drop (8 * i) l]
    rw [feed_append, feed_words hb i h, feed_few _ _ _ hl (Byt.drop hb _)]
    simp
    omega
  unfold sip
  rw [e]
  unfold done
  simp only
  rw [show l.length * 72057594037927936 % 18446744073709551616 = l.length % 256 * 72057594037927936 by omega]
  rw [Nat.or_comm, nat_join 56 _ _ (by omega) (by omega), Nat.add_comm]
theorem last_lt {l : List Int} (hb : Byt l) (h : l.length < 8) (n : Nat) : wd l + n % 256 * 72057594037927936 < 18446744073709551616 := by
  have hw := wd_lt hb
  have hw2 : wd l < 72057594037927936 := Nat.lt_of_lt_of_le hw (Nat.le_trans (Nat.pow_le_pow_right (by omega) (show _ ≤ 7 by omega)) (by decide))
  omega
def key : List Int := [0, 1, 2, 3, 4, 5, 6, 7, 8, 9, 10, 11, 12, 13, 14, 15]
theorem known_none : sip key [] = 8246050544436514353 := by decide +kernel
theorem known_fifteen : sip key (key.take 15) = 11613035633349379557 := by decide +kernel
theorem key_byt : Byt key := by unfold Byt key; decide
end Sip
end Go.Proofs.Ytgjobmhpghgnfaa
