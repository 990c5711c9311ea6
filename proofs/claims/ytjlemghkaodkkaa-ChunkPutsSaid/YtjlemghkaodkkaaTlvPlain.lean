/-
  Plain words of layer 4 on lists of bytes: a thing's bytes, the thing that bytes begin with, all things of bytes. Nothing of the program is imported.
-/
import Derived.Test.YtjlemghkaodkkaaWire
namespace Go.Proofs.Ytjlemghkaodkkaa
namespace Tlv
open Wire

/-- A thing. -/
structure Tv where
  k : Nat
  f : Nat
  v : List Int
  deriving DecidableEq
def Tv.ok (x : Tv) : Prop := x.k < 65536 ∧ x.f < 256 ∧ Byt x.v
def none_ : Tv := ⟨0, 0, []⟩
/-- The next multiple of 4. -/
def whl (n : Nat) : Nat := (n + 3) / 4 * 4
/-- The bytes of a kind (and of flags). -/
def hd (ch : Bool) (k f : Nat) : List Int := if ch then [(k : Int), (f : Int)] else be 2 k
/-- A thing's bytes. -/
def tb (ch : Bool) (x : Tv) : List Int := hd ch x.k x.f ++ (be 2 (x.v.length + 4) ++ (x.v ++ List.replicate (whl (4 + x.v.length) - (4 + x.v.length)) 0))
/-- May a thing be put so. -/
def fit (ch : Bool) (x : Tv) : Prop := if ch then x.k ≤ 255 else x.f = 0
instance (ch : Bool) (x : Tv) : Decidable (fit ch x) := by unfold fit; infer_instance
/-- What putting answers. -/
def tp (ch : Bool) (x : Tv) : List Int × Int := if ¬ fit ch x then ([], 2) else if 65531 < x.v.length then ([], 3) else (tb ch x, 0)
theorem whl_le (n : Nat) : n ≤ whl n ∧ whl n ≤ n + 3 ∧ whl n % 4 = 0 := by unfold whl; omega
theorem hd_len (ch : Bool) (k f : Nat) : (hd ch k f).length = 2 := by cases ch <;> simp [hd, be_len]
theorem tb_len (ch : Bool) (x : Tv) : (tb ch x).length = whl (4 + x.v.length) := by
  have := whl_le (4 + x.v.length)
  simp [tb, hd_len, be_len]
  omega
theorem rep_byt (n : Nat) : Byt (List.replicate n 0) := fun c h => by simp [List.mem_replicate] at h; omega
theorem hd_byt {ch : Bool} {x : Tv} (h : x.ok) (hf : fit ch x) : Byt (hd ch x.k x.f) := by
  unfold hd
  unfold fit at hf
  cases ch
  · exact be_byt _ _
  · intro c hc
    have := h.2.1
    simp at hf hc
    omega
theorem tb_byt {ch : Bool} {x : Tv} (h : x.ok) (hf : fit ch x) : Byt (tb ch x) :=
  byt_app (hd_byt h hf) (byt_app (be_byt _ _) (byt_app h.2.2 (rep_byt _)))
/-- The kind and the flags that bytes begin with. -/
def kk (ch : Bool) (b : List Int) : Nat := if ch then (b.getD 0 0).toNat else nu (b.take 2)
def ff (ch : Bool) (b : List Int) : Nat := if ch then (b.getD 1 0).toNat else 0
/-- The length that bytes tell. -/
def ln (b : List Int) : Nat := nu ((b.drop 2).take 2)
/-- The thing that bytes begin with, and how many bytes it has. -/
def t1 (ch : Bool) (b : List Int) : Option (Tv × Nat) :=
  if b.length < 4 then none else if ln b < 4 ∨ b.length < whl (ln b) then none
  else if ((b.take (whl (ln b))).drop (ln b)).all (· == 0) then some (⟨kk ch b, ff ch b, (b.take (ln b)).drop 4⟩, whl (ln b)) else none
theorem t1_lt {ch : Bool} {b : List Int} {x : Tv} {s : Nat} (h : t1 ch b = some (x, s)) : 4 ≤ s ∧ s ≤ b.length := by
  unfold t1 at h
  split at h
  · cases h
  split at h
  · cases h
  split at h
  · simp only [Option.some.injEq, Prod.mk.injEq] at h
    have := whl_le (ln b)
    omega
  · cases h
/-- All things of bytes, and whether it ends well. -/
def ta (ch : Bool) : Nat → List Int → List Tv × Bool
  | 0, _ => ([], true)
  | m + 1, b => if b.length = 0 then ([], true) else match t1 ch b with
    | none => ([], false)
    | some (x, s) => (x :: (ta ch m (b.drop s)).1, (ta ch m (b.drop s)).2)
theorem ta_more (ch : Bool) : ∀ (m n : Nat) (b : List Int), b.length ≤ m → b.length ≤ n → ta ch m b = ta ch n b
  | 0, 0, _, _, _ => rfl
  | 0, n + 1, b, h, _ => by
    have : b.length = 0 := by omega
    simp [ta, this]
  | m + 1, 0, b, _, h => by
    have : b.length = 0 := by omega
    simp [ta, this]
  | m + 1, n + 1, b, h1, h2 => by
    unfold ta
    split
    · rfl
    · cases ht : t1 ch b with
      | none => rfl
      | some p =>
        obtain ⟨x, s⟩ := p
        have := t1_lt ht
        simp only
        rw [ta_more ch m n (b.drop s) (by simp; omega) (by simp; omega)]
def tl (ch : Bool) (b : List Int) : List Tv × Bool := ta ch b.length b
theorem tl_nil (ch : Bool) : tl ch [] = ([], true) := rfl
theorem tl_none {ch : Bool} {b : List Int} (h0 : b.length ≠ 0) (h : t1 ch b = none) : tl ch b = ([], false) := by
  unfold tl
  obtain ⟨m, hm⟩ : ∃ m, b.length = m + 1 := ⟨b.length - 1, by omega⟩
  rw [hm]
  unfold ta
  rw [if_neg h0, h]
theorem tl_some {ch : Bool} {b : List Int} {x : Tv} {s : Nat} (h : t1 ch b = some (x, s)) : tl ch b = (x :: (tl ch (b.drop s)).1, (tl ch (b.drop s)).2) := by
  have hl := t1_lt h
  unfold tl
  obtain ⟨m, hm⟩ : ∃ m, b.length = m + 1 := ⟨b.length - 1, by omega⟩
  conv => lhs; rw [hm]
  conv => lhs; unfold ta
  rw [if_neg (by omega), h]
  simp only
  rw [ta_more ch m (b.drop s).length (b.drop s) (by simp; omega) (Nat.le_refl _)]
/-- What going over the bytes tells, one by one. -/
def ev (ch : Bool) (b : List Int) : List (Tv × Int) := (tl ch b).1.map (fun x => (x, 0)) ++ if (tl ch b).2 then [] else [(none_, 40)]
theorem ev_nil (ch : Bool) : ev ch [] = [] := rfl
theorem ev_none {ch : Bool} {b : List Int} (h0 : b.length ≠ 0) (h : t1 ch b = none) : ev ch b = [(none_, 40)] := by
  unfold ev
  rw [tl_none h0 h]
  rfl
theorem ev_some {ch : Bool} {b : List Int} {x : Tv} {s : Nat} (h : t1 ch b = some (x, s)) : ev ch b = (x, 0) :: ev ch (b.drop s) := by
  unfold ev
  rw [tl_some h]
  rfl
/-- What the list answers. -/
def tlist (ch : Bool) (b : List Int) : List Tv × Int := if (tl ch b).2 then ((tl ch b).1, 0) else ([], 40)
theorem tl_len (ch : Bool) : ∀ (m : Nat) (b : List Int), b.length ≤ m → 4 * (tl ch b).1.length ≤ b.length
  | 0, b, h => by
    rw [List.eq_nil_of_length_eq_zero (show b.length = 0 by omega), tl_nil]
    simp
  | m + 1, b, h => by
    by_cases h0 : b.length = 0
    · rw [List.eq_nil_of_length_eq_zero h0, tl_nil]
      simp
    cases ht : t1 ch b with
    | none => rw [tl_none h0 ht]; simp
    | some p =>
      obtain ⟨x, s⟩ := p
      have hl := t1_lt ht
      have := tl_len ch m (b.drop s) (by simp; omega)
      rw [tl_some ht]
      simp at this ⊢
      omega

theorem nu_one (c : Int) : nu [c] = c.toNat := by simp [nu]
theorem nu_two (a b : Int) : nu [a, b] = 256 * a.toNat + b.toNat := by simp [nu]
theorem hd_back {ch : Bool} {x : Tv} (h : x.ok) (hf : fit ch x) (m : List Int) : kk ch (hd ch x.k x.f ++ m) = x.k ∧ ff ch (hd ch x.k x.f ++ m) = x.f := by
  unfold fit at hf
  cases ch
  · simp only [Bool.false_eq_true, if_false] at hf
    refine ⟨?_, by simp [ff, hf]⟩
    unfold kk hd
    simp only [Bool.false_eq_true, if_false]
    rw [List.take_left' (be_len _ _), nu_be 2 _ (by have := h.1; omega)]
  · simp [kk, ff, hd]
theorem ln_tb {ch : Bool} {x : Tv} (hv : x.v.length ≤ 65531) (m : List Int) : ln (tb ch x ++ m) = x.v.length + 4 := by
  unfold ln tb
  rw [List.append_assoc, List.drop_left' (hd_len _ _ _), List.append_assoc, List.take_left' (be_len _ _), nu_be 2 _ (by omega)]
/-- What was put is told as it was, whatever stands behind. -/
theorem t1_tb {ch : Bool} {x : Tv} (h : x.ok) (hf : fit ch x) (hv : x.v.length ≤ 65531) (m : List Int) : t1 ch (tb ch x ++ m) = some (x, whl (4 + x.v.length)) := by
  have hw := whl_le (4 + x.v.length)
  have hlen : (tb ch x ++ m).length = whl (4 + x.v.length) + m.length := by rw [List.length_append, tb_len]
  unfold t1
  rw [ln_tb hv, hlen, Nat.add_comm x.v.length 4, if_neg (by omega), if_neg (by omega), List.take_left' (tb_len _ _)]
  have e1 : (tb ch x).drop (4 + x.v.length) = List.replicate (whl (4 + x.v.length) - (4 + x.v.length)) 0 := by
    unfold tb
    rw [show hd ch x.k x.f ++ (be 2 (x.v.length + 4) ++ (x.v ++ List.replicate (whl (4 + x.v.length) - (4 + x.v.length)) 0)) = (hd ch x.k x.f ++ (be 2 (x.v.length + 4) ++ x.v)) ++ List.replicate (whl (4 + x.v.length) - (4 + x.v.length)) 0 by simp [List.append_assoc]]
    rw [List.drop_left' (by simp [hd_len, be_len]; omega)]
  rw [e1, if_pos (by simp)]
  have e2 : ((tb ch x ++ m).take (4 + x.v.length)).drop 4 = x.v := by
    unfold tb
    rw [show hd ch x.k x.f ++ (be 2 (x.v.length + 4) ++ (x.v ++ List.replicate (whl (4 + x.v.length) - (4 + x.v.length)) 0)) ++ m = (hd ch x.k x.f ++ be 2 (x.v.length + 4)) ++ (x.v ++ (List.replicate (whl (4 + x.v.length) - (4 + x.v.length)) 0 ++ m)) by simp [List.append_assoc]]
    rw [List.take_append, List.drop_append, List.take_of_length_le (by simp [hd_len, be_len]), List.drop_of_length_le (by simp [hd_len, be_len]), List.nil_append]
    simp [hd_len, be_len]
  rw [e2]
  have e3 := hd_back h hf (be 2 (x.v.length + 4) ++ (x.v ++ List.replicate (whl (4 + x.v.length) - (4 + x.v.length)) 0) ++ m)
  rw [← List.append_assoc] at e3
  unfold tb
  rw [e3.1, e3.2]
/-- The bytes of things, one behind the other. -/
def cat (ch : Bool) (xs : List Tv) : List Int := xs.flatMap (tb ch)
theorem ev_cat {ch : Bool} : ∀ {xs : List Tv} (m : List Int), (∀ x ∈ xs, x.ok ∧ fit ch x ∧ x.v.length ≤ 65531) → ev ch (cat ch xs ++ m) = xs.map (fun x => (x, 0)) ++ ev ch m
  | [], m, _ => rfl
  | x :: xs, m, h => by
    obtain ⟨h1, h2, h3⟩ := h x (by simp)
    have e : cat ch (x :: xs) ++ m = tb ch x ++ (cat ch xs ++ m) := by simp [cat, List.append_assoc]
    rw [e, ev_some (t1_tb h1 h2 h3 _), List.drop_left' (tb_len _ _), ev_cat m (fun y hy => h y (by simp [hy]))]
    rfl
theorem tl_cat {ch : Bool} : ∀ {xs : List Tv} (m : List Int), (∀ x ∈ xs, x.ok ∧ fit ch x ∧ x.v.length ≤ 65531) → tl ch (cat ch xs ++ m) = (xs ++ (tl ch m).1, (tl ch m).2)
  | [], m, _ => rfl
  | x :: xs, m, h => by
    obtain ⟨h1, h2, h3⟩ := h x (by simp)
    have e : cat ch (x :: xs) ++ m = tb ch x ++ (cat ch xs ++ m) := by simp [cat, List.append_assoc]
    rw [e, tl_some (t1_tb h1 h2 h3 _), List.drop_left' (tb_len _ _), tl_cat m (fun y hy => h y (by simp [hy]))]
    rfl
theorem two_of {l : List Int} (h : 2 ≤ l.length) : ∃ a b m, l = a :: b :: m := by
  match l, h with
  | a :: b :: m, _ => exact ⟨a, b, m, rfl⟩
/-- What bytes begin with is put as those bytes. -/
theorem tb_t1 {ch : Bool} {b : List Int} {x : Tv} {s : Nat} (hb : Byt b) (h : t1 ch b = some (x, s)) : x.ok ∧ fit ch x ∧ x.v.length ≤ 65531 ∧ tb ch x = b.take s := by
  have hlt := t1_lt h
  unfold t1 at h
  split at h
  · cases h
  rename_i h4
  split at h
  · cases h
  rename_i hn
  split at h
  case isFalse => cases h
  rename_i hz
  simp only [Option.some.injEq, Prod.mk.injEq] at h
  obtain ⟨rfl, rfl⟩ := h
  have hw := whl_le (ln b)
  have hln : ln b < 65536 := nu_lt 2 _ (by simp; omega) (Byt.take (Byt.drop hb 2) 2)
  have hvl : ((b.take (ln b)).drop 4).length = ln b - 4 := by simp; omega
  have hbv : Byt ((b.take (ln b)).drop 4) := Byt.drop (Byt.take hb _) _
  have e2 : be 2 (ln b) = (b.drop 2).take 2 := be_nu 2 _ (by simp; omega) (Byt.take (Byt.drop hb 2) 2)
  have e1 : hd ch (kk ch b) (ff ch b) = b.take 2 ∧ kk ch b < 65536 ∧ ff ch b < 256 ∧ (ch = true → kk ch b ≤ 255) ∧ (ch = false → ff ch b = 0) := by
    obtain ⟨p, q, m, rfl⟩ := two_of (l := b) (by omega)
    have hp := hb p (by simp)
    have hq := hb q (by simp)
    cases ch
    · refine ⟨?_, ?_, by simp [ff], by simp, by simp [ff]⟩
      · unfold hd kk
        simp only [Bool.false_eq_true, if_false]
        exact be_nu 2 _ (by simp) (Byt.take hb 2)
      · unfold kk
        simp only [Bool.false_eq_true, if_false]
        exact nu_lt 2 _ (by simp) (Byt.take hb 2)
    · refine ⟨?_, ?_, ?_, ?_, by simp⟩
      · simp [hd, kk, ff]
        omega
      · simp [kk]; omega
      · simp [ff]; omega
      · simp [kk]; omega
  have e3 : (b.take (whl (ln b))).drop (ln b) = List.replicate (whl (ln b) - ln b) 0 := by
    rw [List.eq_replicate_iff]
    refine ⟨by simp; omega, fun c hc => ?_⟩
    have := List.all_eq_true.1 hz c hc
    simpa using this
  refine ⟨⟨e1.2.1, e1.2.2.1, hbv⟩, ?_, by rw [hvl]; omega, ?_⟩
  · unfold fit
    cases ch
    · simpa using e1.2.2.2.2
    · simpa using e1.2.2.2.1
  · unfold tb
    simp only
    rw [e1.1, hvl, show ln b - 4 + 4 = ln b by omega, show 4 + (ln b - 4) = ln b by omega, e2, ← e3]
    apply List.ext_getElem?
    intro i
    rw [List.getElem?_append, List.getElem?_append, List.getElem?_append]
    simp only [List.length_take, List.length_drop, List.getElem?_take, List.getElem?_drop]
    repeat' split
    all_goals first
      | omega
      | rfl
      | (congr 1; omega)
      | skip
theorem cat_tl {ch : Bool} : ∀ (m : Nat) (b : List Int), b.length ≤ m → Byt b → (tl ch b).2 = true → cat ch (tl ch b).1 = b ∧ ∀ x ∈ (tl ch b).1, x.ok ∧ fit ch x ∧ x.v.length ≤ 65531
  | 0, b, h, _, _ => by
    rw [List.eq_nil_of_length_eq_zero (show b.length = 0 by omega), tl_nil]
    exact ⟨rfl, fun x h => by simp at h⟩
  | m + 1, b, h, hb, ht => by
    by_cases h0 : b.length = 0
    · rw [List.eq_nil_of_length_eq_zero h0, tl_nil]
      exact ⟨rfl, fun x h => by simp at h⟩
    cases h1 : t1 ch b with
    | none => rw [tl_none h0 h1] at ht; cases ht
    | some p =>
      obtain ⟨x, s⟩ := p
      have hl := t1_lt h1
      obtain ⟨g1, g2, g3, g4⟩ := tb_t1 hb h1
      rw [tl_some h1] at ht ⊢
      obtain ⟨i1, i2⟩ := cat_tl m (b.drop s) (by simp; omega) (Byt.drop hb s) ht
      refine ⟨?_, fun y hy => ?_⟩
      · simp only [cat, List.flatMap_cons]
        have : List.flatMap (tb ch) (tl ch (b.drop s)).1 = b.drop s := i1
        rw [this, g4, List.take_append_drop]
      · rcases List.mem_cons.1 hy with rfl | hy
        · exact ⟨g1, g2, g3⟩
        · exact i2 y hy
theorem tl_ok {ch : Bool} : ∀ (m : Nat) (b : List Int), b.length ≤ m → Byt b → ∀ x ∈ (tl ch b).1, x.ok
  | 0, b, h, _, x, hx => by
    rw [List.eq_nil_of_length_eq_zero (show b.length = 0 by omega), tl_nil] at hx
    simp at hx
  | m + 1, b, h, hb, x, hx => by
    by_cases h0 : b.length = 0
    · rw [List.eq_nil_of_length_eq_zero h0, tl_nil] at hx
      simp at hx
    cases h1 : t1 ch b with
    | none => rw [tl_none h0 h1] at hx; simp at hx
    | some p =>
      obtain ⟨y, s⟩ := p
      have hl := t1_lt h1
      rw [tl_some h1] at hx
      rcases List.mem_cons.1 hx with rfl | hx
      · exact (tb_t1 hb h1).1
      · exact tl_ok m (b.drop s) (by simp; omega) (Byt.drop hb s) x hx
end Tlv
end Go.Proofs.Ytjlemghkaodkkaa
