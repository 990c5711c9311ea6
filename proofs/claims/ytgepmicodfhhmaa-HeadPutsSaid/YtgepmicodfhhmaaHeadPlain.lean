/-
  Plain words of layer 3 on lists of bytes: numbers of the wire, a packet's bytes, its sum, what putting and taking answer. Nothing of the program is imported.
-/
import Derived.Test.YtgepmicodfhhmaaCrcBits
namespace Go.Proofs.Ytgepmicodfhhmaa
namespace Head
open Crc

/-- The n bytes of a number, the highest first. -/
def be : Nat → Nat → List Int
  | 0, _ => []
  | n + 1, x => be n (x / 256) ++ [((x % 256 : Nat) : Int)]
/-- The number of bytes, the highest first. -/
def nu (l : List Int) : Nat := l.foldl (fun n c => 256 * n + c.toNat) 0
theorem be_len : ∀ n x, (be n x).length = n
  | 0, _ => rfl
  | n + 1, x => by rw [be, List.length_append, be_len n]; rfl
theorem be_byt : ∀ n x, Byt (be n x)
  | 0, _ => fun c h => by simp [be] at h
  | n + 1, x => fun c h => by
    rw [be, List.mem_append] at h
    rcases h with h | h
    · exact be_byt n _ c h
    · simp at h
      subst h
      omega
theorem nu_snoc (l : List Int) (c : Int) : nu (l ++ [c]) = 256 * nu l + c.toNat := by simp [nu]
theorem nu_be : ∀ n x, x < 256 ^ n → nu (be n x) = x
  | 0, x, h => by simp [be, nu] at *; omega
  | n + 1, x, h => by
    rw [be, nu_snoc, nu_be n (x / 256) (by rw [Nat.pow_succ] at h; exact Nat.div_lt_of_lt_mul (by rw [Nat.mul_comm]; exact h))]
    simp only [Int.toNat_natCast]
    omega
theorem snoc_of {l : List Int} {n : Nat} (h : l.length = n + 1) : ∃ m c, l = m ++ [c] ∧ m.length = n :=
  ⟨l.dropLast, l.getLast (by intro e; rw [e] at h; simp at h), (List.dropLast_concat_getLast _).symm, by simp [h]⟩
theorem be_nu : ∀ (n : Nat) (l : List Int), l.length = n → Byt l → be n (nu l) = l
  | 0, l, h, _ => by rw [List.eq_nil_of_length_eq_zero h]; rfl
  | n + 1, l, h, hb => by
    obtain ⟨m, c, rfl, hm⟩ := snoc_of h
    have hc := hb c (by simp)
    rw [nu_snoc, be, show (256 * nu m + c.toNat) / 256 = nu m by omega, be_nu n m hm (fun x hx => hb x (by simp [hx]))]
    congr 2
    omega
theorem nu_lt : ∀ (n : Nat) (l : List Int), l.length = n → Byt l → nu l < 256 ^ n
  | 0, l, h, _ => by rw [List.eq_nil_of_length_eq_zero h]; decide
  | n + 1, l, h, hb => by
    obtain ⟨m, c, rfl, hm⟩ := snoc_of h
    have hc := hb c (by simp)
    have := nu_lt n m hm (fun x hx => hb x (by simp [hx]))
    rw [nu_snoc, Nat.pow_succ]
    omega
theorem nu_take {l : List Int} {k : Nat} (hk : k < l.length) : nu (l.take (k + 1)) = 256 * nu (l.take k) + (l.getD k 0).toNat := by
  have e : l.getD k 0 = l[k] := by simp [List.getD, List.getElem?_eq_getElem hk]
  rw [List.take_succ_eq_append_getElem hk, nu_snoc, e]
theorem byt_app {l m : List Int} (hl : Byt l) (hm : Byt m) : Byt (l ++ m) := fun c hc => (List.mem_append.1 hc).elim (hl c) (hm c)

/-- A packet's bytes. -/
def pk (f t g s : Nat) (body : List Int) : List Int := be 2 f ++ (be 2 t ++ (be 4 g ++ (be 4 s ++ body)))
theorem pk_len (f t g s : Nat) (body : List Int) : (pk f t g s body).length = 12 + body.length := by simp [pk, be_len]; omega
theorem pk_byt (f t g s : Nat) {body : List Int} (h : Byt body) : Byt (pk f t g s body) :=
  byt_app (be_byt _ _) (byt_app (be_byt _ _) (byt_app (be_byt _ _) (byt_app (be_byt _ _) h)))
/-- The sum of a packet's bytes, with four bytes 0 in its own place. -/
def sm (l : List Int) : Nat := more 0 (l.take 8 ++ ([0, 0, 0, 0] ++ l.drop 12))
theorem sm_lt (l : List Int) : sm l < 4294967296 := more_lt 0 _
theorem take8 {a b c d : List Int} (ha : a.length = 2) (hb : b.length = 2) (hc : c.length = 4) : (a ++ (b ++ (c ++ d))).take 8 = a ++ (b ++ c) := by
  rw [← List.append_assoc, ← List.append_assoc, List.take_left' (by simp; omega), List.append_assoc]
theorem drop12 {a b c d e : List Int} (ha : a.length = 2) (hb : b.length = 2) (hc : c.length = 4) (hd : d.length = 4) : (a ++ (b ++ (c ++ (d ++ e)))).drop 12 = e := by
  rw [← List.append_assoc, ← List.append_assoc, ← List.append_assoc, List.drop_left' (by simp; omega)]
theorem sm_pk (f t g s : Nat) (body : List Int) : sm (pk f t g s body) = more 0 (pk f t g 0 body) := by
  unfold sm pk
  rw [take8 (be_len _ _) (be_len _ _) (be_len _ _), drop12 (be_len _ _) (be_len _ _) (be_len _ _) (be_len _ _)]
  rw [show be 4 0 = [0, 0, 0, 0] from rfl, List.append_assoc, List.append_assoc]
theorem be4_split (f t : Nat) (ht : t < 65536) : be 4 (f * 65536 + t) = be 2 f ++ be 2 t := by
  simp only [be, List.nil_append, List.cons_append]
  congr 1
  · congr 1; congr 1; omega
  · congr 1
    · congr 1; omega
    · congr 1
      · congr 1; omega
      · congr 1; congr 1; omega
/-- The parts of twelve bytes and more. -/
def fr (l : List Int) : Nat := nu (l.take 2)
def to_ (l : List Int) : Nat := nu ((l.take 4).drop 2)
def tg (l : List Int) : Nat := nu ((l.take 8).drop 4)
def su (l : List Int) : Nat := nu ((l.take 12).drop 8)
theorem cut_app (l : List Int) (i j : Nat) (h : i ≤ j) : l.take j = l.take i ++ (l.take j).drop i := by
  have := List.take_append_drop i (l.take j)
  rw [List.take_take, Nat.min_eq_left h] at this
  exact this.symm
theorem parts {l : List Int} (h : 12 ≤ l.length) (hb : Byt l) : pk (fr l) (to_ l) (tg l) (su l) (l.drop 12) = l := by
  unfold pk fr to_ tg su
  rw [be_nu 2 _ (by simp; omega) (Byt.take hb 2), be_nu 2 _ (by simp; omega) (Byt.drop (Byt.take hb 4) 2), be_nu 4 _ (by simp; omega) (Byt.drop (Byt.take hb 8) 4), be_nu 4 _ (by simp; omega) (Byt.drop (Byt.take hb 12) 8)]
  rw [← List.append_assoc, ← cut_app l 2 4 (by omega), ← List.append_assoc, ← cut_app l 4 8 (by omega), ← List.append_assoc, ← cut_app l 8 12 (by omega), List.take_append_drop]
theorem parts_lt {l : List Int} (h : 12 ≤ l.length) (hb : Byt l) : fr l < 65536 ∧ to_ l < 65536 ∧ tg l < 4294967296 ∧ su l < 4294967296 :=
  ⟨nu_lt 2 _ (by simp; omega) (Byt.take hb 2), nu_lt 2 _ (by simp; omega) (Byt.drop (Byt.take hb 4) 2), nu_lt 4 _ (by simp; omega) (Byt.drop (Byt.take hb 8) 4), nu_lt 4 _ (by simp; omega) (Byt.drop (Byt.take hb 12) 8)⟩
theorem app_inj {a b c d : List Int} (h : a.length = c.length) (he : a ++ b = c ++ d) : a = c ∧ b = d := List.append_inj he h
theorem be_inj {n x y : Nat} (hx : x < 256 ^ n) (hy : y < 256 ^ n) (h : be n x = be n y) : x = y := by
  rw [← nu_be n x hx, ← nu_be n y hy, h]
theorem pk_inj {f t g s f' t' g' s' : Nat} {b b' : List Int} (hf : f < 65536) (ht : t < 65536) (hg : g < 4294967296) (hs : s < 4294967296) (hf' : f' < 65536) (ht' : t' < 65536) (hg' : g' < 4294967296) (hs' : s' < 4294967296)
    (h : pk f t g s b = pk f' t' g' s' b') : f = f' ∧ t = t' ∧ g = g' ∧ s = s' ∧ b = b' := by
  unfold pk at h
  obtain ⟨h1, h⟩ := app_inj (by rw [be_len, be_len]) h
  obtain ⟨h2, h⟩ := app_inj (by rw [be_len, be_len]) h
  obtain ⟨h3, h⟩ := app_inj (by rw [be_len, be_len]) h
  obtain ⟨h4, h⟩ := app_inj (by rw [be_len, be_len]) h
  exact ⟨be_inj hf hf' h1, be_inj ht ht' h2, be_inj hg hg' h3, be_inj hs hs' h4, h⟩
theorem parts_pk {f t g s : Nat} {b : List Int} (hf : f < 65536) (ht : t < 65536) (hg : g < 4294967296) (hs : s < 4294967296) (hb : Byt b) :
    fr (pk f t g s b) = f ∧ to_ (pk f t g s b) = t ∧ tg (pk f t g s b) = g ∧ su (pk f t g s b) = s ∧ (pk f t g s b).drop 12 = b := by
  have h12 : 12 ≤ (pk f t g s b).length := by rw [pk_len]; omega
  have hB := pk_byt f t g s hb
  obtain ⟨l1, l2, l3, l4⟩ := parts_lt h12 hB
  exact pk_inj l1 l2 l3 l4 hf ht hg hs (parts h12 hB)

/-- What putting answers: the bytes, and the error. -/
def pt (f t g : Nat) (body : List Int) : List Int × Int :=
  if body.length % 4 ≠ 0 then ([], 32) else if 1488 < body.length then ([], 3) else (pk f t g (more 0 (pk f t g 0 body)) body, 0)
/-- What taking answers. -/
structure Tk where
  f : Nat
  t : Nat
  g : Nat
  body : List Int
  err : Int
  deriving DecidableEq
def tk (l : List Int) : Tk :=
  if 1500 < l.length then ⟨0, 0, 0, [], 3⟩ else if l.length < 12 then ⟨0, 0, 0, [], 30⟩ else if l.length % 4 ≠ 0 then ⟨0, 0, 0, [], 32⟩
  else if su l ≠ sm l then ⟨0, 0, 0, [], 31⟩ else ⟨fr l, to_ l, tg l, l.drop 12, 0⟩
/-- What was put is taken as it was. -/
theorem back {f t g : Nat} {body : List Int} (hf : f < 65536) (ht : t < 65536) (hg : g < 4294967296) (hb : Byt body) (h0 : (pt f t g body).2 = 0) : tk (pt f t g body).1 = ⟨f, t, g, body, 0⟩ := by
  unfold pt at *
  by_cases h1 : body.length % 4 ≠ 0
  · rw [if_pos h1] at h0; cases h0
  · rw [if_neg h1] at h0 ⊢
    by_cases h2 : 1488 < body.length
    · rw [if_pos h2] at h0; cases h0
    · rw [if_neg h2]
      obtain ⟨e1, e2, e3, e4, e5⟩ := parts_pk hf ht hg (more_lt 0 (pk f t g 0 body)) hb
      unfold tk
      rw [e1, e2, e3, e4, e5, sm_pk, pk_len, if_neg (by omega), if_neg (by omega), if_neg (by omega), if_neg (by simp)]
/-- What is taken is put as those bytes. -/
theorem forth {l : List Int} (hb : Byt l) (h0 : (tk l).err = 0) : pt (tk l).f (tk l).t (tk l).g (tk l).body = (l, 0) := by
  unfold tk at *
  by_cases h1 : 1500 < l.length
  · rw [if_pos h1] at h0; cases h0
  rw [if_neg h1] at h0 ⊢
  by_cases h2 : l.length < 12
  · rw [if_pos h2] at h0; cases h0
  rw [if_neg h2] at h0 ⊢
  by_cases h3 : l.length % 4 ≠ 0
  · rw [if_pos h3] at h0; cases h0
  rw [if_neg h3] at h0 ⊢
  by_cases h4 : su l ≠ sm l
  · rw [if_pos h4] at h0; cases h0
  rw [if_neg h4]
  unfold pt
  simp only [List.length_drop]
  rw [if_neg (by omega), if_neg (by omega), ← sm_pk (fr l) (to_ l) (tg l) (su l) (l.drop 12)]
  have h5 := parts (by omega) hb
  rw [h5, ← (by simpa using h4 : su l = sm l), h5]
/-- The four ways of what taking answers, and its bounds. -/
theorem tk_lt {l : List Int} (hb : Byt l) : (tk l).f < 65536 ∧ (tk l).t < 65536 ∧ (tk l).g < 4294967296 ∧ Byt (tk l).body ∧ (tk l).body.length ≤ l.length := by
  have hn : Byt ([] : List Int) := fun c h => by simp at h
  unfold tk
  split
  · exact ⟨by simp, by simp, by simp, hn, by simp⟩
  split
  · exact ⟨by simp, by simp, by simp, hn, by simp⟩
  split
  · exact ⟨by simp, by simp, by simp, hn, by simp⟩
  split
  · exact ⟨by simp, by simp, by simp, hn, by simp⟩
  · obtain ⟨e1, e2, e3, _⟩ := parts_lt (by omega) hb
    exact ⟨e1, e2, e3, Byt.drop hb 12, by simp⟩
/-- The bytes that the sum is of. -/
def bare (l : List Int) : List Int := l.take 8 ++ ([0, 0, 0, 0] ++ l.drop 12)
theorem sm_bare (l : List Int) : sm l = more 0 (bare l) := rfl
theorem bare_len {l : List Int} (h : 12 ≤ l.length) : (bare l).length = l.length := by simp [bare]; omega
theorem bare_byt {l : List Int} (h : Byt l) : Byt (bare l) := byt_app (Byt.take h 8) (byt_app (by intro c hc; simp at hc; omega) (Byt.drop h 12))
theorem bare_in {l : List Int} (h : 12 ≤ l.length) {i : Nat} (h1 : 8 ≤ i) (h2 : i < 12) : (bare l).getD i 0 = 0 := by
  unfold bare
  rw [List.getD_eq_getElem?_getD, List.getElem?_append_right (by simp; omega), List.getElem?_append_left (by simp; omega)]
  rw [show (l.take 8).length = 8 by simp; omega]
  rcases (show i = 8 ∨ i = 9 ∨ i = 10 ∨ i = 11 by omega) with rfl | rfl | rfl | rfl <;> rfl
theorem bare_out {l : List Int} (h : 12 ≤ l.length) {i : Nat} (h1 : i < 8 ∨ 12 ≤ i) : (bare l).getD i 0 = l.getD i 0 := by
  unfold bare
  rw [List.getD_eq_getElem?_getD, List.getD_eq_getElem?_getD]
  rcases h1 with h1 | h1
  · rw [List.getElem?_append_left (by simp; omega), List.getElem?_take, if_pos h1]
  · rw [List.getElem?_append_right (by simp; omega), List.getElem?_append_right (by simp; omega), List.getElem?_drop]
    congr 2
    simp
    omega
theorem same_of {l m : List Int} (hlen : m.length = l.length) (h : ∀ i, i < l.length → m.getD i 0 = l.getD i 0) : m = l := by
  apply List.ext_getElem hlen
  intro i h1 h2
  have := h i h2
  simpa [List.getD, List.getElem?_eq_getElem h1, List.getElem?_eq_getElem h2] using this
theorem getD_take {l : List Int} {i k : Nat} (h : i < k) : (l.take k).getD i 0 = l.getD i 0 := by
  rw [List.getD_eq_getElem?_getD, List.getD_eq_getElem?_getD, List.getElem?_take, if_pos h]
theorem getD_drop (l : List Int) (i k : Nat) : (l.drop k).getD i 0 = l.getD (k + i) 0 := by
  rw [List.getD_eq_getElem?_getD, List.getD_eq_getElem?_getD, List.getElem?_drop]
theorem xor_eq_zero {a b : Nat} (h : a ^^^ b = a) : b = 0 := by
  have := congrArg (a ^^^ ·) h
  simpa [← Nat.xor_assoc] using this
/-- Bytes of which the sum alone, or the rest alone within 32 bits, is otherwise, are not taken. -/
theorem otherwise_ {l m : List Int} (hl : Byt l) (hm : Byt m) (hlen : m.length = l.length) (h0 : (tk l).err = 0) {at_ t : Nat} (ht : t ≠ 0) (ht2 : t < 4294967296) (hat : at_ + 32 ≤ 8 * l.length)
    (hx : num m = num l ^^^ 2 ^ at_ * t) (h : (∀ i, i < 8 ∨ 12 ≤ i → m.getD i 0 = l.getD i 0) ∨ (∀ i, 8 ≤ i → i < 12 → m.getD i 0 = l.getD i 0)) : (tk m).err = 31 := by
  have hne : m ≠ l := by
    intro e
    rw [e] at hx
    have h1 := xor_eq_zero hx.symm
    have h2 := Nat.two_pow_pos at_
    rcases Nat.mul_eq_zero.1 h1 with h1 | h1 <;> omega
  unfold tk at h0
  by_cases h1 : 1500 < l.length
  · rw [if_pos h1] at h0; cases h0
  rw [if_neg h1] at h0
  by_cases h2 : l.length < 12
  · rw [if_pos h2] at h0; cases h0
  rw [if_neg h2] at h0
  by_cases h3 : l.length % 4 ≠ 0
  · rw [if_pos h3] at h0; cases h0
  rw [if_neg h3] at h0
  by_cases h4 : su l ≠ sm l
  · rw [if_pos h4] at h0; cases h0
  have h4' : su l = sm l := by simpa using h4
  have h12 : 12 ≤ l.length := by omega
  have h12' : 12 ≤ m.length := by omega
  have key : su m ≠ sm m := by
    rcases h with h | h
    · have e1 : sm m = sm l := by
        rw [sm_bare, sm_bare]
        congr 1
        apply same_of (by rw [bare_len h12, bare_len h12', hlen])
        intro i hi
        by_cases h8 : 8 ≤ i ∧ i < 12
        · rw [bare_in h12 h8.1 h8.2, bare_in h12' h8.1 h8.2]
        · rw [bare_out h12 (by omega), bare_out h12' (by omega), h i (by omega)]
      rw [e1, ← h4']
      intro e
      apply hne
      apply same_of hlen
      intro i hi
      by_cases h8 : 8 ≤ i ∧ i < 12
      · have e2 : (m.take 12).drop 8 = (l.take 12).drop 8 := by
          have a1 := be_nu 4 ((m.take 12).drop 8) (by simp; omega) (Byt.drop (Byt.take hm 12) 8)
          have a2 := be_nu 4 ((l.take 12).drop 8) (by simp; omega) (Byt.drop (Byt.take hl 12) 8)
          rw [← a1, ← a2]
          exact congrArg (be 4) e
        have e3 := congrArg (fun x : List Int => x.getD (i - 8) 0) e2
        simp only [getD_drop] at e3
        rw [show 8 + (i - 8) = i by omega, getD_take h8.2, getD_take h8.2] at e3
        exact e3
      · exact h i (by omega)
    · have e1 : su m = su l := by
        unfold su
        congr 1
        apply same_of (by simp; omega)
        intro i hi
        have hi4 : i < 4 := by simp at hi; omega
        rw [getD_drop, getD_drop, getD_take (by omega), getD_take (by omega), h (8 + i) (by omega) (by omega)]
      have e2 : num (bare m) = num (bare l) ^^^ 2 ^ at_ * t := by
        have h5 := num_xor3 m l (bare l) (bare m) (by rw [bare_len h12']) (by rw [bare_len h12', hlen]) (by rw [bare_len h12', bare_len h12, hlen]) (fun i hi => by
          by_cases h8 : 8 ≤ i ∧ i < 12
          · rw [bare_in h12 h8.1 h8.2, bare_in h12' h8.1 h8.2, h i h8.1 h8.2]
            simp
          · rw [bare_out h12 (by omega), bare_out h12' (by omega), Nat.xor_assoc]
            simp)
        rw [h5, hx]
        have h6 : ∀ a b c : Nat, a ^^^ b ^^^ a ^^^ c = c ^^^ b := fun a b c => by
          rw [show a ^^^ b ^^^ a ^^^ c = (a ^^^ a) ^^^ (c ^^^ b) by ac_rfl, Nat.xor_self, Nat.zero_xor]
        exact h6 _ _ _
      have h7 := burst (by rw [bare_len h12, bare_len h12', hlen]) (bare_byt hl) (bare_byt hm) (by rw [bare_len h12]; exact hat) ht ht2 e2
      rw [e1, h4', sm_bare, sm_bare]
      exact h7.symm
  unfold tk
  rw [hlen, if_neg h1, if_neg h2, if_neg h3, if_pos key]
end Head
end Go.Proofs.Ytgepmicodfhhmaa
