/-
  Plain words on numbers of the wire as lists of bytes, the highest first. Nothing of the program is imported.
-/
import Derived.Test.YtjlemghkaodkkaaWords
namespace Go.Proofs.Ytjlemghkaodkkaa
namespace Wire

/-- The n bytes of a number, the highest first. -/
def be : Nat → Nat → List Int
  | 0, _ => []
  | n + 1, x => be n (x / 256) ++ [((x % 256 : Nat) : Int)]
/-- The number of bytes, the highest first. -/
def nu (l : List Int) : Nat := l.foldl (fun n c => 256 * n + c.toNat) 0
theorem be_len : ∀ n x, (be n x).length = n
  | 0, _ => rfl
  | n + 1, x => by rw [be, List.length_append, be_len n]; rfl
theorem be_byt : ∀ n x, Byt (be n x)
  | 0, _ => fun c h => by simp [be] at h
  | n + 1, x => fun c h => by
    rw [be, List.mem_append] at h
    rcases h with h | h
    · exact be_byt n _ c h
    · simp at h
      subst h
      omega
theorem nu_snoc (l : List Int) (c : Int) : nu (l ++ [c]) = 256 * nu l + c.toNat := by simp [nu]
theorem nu_be : ∀ n x, x < 256 ^ n → nu (be n x) = x
  | 0, x, h => by simp [be, nu] at *; omega
  | n + 1, x, h => by
    rw [be, nu_snoc, nu_be n (x / 256) (by rw [Nat.pow_succ] at h; exact Nat.div_lt_of_lt_mul (by rw [Nat.mul_comm]; exact h))]
    simp only [Int.toNat_natCast]
    omega
theorem snoc_of {l : List Int} {n : Nat} (h : l.length = n + 1) : ∃ m c, l = m ++ [c] ∧ m.length = n :=
  ⟨l.dropLast, l.getLast (by intro e; rw [e] at h; simp at h), (List.dropLast_concat_getLast _).symm, by simp [h]⟩
theorem be_nu : ∀ (n : Nat) (l : List Int), l.length = n → Byt l → be n (nu l) = l
  | 0, l, h, _ => by rw [List.eq_nil_of_length_eq_zero h]; rfl
  | n + 1, l, h, hb => by
    obtain ⟨m, c, rfl, hm⟩ := snoc_of h
    have hc := hb c (by simp)
    rw [nu_snoc, be, show (256 * nu m + c.toNat) / 256 = nu m by omega, be_nu n m hm (fun x hx => hb x (by simp [hx]))]
    congr 2
    omega
theorem nu_lt : ∀ (n : Nat) (l : List Int), l.length = n → Byt l → nu l < 256 ^ n
  | 0, l, h, _ => by rw [List.eq_nil_of_length_eq_zero h]; decide
  | n + 1, l, h, hb => by
    obtain ⟨m, c, rfl, hm⟩ := snoc_of h
    have hc := hb c (by simp)
    have := nu_lt n m hm (fun x hx => hb x (by simp [hx]))
    rw [nu_snoc, Nat.pow_succ]
    omega
theorem nu_take {l : List Int} {k : Nat} (hk : k < l.length) : nu (l.take (k + 1)) = 256 * nu (l.take k) + (l.getD k 0).toNat := by
  have e : l.getD k 0 = l[k] := by simp [List.getD, List.getElem?_eq_getElem hk]
  rw [List.take_succ_eq_append_getElem hk, nu_snoc, e]
theorem byt_app {l m : List Int} (hl : Byt l) (hm : Byt m) : Byt (l ++ m) := fun c hc => (List.mem_append.1 hc).elim (hl c) (hm c)
theorem app_inj {a b c d : List Int} (h : a.length = c.length) (he : a ++ b = c ++ d) : a = c ∧ b = d := List.append_inj he h
theorem be_inj {n x y : Nat} (hx : x < 256 ^ n) (hy : y < 256 ^ n) (h : be n x = be n y) : x = y := by
  rw [← nu_be n x hx, ← nu_be n y hy, h]
theorem same_of {l m : List Int} (hlen : m.length = l.length) (h : ∀ i, i < l.length → m.getD i 0 = l.getD i 0) : m = l := by
  apply List.ext_getElem hlen
  intro i h1 h2
  have := h i h2
  simpa [List.getD, List.getElem?_eq_getElem h1, List.getElem?_eq_getElem h2] using this
theorem getD_take {l : List Int} {i k : Nat} (h : i < k) : (l.take k).getD i 0 = l.getD i 0 := by
  rw [List.getD_eq_getElem?_getD, List.getD_eq_getElem?_getD, List.getElem?_take, if_pos h]
theorem getD_drop (l : List Int) (i k : Nat) : (l.drop k).getD i 0 = l.getD (k + i) 0 := by
  rw [List.getD_eq_getElem?_getD, List.getD_eq_getElem?_getD, List.getElem?_drop]
end Wire
end Go.Proofs.Ytjlemghkaodkkaa
