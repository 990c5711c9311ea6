/-
  Plain words on pieces, and on what a joiner keeps. Nothing of the program is imported.
-/
import Derived.Test.YthgbngnhlgaioaaWords
namespace Go.Proofs.Ythgbngnhlgaioaa
set_option maxRecDepth 4000
namespace Fg
set_option linter.unusedVariables false

/-- A piece. -/
structure Pc where
  t : Nat
  f : Nat
  s : Nat
  n : Nat
  p : Nat
  d : List Int
/-- A message. -/
structure Ms where
  s : Nat
  u : Bool
  p : Nat
  d : List Int
structure Pc.Ok (x : Pc) : Prop where
  t : x.t < 4294967296
  f : x.f < 256
  s : x.s < 65536
  n : x.n < 65536
  p : x.p < 4294967296
  d : Byt x.d
def en (f : Nat) : Bool := f % 2 == 1
def bg (f : Nat) : Bool := f / 2 % 2 == 1
def un (f : Nat) : Bool := f / 4 % 2 == 1
def look : List Pc → Nat → Option Pc
  | [], _ => none
  | x :: K, t => if x.t = t then some x else look K t
def del (K : List Pc) (t : Nat) : List Pc := K.filter fun x => decide (x.t ≠ t)
def dat (K : List Pc) (t : Nat) : List Int := match look K t with | some x => x.d | none => []
def held (K : List Pc) : Nat := (K.map fun x => x.d.length).sum
def Apart (K : List Pc) : Prop := K.Pairwise fun x y => x.t ≠ y.t
def bw (t a : Nat) : Nat := (t + (4294967296 - a)) % 4294967296
def fw (t b : Nat) : Nat := (t + b) % 4294967296
def begs (K : List Pc) (t : Nat) : Bool := match look K t with | some x => bg x.f | none => false
def ends (K : List Pc) (t : Nat) : Bool := match look K t with | some x => en x.f | none => false
/-- Whether that piece and the next one are kept, and one message may have both. -/
def gon : Option Pc → Option Pc → Bool
  | some a, some b => !en a.f && !bg b.f && a.s == b.s && a.n == b.n && un a.f == un b.f
  | _, _ => false
def goes (K : List Pc) (t : Nat) : Bool := gon (look K t) (look K (fw t 1))
def bnd (K : List Pc) (t : Nat) : Nat → Nat → Nat → Option (Nat × Nat)
  | 0, _, _ => none
  | g + 1, a, b =>
    if begs K (bw t a) && ends K (fw t b) then some (a, b)
    else if (!begs K (bw t a) && !goes K (bw t (a + 1))) || (!ends K (fw t b) && !goes K (fw t b)) then none
    else bnd K t g (if begs K (bw t a) then a else a + 1) (if ends K (fw t b) then b else b + 1)
def tkK (K : List Pc) (t : Nat) : Nat → List Pc
  | 0 => K
  | c + 1 => del (tkK K t c) (fw t c)
def tkD (K : List Pc) (t : Nat) : Nat → List Int
  | 0 => []
  | c + 1 => tkD K t c ++ dat K (fw t c)
def tell (K : List Pc) (t : Nat) (c : Nat) : Ms × Nat := match look K t with | some x => (⟨x.s, un x.f, x.p, tkD K t c⟩, x.n) | none => (⟨0, false, 0, []⟩, 0)
/-- A piece comes: what is kept then; what is told. -/
def put (K : List Pc) (x : Pc) : List Pc × Option (Ms × Nat) :=
  if (look K x.t).isSome then (K, none)
  else match bnd (K ++ [x]) x.t (K.length + 1) 0 0 with
    | none => (K ++ [x], none)
    | some (a, b) => (tkK (K ++ [x]) (bw x.t a) (a + b + 1), some (tell (K ++ [x]) (bw x.t a) (a + b + 1)))

theorem look_mem : ∀ {K : List Pc} {t : Nat} {x : Pc}, look K t = some x → x ∈ K ∧ x.t = t
  | y :: K, t, x, h => by
    simp only [look] at h
    split at h
    · rename_i e
      injection h with h
      subst h
      exact ⟨by simp, e⟩
    · have := look_mem h
      exact ⟨by simp [this.1], this.2⟩
theorem look_none : ∀ {K : List Pc} {t : Nat}, look K t = none → ∀ x ∈ K, x.t ≠ t
  | y :: K, t, h, x, hx => by
    simp only [look] at h
    split at h
    · cases h
    · rename_i e
      rcases List.mem_cons.1 hx with rfl | hx
      · exact e
      · exact look_none h x hx
theorem look_of : ∀ {K : List Pc} {x : Pc}, Apart K → x ∈ K → look K x.t = some x
  | y :: K, x, ha, hx => by
    obtain ⟨h1, h2⟩ := List.pairwise_cons.1 ha
    simp only [look]
    rcases List.mem_cons.1 hx with rfl | hx
    · simp
    · rw [if_neg (h1 x hx)]
      exact look_of h2 hx
theorem look_app (K : List Pc) (x : Pc) (t : Nat) : look (K ++ [x]) t = if (look K t).isSome then look K t else if x.t = t then some x else none := by
  induction K with
  | nil => simp [look]
  | cons y K ih =>
    simp only [List.cons_append, look]
    by_cases e : y.t = t
    · simp [e]
    · simp [e, ih]
theorem look_del_other {K : List Pc} {t t' : Nat} (h : t' ≠ t) : look (del K t) t' = look K t' := by
  induction K with
  | nil => rfl
  | cons y K ih =>
    unfold del at ih ⊢
    rw [List.filter_cons]
    by_cases e : y.t = t
    · simp only [e, ne_eq, not_true_eq_false, decide_false, Bool.false_eq_true, if_false]
      rw [ih, look, if_neg (by rw [e]; exact Ne.symm h)]
    · simp only [e, ne_eq, not_false_eq_true, decide_true, if_true, look]
      rw [ih]
theorem look_del_same (K : List Pc) (t : Nat) : look (del K t) t = none := by
  cases h : look (del K t) t with
  | none => rfl
  | some x =>
    obtain ⟨h1, h2⟩ := look_mem h
    have := (List.mem_filter.1 h1).2
    simp [h2] at this
theorem apart_del {K : List Pc} (h : Apart K) (t : Nat) : Apart (del K t) := h.filter _
theorem apart_app {K : List Pc} {x : Pc} (h : Apart K) (hx : look K x.t = none) : Apart (K ++ [x]) :=
  List.pairwise_append.2 ⟨h, by simp, fun a ha b hb => by
    simp only [List.mem_singleton] at hb
    subst hb
    exact look_none hx a ha⟩
theorem ok_del {K : List Pc} (h : ∀ x ∈ K, x.Ok) (t : Nat) : ∀ x ∈ del K t, x.Ok := fun x hx => h x (List.mem_filter.1 hx).1
theorem del_of_none : ∀ {K : List Pc} {t : Nat}, look K t = none → del K t = K := fun {K t} h =>
  List.filter_eq_self.2 fun x hx => by simpa using look_none h x hx
theorem del_of_some : ∀ {K : List Pc} {t : Nat} {x : Pc}, Apart K → look K t = some x → held (del K t) + x.d.length = held K ∧ (del K t).length + 1 = K.length
  | y :: K, t, x, ha, h => by
    obtain ⟨h1, h2⟩ := List.pairwise_cons.1 ha
    simp only [look] at h
    unfold del held at *
    rw [List.filter_cons]
    split at h
    · rename_i e
      injection h with h
      subst h
      have hn : K.filter (fun x => decide (x.t ≠ t)) = K := List.filter_eq_self.2 fun z hz => by
        have := h1 z hz
        simp
        omega
      simp only [e, ne_eq, not_true_eq_false, decide_false, Bool.false_eq_true, if_false]
      rw [e] at *
      have hn' : K.filter (fun x => !decide (x.t = t)) = K := by simpa using hn
      simp [hn', Nat.add_comm]
    · rename_i e
      have ih := del_of_some h2 h
      unfold del held at ih
      simp only [e, ne_eq, not_false_eq_true, decide_true, if_true, List.map_cons, List.sum_cons, List.length_cons] at ih ⊢
      omega
theorem del_len (K : List Pc) (t : Nat) : (del K t).length ≤ K.length := List.length_filter_le _ _
theorem held_app (K : List Pc) (x : Pc) : held (K ++ [x]) = held K + x.d.length := by simp [held]
theorem held_get {K : List Pc} {x : Pc} (h : x ∈ K) : x.d.length ≤ held K := by
  induction K with
  | nil => cases h
  | cons y K ih =>
    simp only [held, List.map_cons, List.sum_cons] at ih ⊢
    rcases List.mem_cons.1 h with rfl | h
    · omega
    · have := ih h
      omega
theorem dat_len (K : List Pc) (t : Nat) : (dat K t).length ≤ held K := by
  unfold dat
  split
  · rename_i x h
    exact held_get (look_mem h).1
  · simp
theorem pigeon : ∀ (m : Nat) (K : List Pc) (g : Nat → Nat), (∀ i j, i < m → j < m → g i = g j → i = j) → (∀ i, i < m → (look K (g i)).isSome = true) → Apart K → m ≤ K.length
  | 0, _, _, _, _, _ => Nat.zero_le _
  | m + 1, K, g, hi, hs, ha => by
    obtain ⟨x, hx⟩ := Option.isSome_iff_exists.1 (hs m (by omega))
    have h1 := (del_of_some ha hx).2
    have ih := pigeon m (del K (g m)) g (fun i j h1 h2 => hi i j (by omega) (by omega)) (fun i h => by
      rw [look_del_other (fun e => by have := hi i m (by omega) (by omega) e; omega)]
      exact hs i (by omega)) (apart_del ha _)
    omega
theorem fw_lt (t b : Nat) : fw t b < 4294967296 := Nat.mod_lt _ (by omega)
theorem bw_lt (t b : Nat) : bw t b < 4294967296 := Nat.mod_lt _ (by omega)
theorem goes_left {K : List Pc} {t : Nat} (h : goes K t = true) : ∃ a b, look K t = some a ∧ look K (fw t 1) = some b ∧ en a.f = false ∧ bg b.f = false ∧ a.s = b.s ∧ a.n = b.n ∧ un a.f = un b.f := by
  unfold goes gon at h
  split at h
  · rename_i a b ha hb
    simp only [Bool.and_eq_true, Bool.not_eq_true', beq_iff_eq] at h
    exact ⟨a, b, ha, hb, h.1.1.1.1, h.1.1.1.2, h.1.1.2, h.1.2, h.2⟩
  · cases h
/-- From a behind to b on, each goes on with the next. -/
def Chain (K : List Pc) (t a b : Nat) : Prop := (look K t).isSome = true ∧ (∀ i, i < a → goes K (bw t (i + 1)) = true) ∧ ∀ i, i < b → goes K (fw t i) = true
theorem chain_some {K : List Pc} {t a b : Nat} (ht : t < 4294967296) (h : Chain K t a b) (hab : a + b < 4294967296) : ∀ i, i ≤ a + b → (look K (fw (bw t a) i)).isSome = true := fun i hi => by
  by_cases e : i = a
  · have : fw (bw t a) i = t := by unfold fw bw; omega
    rw [this]
    exact h.1
  · by_cases h2 : i < a
    · have h3 := h.2.1 (a - i - 1) (by omega)
      have e2 : fw (bw t a) i = bw t (a - i - 1 + 1) := by unfold fw bw; omega
      rw [e2]
      obtain ⟨x, _, hx, _⟩ := goes_left h3
      rw [hx]
      rfl
    · have h3 := h.2.2 (i - a - 1) (by omega)
      have e2 : fw (bw t a) i = fw (fw t (i - a - 1)) 1 := by unfold fw bw; omega
      rw [e2]
      obtain ⟨_, x, _, hx, _⟩ := goes_left h3
      rw [hx]
      rfl
theorem chain_len {K : List Pc} {t a b : Nat} (ht : t < 4294967296) (ha : Apart K) (h : Chain K t a b) (hab : a + b < 4294967296) : a + b + 1 ≤ K.length :=
  pigeon (a + b + 1) K (fun i => fw (bw t a) i) (fun i j h1 h2 e => by unfold fw at e; omega) (fun i hi => chain_some ht h hab i (by omega)) ha
theorem chain_left {K : List Pc} {t a b : Nat} (h : Chain K t a b) (hg : goes K (bw t (a + 1)) = true) : Chain K t (a + 1) b :=
  ⟨h.1, fun i hi => by
    by_cases e : i = a
    · rw [e]; exact hg
    · exact h.2.1 i (by omega), h.2.2⟩
theorem chain_right {K : List Pc} {t a b : Nat} (h : Chain K t a b) (hg : goes K (fw t b) = true) : Chain K t a (b + 1) :=
  ⟨h.1, h.2.1, fun i hi => by
    by_cases e : i = b
    · rw [e]; exact hg
    · exact h.2.2 i (by omega)⟩
/-- What is found is a chain that begins and ends. -/
theorem bnd_some {K : List Pc} {t : Nat} : ∀ {g a b a' b' : Nat}, Chain K t a b → bnd K t g a b = some (a', b') → Chain K t a' b' ∧ begs K (bw t a') = true ∧ ends K (fw t b') = true ∧ a ≤ a' ∧ b ≤ b'
  | 0, _, _, _, _, _, h => by simp [bnd] at h
  | g + 1, a, b, a', b', hc, h => by
    rw [bnd] at h
    split at h
    · rename_i e
      simp only [Bool.and_eq_true] at e
      simp only [Option.some.injEq, Prod.mk.injEq] at h
      obtain ⟨rfl, rfl⟩ := h
      exact ⟨hc, e.1, e.2, Nat.le_refl _, Nat.le_refl _⟩
    · split at h
      · cases h
      · rename_i e
        simp only [Bool.or_eq_true, Bool.and_eq_true, Bool.not_eq_true', not_or, not_and, Bool.not_eq_false] at e
        have := bnd_some (a := if begs K (bw t a) then a else a + 1) (b := if ends K (fw t b) then b else b + 1) (by
          have h1 : Chain K t (if begs K (bw t a) then a else a + 1) b := by
            split
            · exact hc
            · rename_i hb
              exact chain_left hc (e.1 (by simpa using hb))
          by_cases hb : ends K (fw t b) = true
          · rw [if_pos hb]; exact h1
          · rw [if_neg hb]; exact chain_right h1 (e.2 (by simpa using hb))) h
        obtain ⟨k1, k2, k3, k4, k5⟩ := this
        refine ⟨k1, k2, k3, Nat.le_trans ?_ k4, Nat.le_trans ?_ k5⟩ <;> split <;> omega
theorem bnd_le {K : List Pc} {t : Nat} : ∀ {g a b a' b' : Nat}, bnd K t g a b = some (a', b') → a' ≤ a + g ∧ b' ≤ b + g
  | 0, _, _, _, _, h => by simp [bnd] at h
  | g + 1, a, b, a', b', h => by
    rw [bnd] at h
    split at h
    · simp only [Option.some.injEq, Prod.mk.injEq] at h
      omega
    · split at h
      · cases h
      · have := bnd_le h
        refine ⟨Nat.le_trans this.1 ?_, Nat.le_trans this.2 ?_⟩ <;> split <;> omega
theorem chain_start {K : List Pc} {t : Nat} (h : (look K t).isSome = true) : Chain K t 0 0 := ⟨h, fun i hi => by omega, fun i hi => by omega⟩
/-- The rows that are taken out. -/
theorem tk_look {K : List Pc} {t : Nat} : ∀ {c i : Nat}, c ≤ i → i < 4294967296 → look (tkK K t c) (fw t i) = look K (fw t i)
  | 0, _, _, _ => rfl
  | c + 1, i, h, hi => by
    rw [tkK, look_del_other (by unfold fw; omega)]
    exact tk_look (by omega) hi
theorem tk_apart {K : List Pc} {t : Nat} (h : Apart K) : ∀ c, Apart (tkK K t c)
  | 0 => h
  | c + 1 => apart_del (tk_apart h c) _
theorem tk_ok {K : List Pc} {t : Nat} (h : ∀ x ∈ K, x.Ok) : ∀ c, ∀ x ∈ tkK K t c, x.Ok
  | 0 => h
  | c + 1 => ok_del (tk_ok h c) _
theorem tk_held {K : List Pc} {t : Nat} (ha : Apart K) : ∀ {c : Nat}, c ≤ 4294967296 → (∀ i, i < c → (look K (fw t i)).isSome = true) → held (tkK K t c) + (tkD K t c).length = held K ∧ (tkK K t c).length + c = K.length
  | 0, _, _ => by simp [tkK, tkD]
  | c + 1, hc, h => by
    obtain ⟨h1, h2⟩ := tk_held ha (c := c) (by omega) (fun i hi => h i (by omega))
    obtain ⟨x, hx⟩ := Option.isSome_iff_exists.1 (h c (by omega))
    have h3 := del_of_some (tk_apart ha c) (t := fw t c) (x := x) (by rw [tk_look (Nat.le_refl _) (by omega)]; exact hx)
    have h4 : dat K (fw t c) = x.d := by unfold dat; rw [hx]
    rw [tkK, tkD, List.length_append, h4]
    omega
theorem tk_len_le {K : List Pc} {t : Nat} : ∀ c, (tkK K t c).length ≤ K.length
  | 0 => Nat.le_refl _
  | c + 1 => Nat.le_trans (del_len _ _) (tk_len_le c)
theorem byt_dat {K : List Pc} (h : ∀ x ∈ K, x.Ok) (t : Nat) : Byt (dat K t) := by
  unfold dat
  split
  · rename_i x hx
    exact (h x (look_mem hx).1).d
  · exact fun c hc => by cases hc
end Fg
end Go.Proofs.Ythgbngnhlgaioaa
