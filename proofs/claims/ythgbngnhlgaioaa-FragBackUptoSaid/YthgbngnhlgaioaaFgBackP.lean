/-
  Messages whose pieces come in any order: plain.
-/
import Derived.Test.YthgbngnhlgaioaaFgKeepsP
namespace Go.Proofs.Ythgbngnhlgaioaa
set_option maxRecDepth 4000
namespace Fg
set_option linter.unusedVariables false
set_option linter.unusedSimpArgs false

/-- N pieces with TSNs one behind the other, in messages: mo tells which, lo and hi where it begins and ends. -/
structure Lay (N tsn : Nat) (pc : Nat → Pc) (mo lo hi : Nat → Nat) (ms mn mp : Nat → Nat) (mu : Nat → Bool) : Prop where
  big : N < 4294967296
  tl : tsn < 4294967296
  at_ : ∀ q, q < N → (pc q).t = fw tsn q
  ge : ∀ q, q < N → lo (mo q) ≤ q
  lt : ∀ q, q < N → q < hi (mo q)
  top : ∀ q, q < N → hi (mo q) ≤ N
  same : ∀ q, q < N → ∀ r, lo (mo q) ≤ r → r < hi (mo q) → mo r = mo q
  bgn : ∀ q, q < N → bg (pc q).f = decide (q = lo (mo q))
  enn : ∀ q, q < N → en (pc q).f = decide (q + 1 = hi (mo q))
  unn : ∀ q, q < N → un (pc q).f = mu (mo q)
  sid : ∀ q, q < N → (pc q).s = ms (mo q)
  ssn : ∀ q, q < N → (pc q).n = mn (mo q)
  ppi : ∀ q, q < N → (pc q).p = mp (mo q)
/-- What is kept: those of pr. -/
def Sees (N tsn : Nat) (pc : Nat → Pc) (pr : Nat → Bool) (K : List Pc) : Prop :=
  (∀ q, q < N → look K (fw tsn q) = if pr q then some (pc q) else none) ∧ ∀ t, (∀ q, q < N → t ≠ fw tsn q) → look K t = none
theorem fw_inj {tsn q r N : Nat} (hN : N < 4294967296) (hq : q < N) (hr : r < N) (h : fw tsn q = fw tsn r) : q = r := by
  unfold fw at h
  omega
theorem fw_fw (tsn q b : Nat) : fw (fw tsn q) b = fw tsn (q + b) := by unfold fw; omega
theorem bw_fw {tsn q a : Nat} (h : a ≤ q) (hq : q < 4294967296) : bw (fw tsn q) a = fw tsn (q - a) := by unfold bw fw; omega
section
variable {N tsn : Nat} {pc : Nat → Pc} {mo lo hi ms mn mp : Nat → Nat} {mu : Nat → Bool}
theorem sees_app {pr : Nat → Bool} {K : List Pc} (hL : Lay N tsn pc mo lo hi ms mn mp mu) (h : Sees N tsn pc pr K) {c : Nat} (hc : c < N) (hp : pr c = false) :
    Sees N tsn pc (fun q => pr q || q == c) (K ++ [pc c]) := by
  refine ⟨fun q hq => ?_, fun t ht => ?_⟩
  · rw [look_app, h.1 q hq, hL.at_ c hc]
    by_cases e : pr q = true
    · simp [e]
    · have e' : pr q = false := by simpa using e
      by_cases e2 : q = c
      · subst e2
        simp [e']
      · have : fw tsn c ≠ fw tsn q := fun e3 => e2 (fw_inj hL.big hq hc e3.symm)
        simp [e', e2, this]
  · rw [look_app, h.2 t ht, hL.at_ c hc, if_neg (by simp), if_neg (fun e => ht c hc e.symm)]
theorem goes_in {pr : Nat → Bool} {K : List Pc} (hL : Lay N tsn pc mo lo hi ms mn mp mu) (h : Sees N tsn pc pr K) {q : Nat} (hq : q + 1 < hi (mo q)) (hqN : q < N) (h1 : pr q = true) (h2 : pr (q + 1) = true) : goes K (fw tsn q) = true := by
  have hN : q + 1 < N := Nat.lt_of_lt_of_le hq (hL.top q hqN)
  have hm : mo (q + 1) = mo q := hL.same q hqN (q + 1) (by have := hL.ge q hqN; omega) hq
  unfold goes
  rw [fw_fw, h.1 q hqN, h.1 (q + 1) hN, if_pos h1, if_pos h2]
  have e1 : Fg.en (pc q).f = false := by rw [hL.enn q hqN]; exact decide_eq_false (by omega)
  have e2 : Fg.bg (pc (q + 1)).f = false := by rw [hL.bgn (q + 1) hN, hm]; exact decide_eq_false (by have := hL.ge q hqN; omega)
  simp only [gon, e1, e2, hL.sid q hqN, hL.sid (q + 1) hN, hL.ssn q hqN, hL.ssn (q + 1) hN, hL.unn q hqN, hL.unn (q + 1) hN, hm]
  simp
theorem begs_in {pr : Nat → Bool} {K : List Pc} (hL : Lay N tsn pc mo lo hi ms mn mp mu) (h : Sees N tsn pc pr K) {q : Nat} (hq : q < N) : begs K (fw tsn q) = (pr q && decide (q = lo (mo q))) := by
  unfold begs
  rw [h.1 q hq]
  cases pr q <;> simp [hL.bgn q hq]
theorem ends_in {pr : Nat → Bool} {K : List Pc} (hL : Lay N tsn pc mo lo hi ms mn mp mu) (h : Sees N tsn pc pr K) {q : Nat} (hq : q < N) : ends K (fw tsn q) = (pr q && decide (q + 1 = hi (mo q))) := by
  unfold ends
  rw [h.1 q hq]
  cases pr q <;> simp [hL.enn q hq]
/-- Where all is there, it is found. -/
theorem bnd_full {K : List Pc} {t A B : Nat} (hb : ∀ a, a ≤ A → begs K (bw t a) = decide (a = A)) (he : ∀ b, b ≤ B → ends K (fw t b) = decide (b = B)) (h1 : ∀ a, a < A → goes K (bw t (a + 1)) = true) (h2 : ∀ b, b < B → goes K (fw t b) = true) :
    ∀ (g a b : Nat), a ≤ A → b ≤ B → A - a < g → B - b < g → bnd K t g a b = some (A, B)
  | 0, _, _, _, _, h, _ => by omega
  | g + 1, a, b, ha, hbb, hga, hgb => by
    rw [bnd, hb a ha, he b hbb]
    by_cases ea : a = A
    · by_cases eb : b = B
      · subst ea; subst eb
        simp
      · subst ea
        rw [if_neg (by simp [eb]), if_neg (by simp [eb, h2 b (by omega)])]
        have := bnd_full hb he h1 h2 g a (b + 1) (by omega) (by omega) (by omega) (by omega)
        simpa [eb] using this
    · by_cases eb : b = B
      · subst eb
        rw [if_neg (by simp [ea]), if_neg (by simp [ea, h1 a (by omega)])]
        have := bnd_full hb he h1 h2 g (a + 1) b (by omega) (by omega) (by omega) (by omega)
        simpa [ea] using this
      · rw [if_neg (by simp [ea]), if_neg (by simp [ea, eb, h1 a (by omega), h2 b (by omega)])]
        have := bnd_full hb he h1 h2 g (a + 1) (b + 1) (by omega) (by omega) (by omega) (by omega)
        simpa [ea, eb] using this
theorem tk_at {K : List Pc} {t0 : Nat} : ∀ (c : Nat) (t : Nat), look (tkK K t0 c) t = if (∃ i, i < c ∧ t = fw t0 i) then none else look K t
  | 0, t => by simp [tkK]
  | c + 1, t => by
    rw [tkK]
    by_cases e : t = fw t0 c
    · rw [e, look_del_same, if_pos ⟨c, by omega, rfl⟩]
    · rw [look_del_other e, tk_at c t]
      by_cases e2 : ∃ i, i < c ∧ t = fw t0 i
      · rw [if_pos e2]
        obtain ⟨i, hi, h⟩ := e2
        rw [if_pos ⟨i, by omega, h⟩]
      · rw [if_neg e2, if_neg]
        rintro ⟨i, hi, h⟩
        by_cases e3 : i = c
        · exact e (by rw [h, e3])
        · exact e2 ⟨i, by omega, h⟩
def bytes (pc : Nat → Pc) (l n : Nat) : List Int := (List.range n).flatMap fun i => (pc (l + i)).d
theorem tkD_is {pr : Nat → Bool} {K : List Pc} (h : Sees N tsn pc pr K) {l : Nat} : ∀ (n : Nat), l + n ≤ N → (∀ r, l ≤ r → r < l + n → pr r = true) → tkD K (fw tsn l) n = bytes pc l n
  | 0, _, _ => rfl
  | n + 1, hn, hp => by
    rw [tkD, tkD_is h n (by omega) (fun r h1 h2 => hp r h1 (by omega))]
    unfold dat bytes
    rw [fw_fw, h.1 (l + n) (by omega), if_pos (hp (l + n) (by omega) (by omega)), List.range_succ, List.flatMap_append]
    simp
theorem put_dup {pr : Nat → Bool} {K : List Pc} (hL : Lay N tsn pc mo lo hi ms mn mp mu) (h : Sees N tsn pc pr K) {c : Nat} (hc : c < N) (hp : pr c = true) : put K (pc c) = (K, none) := by
  unfold put
  rw [hL.at_ c hc, h.1 c hc, if_pos hp]
  rfl
/-- A piece that is not the last of its message to come. -/
theorem put_part {pr : Nat → Bool} {K : List Pc} (hL : Lay N tsn pc mo lo hi ms mn mp mu) (h : Sees N tsn pc pr K) {c : Nat} (hc : c < N) (hp : pr c = false) (hm : ∃ r, lo (mo c) ≤ r ∧ r < hi (mo c) ∧ pr r = false ∧ r ≠ c) :
    put K (pc c) = (K ++ [pc c], none) := by
  have h2 := sees_app hL h hc hp
  unfold put
  rw [hL.at_ c hc, h.1 c hc, if_neg (by simp [hp])]
  have hsome : (look (K ++ [pc c]) (fw tsn c)).isSome = true := by rw [h2.1 c hc]; simp
  split
  · rfl
  · exfalso
    rename_i a b hb
    have hle := bnd_le hb
    obtain ⟨hch, hbe, hen, _, _⟩ := bnd_some (chain_start hsome) hb
    obtain ⟨r, hr1, hr2, hr3, hr4⟩ := hm
    have hcl := hL.ge c hc
    have hct := hL.top c hc
    have hcN := hL.big
    -- back: each step stays in the message
    have back : ∀ i, i ≤ a → i ≤ c ∧ lo (mo c) ≤ c - i ∧ (pr (c - i) || (c - i) == c) = true := by
      intro i
      induction i with
      | zero => exact fun _ => ⟨Nat.zero_le _, hcl, by simp⟩
      | succ i ih =>
        intro hi1
        obtain ⟨k1, k2, k3⟩ := ih (by omega)
        have hg := hch.2.1 i (by omega)
        obtain ⟨x, y, hx, hy, hxe, hye, _⟩ := goes_left hg
        by_cases e : i + 1 ≤ c
        · rw [bw_fw e (by omega)] at hx hy
          rw [fw_fw, show c - (i + 1) + 1 = c - i by omega] at hy
          rw [h2.1 (c - i) (by omega)] at hy
          rw [h2.1 (c - (i + 1)) (by omega)] at hx
          split at hx
          · rename_i hpx
            rw [if_pos k3] at hy
            injection hy with hy
            rw [← hy, hL.bgn (c - i) (by omega)] at hye
            have hmo : mo (c - i) = mo c := hL.same c hc (c - i) k2 (by have := hL.lt c hc; omega)
            rw [hmo] at hye
            have := of_decide_eq_false hye
            exact ⟨e, by omega, hpx⟩
          · cases hx
        · exfalso
          have e0 : i = c := by omega
          have e9 : fw (bw (fw tsn c) (i + 1)) 1 = fw tsn 0 := by unfold bw fw; omega
          rw [e9, h2.1 0 (by omega)] at hy
          split at hy
          · injection hy with hy
            rw [← hy, hL.bgn 0 (by omega)] at hye
            have hmo : mo 0 = mo c := hL.same c hc 0 (by omega) (by have := hL.lt c hc; omega)
            have := of_decide_eq_false hye
            have := hL.ge 0 (by omega)
            omega
          · cases hy
    have fore : ∀ i, i ≤ b → c + i < hi (mo c) ∧ (pr (c + i) || (c + i) == c) = true := by
      intro i
      induction i with
      | zero => exact fun _ => ⟨hL.lt c hc, by simp⟩
      | succ i ih =>
        intro hi1
        obtain ⟨k1, k2⟩ := ih (by omega)
        have hg := hch.2.2 i (by omega)
        obtain ⟨x, y, hx, hy, hxe, hye, _⟩ := goes_left hg
        rw [fw_fw, h2.1 (c + i) (by omega)] at hx
        rw [if_pos k2] at hx
        injection hx with hx
        rw [← hx, hL.enn (c + i) (by omega)] at hxe
        have hmo : mo (c + i) = mo c := hL.same c hc (c + i) (by omega) k1
        rw [hmo] at hxe
        have h3 := of_decide_eq_false hxe
        rw [fw_fw, fw_fw, h2.1 (c + (i + 1)) (by omega)] at hy
        split at hy
        · rename_i hpy
          exact ⟨by omega, hpy⟩
        · cases hy
    obtain ⟨a1, a2, a3⟩ := back a (Nat.le_refl _)
    obtain ⟨b1, b2⟩ := fore b (Nat.le_refl _)
    rw [bw_fw a1 (by omega), begs_in hL h2 (by omega)] at hbe
    rw [fw_fw, ends_in hL h2 (by omega)] at hen
    simp only [Bool.and_eq_true, decide_eq_true_eq] at hbe hen
    have e1 : mo (c - a) = mo c := hL.same c hc (c - a) a2 (by have := hL.lt c hc; omega)
    have e2 : mo (c + b) = mo c := hL.same c hc (c + b) (by omega) b1
    rw [e1] at hbe
    rw [e2] at hen
    by_cases e : r ≤ c
    · have := (back (c - r) (by omega)).2.2
      rw [show c - (c - r) = r by omega, hr3] at this
      simp at this
      exact hr4 this
    · have := (fore (r - c) (by omega)).2
      rw [show c + (r - c) = r by omega, hr3] at this
      simp at this
      exact hr4 this
/-- The last one of its message. -/
theorem put_whole {pr : Nat → Bool} {K : List Pc} (hL : Lay N tsn pc mo lo hi ms mn mp mu) (h : Sees N tsn pc pr K) (ha : Apart K) {c : Nat} (hc : c < N) (hp : pr c = false) (hm : ∀ r, lo (mo c) ≤ r → r < hi (mo c) → r ≠ c → pr r = true) :
    ∃ K', put K (pc c) = (K', some (⟨ms (mo c), mu (mo c), mp (mo c), bytes pc (lo (mo c)) (hi (mo c) - lo (mo c))⟩, mn (mo c))) ∧ Sees N tsn pc (fun q => (pr q || q == c) && !(mo q == mo c)) K' := by
  have h2 := sees_app hL h hc hp
  have hcl := hL.ge c hc
  have hch := hL.lt c hc
  have hct := hL.top c hc
  have hcN := hL.big
  have hall : ∀ r, lo (mo c) ≤ r → r < hi (mo c) → (pr r || r == c) = true := fun r h1 h3 => by
    by_cases e : r = c
    · simp [e]
    · simp [hm r h1 h3 e]
  have hmo : ∀ r, lo (mo c) ≤ r → r < hi (mo c) → mo r = mo c := fun r h1 h3 => hL.same c hc r h1 h3
  have hap : Apart (K ++ [pc c]) := apart_app ha (by rw [hL.at_ c hc, h.1 c hc, if_neg (by simp [hp])])
  have hbnd : bnd (K ++ [pc c]) (fw tsn c) (K.length + 1) 0 0 = some (c - lo (mo c), hi (mo c) - 1 - c) := by
    have hlen : hi (mo c) - lo (mo c) ≤ (K ++ [pc c]).length := pigeon _ _ (fun i => fw tsn (lo (mo c) + i)) (fun i j h1 h3 e => by have := fw_inj hL.big (by omega) (by omega) e; omega) (fun i hi => by
      have := h2.1 (lo (mo c) + i) (by omega)
      rw [this, if_pos (hall _ (by omega) (by omega))]
      rfl) hap
    rw [List.length_append, List.length_singleton] at hlen
    refine bnd_full (fun a h1 => ?_) (fun b h1 => ?_) (fun a h1 => ?_) (fun b h1 => ?_) _ _ _ (Nat.zero_le _) (Nat.zero_le _) (by omega) (by omega)
    · rw [bw_fw (by omega) (by omega), begs_in hL h2 (by omega), hmo (c - a) (by omega) (by omega)]
      have := hall (c - a) (by omega) (by omega)
      simp only [this, Bool.true_and, decide_eq_decide]
      omega
    · rw [fw_fw, ends_in hL h2 (by omega), hmo (c + b) (by omega) (by omega)]
      have := hall (c + b) (by omega) (by omega)
      simp only [this, Bool.true_and, decide_eq_decide]
      omega
    · rw [bw_fw (by omega) (by omega)]
      exact goes_in hL h2 (by rw [hmo (c - (a + 1)) (by omega) (by omega)]; omega) (by omega) (hall _ (by omega) (by omega)) (hall _ (by omega) (by omega))
    · rw [fw_fw]
      exact goes_in hL h2 (by rw [hmo (c + b) (by omega) (by omega)]; omega) (by omega) (hall _ (by omega) (by omega)) (hall _ (by omega) (by omega))
  have hcnt : c - lo (mo c) + (hi (mo c) - 1 - c) + 1 = hi (mo c) - lo (mo c) := by omega
  have hbw : bw (fw tsn c) (c - lo (mo c)) = fw tsn (lo (mo c)) := by rw [bw_fw (by omega) (by omega)]; congr 1; omega
  unfold put
  rw [hL.at_ c hc, h.1 c hc, if_neg (by simp [hp]), hbnd]
  simp only [hcnt, hbw]
  have hlN : lo (mo c) < N := by omega
  have hml := hmo (lo (mo c)) (Nat.le_refl _) (by omega)
  refine ⟨_, congrArg (fun z => (tkK (K ++ [pc c]) (fw tsn (lo (mo c))) (hi (mo c) - lo (mo c)), some z)) ?_, fun q hq => ?_, fun t ht => ?_⟩
  · unfold tell
    rw [h2.1 _ hlN, if_pos (hall _ (Nat.le_refl _) (by omega))]
    simp only
    rw [tkD_is h2 _ (by omega) (fun r h1 h3 => hall r h1 (by omega)), hL.sid _ hlN, hL.unn _ hlN, hL.ppi _ hlN, hL.ssn _ hlN, hml]
  · rw [tk_at, h2.1 q hq]
    by_cases e : mo q = mo c
    · have h3 := hL.ge q hq
      have h4 := hL.lt q hq
      rw [e] at h3 h4
      rw [if_pos ⟨q - lo (mo c), by omega, by rw [fw_fw]; congr 1; omega⟩]
      simp [e]
    · rw [if_neg]
      · simp [e]
      · rintro ⟨i, h3, h4⟩
        rw [fw_fw] at h4
        have := fw_inj hL.big hq (by omega) h4
        exact e (hmo q (by omega) (by omega))
  · rw [tk_at, h2.2 t ht]
    simp
/-- How many of a message have not come. -/
def lft (lo hi : Nat → Nat) (ar : Nat → Bool) (m : Nat) : Nat := ((List.range (hi m - lo m)).filter fun i => !ar (lo m + i)).length
def kpt (mo lo hi : Nat → Nat) (ar : Nat → Bool) (q : Nat) : Bool := ar q && decide (lft lo hi ar (mo q) ≠ 0)
theorem lft_none {ar : Nat → Bool} {m : Nat} : lft lo hi ar m = 0 ↔ ∀ r, lo m ≤ r → r < hi m → ar r = true := by
  unfold lft
  rw [List.length_eq_zero_iff, List.filter_eq_nil_iff]
  constructor
  · intro h r h1 h2
    have := h (r - lo m) (List.mem_range.2 (by omega))
    rw [show lo m + (r - lo m) = r by omega] at this
    simpa using this
  · intro h i hi
    have := h (lo m + i) (by omega) (by have := List.mem_range.1 hi; omega)
    simp [this]
theorem filter_one {f g : Nat → Bool} {k : Nat} (hk : f k = true) (hg : ∀ i, g i = (f i && !(i == k))) : ∀ {n : Nat}, k < n → ((List.range n).filter g).length + 1 = ((List.range n).filter f).length
  | n + 1, h => by
    rw [List.range_succ, List.filter_append, List.filter_append, List.length_append, List.length_append]
    by_cases e : k = n
    · subst e
      have h1 : (List.range k).filter g = (List.range k).filter f := List.filter_congr fun i hi => by
        have := List.mem_range.1 hi
        rw [hg, show (i == k) = false by simp; omega]
        simp
      rw [h1]
      simp [hg, hk]
    · have ih := filter_one hk hg (n := n) (by omega)
      have h2 : g n = f n := by
        rw [hg, show (n == k) = false by simp; omega]
        simp
      simp only [List.filter_cons, List.filter_nil, h2]
      omega
theorem lft_one {ar : Nat → Bool} (hL : Lay N tsn pc mo lo hi ms mn mp mu) {c : Nat} (hc : c < N) (ha : ar c = false) : lft lo hi (fun q => ar q || q == c) (mo c) + 1 = lft lo hi ar (mo c) := by
  have h1 := hL.ge c hc
  have h2 := hL.lt c hc
  unfold lft
  refine filter_one (k := c - lo (mo c)) ?_ (fun i => ?_) (by omega)
  · rw [show lo (mo c) + (c - lo (mo c)) = c by omega, ha]
    rfl
  · have : (lo (mo c) + i == c) = (i == c - lo (mo c)) := by
      rw [Bool.eq_iff_iff]
      simp
      omega
    simp only [Bool.not_or, this]
theorem lft_other {ar : Nat → Bool} (hL : Lay N tsn pc mo lo hi ms mn mp mu) {c m : Nat} (hc : c < N) (hm : m ≠ mo c) (hmm : ∀ r, lo m ≤ r → r < hi m → mo r = m) : lft lo hi (fun q => ar q || q == c) m = lft lo hi ar m := by
  unfold lft
  congr 1
  refine List.filter_congr fun i hi => ?_
  have h1 := List.mem_range.1 hi
  have : (lo m + i == c) = false := by
    rw [beq_eq_false_iff_ne]
    intro e
    exact hm (by rw [← e]; exact (hmm _ (by omega) (by omega)).symm)
  simp [this]
end
end Fg
end Go.Proofs.Ythgbngnhlgaioaa
