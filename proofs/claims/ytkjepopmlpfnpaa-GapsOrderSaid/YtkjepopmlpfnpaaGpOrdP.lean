/-
  Plain words: a set hangs on what came, not on the order; its gaps lie apart; a row whose places change.
-/
import Derived.Test.YtkjepopmlpfnpaaGpPlain
namespace Go.Proofs.Ytkjepopmlpfnpaa
set_option linter.unusedVariables false

/-- What came, by ways from c: the set stands m further. -/
structure Came (c : Nat) (s : St) (m : Nat) (X : Nat → Prop) : Prop where
  cum : s.cum = up c m
  low : ∀ x, 1 ≤ x → x ≤ m → X x
  stop : ¬ X (m + 1)
  ws : ∀ w, w ∈ s.ws ↔ 1 ≤ w ∧ X (m + w)
  top : ∀ x, X x → 1 ≤ x ∧ x ≤ 30000
  hm : m ≤ 30000
theorem came_start {c : Nat} (hc : c < 4294967296) : Came c ⟨c, [], []⟩ 0 (fun x => x ∈ ([] : List Nat)) :=
  ⟨by simp [up]; omega, fun x h1 h2 => by omega, by simp, by simp, by simp, by omega⟩
theorem norm_came {c : Nat} {X : Nat → Prop} : ∀ (n m : Nat) (L : List Nat), L.length ≤ n → Ris 1 65535 L → (∀ v, v ∈ L ↔ 1 ≤ v ∧ X (m + v)) → (∀ x, 1 ≤ x → x ≤ m → X x) →
    ∃ m', (norm (up c m) L).1 = up c m' ∧ (∀ x, 1 ≤ x → x ≤ m' → X x) ∧ ¬ X (m' + 1) ∧ (∀ w, w ∈ (norm (up c m) L).2 ↔ 1 ≤ w ∧ X (m' + w)) ∧ m' + (norm (up c m) L).2.length = m + L.length
  | n, m, [], _, _, hv, hl => by
    rw [norm]
    refine ⟨m, rfl, hl, fun h => ?_, hv, rfl⟩
    have := (hv 1).2 ⟨by omega, h⟩
    simp at this
  | n + 1, m, w :: L, hn, hr, hv, hl => by
    by_cases hw : w = 1
    · subst hw
      have h1 := List.pairwise_cons.1 hr.1
      have hx1 : X (m + 1) := ((hv 1).1 (by simp)).2
      rw [norm_go, up_up]
      have hA : ∀ v, v ∈ L.map (· - 1) ↔ 1 ≤ v ∧ X (m + 1 + v) := fun v => by
        rw [show m + 1 + v = m + (v + 1) by omega]
        constructor
        · intro h
          obtain ⟨y, hy, hyv⟩ := List.mem_map.1 h
          have := h1.1 y hy
          have h2 := (hv y).1 (by simp [hy])
          obtain rfl : y = v + 1 := by omega
          exact ⟨by omega, h2.2⟩
        · rintro ⟨h2, h3⟩
          have h4 := (hv (v + 1)).2 ⟨by omega, h3⟩
          rcases List.mem_cons.1 h4 with h4 | h4
          · omega
          · exact List.mem_map.2 ⟨v + 1, h4, by omega⟩
      have hB : ∀ x, 1 ≤ x → x ≤ m + 1 → X x := fun x h1 h2 => by
        rcases Nat.lt_or_ge m x with h | h
        · obtain rfl : x = m + 1 := by omega
          exact hx1
        · exact hl x h1 h
      obtain ⟨m', e1, e2, e3, e4, e5⟩ := norm_came (c := c) (X := X) n (m + 1) (L.map (· - 1)) (by simpa using hn) (ris_less hr) hA hB
      exact ⟨m', e1, e2, e3, e4, by rw [e5]; simp; omega⟩
    · rw [norm_stop (by simpa using hw)]
      refine ⟨m, rfl, hl, fun h => ?_, hv, rfl⟩
      have h2 := (hv 1).2 ⟨by omega, h⟩
      have h1 := List.pairwise_cons.1 hr.1
      have h3 := (hr.2 w (by simp)).1
      rcases List.mem_cons.1 h2 with h2 | h2
      · exact hw h2.symm
      · have := h1.1 1 h2; omega
theorem way_came {c m w : Nat} (hc : c < 4294967296) (hm : m ≤ 30000) (h1 : 1 ≤ w) (h2 : w ≤ 30001) : (w ≤ m → wy (up c m) (up c w) = 0 ∨ 2147483649 ≤ wy (up c m) (up c w)) ∧ (m < w → wy (up c m) (up c w) = w - m) := by
  unfold wy up
  constructor <;> intro h <;> omega
theorem has_came {c m w : Nat} {s : St} {l : List Nat} (h : Came c s m (fun x => x ∈ l)) (hc : c < 4294967296) (h1 : 1 ≤ w) (h2 : w ≤ 30001) : s.has (up c w) = decide (w ∈ l) := by
  obtain ⟨k1, k2⟩ := way_came hc h.hm h1 h2
  unfold St.has psd
  rw [h.cum]
  by_cases hw : w ≤ m
  · rw [decide_eq_true (k1 hw), decide_eq_true (h.low w h1 hw), Bool.true_or]
  · have e := k2 (by omega)
    rw [e, decide_eq_false (show ¬ (w - m = 0 ∨ 2147483649 ≤ w - m) by omega), Bool.false_or, decide_eq_decide, h.ws]
    rw [show m + (w - m) = w by omega]
    constructor
    · exact fun h => h.2
    · exact fun h => ⟨by omega, h⟩
/-- One more comes. -/
theorem came_add {c m w : Nat} {s : St} {l : List Nat} (h : Came c s m (fun x => x ∈ l)) (ok : s.Ok) (hc : c < 4294967296) (h1 : 1 ≤ w) (h2 : w ≤ 30000) :
    ∃ m', Came c (s.add (up c w)).1 m' (fun x => x ∈ l ++ [w]) ∧ ((s.add (up c w)).2 = 0 ↔ w ∉ l) ∧ m' + (s.add (up c w)).1.ws.length = m + s.ws.length + (if w ∈ l then 0 else 1) := by
  have hh := has_came h hc h1 (by omega)
  by_cases hw : w ∈ l
  · rw [decide_eq_true hw] at hh
    have e : s.add (up c w) = ({ s with ds := if s.ds.length < 16 then s.ds ++ [up c w] else s.ds }, 1) := by unfold St.add; rw [if_pos hh]
    have hX : ∀ x, x ∈ l ++ [w] ↔ x ∈ l := fun x => by
      rw [List.mem_append, List.mem_singleton]
      constructor
      · rintro (h | rfl)
        · exact h
        · exact hw
      · exact .inl
    rw [e]
    refine ⟨m, ⟨h.cum, fun x a b => (hX x).2 (h.low x a b), fun hx => h.stop ((hX _).1 hx), fun v => ?_, fun x hx => h.top x ((hX x).1 hx), h.hm⟩, ?_, ?_⟩
    · show v ∈ s.ws ↔ _
      rw [h.ws v]
      exact and_congr_right fun _ => (hX _).symm
    · simp [hw]
    · simp [hw]
  · rw [decide_eq_false hw] at hh
    have hwm : m < w := by
      rcases Nat.lt_or_ge m w with h' | h'
      · exact h'
      · exact absurd (h.low w h1 h') hw
    have hd : wy s.cum (up c w) = w - m := by rw [h.cum]; exact (way_came hc h.hm h1 (by omega)).2 hwm
    have e : s.add (up c w) = ({ cum := (norm s.cum (ins (w - m) s.ws)).1, ws := (norm s.cum (ins (w - m) s.ws)).2, ds := s.ds }, 0) := by
      unfold St.add
      rw [if_neg (by rw [hh]; simp), hd, if_neg (by omega)]
    have hri := ins_ok ok hh (by rw [hd]; omega)
    rw [hd] at hri
    have hA : ∀ v, v ∈ ins (w - m) s.ws ↔ 1 ≤ v ∧ m + v ∈ l ++ [w] := fun v => by
      rw [mem_ins, h.ws v, List.mem_append, List.mem_singleton]
      constructor
      · rintro (rfl | ⟨a, b⟩)
        · exact ⟨by omega, .inr (by omega)⟩
        · exact ⟨a, .inl b⟩
      · rintro ⟨a, b | b⟩
        · exact .inr ⟨a, b⟩
        · exact .inl (by omega)
    obtain ⟨m', e1, e2, e3, e4, e5⟩ := norm_came (c := c) (X := fun x => x ∈ l ++ [w]) _ m (ins (w - m) s.ws) (Nat.le_refl _) hri hA (fun x a b => List.mem_append_left _ (h.low x a b))
    rw [← h.cum] at e1 e4 e5
    have htop : ∀ x, x ∈ l ++ [w] → 1 ≤ x ∧ x ≤ 30000 := fun x hx => by
      rcases List.mem_append.1 hx with hx | hx
      · exact h.top x hx
      · have := List.mem_singleton.1 hx; omega
    rw [e]
    refine ⟨m', ⟨e1, e2, e3, e4, htop, ?_⟩, by simp [hw], ?_⟩
    · rcases Nat.eq_zero_or_pos m' with hz | hz
      · omega
      · exact (htop m' (e2 m' hz (Nat.le_refl _))).2
    · simp only [hw, if_false]
      show m' + (norm s.cum (ins (w - m) s.ws)).2.length = m + s.ws.length + 1
      rw [e5, len_ins]
      omega
def play (c : Nat) (l : List Nat) : St := l.foldl (fun s w => (s.add (up c w)).1) ⟨c, [], []⟩
theorem foldl_snoc {α β : Type} (f : β → α → β) (s : β) (l : List α) (w : α) : (l ++ [w]).foldl f s = f (l.foldl f s) w := by rw [List.foldl_append, List.foldl_cons, List.foldl_nil]
theorem play_snoc (c : Nat) (l : List Nat) (w : Nat) : play c (l ++ [w]) = ((play c l).add (up c w)).1 := foldl_snoc (fun (s : St) (w : Nat) => (s.add (up c w)).1) _ l w
theorem play_ok {c : Nat} (hc : c < 4294967296) (l : List Nat) : (play c l).Ok := by
  suffices h : ∀ (l : List Nat) (s : St), s.Ok → (l.foldl (fun s w => (s.add (up c w)).1) s).Ok from
    h l _ ⟨hc, ⟨by simp, by simp⟩, by simp, by simp⟩
  intro l
  induction l with
  | nil => exact fun s h => h
  | cons w l ih => exact fun s h => ih _ (add_ok h (up_lt _ _))
theorem play_take {c : Nat} {l : List Nat} {k : Nat} (hk : k < l.length) : play c (l.take (k + 1)) = ((play c (l.take k)).add (up c (l.getD k 0))).1 := by rw [take_snoc hk, play_snoc]
theorem came_play0 {c : Nat} (hc : c < 4294967296) (l : List Nat) : Came c (play c (l.take 0)) 0 (fun x => x ∈ l.take 0) := by
  rw [List.take_zero]
  exact came_start hc
theorem came_next {c m k : Nat} {l : List Nat} (hc : c < 4294967296) (hm : Came c (play c (l.take k)) m (fun x => x ∈ l.take k)) (hkl : k < l.length) (hx : 1 ≤ l.getD k 0 ∧ l.getD k 0 ≤ 30000) : ∃ m, Came c (play c (l.take (k + 1))) m (fun x => x ∈ l.take (k + 1)) := by
  obtain ⟨m', h1, _⟩ := came_add hm (play_ok hc _) hc hx.1 hx.2
  rw [play_take hkl, take_snoc hkl]
  exact ⟨m', h1⟩
/-- What comes of ways that came. -/
theorem came_play {c : Nat} (hc : c < 4294967296) (l : List Nat) (h : ∀ x ∈ l, 1 ≤ x ∧ x ≤ 30000) (k : Nat) : k ≤ l.length → ∃ m, Came c (play c (l.take k)) m (fun x => x ∈ l.take k) := by
  induction k with
  | zero =>
    intro _
    exact ⟨0, came_play0 hc l⟩
  | succ k ih =>
    intro hk
    obtain ⟨m, hm⟩ := ih (by omega)
    have hkl : k < l.length := by omega
    have e : l.getD k 0 = l[k] := by simp [List.getD, hkl]
    have hx := h (l.getD k 0) (by rw [e]; exact List.getElem_mem _)
    exact came_next hc hm hkl hx
theorem rising_eq : ∀ {l r : List Nat}, l.Pairwise (· < ·) → r.Pairwise (· < ·) → (∀ x, x ∈ l ↔ x ∈ r) → l = r
  | [], [], _, _, _ => rfl
  | [], b :: s, _, _, h => by have := (h b).2 (by simp); simp at this
  | a :: r, [], _, _, h => by have := (h a).1 (by simp); simp at this
  | a :: r, b :: s, h1, h2, h => by
    obtain ⟨a1, a2⟩ := List.pairwise_cons.1 h1
    obtain ⟨b1, b2⟩ := List.pairwise_cons.1 h2
    have hab : a = b := by
      rcases List.mem_cons.1 ((h a).1 (by simp)) with e | ha
      · exact e
      · rcases List.mem_cons.1 ((h b).2 (by simp)) with e | hb
        · exact e.symm
        · have := a1 b hb; have := b1 a ha; omega
    subst hab
    rw [rising_eq a2 b2 (fun p => ⟨fun hp => by
      rcases List.mem_cons.1 ((h p).1 (by simp [hp])) with e | hp'
      · have := a1 p hp; omega
      · exact hp', fun hp => by
      rcases List.mem_cons.1 ((h p).2 (by simp [hp])) with e | hp'
      · have := b1 p hp; omega
      · exact hp'⟩)]
/-- Whatever the order: the same. -/
theorem came_same {c m m' : Nat} {s s' : St} {l l' : List Nat} (h : Came c s m (fun x => x ∈ l)) (h' : Came c s' m' (fun x => x ∈ l')) (ok : s.Ok) (ok' : s'.Ok) (he : ∀ x, x ∈ l ↔ x ∈ l') : s.cum = s'.cum ∧ s.ws = s'.ws := by
  have hm : m = m' := by
    rcases Nat.lt_trichotomy m m' with hlt | he2 | hlt
    · exact absurd ((he _).2 (h'.low (m + 1) (by omega) (by omega))) h.stop
    · exact he2
    · exact absurd ((he _).1 (h.low (m' + 1) (by omega) (by omega))) h'.stop
  subst hm
  refine ⟨h.cum.trans h'.cum.symm, rising_eq ok.2.1.1 ok'.2.1.1 fun x => ?_⟩
  rw [h.ws x, h'.ws x]
  exact and_congr_right fun _ => he _
/-- Gaps lie apart. -/
theorem runs_apart : ∀ (n : Nat) (l : List Nat), l.length = n → Ris 2 30000 l → (∀ p ∈ runs l, 2 ≤ p.1 ∧ p.1 ≤ p.2 ∧ p.2 ≤ 30000) ∧ (runs l).Pairwise (fun p q => p.2 + 2 ≤ q.1)
  | 0, l, hn, h => by
    obtain rfl := List.eq_nil_of_length_eq_zero hn
    simp [runs]
  | n + 1, l, hn, h => by
    obtain ⟨m, w, rfl⟩ : ∃ m w, l = m ++ [w] := by
      rcases List.eq_nil_or_concat l with rfl | ⟨m, w, rfl⟩
      · simp at hn
      · exact ⟨m, w, by simp⟩
    have hw := h.2 w (by simp)
    have hp := List.pairwise_append.1 h.1
    obtain ⟨i1, i2⟩ := runs_apart n m (by simpa using hn) ⟨hp.1, fun x hx => h.2 x (by simp [hx])⟩
    rw [runs_snoc]
    rcases List.eq_nil_or_concat (runs m) with e | ⟨g, p, e⟩
    · rw [e, gstep_nil]
      simp; omega
    · rw [List.concat_eq_append] at e
      have hpw : p.2 < w := by
        rcases List.eq_nil_or_concat m with rfl | ⟨m2, x, rfl⟩
        · simp [runs] at e
        · rw [List.concat_eq_append] at *
          obtain ⟨q, hq, hq2⟩ := runs_last m2 x
          rw [e] at hq
          simp at hq
          rw [hq, hq2]
          exact hp.2.2 x (by simp) w (by simp)
      rw [e] at i1 i2 ⊢
      have hpp := i1 p (by simp)
      obtain ⟨j1, j2, j3⟩ := List.pairwise_append.1 i2
      by_cases hadj : p.2 + 1 = w
      · rw [gstep_on hadj]
        refine ⟨fun q hq => ?_, List.pairwise_append.2 ⟨j1, by simp, fun a ha b hb => ?_⟩⟩
        · rcases List.mem_append.1 hq with hq | hq
          · exact i1 q (by simp [hq])
          · have := List.mem_singleton.1 hq
            subst this
            exact ⟨hpp.1, by show p.1 ≤ w; omega, hw.2⟩
        · have := List.mem_singleton.1 hb
          subst this
          exact j3 a ha p (by simp)
      · rw [gstep_new hadj]
        refine ⟨fun q hq => ?_, List.pairwise_append.2 ⟨i2, by simp, fun a ha b hb => ?_⟩⟩
        · rcases List.mem_append.1 hq with hq | hq
          · exact i1 q hq
          · have := List.mem_singleton.1 hq
            subst this
            exact ⟨hw.1, Nat.le_refl _, hw.2⟩
        · have := List.mem_singleton.1 hb
          subst this
          show a.2 + 2 ≤ w
          rcases List.mem_append.1 ha with ha | ha
          · have := j3 a ha p (by simp)
            omega
          · have := List.mem_singleton.1 ha
            subst this
            omega
theorem gaps_apart {c m : Nat} {s : St} {l : List Nat} (h : Came c s m (fun x => x ∈ l)) (ok : s.Ok) : (∀ p ∈ s.gaps, 2 ≤ p.1 ∧ p.1 ≤ p.2 ∧ p.2 ≤ 30000) ∧ s.gaps.Pairwise (fun p q => p.2 + 2 ≤ q.1) := by
  have hr : Ris 2 30000 s.ws := ⟨ok.2.1.1, fun x hx => ⟨(ok.2.1.2 x hx).1, by have := (h.top _ ((h.ws x).1 hx).2).2; omega⟩⟩
  obtain ⟨h1, h2⟩ := runs_apart _ s.ws rfl hr
  exact ⟨fun p hp => h1 p (List.mem_of_mem_take hp), h2.sublist (List.take_sublist _ _)⟩
/-- A gap and the one ahead of it. -/
theorem gap_at {c m i : Nat} {s : St} {l : List Nat} (h : Came c s m (fun x => x ∈ l)) (ok : s.Ok) (hi : i < s.gaps.length) :
    2 ≤ s.gaps[i].1 ∧ s.gaps[i].1 ≤ s.gaps[i].2 ∧ s.gaps[i].2 ≤ 30000 ∧ (if i = 0 then 0 else (s.gaps.getD (i - 1) (0, 0)).2) + 2 ≤ s.gaps[i].1 := by
  obtain ⟨h1, h2⟩ := gaps_apart h ok
  have h3 := h1 _ (List.getElem_mem hi)
  refine ⟨h3.1, h3.2.1, h3.2.2, ?_⟩
  by_cases h0 : i = 0
  · rw [if_pos h0]; omega
  · rw [if_neg h0]
    have h4 := (List.pairwise_iff_getElem.1 h2) (i - 1) i (by omega) hi (by omega)
    have e : s.gaps.getD (i - 1) (0, 0) = s.gaps[i - 1] := by simp [List.getD, show i - 1 < s.gaps.length by omega]
    rw [e]
    exact h4
/-- Two places change. -/
def swl (l : List Nat) (i k : Nat) : List Nat := (l.set i (l.getD k 0)).set k (l.getD i 0)
theorem swl_len (l : List Nat) (i k : Nat) : (swl l i k).length = l.length := by simp [swl]
theorem swl_at {l : List Nat} {i k j : Nat} (hj : j < l.length) (hi : i < l.length) (hk : k < l.length) : (swl l i k).getD j 0 = if j = k then l.getD i 0 else if j = i then l.getD k 0 else l.getD j 0 := by
  have hl : j < (swl l i k).length := by rw [swl_len]; exact hj
  have e : (swl l i k).getD j 0 = (swl l i k)[j] := by simp [List.getD, hl]
  have e2 : (swl l i k)[j] = ((l.set i (l.getD k 0)).set k (l.getD i 0))[j]'(by simpa using hj) := rfl
  rw [e, e2, List.getElem_set]
  by_cases h1 : j = k
  · rw [if_pos h1.symm, if_pos h1]
  · rw [if_neg (fun h => h1 h.symm), if_neg h1, List.getElem_set]
    by_cases h2 : j = i
    · rw [if_pos h2.symm, if_pos h2]
    · rw [if_neg (fun h => h2 h.symm), if_neg h2]
      simp [List.getD, hj]
theorem mem_getD' {l : List Nat} {x : Nat} : x ∈ l ↔ ∃ i, i < l.length ∧ l.getD i 0 = x := by
  rw [List.mem_iff_getElem]
  constructor
  · rintro ⟨i, h, e⟩
    exact ⟨i, h, by rw [← e]; simp [List.getD, h]⟩
  · rintro ⟨i, h, e⟩
    exact ⟨i, h, by rw [← e]; simp [List.getD, h]⟩
theorem swl_mem {l : List Nat} {i k : Nat} (hi : i < l.length) (hk : k < l.length) (x : Nat) : x ∈ swl l i k ↔ x ∈ l := by
  rw [mem_getD', mem_getD', swl_len]
  constructor
  · rintro ⟨j, hj, e⟩
    rw [swl_at hj hi hk] at e
    split at e
    · exact ⟨i, hi, e⟩
    · split at e
      · exact ⟨k, hk, e⟩
      · exact ⟨j, hj, e⟩
  · rintro ⟨j, hj, e⟩
    by_cases h1 : j = i
    · refine ⟨k, hk, ?_⟩
      rw [swl_at hk hi hk, if_pos rfl, ← h1]
      exact e
    · by_cases h2 : j = k
      · by_cases h3 : i = k
        · exact absurd (h2.trans h3.symm) h1
        · refine ⟨i, hi, ?_⟩
          rw [swl_at hi hi hk, if_neg h3, if_pos rfl, ← h2]
          exact e
      · exact ⟨j, hj, by rw [swl_at hj hi hk, if_neg h2, if_neg h1]; exact e⟩
end Go.Proofs.Ytkjepopmlpfnpaa
