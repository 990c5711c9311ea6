/-
  Plain words on the TSNs that came: ways that go round, a set's standing, what comes of a TSN, the gaps. Nothing of the program is imported.
-/
import Derived.Test.YtkjepopmlpfnpaaRows
namespace Go.Proofs.Ytkjepopmlpfnpaa
set_option linter.unusedVariables false

/-- The way from a to b. -/
def wy (a b : Nat) : Nat := (b + 4294967296 - a) % 4294967296
/-- x further than c. -/
def up (c x : Nat) : Nat := (c + x) % 4294967296
theorem wy_lt (a b : Nat) : wy a b < 4294967296 := Nat.mod_lt _ (by omega)
theorem up_lt (c x : Nat) : up c x < 4294967296 := Nat.mod_lt _ (by omega)
theorem wy_up {c x : Nat} (hc : c < 4294967296) (hx : x < 4294967296) : wy c (up c x) = x := by unfold wy up; omega
theorem up_wy {c t : Nat} (hc : c < 4294967296) (ht : t < 4294967296) : up c (wy c t) = t := by unfold wy up; omega
theorem up_up (c x y : Nat) : up (up c x) y = up c (x + y) := by unfold up; omega
theorem wy_step {c t : Nat} (hc : c < 4294967296) (ht : t < 4294967296) (h : 1 ≤ wy c t) : wy (up c 1) t = wy c t - 1 := by unfold wy up at *; omega
theorem wy_back {c t : Nat} (hc : c < 4294967296) (ht : t < 4294967296) (h : wy c t = 0) : wy (up c 1) t = 4294967295 := by unfold wy up at *; omega
theorem wy_turn {c t y : Nat} (hc : c < 4294967296) (ht : t < 4294967296) : wy (up c y) (up t y) = wy c t := by unfold wy up; omega
/-- How a set stands. -/
structure St where
  cum : Nat
  ws : List Nat
  ds : List Nat
/-- Rising, each from lo to hi. -/
def Ris (lo hi : Nat) (l : List Nat) : Prop := l.Pairwise (· < ·) ∧ ∀ x ∈ l, lo ≤ x ∧ x ≤ hi
theorem Ris.tail {lo hi x : Nat} {l : List Nat} (h : Ris lo hi (x :: l)) : Ris lo hi l := ⟨(List.pairwise_cons.1 h.1).2, fun y hy => h.2 y (by simp [hy])⟩
theorem ris_len_aux : ∀ (l : List Nat) (lo hi : Nat), Ris lo hi l → lo ≤ hi + 1 → l.length + lo ≤ hi + 1
  | [], lo, hi, _, h => by simpa using h
  | x :: l, lo, hi, h, hl => by
    have h1 := List.pairwise_cons.1 h.1
    have hx := h.2 x (by simp)
    have := ris_len_aux l (x + 1) hi ⟨h1.2, fun y hy => ⟨h1.1 y hy, (h.2 y (by simp [hy])).2⟩⟩ (by omega)
    simp
    omega
theorem ris_len {l : List Nat} (h : Ris 2 65535 l) : l.length ≤ 65534 := by
  have := ris_len_aux l 2 65535 h (by omega)
  omega
def St.Ok (s : St) : Prop := s.cum < 4294967296 ∧ Ris 2 65535 s.ws ∧ s.ds.length ≤ 16 ∧ ∀ t ∈ s.ds, t < 4294967296
def psd (c t : Nat) : Bool := decide (wy c t = 0 ∨ 2147483649 ≤ wy c t)
def bfr (a b : Nat) : Bool := decide (1 ≤ wy a b ∧ wy a b ≤ 2147483647)
theorem psd_eq {c t : Nat} (hc : c < 4294967296) (ht : t < 4294967296) : psd c t = (decide (t = c) || bfr t c) := by
  have h1 : (wy c t = 0 ↔ t = c) := by unfold wy; omega
  have h2 : wy c t ≠ 0 → wy t c = 4294967296 - wy c t := by unfold wy; omega
  unfold psd bfr
  rw [Bool.eq_iff_iff]
  simp only [Bool.or_eq_true, decide_eq_true_eq, h1]
  by_cases e : t = c
  · simp [e]
  · have h3 := h2 (fun h => e (h1.1 h))
    have h4 := wy_lt c t
    simp only [e, false_or]
    omega
def St.has (s : St) (t : Nat) : Bool := psd s.cum t || decide (wy s.cum t ∈ s.ws)
def far (c t : Nat) : Bool := decide (65535 < wy c t) && !psd c t
/-- The sorted place. -/
def ins (w : Nat) : List Nat → List Nat
  | [] => [w]
  | x :: l => if x < w then x :: ins w l else w :: x :: l
theorem mem_ins (w y : Nat) : ∀ l : List Nat, y ∈ ins w l ↔ y = w ∨ y ∈ l
  | [] => by simp [ins]
  | x :: l => by
    unfold ins
    split
    · simp only [List.mem_cons, mem_ins w y l]
      constructor <;> (intro h; rcases h with h | h | h <;> simp [h])
    · simp
theorem len_ins (w : Nat) : ∀ l : List Nat, (ins w l).length = l.length + 1
  | [] => rfl
  | x :: l => by
    unfold ins
    split
    · simp [len_ins w l]
    · simp
theorem ris_ins {w lo hi : Nat} (h1 : lo ≤ w) (h2 : w ≤ hi) : ∀ {l : List Nat}, Ris lo hi l → w ∉ l → Ris lo hi (ins w l)
  | [], _, _ => ⟨by simp [ins], by simp [ins, h1, h2]⟩
  | x :: l, h, hn => by
    have hx := (List.pairwise_cons.1 h.1)
    have ht := ris_ins h1 h2 h.tail (fun hm => hn (by simp [hm]))
    unfold ins
    split
    · rename_i hlt
      refine ⟨List.pairwise_cons.2 ⟨fun y hy => ?_, ht.1⟩, fun y hy => ?_⟩
      · rcases (mem_ins w y l).1 hy with rfl | hy
        · exact hlt
        · exact hx.1 y hy
      · rcases List.mem_cons.1 hy with rfl | hy
        · exact h.2 y (by simp)
        · exact ht.2 y hy
    · rename_i hge
      have hne : w ≠ x := fun e => hn (by simp [e])
      refine ⟨List.pairwise_cons.2 ⟨fun y hy => ?_, h.1⟩, fun y hy => ?_⟩
      · rcases List.mem_cons.1 hy with rfl | hy
        · omega
        · have := hx.1 y hy; omega
      · rcases List.mem_cons.1 hy with rfl | hy
        · exact ⟨h1, h2⟩
        · exact h.2 y hy
/-- Where it stands: how many are less. -/
theorem ins_at (w : Nat) : ∀ (l : List Nat) (k : Nat), k ≤ l.length → (∀ i, i < k → l.getD i 0 < w) → (k < l.length → ¬ l.getD k 0 < w) → ins w l = l.take k ++ w :: l.drop k
  | [], k, hk, _, _ => by simp [ins]
  | x :: l, 0, _, _, h => by
    have := h (by simp)
    simp only [List.getD_cons_zero] at this
    simp [ins, this]
  | x :: l, k + 1, hk, h1, h2 => by
    have h0 := h1 0 (by omega)
    simp only [List.getD_cons_zero] at h0
    simp only [ins, h0, if_true, List.take_succ_cons, List.drop_succ_cons, List.cons_append]
    rw [ins_at w l k (by simpa using hk) (fun i hi => by simpa using h1 (i + 1) (by omega)) (fun hl => by simpa using h2 (by simpa using hl))]
/-- The cumulative TSN goes on over those that stand just behind it. -/
def norm (c : Nat) : List Nat → Nat × List Nat
  | [] => (c, [])
  | w :: l => if w = 1 then norm (up c 1) (l.map (· - 1)) else (c, w :: l)
termination_by l => l.length
theorem norm_go (c : Nat) (l : List Nat) : norm c (1 :: l) = norm (up c 1) (l.map (· - 1)) := by rw [norm]; simp
theorem norm_stop {c : Nat} {l : List Nat} (h : l.head? ≠ some 1) : norm c l = (c, l) := by
  cases l with
  | nil => rw [norm]
  | cons w l => rw [norm, if_neg (by simpa using h)]
theorem ris_less {hi : Nat} {l : List Nat} (h : Ris 1 hi (1 :: l)) : Ris 1 hi (l.map (· - 1)) := by
  have h1 := List.pairwise_cons.1 h.1
  refine ⟨List.pairwise_map.2 (h1.2.imp_of_mem fun {a b} ha hb hab => ?_), fun y hy => ?_⟩
  · have := h1.1 a ha
    omega
  · obtain ⟨x, hx, rfl⟩ := List.mem_map.1 hy
    have := h1.1 x hx
    have := h.2 x (by simp [hx])
    omega
theorem ris_two {hi : Nat} {l : List Nat} (h : Ris 1 hi l) (hh : l.head? ≠ some 1) : Ris 2 hi l := by
  refine ⟨h.1, fun x hx => ⟨?_, (h.2 x hx).2⟩⟩
  cases l with
  | nil => simp at hx
  | cons w l =>
    have hw : w ≠ 1 := by simpa using hh
    have h1 := List.pairwise_cons.1 h.1
    have := (h.2 w (by simp)).1
    rcases List.mem_cons.1 hx with rfl | hx
    · omega
    · have := h1.1 x hx; omega
theorem norm_ok {hi : Nat} : ∀ (n c : Nat) (l : List Nat), l.length ≤ n → c < 4294967296 → Ris 1 hi l → (norm c l).1 < 4294967296 ∧ Ris 2 hi (norm c l).2
  | n, c, [], hn, hc, h => by
    rw [norm]
    exact ⟨hc, by simp, by simp⟩
  | n + 1, c, w :: l, hn, hc, h => by
    by_cases hh : (w :: l).head? = some 1
    · obtain rfl : w = 1 := by simpa using hh
      rw [norm_go]
      exact norm_ok n _ _ (by simpa using hn) (up_lt _ _) (ris_less h)
    · rw [norm_stop hh]
      exact ⟨hc, ris_two h hh⟩
def St.add (s : St) (t : Nat) : St × Nat :=
  if s.has t then ({ s with ds := if s.ds.length < 16 then s.ds ++ [t] else s.ds }, 1)
  else if 65535 < wy s.cum t then (s, 2)
  else ({ cum := (norm s.cum (ins (wy s.cum t) s.ws)).1, ws := (norm s.cum (ins (wy s.cum t) s.ws)).2, ds := s.ds }, 0)
theorem has_far {s : St} (h : s.Ok) {t : Nat} : far s.cum t = true → s.has t = false := by
  intro hf
  unfold far at hf
  simp only [Bool.and_eq_true, decide_eq_true_eq, Bool.not_eq_true'] at hf
  unfold St.has
  rw [hf.2]
  simp only [Bool.false_or, decide_eq_false_iff_not]
  intro hm
  have := (h.2.1.2 _ hm).2
  omega
theorem far_of {s : St} {t : Nat} (h : s.has t = false) : far s.cum t = decide (65535 < wy s.cum t) := by
  unfold St.has at h
  simp only [Bool.or_eq_false_iff] at h
  unfold far
  rw [h.1]
  simp
theorem ins_ok {s : St} (h : s.Ok) {t : Nat} (hh : s.has t = false) (hw : wy s.cum t ≤ 65535) : Ris 1 65535 (ins (wy s.cum t) s.ws) := by
  unfold St.has psd at hh
  simp only [Bool.or_eq_false_iff, decide_eq_false_iff_not] at hh
  exact ris_ins (by omega) hw ⟨h.2.1.1, fun x hx => ⟨by have := (h.2.1.2 x hx).1; omega, (h.2.1.2 x hx).2⟩⟩ hh.2
theorem add_ok {s : St} (h : s.Ok) {t : Nat} (ht : t < 4294967296) : (s.add t).1.Ok := by
  unfold St.add
  split
  · refine ⟨h.1, h.2.1, ?_, ?_⟩
    · show (if s.ds.length < 16 then s.ds ++ [t] else s.ds).length ≤ 16
      split
      · simp; omega
      · exact h.2.2.1
    · show ∀ x ∈ (if s.ds.length < 16 then s.ds ++ [t] else s.ds), x < 4294967296
      split
      · intro x hx
        rcases List.mem_append.1 hx with hx | hx
        · exact h.2.2.2 x hx
        · simp at hx; omega
      · exact h.2.2.2
  · rename_i hh
    split
    · exact h
    · rename_i hw
      have := norm_ok (ins (wy s.cum t) s.ws).length s.cum _ (Nat.le_refl _) h.1 (ins_ok h (by simpa using hh) (by omega))
      exact ⟨this.1, this.2, h.2.2.1, h.2.2.2⟩
theorem add_code (s : St) (t : Nat) : (s.add t).2 ≤ 2 := by
  unfold St.add
  split
  · simp
  · split <;> simp
/-- The gaps: runs. -/
def gstep (g : List (Nat × Nat)) (w : Nat) : List (Nat × Nat) :=
  match g.getLast? with
  | some p => if p.2 + 1 = w then g.dropLast ++ [(p.1, w)] else g ++ [(w, w)]
  | none => [(w, w)]
def runs (ws : List Nat) : List (Nat × Nat) := ws.foldl gstep []
def St.gaps (s : St) : List (Nat × Nat) := (runs s.ws).take 64
theorem runs_snoc (l : List Nat) (w : Nat) : runs (l ++ [w]) = gstep (runs l) w := by simp [runs]
theorem gstep_len (g : List (Nat × Nat)) (w : Nat) : g.length ≤ (gstep g w).length := by
  unfold gstep
  split
  · rename_i p hp
    split
    · have : 0 < g.length := by
        cases g with
        | nil => simp at hp
        | cons => simp
      simp; omega
    · simp
  · simp_all
theorem gstep_take {g : List (Nat × Nat)} (w : Nat) (h : 65 ≤ g.length) : (gstep g w).take 64 = g.take 64 := by
  unfold gstep
  split
  · split
    · rw [List.take_append_of_le_length (by simp; omega), List.dropLast_eq_take, List.take_take, show min 64 (g.length - 1) = 64 by omega]
    · rw [List.take_append_of_le_length (by omega)]
  · simp_all
theorem fold_take : ∀ (ws : List Nat) (g : List (Nat × Nat)), 65 ≤ g.length → (ws.foldl gstep g).take 64 = g.take 64
  | [], _, _ => rfl
  | w :: ws, g, h => by
    rw [List.foldl_cons, fold_take ws _ (Nat.le_trans h (gstep_len g w)), gstep_take w h]
/-- Sixty-four are whole, and one more begins: that is all that is told. -/
theorem runs_full {l r : List Nat} {w : Nat} (h : (runs l).length = 64) (hn : ∀ p, (runs l).getLast? = some p → p.2 + 1 ≠ w) : (runs (l ++ w :: r)).take 64 = runs l := by
  have e : gstep (runs l) w = runs l ++ [(w, w)] := by
    unfold gstep
    split
    · rename_i p hp
      rw [if_neg (hn p hp)]
    · simp_all
  have e2 : runs (l ++ w :: r) = r.foldl gstep (gstep (runs l) w) := by simp [runs]
  rw [e2, fold_take r _ (by rw [e]; simp [h]), e, List.take_append_of_le_length (by omega), List.take_of_length_le (by omega)]
/-- The last run ends with the last way. -/
theorem runs_last (l : List Nat) (w : Nat) : ∃ p, (runs (l ++ [w])).getLast? = some p ∧ p.2 = w := by
  rw [runs_snoc]
  unfold gstep
  split
  · split
    · exact ⟨_, by simp; rfl, rfl⟩
    · exact ⟨_, by simp; rfl, rfl⟩
  · exact ⟨_, by simp; rfl, rfl⟩
theorem runs_nil : runs [] = [] := rfl
theorem runs_ne {l : List Nat} (h : l ≠ []) : runs l ≠ [] := by
  rcases List.eq_nil_or_concat l with rfl | ⟨m, w, rfl⟩
  · exact absurd rfl h
  · obtain ⟨p, hp, _⟩ := runs_last m w
    intro e
    rw [← List.concat_eq_append, e] at hp
    cases hp
theorem gstep_nil (w : Nat) : gstep [] w = [(w, w)] := rfl
theorem gstep_on {m : List (Nat × Nat)} {p : Nat × Nat} {w : Nat} (h : p.2 + 1 = w) : gstep (m ++ [p]) w = m ++ [(p.1, w)] := by
  unfold gstep
  simp [h]
theorem gstep_new {m : List (Nat × Nat)} {p : Nat × Nat} {w : Nat} (h : p.2 + 1 ≠ w) : gstep (m ++ [p]) w = m ++ [p] ++ [(w, w)] := by
  unfold gstep
  simp [h]
theorem take_snoc {ws : List Nat} {k : Nat} (h : k < ws.length) : ws.take (k + 1) = ws.take k ++ [ws.getD k 0] := by
  rw [List.take_succ_eq_append_getElem h]
  simp [List.getD, h]
theorem ris_at {lo hi k : Nat} {ws : List Nat} (h : Ris lo hi ws) (hk : k < ws.length) : lo ≤ ws.getD k 0 ∧ ws.getD k 0 ≤ hi := by
  have : ws.getD k 0 = ws[k] := by simp [List.getD, hk]
  rw [this]
  exact h.2 _ (List.getElem_mem hk)
theorem ris_lt {lo hi j k : Nat} {ws : List Nat} (h : Ris lo hi ws) (hjk : j < k) (hk : k < ws.length) : ws.getD j 0 < ws.getD k 0 := by
  have h1 : ws.getD k 0 = ws[k] := by simp [List.getD, hk]
  have h2 : ws.getD j 0 = ws[j] := by simp [List.getD, Nat.lt_trans hjk hk]
  rw [h1, h2]
  exact (List.pairwise_iff_getElem.1 h.1) j k _ _ hjk
/-- The last run so far ends ahead of the next way. -/
theorem last_lt {ws : List Nat} {lo hi k : Nat} {m : List (Nat × Nat)} {p : Nat × Nat} (h : Ris lo hi ws) (hk : k < ws.length) (hl : runs (ws.take k) = m ++ [p]) : p.2 < ws.getD k 0 := by
  rcases k with _ | k
  · simp [runs] at hl
  · rw [take_snoc (by omega)] at hl
    obtain ⟨q, hq, hq2⟩ := runs_last (ws.take k) (ws.getD k 0)
    rw [hl] at hq
    simp at hq
    rw [hq, hq2]
    exact ris_lt h (by omega) hk
theorem split_at {ws : List Nat} {k : Nat} (hk : k < ws.length) : ws = ws.take k ++ ws.getD k 0 :: ws.drop (k + 1) := by
  have h1 : ws.getD k 0 = ws[k] := by simp [List.getD, hk]
  rw [h1, ← List.drop_eq_getElem_cons hk, List.take_append_drop]
end Go.Proofs.Ytkjepopmlpfnpaa
