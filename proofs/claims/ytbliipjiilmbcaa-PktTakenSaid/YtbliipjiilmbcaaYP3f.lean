/-
  Plain: what is taken as a packet may be put, in no more bytes, and is taken again as it was.
-/
import Derived.Test.YtbliipjiilmbcaaYP1f
namespace Go.Proofs.Ytbliipjiilmbcaa
open Go.RowKit Wire Tlv Chunk Pkt

/-- How many bytes of parameters a chunk will have. -/
def wgt (c : Ck) : Nat := 8 * c.ad.length + (if c.da = [] then 0 else whl (4 + c.da.length))
/-- How many bytes were told. -/
def told (l : List (Tv × Int)) : Nat := (l.map fun x => if x.2 = 0 then whl (4 + x.1.v.length) else 0).sum
theorem told_cons (x : Tv × Int) (l : List (Tv × Int)) : told (x :: l) = (if x.2 = 0 then whl (4 + x.1.v.length) else 0) + told l := by simp [told]
theorem told_ev {ch : Bool} : ∀ (m : Nat) (b : List Int), b.length ≤ m → Byt b → told (ev ch b) ≤ b.length
  | 0, b, h, _ => by
    rw [List.eq_nil_of_length_eq_zero (Nat.le_zero.1 h), ev_nil]
    simp [told]
  | m + 1, b, h, hb => by
    by_cases h0 : b.length = 0
    · rw [List.eq_nil_of_length_eq_zero h0, ev_nil]
      simp [told]
    cases ht : t1 ch b with
    | none =>
      rw [ev_none h0 ht]
      simp [told]
    | some p =>
      obtain ⟨x, s⟩ := p
      have h1 := t1_lt ht
      have h2 := congrArg List.length (tb_t1 hb ht).2.2.2
      rw [tb_len, List.length_take, Nat.min_eq_left h1.2] at h2
      have ih := told_ev (ch := ch) m (b.drop s) (by simp; omega) (Byt.drop hb s)
      rw [ev_some ht, told_cons, if_pos rfl]
      simp only [List.length_drop] at ih ⊢
      omega
theorem prr_wgt : ∀ (l : List (Tv × Int)) (c d : Ck), prr c l = some d → wgt d ≤ wgt c + told l
  | [], c, d, h => by
    rw [prr] at h
    injection h with h
    subst h
    omega
  | (x, e) :: l, c, d, h => by
    rw [prr] at h
    split at h
    · cases h
    rename_i he
    rw [told_cons, if_pos (by simpa using he)]
    have ih := fun c' h => prr_wgt l c' d h
    simp only at ih ⊢
    split at h
    · split at h
      · cases h
      · rename_i h4
        have h1 := ih _ h
        have h5 : x.v.length = 4 := by omega
        rw [h5]
        simp only [wgt, List.length_append, List.length_cons, List.length_nil] at h1 ⊢
        simp only [whl] at h1 ⊢
        omega
    split at h
    · split at h
      · cases h
      · rename_i h4
        have h1 := ih _ h
        have h5 : c.da = [] := Classical.byContradiction fun hn => h4 (.inr (.inl hn))
        have h6 : x.v ≠ [] := fun hn => h4 (.inr (.inr hn))
        simp only [wgt, if_neg h6] at h1
        simp only [wgt, if_pos h5]
        omega
    split at h
    · injection h with h
      subst h
      omega
    · have := ih _ h
      omega
/-- A chunk has no more bytes than those that it was taken of. -/
theorem val_less {x : Tv} {d : Ck} (hx : x.ok) (h : take x = some d) : (val d).length ≤ x.v.length ∧ d.kd = x.k ∧ may d := by
  have hk255 : x.k ≤ 255 := by
    unfold take at h
    split at h
    · cases h
    · omega
  have hmd : may d := by
    rw [take_mayO hk255] at h
    obtain ⟨c, _, hm⟩ := Option.bind_eq_some_iff.1 h
    by_cases hmay : may c
    · rw [mayO, if_pos hmay] at hm
      rw [← Option.some.inj hm]; exact hmay
    · rw [mayO, if_neg hmay] at hm; cases hm
  by_cases hk : x.k = 1 ∨ x.k = 2
  · have hkd := (val_side hx h hk).2
    refine ⟨?_, hkd, hmd⟩
    rw [take_mayO hk255, raw_side hk] at h
    split at h
    · rename_i h16
      obtain ⟨c, hr, hm⟩ := Option.bind_eq_some_iff.1 h
      have hcd : c = d := by
        by_cases hmay : may c
        · rw [mayO, if_pos hmay] at hm; exact Option.some.inj hm
        · rw [mayO, if_neg hmay] at hm; cases hm
      subst hcd
      have h1 := prr_wgt _ _ _ hr
      have h2 := told_ev (ch := false) _ (x.v.drop 16) (Nat.le_refl _) (Byt.drop hx.2.2 16)
      have hca : c.ca = [] := nil_of (hmd.1.ca.resolve_left (by unfold hCa; omega))
      have hn : (nums c).length = 16 := by
        unfold nums
        rw [hkd, if_neg (by omega), if_pos hk]
        simp [be_len]
      have e1 : ∀ l : List Nat, ((l.map (fun a => (⟨5, 0, be 4 a⟩ : Tv))).flatMap (tb false)).length = 8 * l.length := fun l => by
        induction l with
        | nil => rfl
        | cons a l ih =>
          simp only [List.map_cons, List.flatMap_cons, List.length_append, ih, tb_len, be_len, List.length_cons, whl]
          omega
      have hp : (cat false (pars c)).length ≤ wgt c := by
        unfold pars cat wgt
        rw [hca]
        simp only [List.map_nil, List.append_nil, List.flatMap_append, List.length_append]
        rw [e1]
        split
        · rename_i h22
          have : c.da ≠ [] := fun hn => hmd.1.has (.inr h22) (by rw [hn]; rfl)
          rw [if_neg this]
          simp [tb_len]
        · simp
      have hbd : (body c).length = 16 := by
        unfold body
        rw [List.length_append, hn]
        split
        · rfl
        · rename_i h22
          rw [nil_of (hmd.1.da.resolve_left (by unfold hDa; omega))]
          rfl
      unfold val
      rw [List.length_append, hbd]
      have h3 : wgt { bare x with tag := nn x.v 0 4, rw := nn x.v 4 4, out := nn x.v 8 2, inn := nn x.v 10 2, tsn := nn x.v 12 4 } = 0 := by simp [wgt, bare, zero]
      rw [h3] at h1
      simp only [List.length_drop] at h2
      omega
    · cases h
  · obtain ⟨h1, h2, _⟩ := val_taken hx h hk
    exact ⟨by rw [h1]; exact Nat.le_refl _, h2, hmd⟩
theorem whl_mono {a b : Nat} (h : a ≤ b) : whl a ≤ whl b := by unfold whl; omega
/-- Chunks that were taken may be put, in no more bytes, and none ends. -/
theorem pc_again : ∀ (m : Nat) (b : List Int), b.length ≤ m → Byt b → (pc (ev true b)).2 = 0 → (pb (pc (ev true b)).1).2 = 0 ∧ (pb (pc (ev true b)).1).1.length ≤ b.length ∧ upto (pc (ev true b)).1 = (pc (ev true b)).1
  | 0, b, h, _, h0 => by
    rw [List.eq_nil_of_length_eq_zero (Nat.le_zero.1 h), ev_nil]
    simp [pc, pb, upto]
  | m + 1, b, h, hb, h0 => by
    by_cases hz : b.length = 0
    · rw [List.eq_nil_of_length_eq_zero hz, ev_nil]
      simp [pc, pb, upto]
    cases ht : t1 true b with
    | none =>
      rw [ev_none hz ht, pc, if_pos (by decide)] at h0
      cases h0
    | some p =>
      obtain ⟨x, s⟩ := p
      have h1 := t1_lt ht
      obtain ⟨hx, _, hx5, h2⟩ := tb_t1 hb ht
      have h2 := congrArg List.length h2
      rw [tb_len, List.length_take, Nat.min_eq_left h1.2] at h2
      have ih := pc_again m (b.drop s) (by simp; omega) (Byt.drop hb s)
      rw [ev_some ht, pc_cons] at h0 ⊢
      by_cases he : ends x.k = true
      · rw [if_pos he]
        simp [pb, upto]
      rw [if_neg he] at h0 ⊢
      cases hk : take x with
      | none => rw [hk] at h0; cases h0
      | some c =>
        rw [hk] at h0
        simp only at h0 ⊢
        unfold jn at h0 ⊢
        by_cases hj : (pc (ev true (b.drop s))).2 ≠ 0
        · rw [if_pos hj] at h0
          exact absurd h0 hj
        rw [if_neg hj]
        obtain ⟨i1, i2, i3⟩ := ih (by simpa using hj)
        obtain ⟨v1, v2, v3⟩ := val_less hx hk
        have hc := cput_ok v3 (by omega)
        simp only [List.cons_append, List.nil_append]
        have hpb : pb (c :: (pc (ev true (b.drop s))).1) = (tb true ⟨c.kd, c.fl, val c⟩ ++ (pb (pc (ev true (b.drop s))).1).1, 0) := by
          rw [pb, hc]
          simp [i1]
        rw [hpb]
        refine ⟨rfl, ?_, ?_⟩
        · have := whl_mono (show 4 + (val c).length ≤ 4 + x.v.length by omega)
          simp only [List.length_append, tb_len, List.length_drop] at i2 ⊢
          omega
        · rw [upto, v2, if_neg he, i3]
/-- A packet that was taken is put, in no more bytes, and taken as it was. -/
theorem ptk_again {l : List Int} (hb : Byt l) (h0 : (ptk l).err = 0) (hok : ∀ c ∈ (ptk l).ks, c.ok) :
    mayP (ptk l).g (ptk l).ks = true ∧ (pput (ptk l).f (ptk l).t (ptk l).g (ptk l).ks).2 = 0 ∧ (pput (ptk l).f (ptk l).t (ptk l).g (ptk l).ks).1.length ≤ l.length ∧
      ptk (pput (ptk l).f (ptk l).t (ptk l).g (ptk l).ks).1 = ptk l := by
  have hlt := Head.tk_lt hb
  have hfo := fun h => Head.forth hb h
  unfold ptk at h0
  by_cases h1 : (Head.tk l).err ≠ 0
  · rw [if_pos h1] at h0; exact absurd h0 h1
  rw [if_neg h1] at h0
  by_cases h2 : (pc (ev true (Head.tk l).body)).2 ≠ 0
  · rw [if_pos h2] at h0; exact absurd h0 h2
  rw [if_neg h2] at h0
  by_cases h3 : mayP (Head.tk l).g (pc (ev true (Head.tk l).body)).1 = true
  · have hp : ptk l = ⟨(Head.tk l).f, (Head.tk l).t, (Head.tk l).g, (pc (ev true (Head.tk l).body)).1, 0⟩ := by
      unfold ptk
      rw [if_neg h1, if_neg h2, if_pos h3]
    rw [hp] at hok ⊢
    simp only at hok ⊢
    have hf := hfo (by simpa using h1)
    generalize Head.tk l = k at *
    obtain ⟨a1, a2, a3⟩ := pc_again _ k.body (Nat.le_refl _) hlt.2.2.2.1 (by simpa using h2)
    generalize (pc (ev true k.body)).1 = ks at *
    have hpt : (Head.pt k.f k.t k.g (pb ks).1).2 = 0 ∧ (Head.pt k.f k.t k.g (pb ks).1).1.length ≤ l.length := by
      have hm := pb_four ks
      unfold Head.pt at hf ⊢
      rw [if_neg (by omega)]
      split at hf
      · cases hf
      split at hf
      · cases hf
      rw [if_neg (by omega)]
      have := congrArg (fun r : List Int × Int => r.1.length) hf
      simp only [Head.pk_len] at this ⊢
      exact ⟨trivial, by omega⟩
    have hpp : pput k.f k.t k.g ks = Head.pt k.f k.t k.g (pb ks).1 := by
      unfold pput
      rw [if_pos h3, if_neg (by simp [a1])]
    refine ⟨h3, by rw [hpp]; exact hpt.1, by rw [hpp]; exact hpt.2, ?_⟩
    rw [ptk_pput hlt.1 hlt.2.1 hlt.2.2.1 hok (by rw [hpp]; exact hpt.1), a3, if_pos h3]
  · rw [if_neg h3] at h0
    cases h0
end Go.Proofs.Ytbliipjiilmbcaa
