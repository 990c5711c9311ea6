/-
  Plain words for ChunkBack: what is put is taken as it was, and what is taken is put as that thing.
-/
import Derived.Test.YtbliipjiilmbcaaZP1f
namespace Go.Proofs.Ytbliipjiilmbcaa
open Go.RowKit Wire Tlv Chunk

theorem nn_hit (pre : List Int) (sz a : Nat) (post v : List Int) (i : Nat) (hv : v = pre ++ (be sz a ++ post)) (hi : pre.length = i) (ha : a < 256 ^ sz) : nn v i sz = a := by
  subst hv hi
  unfold nn
  rw [if_pos (by simp [be_len]), List.drop_left, List.take_append_of_le_length (by rw [be_len]; exact Nat.le_refl _), List.take_of_length_le (by rw [be_len]; exact Nat.le_refl _)]
  exact nu_be sz a ha
theorem be_nn {v : List Int} (hv : Byt v) {i sz : Nat} (h : i + sz ≤ v.length) : be sz (nn v i sz) = (v.drop i).take sz := by
  unfold nn
  rw [if_pos h]
  exact be_nu sz _ (by simp; omega) (Byt.take (Byt.drop hv i) sz)
theorem drop_split {v : List Int} (i sz : Nat) : v.drop i = (v.drop i).take sz ++ v.drop (i + sz) := by
  rw [← List.drop_drop, List.take_append_drop]
/-- The bytes of gaps, and of numbers, told again. -/
theorem gb_gaps {v : List Int} (hv : Byt v) : ∀ (k : Nat), 12 + 4 * k ≤ v.length → gb (gaps_ v k) = (v.drop 12).take (4 * k)
  | 0, _ => by simp [gaps_, gb]
  | k + 1, h => by
    rw [gaps_snoc, gb_snoc, gb_gaps hv k (by omega), be_nn hv (by omega), be_nn hv (by omega)]
    have e : (v.drop 12).take (4 * (k + 1)) = (v.drop 12).take (4 * k) ++ ((v.drop 12).drop (4 * k)).take 4 := by
      rw [show 4 * (k + 1) = 4 * k + 4 by omega, List.take_add]
    rw [e, List.drop_drop]
    congr 1
    have e2 : (v.drop (12 + 4 * k)).take 4 = (v.drop (12 + 4 * k)).take 2 ++ ((v.drop (12 + 4 * k)).drop 2).take 2 := by
      rw [show 4 = 2 + 2 by omega, List.take_add]
    rw [e2, List.drop_drop, show 12 + 4 * k + 2 = 14 + 4 * k by omega]
theorem ub_dups {v : List Int} (hv : Byt v) (g : Nat) : ∀ (k : Nat), 12 + 4 * g + 4 * k ≤ v.length → ub (dups_ v g k) = (v.drop (12 + 4 * g)).take (4 * k)
  | 0, _ => by simp [dups_, ub]
  | k + 1, h => by
    rw [dups_snoc, ub_snoc, ub_dups hv g k (by omega), be_nn hv (by omega)]
    rw [show 4 * (k + 1) = 4 * k + 4 by omega, List.take_add, List.drop_drop]
theorem nil_of {α : Type} {l : List α} (h : l.length = 0) : l = [] := List.eq_nil_of_length_eq_zero h
/-- What is taken is put as that thing. -/
theorem val_taken {x : Tv} {d : Ck} (hx : x.ok) (h : take x = some d) (hk : ¬ (x.k = 1 ∨ x.k = 2)) : val d = x.v ∧ d.kd = x.k ∧ d.fl = x.f := by
  have h255 : x.k ≤ 255 := by
    refine Nat.le_of_not_lt fun hh => ?_
    unfold take at h
    rw [if_pos hh] at h
    cases h
  rw [take_mayO h255] at h
  obtain ⟨c, hr, hm⟩ := Option.bind_eq_some_iff.1 h
  have hcd : c = d := by
    by_cases hmay : may c
    · rw [mayO, if_pos hmay] at hm; exact Option.some.inj hm
    · rw [mayO, if_neg hmay] at hm; cases hm
  subst hcd
  clear hm h
  have hv := hx.2.2
  by_cases h0 : x.k = 0
  · rw [raw_piece h0] at hr
    split at hr
    · rename_i hl
      injection hr with hr
      subst hr
      refine ⟨?_, rfl, rfl⟩
      simp only [val, body, pars, nums, bare, zero, h0, cat, if_pos, List.map_nil, List.append_nil, List.flatMap_nil, List.append_assoc, if_neg (show ¬ (0 : Nat) = 2 by omega)]
      rw [be_nn hv (by omega), be_nn hv (by omega), be_nn hv (by omega), be_nn hv (by omega)]
      conv => rhs; rw [← List.drop_zero (l := x.v), drop_split 0 4, drop_split (0 + 4) 2, drop_split (0 + 4 + 2) 2, drop_split (0 + 4 + 2 + 2) 4]
    · cases hr
  by_cases h3 : x.k = 3
  · rw [raw_sack h3] at hr
    split at hr
    · rename_i hl
      injection hr with hr
      subst hr
      refine ⟨?_, rfl, rfl⟩
      simp only [val, body, pars, nums, bare, zero, h3, cat, if_pos, List.map_nil, List.append_nil, List.flatMap_nil, gaps_len, dups_len, if_neg (show ¬ (3 : Nat) = 2 by omega), if_neg (show ¬ (3 : Nat) = 0 by omega), if_neg (show ¬ ((3 : Nat) = 1 ∨ (3 : Nat) = 2) by omega)]
      rw [gb_gaps hv _ (by omega), ub_dups hv _ _ (by omega)]
      generalize hg : nn x.v 8 2 = g at hl ⊢
      generalize hd : nn x.v 10 2 = d at hl ⊢
      rw [be_nn hv (by omega), be_nn hv (by omega), ← hg, be_nn hv (by omega), ← hd, be_nn hv (by omega), hg, hd]
      conv => rhs; rw [← List.drop_zero (l := x.v), drop_split 0 4, drop_split (0 + 4) 4, drop_split (0 + 4 + 4) 2, drop_split (0 + 4 + 4 + 2) 2, drop_split (0 + 4 + 4 + 2 + 2) (4 * g), drop_split (0 + 4 + 4 + 2 + 2 + 4 * g) (4 * d), List.drop_of_length_le (show x.v.length ≤ 0 + 4 + 4 + 2 + 2 + 4 * g + 4 * d by omega), List.append_nil]
    · cases hr
  by_cases h6 : x.k = 6 ∨ x.k = 9
  · rw [raw_cause h6] at hr
    split at hr
    · rename_i hl
      injection hr with hr
      subst hr
      refine ⟨?_, rfl, rfl⟩
      have hn : ∀ c : Ck, c.kd = x.k → c.ad = [] → c.da = [] → val c = cat false (c.ca.map (fun y => ⟨y.1, 0, y.2⟩)) := fun c h1 ha hd => by
        unfold val body pars nums
        rw [h1, ha, hd, if_neg h0, if_neg hk, if_neg h3, if_neg (by omega), if_neg (by omega), if_neg (by omega)]
        simp
      have h2 := cat_tl x.v.length x.v (Nat.le_refl _) hv hl
      rw [hn _ rfl rfl rfl]
      show cat false (((tl false x.v).1.map (fun y => (y.k, y.v))).map (fun y => (⟨y.1, 0, y.2⟩ : Tv))) = _
      rw [List.map_map]
      conv => rhs; rw [← h2.1]
      congr 1
      conv => rhs; rw [← List.map_id (tl false x.v).1]
      refine List.map_congr_left fun y hy => ?_
      have hf : y.f = 0 := by simpa [fit] using (h2.2 y hy).2.1
      obtain ⟨yk, yf, yv⟩ := y
      simp only at hf
      subst hf
      rfl
    · cases hr
  have hn : ∀ c : Ck, c.kd = x.k → x.k ≠ 7 → c.ad = [] → c.ca = [] → val c = c.da := fun c h1 h7 ha hc => by
    unfold val body pars nums
    rw [h1, ha, hc, if_neg h0, if_neg hk, if_neg h3, if_neg h7, if_neg (by omega), if_neg (by omega)]
    simp [cat]
  by_cases h7 : x.k = 7
  · rw [raw_shut h7] at hr
    split at hr
    · rename_i hl
      injection hr with hr
      subst hr
      refine ⟨?_, rfl, rfl⟩
      simp only [val, body, pars, nums, bare, zero, h7, cat, if_pos, List.map_nil, List.append_nil, List.flatMap_nil, if_neg (show ¬ (7 : Nat) = 2 by omega), if_neg (show ¬ (7 : Nat) = 0 by omega), if_neg (show ¬ (7 : Nat) = 3 by omega), if_neg (show ¬ ((7 : Nat) = 1 ∨ (7 : Nat) = 2) by omega)]
      rw [be_nn hv (by omega), List.drop_zero, List.take_of_length_le (by omega)]
    · cases hr
  by_cases h8 : x.k = 8 ∨ x.k = 11 ∨ x.k = 14
  · rw [raw_none h8] at hr
    split at hr
    · rename_i hl
      injection hr with hr
      subst hr
      refine ⟨?_, rfl, rfl⟩
      rw [hn _ rfl h7 rfl rfl]
      exact (nil_of hl).symm
    · cases hr
  rw [raw_data (by omega)] at hr
  injection hr with hr
  subst hr
  exact ⟨hn _ rfl h7 rfl rfl, rfl, rfl⟩
/-- A thing is no longer than the bytes that it was told of. -/
theorem tl_in {ch : Bool} : ∀ (m : Nat) (b : List Int), b.length ≤ m → Byt b → ∀ x ∈ (tl ch b).1, x.v.length ≤ b.length
  | 0, b, h, _, x, hx => by
    rw [List.length_eq_zero_iff.1 (Nat.le_zero.1 h), tl_nil] at hx
    cases hx
  | m + 1, b, h, hb, x, hx => by
    by_cases h0 : b.length = 0
    · rw [List.length_eq_zero_iff.1 h0, tl_nil] at hx
      cases hx
    cases ht : t1 ch b with
    | none =>
      rw [tl_none h0 ht] at hx
      cases hx
    | some p =>
      obtain ⟨y, s⟩ := p
      rw [tl_some ht] at hx
      have h1 := t1_lt ht
      rcases List.mem_cons.1 hx with rfl | hx
      · have h2 := (tb_t1 hb ht).2.2.2
        have h3 := tb_len ch x
        rw [h2] at h3
        have := whl_le (4 + x.v.length)
        simp at h3
        omega
      · have := tl_in m (b.drop s) (by simp; omega) (Byt.drop hb s) x hx
        simp at this
        omega
theorem prr_keeps : ∀ (l : List (Tv × Int)) (c d : Ck) (B : Nat), prr c l = some d → (∀ x ∈ l, x.2 = 0 → x.1.v.length ≤ B) → c.da.length ≤ B → d = { c with ad := d.ad, da := d.da } ∧ d.da.length ≤ B
  | [], c, d, B, h, _, hc => by
    rw [prr] at h
    injection h with h
    subst h
    exact ⟨rfl, hc⟩
  | (x, e) :: l, c, d, B, h, hB, hc => by
    rw [prr] at h
    split at h
    · cases h
    rename_i he
    have ih := fun c' h hc => prr_keeps l c' d B h (fun y hy => hB y (List.mem_cons_of_mem _ hy)) hc
    split at h
    · split at h
      · cases h
      · obtain ⟨h1, h2⟩ := ih _ h hc
        exact ⟨h1, h2⟩
    split at h
    · split at h
      · cases h
      · obtain ⟨h1, h2⟩ := ih _ h (hB (x, e) List.mem_cons_self (by simpa using he))
        exact ⟨h1, h2⟩
    split at h
    · injection h with h
      subst h
      exact ⟨rfl, hc⟩
    · exact ih _ h hc
theorem val_side {x : Tv} {d : Ck} (hx : x.ok) (h : take x = some d) (hk : x.k = 1 ∨ x.k = 2) : (val d).length ≤ x.v.length + 100 ∧ d.kd = x.k := by
  rw [take_mayO (by omega), raw_side hk] at h
  split at h
  · obtain ⟨c, hr, hm⟩ := Option.bind_eq_some_iff.1 h
    have hcd : may c ∧ c = d := by
      by_cases hmay : may c
      · rw [mayO, if_pos hmay] at hm; exact ⟨hmay, Option.some.inj hm⟩
      · rw [mayO, if_neg hmay] at hm; cases hm
    obtain ⟨hmay, rfl⟩ := hcd
    obtain ⟨h1, h2⟩ := prr_keeps _ _ c x.v.length hr (fun y hy h0 => by
      unfold ev at hy
      rcases List.mem_append.1 hy with hy | hy
      · obtain ⟨z, hz, rfl⟩ := List.mem_map.1 hy
        have := tl_in _ _ (Nat.le_refl _) (Byt.drop hx.2.2 16) z hz
        simp at this ⊢
        omega
      · split at hy
        · cases hy
        · simp at hy
          subst hy
          cases h0) (Nat.zero_le _)
    have hkd : c.kd = x.k := by rw [h1]; rfl
    have hca : c.ca = [] := by rw [h1]; rfl
    refine ⟨?_, hkd⟩
    have h3 := hmay.1.ad3
    unfold val body
    have hn : (nums c).length = 16 := by
      unfold nums
      rw [hkd, if_neg (by omega), if_pos hk]
      simp [be_len]
    have hp : (cat false (pars c)).length ≤ 40 + (if c.kd = 2 then c.da.length else 0) := by
      unfold pars cat
      rw [hca]
      simp only [List.map_nil, List.append_nil, List.flatMap_append, List.length_append]
      have e1 : ∀ l : List Nat, ((l.map (fun a => (⟨5, 0, be 4 a⟩ : Tv))).flatMap (tb false)).length = 8 * l.length := fun l => by
        induction l with
        | nil => rfl
        | cons a l ih =>
          simp only [List.map_cons, List.flatMap_cons, List.length_append, ih, tb_len, be_len, List.length_cons, whl]
          omega
      rw [e1]
      split
      · simp only [List.flatMap_cons, List.flatMap_nil, List.append_nil, tb_len]
        have := whl_le (4 + c.da.length)
        omega
      · simp; omega
    rw [List.length_append, List.length_append, hn]
    split at hp
    · rename_i h22
      rw [if_pos h22]
      simp; omega
    · rename_i h22
      rw [if_neg h22]
      have : c.da = [] := by
        have := hmay.1.da.resolve_left (by unfold hDa; omega)
        exact nil_of this
      rw [this]
      simp; omega
  · cases h
end Go.Proofs.Ytbliipjiilmbcaa
/-
  Plain words for ChunkBack: what is put is taken as it was.
-/
namespace Go.Proofs.Ytbliipjiilmbcaa
open Go.RowKit Wire Tlv Chunk

theorem nn_first (sz a : Nat) (post : List Int) (ha : a < 256 ^ sz) : nn (be sz a ++ post) 0 sz = a := nn_hit [] sz a post _ 0 rfl rfl ha
theorem prr_ads : ∀ (l : List Nat) (c0 : Ck) (t : List (Tv × Int)), (∀ a ∈ l, a < 4294967296) → c0.ad.length + l.length ≤ 3 → prr c0 ((l.map fun a => ((⟨5, 0, be 4 a⟩ : Tv), (0 : Int))) ++ t) = prr { c0 with ad := c0.ad ++ l } t
  | [], c0, t, _, _ => by simp
  | a :: l, c0, t, h, h3 => by
    have h1 : c0.ad.length ≠ 3 := by simp at h3; omega
    rw [List.map_cons, List.cons_append, prr, if_neg (by simp), if_pos rfl, if_neg (by simp [be_len, h1])]
    rw [show nu (be 4 a) = a from nu_be 4 a (h a List.mem_cons_self)]
    rw [prr_ads l { c0 with ad := c0.ad ++ [a] } t (fun b hb => h b (List.mem_cons_of_mem _ hb)) (by simp at h3 ⊢; omega)]
    simp
theorem cat_mem {xs : List Tv} {x : Tv} (h : x ∈ xs) : x.v.length ≤ (cat false xs).length := by
  induction xs with
  | nil => cases h
  | cons y xs ih =>
    simp only [cat, List.flatMap_cons, List.length_append, tb_len]
    rcases List.mem_cons.1 h with rfl | h
    · have := whl_le (4 + x.v.length)
      omega
    · have := ih h
      simp only [cat] at this
      omega
theorem pars_fit {c : Ck} (hok : c.ok) (hl : (val c).length ≤ 65531) : ∀ x ∈ pars c, x.ok ∧ fit false x ∧ x.v.length ≤ 65531 := fun x hx => by
  have h1 := pars_ok hok x hx
  have h2 := cat_mem hx
  unfold val at hl
  rw [List.length_append] at hl
  exact ⟨h1.1, h1.2, by omega⟩
theorem gaps_back (l : List (Nat × Nat)) (pre post : List Int) (hp : pre.length = 12) (h : ∀ g ∈ l, g.1 < 65536 ∧ g.2 < 65536) : gaps_ (pre ++ (gb l ++ post)) l.length = l := by
  refine List.ext_getElem (by simp [gaps_]) fun i h1 h2 => ?_
  simp only [gaps_, List.getElem_map, List.getElem_range]
  have hs : l = l.take i ++ l[i] :: l.drop (i + 1) := by rw [List.getElem_cons_drop, List.take_append_drop]
  have hg := h l[i] (List.getElem_mem h2)
  have e : gb l = gb (l.take i) ++ (be 2 l[i].1 ++ (be 2 l[i].2 ++ gb (l.drop (i + 1)))) := by
    rw [show gb l = gb (l.take i ++ l[i] :: l.drop (i + 1)) from congrArg gb hs]
    simp only [gb, List.flatMap_append, List.flatMap_cons, List.append_assoc]
  have hl := gb_len (l.take i)
  simp at hl
  refine Prod.ext ?_ ?_
  · exact nn_hit (pre ++ gb (l.take i)) 2 _ (be 2 l[i].2 ++ gb (l.drop (i + 1)) ++ post) _ _ (by rw [e]; simp) (by rw [List.length_append, hl, hp]; omega) hg.1
  · exact nn_hit (pre ++ gb (l.take i) ++ be 2 l[i].1) 2 _ (gb (l.drop (i + 1)) ++ post) _ _ (by rw [e]; simp) (by rw [List.length_append, List.length_append, hl, hp, be_len]; omega) hg.2
theorem dups_back (l : List Nat) (g : Nat) (pre : List Int) (hp : pre.length = 12 + 4 * g) (h : ∀ a ∈ l, a < 4294967296) : dups_ (pre ++ ub l) g l.length = l := by
  refine List.ext_getElem (by simp [dups_]) fun i h1 h2 => ?_
  simp only [dups_, List.getElem_map, List.getElem_range]
  have hs : l = l.take i ++ l[i] :: l.drop (i + 1) := by rw [List.getElem_cons_drop, List.take_append_drop]
  have e : ub l = ub (l.take i) ++ (be 4 l[i] ++ ub (l.drop (i + 1))) := by
    rw [show ub l = ub (l.take i ++ l[i] :: l.drop (i + 1)) from congrArg ub hs]
    simp only [ub, List.flatMap_append, List.flatMap_cons]
  have hl := ub_len (l.take i)
  simp at hl
  exact nn_hit (pre ++ ub (l.take i)) 4 _ (ub (l.drop (i + 1))) _ _ (by rw [e]; simp) (by rw [List.length_append, hl, hp]; omega) (h l[i] (List.getElem_mem h2))
theorem raw_val {c : Ck} (hok : c.ok) (hm : may c) (hl : (val c).length ≤ 65531) : raw ⟨c.kd, c.fl, val c⟩ = some c := by
  obtain ⟨F, hap⟩ := hm
  have hpf := pars_fit hok hl
  have hb := hok
  obtain ⟨kd, fl, tag, rwn, tsn, out, inn, sid, ssn, ppid, da, ad, ga, du, ca⟩ := c
  obtain ⟨f1, f2, f3, f4, f5, f6, f7, f8, f9, f10, f11, f12⟩ := F
  simp only [hTsn, hRw, hDa, hPc, hIn, hGp, hCa] at f2 f3 f4 f5 f6 f7 f8 f9 f10 f11 f12
  by_cases h0 : kd = 0
  · subst h0
    obtain rfl : rwn = 0 := by omega
    obtain ⟨rfl, rfl, rfl, h6⟩ : tag = 0 ∧ out = 0 ∧ inn = 0 ∧ ad.length = 0 := by omega
    have h7 : ga.length = 0 ∧ du.length = 0 := by omega
    have h8 : ca.length = 0 := by omega
    obtain rfl := nil_of h6
    obtain rfl := nil_of h7.1
    obtain rfl := nil_of h7.2
    obtain rfl := nil_of h8
    have hd : da.length ≠ 0 := f12 (.inl rfl)
    have hv : val ⟨0, fl, 0, 0, tsn, 0, 0, sid, ssn, ppid, da, [], [], [], []⟩ = be 4 tsn ++ (be 2 sid ++ (be 2 ssn ++ (be 4 ppid ++ da))) := by
      simp [val, body, pars, nums, cat]
    rw [raw_piece rfl]
    simp only
    rw [hv, if_pos (by simp [be_len]; omega)]
    rw [nn_first 4 tsn _ hb.tsn, nn_hit (be 4 tsn) 2 sid (be 2 ssn ++ (be 4 ppid ++ da)) _ 4 rfl (be_len _ _) hb.sid,
      nn_hit (be 4 tsn ++ be 2 sid) 2 ssn (be 4 ppid ++ da) _ 6 (by simp) (by simp [be_len]) hb.ssn, nn_hit (be 4 tsn ++ be 2 sid ++ be 2 ssn) 4 ppid da _ 8 (by simp) (by simp [be_len]) hb.ppid]
    have e : (be 4 tsn ++ (be 2 sid ++ (be 2 ssn ++ (be 4 ppid ++ da)))).drop 12 = da := by
      rw [show be 4 tsn ++ (be 2 sid ++ (be 2 ssn ++ (be 4 ppid ++ da))) = (be 4 tsn ++ (be 2 sid ++ (be 2 ssn ++ be 4 ppid))) ++ da by simp]
      exact List.drop_left' (by simp [be_len])
    rw [e]
    rfl
  by_cases h12 : kd = 1 ∨ kd = 2
  · obtain ⟨rfl, rfl, rfl⟩ : sid = 0 ∧ ssn = 0 ∧ ppid = 0 := by omega
    have h7 : ga.length = 0 ∧ du.length = 0 := by omega
    have h8 : ca.length = 0 := by omega
    obtain rfl := nil_of h7.1
    obtain rfl := nil_of h7.2
    obtain rfl := nil_of h8
    have hv : val ⟨kd, fl, tag, rwn, tsn, out, inn, 0, 0, 0, da, ad, [], [], []⟩ = be 4 tag ++ (be 4 rwn ++ (be 2 out ++ (be 2 inn ++ (be 4 tsn ++ cat false (pars ⟨kd, fl, tag, rwn, tsn, out, inn, 0, 0, 0, da, ad, [], [], []⟩))))) := by
      have hbd : body ⟨kd, fl, tag, rwn, tsn, out, inn, 0, 0, 0, da, ad, [], [], []⟩ = be 4 tag ++ (be 4 rwn ++ (be 2 out ++ (be 2 inn ++ be 4 tsn))) := by
        unfold body nums
        simp only
        rw [if_neg h0, if_pos h12]
        split
        · simp
        · have : da.length = 0 := by omega
          obtain rfl := nil_of this
          simp
      unfold val
      rw [hbd]
      simp
    generalize hP : pars ⟨kd, fl, tag, rwn, tsn, out, inn, 0, 0, 0, da, ad, [], [], []⟩ = P at hv hpf
    rw [raw_side h12]
    simp only
    rw [hv, if_pos (by simp [be_len]; omega)]
    rw [nn_first 4 tag _ hb.tag, nn_hit (be 4 tag) 4 rwn (be 2 out ++ (be 2 inn ++ (be 4 tsn ++ cat false P))) _ 4 rfl (be_len _ _) hb.rw,
      nn_hit (be 4 tag ++ be 4 rwn) 2 out (be 2 inn ++ (be 4 tsn ++ cat false P)) _ 8 (by simp) (by simp [be_len]) hb.out, nn_hit (be 4 tag ++ be 4 rwn ++ be 2 out) 2 inn (be 4 tsn ++ cat false P) _ 10 (by simp) (by simp [be_len]) hb.inn,
      nn_hit (be 4 tag ++ be 4 rwn ++ be 2 out ++ be 2 inn) 4 tsn (cat false P) _ 12 (by simp) (by simp [be_len]) hb.tsn]
    have e : (be 4 tag ++ (be 4 rwn ++ (be 2 out ++ (be 2 inn ++ (be 4 tsn ++ cat false P))))).drop 16 = cat false P := by
      rw [show be 4 tag ++ (be 4 rwn ++ (be 2 out ++ (be 2 inn ++ (be 4 tsn ++ cat false P)))) = (be 4 tag ++ (be 4 rwn ++ (be 2 out ++ (be 2 inn ++ be 4 tsn)))) ++ cat false P by simp]
      exact List.drop_left' (by simp [be_len])
    rw [e]
    have e2 := ev_cat (ch := false) [] hpf
    rw [List.append_nil, ev_nil, List.append_nil] at e2
    rw [e2, ← hP]
    unfold pars
    simp only [List.map_nil, List.append_nil, List.map_append, List.map_map]
    have ha := prr_ads ad { bare ⟨kd, fl, be 4 tag ++ (be 4 rwn ++ (be 2 out ++ (be 2 inn ++ (be 4 tsn ++ cat false P))))⟩ with tag := tag, rw := rwn, out := out, inn := inn, tsn := tsn } ((if kd = 2 then [(⟨7, 0, da⟩ : Tv)] else []).map (fun x => (x, (0 : Int)))) hb.ad (by simpa [bare, zero] using f9)
    refine Eq.trans ?_ (ha.trans ?_)
    · rfl
    · by_cases h2 : kd = 2
      · subst h2
        have hd : da ≠ [] := fun h => by have := f12 (.inr rfl); rw [h] at this; exact this rfl
        rw [if_pos rfl]
        simp only [List.map_cons, List.map_nil]
        rw [prr, if_neg (by simp), if_neg (by simp), if_pos rfl, if_neg (by simp [bare, zero, hd]), prr]
        simp [bare, zero]
      · rw [if_neg h2]
        obtain rfl := nil_of (show da.length = 0 by omega)
        simp only [List.map_nil]
        rw [prr]
        simp [bare, zero]
  by_cases h3 : kd = 3
  · subst h3
    obtain ⟨rfl, rfl, rfl⟩ : sid = 0 ∧ ssn = 0 ∧ ppid = 0 := by omega
    obtain ⟨rfl, rfl, rfl, h6⟩ : tag = 0 ∧ out = 0 ∧ inn = 0 ∧ ad.length = 0 := by omega
    obtain rfl := nil_of h6
    obtain rfl := nil_of (show ca.length = 0 by omega)
    obtain rfl := nil_of (show da.length = 0 by omega)
    have hv : val ⟨3, fl, 0, rwn, tsn, 0, 0, 0, 0, 0, [], [], ga, du, []⟩ = be 4 tsn ++ (be 4 rwn ++ (be 2 ga.length ++ (be 2 du.length ++ (gb ga ++ ub du)))) := by
      simp [val, body, pars, nums, cat]
    have h8 : nn (val ⟨3, fl, 0, rwn, tsn, 0, 0, 0, 0, 0, [], [], ga, du, []⟩) 8 2 = ga.length := nn_hit (be 4 tsn ++ be 4 rwn) 2 _ (be 2 du.length ++ (gb ga ++ ub du)) _ 8 (by rw [hv]; simp) (by simp [be_len]) (by omega)
    have h10 : nn (val ⟨3, fl, 0, rwn, tsn, 0, 0, 0, 0, 0, [], [], ga, du, []⟩) 10 2 = du.length := nn_hit (be 4 tsn ++ be 4 rwn ++ be 2 ga.length) 2 _ (gb ga ++ ub du) _ 10 (by rw [hv]; simp) (by simp [be_len]) (by omega)
    rw [raw_sack rfl]
    simp only
    rw [h8, h10, if_pos (by rw [hv]; simp [be_len, gb_len, ub_len]; omega)]
    have g1 : gaps_ (val ⟨3, fl, 0, rwn, tsn, 0, 0, 0, 0, 0, [], [], ga, du, []⟩) ga.length = ga := by
      rw [hv, show be 4 tsn ++ (be 4 rwn ++ (be 2 ga.length ++ (be 2 du.length ++ (gb ga ++ ub du)))) = (be 4 tsn ++ (be 4 rwn ++ (be 2 ga.length ++ be 2 du.length))) ++ (gb ga ++ ub du) by simp]
      exact gaps_back ga _ _ (by simp [be_len]) hb.ga
    have g2 : dups_ (val ⟨3, fl, 0, rwn, tsn, 0, 0, 0, 0, 0, [], [], ga, du, []⟩) ga.length du.length = du := by
      rw [hv, show be 4 tsn ++ (be 4 rwn ++ (be 2 ga.length ++ (be 2 du.length ++ (gb ga ++ ub du)))) = (be 4 tsn ++ (be 4 rwn ++ (be 2 ga.length ++ (be 2 du.length ++ gb ga)))) ++ ub du by simp]
      exact dups_back du _ _ (by simp [be_len, gb_len]; omega) hb.du
    rw [g1, g2, nn_hit [] 4 tsn _ _ 0 hv rfl hb.tsn, nn_hit (be 4 tsn) 4 rwn _ _ 4 hv (be_len _ _) hb.rw]
    rfl
  obtain rfl : rwn = 0 := by omega
  obtain ⟨rfl, rfl, rfl⟩ : sid = 0 ∧ ssn = 0 ∧ ppid = 0 := by omega
  obtain ⟨rfl, rfl, rfl, h6⟩ : tag = 0 ∧ out = 0 ∧ inn = 0 ∧ ad.length = 0 := by omega
  obtain rfl := nil_of h6
  obtain ⟨h71, h72⟩ : ga.length = 0 ∧ du.length = 0 := by omega
  obtain rfl := nil_of h71
  obtain rfl := nil_of h72
  by_cases h6 : kd = 6 ∨ kd = 9
  · obtain rfl : tsn = 0 := by omega
    obtain rfl := nil_of (show da.length = 0 by omega)
    have hv : val ⟨kd, fl, 0, 0, 0, 0, 0, 0, 0, 0, [], [], [], [], ca⟩ = cat false (pars ⟨kd, fl, 0, 0, 0, 0, 0, 0, 0, 0, [], [], [], [], ca⟩) := by
      unfold val body nums
      simp only
      rw [if_neg h0, if_neg h12, if_neg h3, if_neg (by omega), if_neg (by omega)]
      simp
    have hp : pars ⟨kd, fl, 0, 0, 0, 0, 0, 0, 0, 0, [], [], [], [], ca⟩ = ca.map (fun x => ⟨x.1, 0, x.2⟩) := by
      unfold pars
      simp only
      rw [if_neg (by omega)]
      simp
    have ht := tl_cat (ch := false) [] hpf
    rw [List.append_nil, tl_nil, List.append_nil] at ht
    rw [raw_cause h6]
    simp only
    rw [hv, ht, if_pos rfl, hp]
    simp [bare, zero, Function.comp_def]
  obtain rfl := nil_of (show ca.length = 0 by omega)
  have hv : ∀ d, val ⟨kd, fl, 0, 0, tsn, 0, 0, 0, 0, 0, d, [], [], [], []⟩ = (if kd = 7 then be 4 tsn else []) ++ d := fun d => by
    have h2 : ¬ kd = 2 := fun h => h12 (.inr h)
    unfold val body nums pars
    simp only
    rw [if_neg h0, if_neg h12, if_neg h3, if_neg h2, if_neg h2]
    simp [cat]
  by_cases h7 : kd = 7
  · subst h7
    obtain rfl := nil_of (show da.length = 0 by omega)
    rw [raw_shut rfl]
    simp only
    rw [hv, if_pos rfl, List.append_nil, if_pos (be_len _ _), nn_hit [] 4 tsn [] (be 4 tsn) 0 (by simp) rfl hb.tsn]
    rfl
  obtain rfl : tsn = 0 := by omega
  by_cases h8 : kd = 8 ∨ kd = 11 ∨ kd = 14
  · obtain rfl := nil_of (show da.length = 0 by omega)
    rw [raw_none h8]
    simp only
    rw [hv, if_neg h7]
    rfl
  rw [raw_data (by simp only; omega)]
  simp only
  rw [hv, if_neg h7]
  rfl
theorem take_put {c : Ck} (hok : c.ok) (hm : may c) (hl : (val c).length ≤ 65531) : take ⟨c.kd, c.fl, val c⟩ = some c := by
  rw [take_mayO (by have := hok.kd; show c.kd ≤ 255; omega), raw_val hok hm hl]
  exact (by show mayO c = some c; unfold mayO; rw [if_pos hm])
end Go.Proofs.Ytbliipjiilmbcaa
