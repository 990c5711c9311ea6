/-
  The reader of layer 5: causes, as it reads a value.
-/
import Derived.Test.YtbliipjiilmbcaaYChunkCs2
import Derived.Test.YtbliipjiilmbcaaYChunkTkAny
import Derived.Test.YtbliipjiilmbcaaYChunkKnown
import Derived.Test.YtbliipjiilmbcaaYP1b
import Derived.Test.YtbliipjiilmbcaaYP1a
namespace Go.Proofs.Ytbliipjiilmbcaa
open Go.RowKit Wire Tlv Chunk Go.Shelf

/-- What is asked of causes' function. -/
theorem causes_asks (w W : World) (b bx : Nat) (c0 : Ck) (hbx : Bk W bx #[.pointer (some ⟨b, 0, none⟩)] 93) (hne : bx ≠ b) (hbW : b < W.heap.size) (hws : w.heap.size ≤ W.heap.size) :
    Asks w W b 94 #[.pointer (some ⟨bx, 0, none⟩)] cst (XC c0) where
  enters := enters_of Try.func94 (by kernel_rfl) rfl
  calm := fun W0 k c s A B _ ⟨cA, cc, q, h1, h2, h3, h4⟩ hc => ⟨cA, cc, q, h1, h2, h3, h4.calm hc⟩
  set_ := fun W0 k c s A i v hb ⟨cA, cc, q, h1, h2, h3, h4⟩ => ⟨cA, cc, q, h1, h2, h3, h4.put (Nat.lt_of_lt_of_le hbW hb.size)⟩
  more := fun W0 k c s A ⟨cA, cc, q, h1, h2, ⟨h3, h30⟩, h4⟩ => ⟨cA, cc, q, h1, h2, ⟨Nat.le_succ_of_le h3, h30⟩, h4⟩
  call := fun W0 k r' q W1 hB hk hp hv hs => causes_call c0 w W W0 b bx k r' q W1 hbx hne hbW hws hB hk hp hv hs
theorem causes_fin {x : Tv} (hx : x.ok) (hk : x.k = 6 ∨ x.k = 9) (w W Wc W0 W' : World) (b k : Nat) (s' : Ls) (hot : Ot W Wc b) (hB : Below Wc.heap.size Wc W0) (hk2 : k ≤ 20000)
    (hr : Rr w b ⟨[], (gone cst (r0 x) (ev false (r0 x).l)).c, (gone cst (r0 x) (ev false (r0 x).l)).bad⟩ s' none 0 0 W') (ho : Ot Wc W' b) (hX : XC (r0 x).c W0 k (gone cst (r0 x) (ev false (r0 x).l)).c s' W') : FOut w b x W (.returned (.tuple #[])) W' := by
  refine ⟨rfl, _, _, _, _, _, hr, hot.trans ho, fun hb _ => ?_, ?_⟩
  · obtain ⟨cA, cc, q, rfl, hc, ⟨h1, h2⟩, h3⟩ := hX
    have hbo := bare_ok hx (by omega)
    refine (ch_cause ?_ (by rw [hc]; rfl) (by rw [hc]; rfl) (by rw [hc]; rfl) (by rw [hc]; rfl) (by show (gone cst (r0 x) (ev false (r0 x).l)).c.ca.length ≤ 65536; omega) (fun y hy => (h2 y hy).2.2) h3).lower (Nat.le_trans hot.size hB.size)
    show Ck.ok (gone cst (r0 x) (ev false (r0 x).l)).c
    rw [hc]
    exact { hbo with ca := fun y hy => ⟨(h2 y hy).1, (h2 y hy).2.1⟩ }
  · rw [take_mayO (by omega), raw_cause hk]
    obtain ⟨e1, e2⟩ := gone_ev x.v (r0 x) rfl
    show fin ⟨[], (gone cst (r0 x) (ev false x.v)).c, (gone cst (r0 x) (ev false x.v)).bad⟩ = _
    rw [e2, e1]
    cases (tl false x.v).2
    · rw [fin_bad rfl]; rfl
    · rw [fin_ok rfl rfl, if_pos rfl]
      rfl
set_option maxRecDepth 100000 in
set_option maxHeartbeats 4000000 in
theorem causes_f (w W : World) (b : Nat) (x : Tv) (A : Option Addr) (n cap : Nat) (hx : x.ok) (hk : x.k = 6 ∨ x.k = 9) (h : Rr w b (r0 x) nol A n cap W) :
    Calls Try.prog 64 #[.pointer (some ⟨b, 0, none⟩)] W (FOut w b x W) := by
  have hlt := h.bk.lt
  have hal : Below W.heap.size W (W.alloc (.cells #[.pointer (some ⟨b, 0, none⟩)] 93)) := (Below.refl _ _).alloc (Nat.le_refl _) _
  have HS0 : Hid (Rr w b (r0 x) nol A n cap (W.alloc (.cells #[.pointer (some ⟨b, 0, none⟩)] 93)) ∧ Ot W (W.alloc (.cells #[.pointer (some ⟨b, 0, none⟩)] 93)) b ∧ Bk (W.alloc (.cells #[.pointer (some ⟨b, 0, none⟩)] 93)) W.heap.size #[.pointer (some ⟨b, 0, none⟩)] 93) := Lib.hid ⟨h.next hal, Ot.below b hal, Bk.new W _ _⟩
  have HFIN := Lib.hid (fun Wc W0 W' k s' => causes_fin hx hk w W Wc W0 W' b k s')
  have hne : W.heap.size ≠ b := by omega
  clear h hal hk hx
  go_enter Try.func64, Try.ntmps64
  go_upto_region 1 with fail
  generalize World.alloc W _ = wc at HS0 ⊢
  obtain ⟨bx, hbx⟩ : ∃ bx, W.heap.size = bx := ⟨_, rfl⟩
  rw [hbx] at HS0 hne
  rw [hbx]
  clear hbx
  obtain ⟨hrr, hot, hbk⟩ := HS0.out
  have hbW := hrr.bk.lt
  have x0 := hbk.cell 0
  simp at x0
  have HOT := Lib.hid hot
  have HQ5C : Hid (∀ W0, XC (r0 x).c W0 0 (r0 x).c nol W0) := Lib.hid fun W0 => ⟨none, 0, [], rfl, rfl, ⟨Nat.le_refl _, fun a ha => by simp [r0, bare, zero] at ha⟩, Cr.nil _ _⟩
  have HPA := Lib.hid (params_r w wc b (r0 x) nol A n cap hrr 94 #[.pointer (some ⟨bx, 0, none⟩)] cst (XC (r0 x).c) (fun W0 _ => HQ5C.out W0) (causes_asks w wc b bx (r0 x).c hbk hne hbW hrr.bl.size))
  clear hrr hot hbk HS0
  go_wp2_with fail
  (with_reducible refine HPA.out.mono ?_)
  rintro e W9 ⟨rfl, W0, k, s', hB, hk2, hr9, ho9, hX9⟩
  have HF := Lib.hid (HFIN.out wc W0 W9 k s' HOT.out hB hk2 hr9 ho9 hX9)
  clear hB hr9 ho9 hX9 HPA HFIN
  go_wp2_with fail
  go_end0
  exact HF.out
end Go.Proofs.Ytbliipjiilmbcaa
/-
  What chunk.Take does.
-/
namespace Go.Proofs.Ytbliipjiilmbcaa
open Go.RowKit Wire Tlv Chunk Go.Shelf

theorem ckTake_all (x : Tv) (A : Option Addr) (n cp : Nat) (w : World) (hx : x.ok) (hl : x.v.length = n) (hn : n ≤ 65531) (hle : n ≤ cp) (hcm : cp ≤ maxLen) (hr : Row w A (bs x.v)) :
    Calls Try.prog 12 #[.agg #[.int .u16 (x.k : Int), .int .u8 (x.f : Int), .slice A n cp]] w (TakeOut w (take x)) := by
  by_cases h255 : 255 < x.k
  · exact ckTake_no x A n cp w h255
  have hk : x.k ≤ 255 := by omega
  by_cases h0 : x.k = 0
  · exact ckTake_any x A n cp w hx hk hl hn hle hcm hr 61 (enters_of Try.func61 (by kernel_rfl) rfl) (by unfold rk; rw [if_pos h0]) fun W b A n cp h => piece_f w W b x A n cp hx h0 h
  by_cases h1 : x.k = 1 ∨ x.k = 2
  · exact ckTake_any x A n cp w hx hk hl hn hle hcm hr 62 (enters_of Try.func62 (by kernel_rfl) rfl) (by unfold rk; rw [if_neg h0, if_pos h1]) fun W b A n cp h => side_f w W b x A n cp hx h1 h
  by_cases h3 : x.k = 3
  · exact ckTake_any x A n cp w hx hk hl hn hle hcm hr 63 (enters_of Try.func63 (by kernel_rfl) rfl) (by unfold rk; rw [if_neg h0, if_neg h1, if_pos h3]) fun W b A n cp h => came_f w W b x A n cp hx h3 h
  by_cases h6 : x.k = 6 ∨ x.k = 9
  · exact ckTake_any x A n cp w hx hk hl hn hle hcm hr 64 (enters_of Try.func64 (by kernel_rfl) rfl) (by unfold rk; rw [if_neg h0, if_neg h1, if_neg h3, if_pos h6]) fun W b A n cp h => causes_f w W b x A n cp hx h6 h
  by_cases h7 : x.k = 7
  · exact ckTake_any x A n cp w hx hk hl hn hle hcm hr 65 (enters_of Try.func65 (by kernel_rfl) rfl) (by unfold rk; rw [if_neg h0, if_neg h1, if_neg h3, if_neg h6, if_pos h7]) fun W b A n cp h => last_f w W b x A n cp hx h7 h
  by_cases h8 : x.k = 8 ∨ x.k = 11 ∨ x.k = 14
  · exact ckTake_any x A n cp w hx hk hl hn hle hcm hr 66 (enters_of Try.func66 (by kernel_rfl) rfl) (by unfold rk; rw [if_neg h0, if_neg h1, if_neg h3, if_neg h6, if_neg h7, if_pos h8]) fun W b A n cp h => nothing_f w W b x A n cp hx h8 h
  exact ckTake_any x A n cp w hx hk hl hn hle hcm hr 67 (enters_of Try.func67 (by kernel_rfl) rfl) (by unfold rk; rw [if_neg h0, if_neg h1, if_neg h3, if_neg h6, if_neg h7, if_neg h8]) fun W b A n cp h => data_f w W b x A n cp hx hk (by omega) h
end Go.Proofs.Ytbliipjiilmbcaa
/-
  What taking leaves, in one form.
-/
namespace Go.Proofs.Ytbliipjiilmbcaa
open Go.RowKit Wire Tlv Chunk

/-- The error beside what was taken. -/
def terr (o : Option Ck) : Int := match o with
  | none => 50
  | some _ => 0
theorem TakeOut.one {w w' : World} {o : Option Ck} {e : Ending} (h : TakeOut w o e w') : ∃ s, e = .returned (.tuple #[.agg (cv (o.getD zero) s), .int .i64 (terr o)]) ∧ Ch w' (o.getD zero) s ∧ Below w.heap.size w w' := by
  cases o with
  | none => exact ⟨nol, h.1, (ch_none (W := w') 0 zero_ok rfl rfl rfl rfl rfl).ch, h.2⟩
  | some c =>
    obtain ⟨s, h1, h2, h3⟩ := h
    exact ⟨s, h1, h2.ch, h3⟩
theorem TakeOut.oneF {w w' : World} {o : Option Ck} {e : Ending} (h : TakeOut w o e w') : ∃ s, e = .returned (.tuple #[.agg (cv (o.getD zero) s), .int .i64 (terr o)]) ∧ ChF w.heap.size w' (o.getD zero) s ∧ Below w.heap.size w w' := by
  cases o with
  | none => exact ⟨nol, h.1, ch_none (W := w') w.heap.size zero_ok rfl rfl rfl rfl rfl, h.2⟩
  | some c => exact h
end Go.Proofs.Ytbliipjiilmbcaa
/-
  Plain words for ChunkBack: what is put is taken as it was, and what is taken is put as that thing.
-/
namespace Go.Proofs.Ytbliipjiilmbcaa
open Go.RowKit Wire Tlv Chunk

theorem nn_hit (pre : List Int) (sz a : Nat) (post v : List Int) (i : Nat) (hv : v = pre ++ (be sz a ++ post)) (hi : pre.length = i) (ha : a < 256 ^ sz) : nn v i sz = a := by
  subst hv hi
  unfold nn
  rw [if_pos (by simp [be_len]), List.drop_left, List.take_append_of_le_length (by rw [be_len]; exact Nat.le_refl _), List.take_of_length_le (by rw [be_len]; exact Nat.le_refl _)]
  exact nu_be sz a ha
theorem be_nn {v : List Int} (hv : Byt v) {i sz : Nat} (h : i + sz ≤ v.length) : be sz (nn v i sz) = (v.drop i).take sz := by
  unfold nn
  rw [if_pos h]
  exact be_nu sz _ (by simp; omega) (Byt.take (Byt.drop hv i) sz)
theorem drop_split {v : List Int} (i sz : Nat) : v.drop i = (v.drop i).take sz ++ v.drop (i + sz) := by
  rw [← List.drop_drop, List.take_append_drop]
/-- The bytes of gaps, and of numbers, told again. -/
theorem gb_gaps {v : List Int} (hv : Byt v) : ∀ (k : Nat), 12 + 4 * k ≤ v.length → gb (gaps_ v k) = (v.drop 12).take (4 * k)
  | 0, _ => by simp [gaps_, gb]
  | k + 1, h => by
    rw [gaps_snoc, gb_snoc, gb_gaps hv k (by omega), be_nn hv (by omega), be_nn hv (by omega)]
    have e : (v.drop 12).take (4 * (k + 1)) = (v.drop 12).take (4 * k) ++ ((v.drop 12).drop (4 * k)).take 4 := by
      rw [show 4 * (k + 1) = 4 * k + 4 by omega, List.take_add]
    rw [e, List.drop_drop]
    congr 1
    have e2 : (v.drop (12 + 4 * k)).take 4 = (v.drop (12 + 4 * k)).take 2 ++ ((v.drop (12 + 4 * k)).drop 2).take 2 := by
      rw [show 4 = 2 + 2 by omega, List.take_add]
    rw [e2, List.drop_drop, show 12 + 4 * k + 2 = 14 + 4 * k by omega]
theorem ub_dups {v : List Int} (hv : Byt v) (g : Nat) : ∀ (k : Nat), 12 + 4 * g + 4 * k ≤ v.length → ub (dups_ v g k) = (v.drop (12 + 4 * g)).take (4 * k)
  | 0, _ => by simp [dups_, ub]
  | k + 1, h => by
    rw [dups_snoc, ub_snoc, ub_dups hv g k (by omega), be_nn hv (by omega)]
    rw [show 4 * (k + 1) = 4 * k + 4 by omega, List.take_add, List.drop_drop]
theorem nil_of {α : Type} {l : List α} (h : l.length = 0) : l = [] := List.eq_nil_of_length_eq_zero h
/-- What is taken is put as that thing. -/
theorem val_taken {x : Tv} {d : Ck} (hx : x.ok) (h : take x = some d) (hk : ¬ (x.k = 1 ∨ x.k = 2)) : val d = x.v ∧ d.kd = x.k ∧ d.fl = x.f := by
  have h255 : x.k ≤ 255 := by
    refine Nat.le_of_not_lt fun hh => ?_
    unfold take at h
    rw [if_pos hh] at h
    cases h
  rw [take_mayO h255] at h
  obtain ⟨c, hr, hm⟩ := Option.bind_eq_some_iff.1 h
  have hcd : c = d := by
    by_cases hmay : may c
    · rw [mayO, if_pos hmay] at hm; exact Option.some.inj hm
    · rw [mayO, if_neg hmay] at hm; cases hm
  subst hcd
  clear hm h
  have hv := hx.2.2
  by_cases h0 : x.k = 0
  · rw [raw_piece h0] at hr
    split at hr
    · rename_i hl
      injection hr with hr
      subst hr
      refine ⟨?_, rfl, rfl⟩
      simp only [val, body, pars, nums, bare, zero, h0, cat, if_pos, List.map_nil, List.append_nil, List.flatMap_nil, List.append_assoc, if_neg (show ¬ (0 : Nat) = 2 by omega)]
      rw [be_nn hv (by omega), be_nn hv (by omega), be_nn hv (by omega), be_nn hv (by omega)]
      conv => rhs; rw [← List.drop_zero (l := x.v), drop_split 0 4, drop_split (0 + 4) 2, drop_split (0 + 4 + 2) 2, drop_split (0 + 4 + 2 + 2) 4]
    · cases hr
  by_cases h3 : x.k = 3
  · rw [raw_sack h3] at hr
    split at hr
    · rename_i hl
      injection hr with hr
      subst hr
      refine ⟨?_, rfl, rfl⟩
      simp only [val, body, pars, nums, bare, zero, h3, cat, if_pos, List.map_nil, List.append_nil, List.flatMap_nil, gaps_len, dups_len, if_neg (show ¬ (3 : Nat) = 2 by omega), if_neg (show ¬ (3 : Nat) = 0 by omega), if_neg (show ¬ ((3 : Nat) = 1 ∨ (3 : Nat) = 2) by omega)]
      rw [gb_gaps hv _ (by omega), ub_dups hv _ _ (by omega)]
      generalize hg : nn x.v 8 2 = g at hl ⊢
      generalize hd : nn x.v 10 2 = d at hl ⊢
      rw [be_nn hv (by omega), be_nn hv (by omega), ← hg, be_nn hv (by omega), ← hd, be_nn hv (by omega), hg, hd]
      conv => rhs; rw [← List.drop_zero (l := x.v), drop_split 0 4, drop_split (0 + 4) 4, drop_split (0 + 4 + 4) 2, drop_split (0 + 4 + 4 + 2) 2, drop_split (0 + 4 + 4 + 2 + 2) (4 * g), drop_split (0 + 4 + 4 + 2 + 2 + 4 * g) (4 * d), List.drop_of_length_le (show x.v.length ≤ 0 + 4 + 4 + 2 + 2 + 4 * g + 4 * d by omega), List.append_nil]
    · cases hr
  by_cases h6 : x.k = 6 ∨ x.k = 9
  · rw [raw_cause h6] at hr
    split at hr
    · rename_i hl
      injection hr with hr
      subst hr
      refine ⟨?_, rfl, rfl⟩
      have hn : ∀ c : Ck, c.kd = x.k → c.ad = [] → c.da = [] → val c = cat false (c.ca.map (fun y => ⟨y.1, 0, y.2⟩)) := fun c h1 ha hd => by
        unfold val body pars nums
        rw [h1, ha, hd, if_neg h0, if_neg hk, if_neg h3, if_neg (by omega), if_neg (by omega), if_neg (by omega)]
        simp
      have h2 := cat_tl x.v.length x.v (Nat.le_refl _) hv hl
      rw [hn _ rfl rfl rfl]
      show cat false (((tl false x.v).1.map (fun y => (y.k, y.v))).map (fun y => (⟨y.1, 0, y.2⟩ : Tv))) = _
      rw [List.map_map]
      conv => rhs; rw [← h2.1]
      congr 1
      conv => rhs; rw [← List.map_id (tl false x.v).1]
      refine List.map_congr_left fun y hy => ?_
      have hf : y.f = 0 := by simpa [fit] using (h2.2 y hy).2.1
      obtain ⟨yk, yf, yv⟩ := y
      simp only at hf
      subst hf
      rfl
    · cases hr
  have hn : ∀ c : Ck, c.kd = x.k → x.k ≠ 7 → c.ad = [] → c.ca = [] → val c = c.da := fun c h1 h7 ha hc => by
    unfold val body pars nums
    rw [h1, ha, hc, if_neg h0, if_neg hk, if_neg h3, if_neg h7, if_neg (by omega), if_neg (by omega)]
    simp [cat]
  by_cases h7 : x.k = 7
  · rw [raw_shut h7] at hr
    split at hr
    · rename_i hl
      injection hr with hr
      subst hr
      refine ⟨?_, rfl, rfl⟩
      simp only [val, body, pars, nums, bare, zero, h7, cat, if_pos, List.map_nil, List.append_nil, List.flatMap_nil, if_neg (show ¬ (7 : Nat) = 2 by omega), if_neg (show ¬ (7 : Nat) = 0 by omega), if_neg (show ¬ (7 : Nat) = 3 by omega), if_neg (show ¬ ((7 : Nat) = 1 ∨ (7 : Nat) = 2) by omega)]
      rw [be_nn hv (by omega), List.drop_zero, List.take_of_length_le (by omega)]
    · cases hr
  by_cases h8 : x.k = 8 ∨ x.k = 11 ∨ x.k = 14
  · rw [raw_none h8] at hr
    split at hr
    · rename_i hl
      injection hr with hr
      subst hr
      refine ⟨?_, rfl, rfl⟩
      rw [hn _ rfl h7 rfl rfl]
      exact (nil_of hl).symm
    · cases hr
  rw [raw_data (by omega)] at hr
  injection hr with hr
  subst hr
  exact ⟨hn _ rfl h7 rfl rfl, rfl, rfl⟩
/-- A thing is no longer than the bytes that it was told of. -/
theorem tl_in {ch : Bool} : ∀ (m : Nat) (b : List Int), b.length ≤ m → Byt b → ∀ x ∈ (tl ch b).1, x.v.length ≤ b.length
  | 0, b, h, _, x, hx => by
    rw [List.length_eq_zero_iff.1 (Nat.le_zero.1 h), tl_nil] at hx
    cases hx
  | m + 1, b, h, hb, x, hx => by
    by_cases h0 : b.length = 0
    · rw [List.length_eq_zero_iff.1 h0, tl_nil] at hx
      cases hx
    cases ht : t1 ch b with
    | none =>
      rw [tl_none h0 ht] at hx
      cases hx
    | some p =>
      obtain ⟨y, s⟩ := p
      rw [tl_some ht] at hx
      have h1 := t1_lt ht
      rcases List.mem_cons.1 hx with rfl | hx
      · have h2 := (tb_t1 hb ht).2.2.2
        have h3 := tb_len ch x
        rw [h2] at h3
        have := whl_le (4 + x.v.length)
        simp at h3
        omega
      · have := tl_in m (b.drop s) (by simp; omega) (Byt.drop hb s) x hx
        simp at this
        omega
theorem prr_keeps : ∀ (l : List (Tv × Int)) (c d : Ck) (B : Nat), prr c l = some d → (∀ x ∈ l, x.2 = 0 → x.1.v.length ≤ B) → c.da.length ≤ B → d = { c with ad := d.ad, da := d.da } ∧ d.da.length ≤ B
  | [], c, d, B, h, _, hc => by
    rw [prr] at h
    injection h with h
    subst h
    exact ⟨rfl, hc⟩
  | (x, e) :: l, c, d, B, h, hB, hc => by
    rw [prr] at h
    split at h
    · cases h
    rename_i he
    have ih := fun c' h hc => prr_keeps l c' d B h (fun y hy => hB y (List.mem_cons_of_mem _ hy)) hc
    split at h
    · split at h
      · cases h
      · obtain ⟨h1, h2⟩ := ih _ h hc
        exact ⟨h1, h2⟩
    split at h
    · split at h
      · cases h
      · obtain ⟨h1, h2⟩ := ih _ h (hB (x, e) List.mem_cons_self (by simpa using he))
        exact ⟨h1, h2⟩
    split at h
    · injection h with h
      subst h
      exact ⟨rfl, hc⟩
    · exact ih _ h hc
theorem val_side {x : Tv} {d : Ck} (hx : x.ok) (h : take x = some d) (hk : x.k = 1 ∨ x.k = 2) : (val d).length ≤ x.v.length + 100 ∧ d.kd = x.k := by
  rw [take_mayO (by omega), raw_side hk] at h
  split at h
  · obtain ⟨c, hr, hm⟩ := Option.bind_eq_some_iff.1 h
    have hcd : may c ∧ c = d := by
      by_cases hmay : may c
      · rw [mayO, if_pos hmay] at hm; exact ⟨hmay, Option.some.inj hm⟩
      · rw [mayO, if_neg hmay] at hm; cases hm
    obtain ⟨hmay, rfl⟩ := hcd
    obtain ⟨h1, h2⟩ := prr_keeps _ _ c x.v.length hr (fun y hy h0 => by
      unfold ev at hy
      rcases List.mem_append.1 hy with hy | hy
      · obtain ⟨z, hz, rfl⟩ := List.mem_map.1 hy
        have := tl_in _ _ (Nat.le_refl _) (Byt.drop hx.2.2 16) z hz
        simp at this ⊢
        omega
      · split at hy
        · cases hy
        · simp at hy
          subst hy
          cases h0) (Nat.zero_le _)
    have hkd : c.kd = x.k := by rw [h1]; rfl
    have hca : c.ca = [] := by rw [h1]; rfl
    refine ⟨?_, hkd⟩
    have h3 := hmay.1.ad3
    unfold val body
    have hn : (nums c).length = 16 := by
      unfold nums
      rw [hkd, if_neg (by omega), if_pos hk]
      simp [be_len]
    have hp : (cat false (pars c)).length ≤ 40 + (if c.kd = 2 then c.da.length else 0) := by
      unfold pars cat
      rw [hca]
      simp only [List.map_nil, List.append_nil, List.flatMap_append, List.length_append]
      have e1 : ∀ l : List Nat, ((l.map (fun a => (⟨5, 0, be 4 a⟩ : Tv))).flatMap (tb false)).length = 8 * l.length := fun l => by
        induction l with
        | nil => rfl
        | cons a l ih =>
          simp only [List.map_cons, List.flatMap_cons, List.length_append, ih, tb_len, be_len, List.length_cons, whl]
          omega
      rw [e1]
      split
      · simp only [List.flatMap_cons, List.flatMap_nil, List.append_nil, tb_len]
        have := whl_le (4 + c.da.length)
        omega
      · simp; omega
    rw [List.length_append, List.length_append, hn]
    split at hp
    · rename_i h22
      rw [if_pos h22]
      simp; omega
    · rename_i h22
      rw [if_neg h22]
      have : c.da = [] := by
        have := hmay.1.da.resolve_left (by unfold hDa; omega)
        exact nil_of this
      rw [this]
      simp; omega
  · cases h
end Go.Proofs.Ytbliipjiilmbcaa
/-
  Plain words for ChunkBack: what is put is taken as it was.
-/
namespace Go.Proofs.Ytbliipjiilmbcaa
open Go.RowKit Wire Tlv Chunk

theorem nn_first (sz a : Nat) (post : List Int) (ha : a < 256 ^ sz) : nn (be sz a ++ post) 0 sz = a := nn_hit [] sz a post _ 0 rfl rfl ha
theorem prr_ads : ∀ (l : List Nat) (c0 : Ck) (t : List (Tv × Int)), (∀ a ∈ l, a < 4294967296) → c0.ad.length + l.length ≤ 3 → prr c0 ((l.map fun a => ((⟨5, 0, be 4 a⟩ : Tv), (0 : Int))) ++ t) = prr { c0 with ad := c0.ad ++ l } t
  | [], c0, t, _, _ => by simp
  | a :: l, c0, t, h, h3 => by
    have h1 : c0.ad.length ≠ 3 := by simp at h3; omega
    rw [List.map_cons, List.cons_append, prr, if_neg (by simp), if_pos rfl, if_neg (by simp [be_len, h1])]
    rw [show nu (be 4 a) = a from nu_be 4 a (h a List.mem_cons_self)]
    rw [prr_ads l { c0 with ad := c0.ad ++ [a] } t (fun b hb => h b (List.mem_cons_of_mem _ hb)) (by simp at h3 ⊢; omega)]
    simp
theorem cat_mem {xs : List Tv} {x : Tv} (h : x ∈ xs) : x.v.length ≤ (cat false xs).length := by
  induction xs with
  | nil => cases h
  | cons y xs ih =>
    simp only [cat, List.flatMap_cons, List.length_append, tb_len]
    rcases List.mem_cons.1 h with rfl | h
    · have := whl_le (4 + x.v.length)
      omega
    · have := ih h
      simp only [cat] at this
      omega
theorem pars_fit {c : Ck} (hok : c.ok) (hl : (val c).length ≤ 65531) : ∀ x ∈ pars c, x.ok ∧ fit false x ∧ x.v.length ≤ 65531 := fun x hx => by
  have h1 := pars_ok hok x hx
  have h2 := cat_mem hx
  unfold val at hl
  rw [List.length_append] at hl
  exact ⟨h1.1, h1.2, by omega⟩
theorem gaps_back (l : List (Nat × Nat)) (pre post : List Int) (hp : pre.length = 12) (h : ∀ g ∈ l, g.1 < 65536 ∧ g.2 < 65536) : gaps_ (pre ++ (gb l ++ post)) l.length = l := by
  refine List.ext_getElem (by simp [gaps_]) fun i h1 h2 => ?_
  simp only [gaps_, List.getElem_map, List.getElem_range]
  have hs : l = l.take i ++ l[i] :: l.drop (i + 1) := by rw [List.getElem_cons_drop, List.take_append_drop]
  have hg := h l[i] (List.getElem_mem h2)
  have e : gb l = gb (l.take i) ++ (be 2 l[i].1 ++ (be 2 l[i].2 ++ gb (l.drop (i + 1)))) := by
    rw [show gb l = gb (l.take i ++ l[i] :: l.drop (i + 1)) from congrArg gb hs]
    simp only [gb, List.flatMap_append, List.flatMap_cons, List.append_assoc]
  have hl := gb_len (l.take i)
  simp at hl
  refine Prod.ext ?_ ?_
  · exact nn_hit (pre ++ gb (l.take i)) 2 _ (be 2 l[i].2 ++ gb (l.drop (i + 1)) ++ post) _ _ (by rw [e]; simp) (by rw [List.length_append, hl, hp]; omega) hg.1
  · exact nn_hit (pre ++ gb (l.take i) ++ be 2 l[i].1) 2 _ (gb (l.drop (i + 1)) ++ post) _ _ (by rw [e]; simp) (by rw [List.length_append, List.length_append, hl, hp, be_len]; omega) hg.2
theorem dups_back (l : List Nat) (g : Nat) (pre : List Int) (hp : pre.length = 12 + 4 * g) (h : ∀ a ∈ l, a < 4294967296) : dups_ (pre ++ ub l) g l.length = l := by
  refine List.ext_getElem (by simp [dups_]) fun i h1 h2 => ?_
  simp only [dups_, List.getElem_map, List.getElem_range]
  have hs : l = l.take i ++ l[i] :: l.drop (i + 1) := by rw [List.getElem_cons_drop, List.take_append_drop]
  have e : ub l = ub (l.take i) ++ (be 4 l[i] ++ ub (l.drop (i + 1))) := by
    rw [show ub l = ub (l.take i ++ l[i] :: l.drop (i + 1)) from congrArg ub hs]
    simp only [ub, List.flatMap_append, List.flatMap_cons]
  have hl := ub_len (l.take i)
  simp at hl
  exact nn_hit (pre ++ ub (l.take i)) 4 _ (ub (l.drop (i + 1))) _ _ (by rw [e]; simp) (by rw [List.length_append, hl, hp]; omega) (h l[i] (List.getElem_mem h2))
theorem raw_val {c : Ck} (hok : c.ok) (hm : may c) (hl : (val c).length ≤ 65531) : raw ⟨c.kd, c.fl, val c⟩ = some c := by
  obtain ⟨F, hap⟩ := hm
  have hpf := pars_fit hok hl
  have hb := hok
  obtain ⟨kd, fl, tag, rwn, tsn, out, inn, sid, ssn, ppid, da, ad, ga, du, ca⟩ := c
  obtain ⟨f1, f2, f3, f4, f5, f6, f7, f8, f9, f10, f11, f12⟩ := F
  simp only [hTsn, hRw, hDa, hPc, hIn, hGp, hCa] at f2 f3 f4 f5 f6 f7 f8 f9 f10 f11 f12
  by_cases h0 : kd = 0
  · subst h0
    obtain rfl : rwn = 0 := by omega
    obtain ⟨rfl, rfl, rfl, h6⟩ : tag = 0 ∧ out = 0 ∧ inn = 0 ∧ ad.length = 0 := by omega
    have h7 : ga.length = 0 ∧ du.length = 0 := by omega
    have h8 : ca.length = 0 := by omega
    obtain rfl := nil_of h6
    obtain rfl := nil_of h7.1
    obtain rfl := nil_of h7.2
    obtain rfl := nil_of h8
    have hd : da.length ≠ 0 := f12 (.inl rfl)
    have hv : val ⟨0, fl, 0, 0, tsn, 0, 0, sid, ssn, ppid, da, [], [], [], []⟩ = be 4 tsn ++ (be 2 sid ++ (be 2 ssn ++ (be 4 ppid ++ da))) := by
      simp [val, body, pars, nums, cat]
    rw [raw_piece rfl]
    simp only
    rw [hv, if_pos (by simp [be_len]; omega)]
    rw [nn_first 4 tsn _ hb.tsn, nn_hit (be 4 tsn) 2 sid (be 2 ssn ++ (be 4 ppid ++ da)) _ 4 rfl (be_len _ _) hb.sid,
      nn_hit (be 4 tsn ++ be 2 sid) 2 ssn (be 4 ppid ++ da) _ 6 (by simp) (by simp [be_len]) hb.ssn, nn_hit (be 4 tsn ++ be 2 sid ++ be 2 ssn) 4 ppid da _ 8 (by simp) (by simp [be_len]) hb.ppid]
    have e : (be 4 tsn ++ (be 2 sid ++ (be 2 ssn ++ (be 4 ppid ++ da)))).drop 12 = da := by
      rw [show be 4 tsn ++ (be 2 sid ++ (be 2 ssn ++ (be 4 ppid ++ da))) = (be 4 tsn ++ (be 2 sid ++ (be 2 ssn ++ be 4 ppid))) ++ da by simp]
      exact List.drop_left' (by simp [be_len])
    rw [e]
    rfl
  by_cases h12 : kd = 1 ∨ kd = 2
  · obtain ⟨rfl, rfl, rfl⟩ : sid = 0 ∧ ssn = 0 ∧ ppid = 0 := by omega
    have h7 : ga.length = 0 ∧ du.length = 0 := by omega
    have h8 : ca.length = 0 := by omega
    obtain rfl := nil_of h7.1
    obtain rfl := nil_of h7.2
    obtain rfl := nil_of h8
    have hv : val ⟨kd, fl, tag, rwn, tsn, out, inn, 0, 0, 0, da, ad, [], [], []⟩ = be 4 tag ++ (be 4 rwn ++ (be 2 out ++ (be 2 inn ++ (be 4 tsn ++ cat false (pars ⟨kd, fl, tag, rwn, tsn, out, inn, 0, 0, 0, da, ad, [], [], []⟩))))) := by
      have hbd : body ⟨kd, fl, tag, rwn, tsn, out, inn, 0, 0, 0, da, ad, [], [], []⟩ = be 4 tag ++ (be 4 rwn ++ (be 2 out ++ (be 2 inn ++ be 4 tsn))) := by
        unfold body nums
        simp only
        rw [if_neg h0, if_pos h12]
        split
        · simp
        · have : da.length = 0 := by omega
          obtain rfl := nil_of this
          simp
      unfold val
      rw [hbd]
      simp
    generalize hP : pars ⟨kd, fl, tag, rwn, tsn, out, inn, 0, 0, 0, da, ad, [], [], []⟩ = P at hv hpf
    rw [raw_side h12]
    simp only
    rw [hv, if_pos (by simp [be_len]; omega)]
    rw [nn_first 4 tag _ hb.tag, nn_hit (be 4 tag) 4 rwn (be 2 out ++ (be 2 inn ++ (be 4 tsn ++ cat false P))) _ 4 rfl (be_len _ _) hb.rw,
      nn_hit (be 4 tag ++ be 4 rwn) 2 out (be 2 inn ++ (be 4 tsn ++ cat false P)) _ 8 (by simp) (by simp [be_len]) hb.out, nn_hit (be 4 tag ++ be 4 rwn ++ be 2 out) 2 inn (be 4 tsn ++ cat false P) _ 10 (by simp) (by simp [be_len]) hb.inn,
      nn_hit (be 4 tag ++ be 4 rwn ++ be 2 out ++ be 2 inn) 4 tsn (cat false P) _ 12 (by simp) (by simp [be_len]) hb.tsn]
    have e : (be 4 tag ++ (be 4 rwn ++ (be 2 out ++ (be 2 inn ++ (be 4 tsn ++ cat false P))))).drop 16 = cat false P := by
      rw [show be 4 tag ++ (be 4 rwn ++ (be 2 out ++ (be 2 inn ++ (be 4 tsn ++ cat false P)))) = (be 4 tag ++ (be 4 rwn ++ (be 2 out ++ (be 2 inn ++ be 4 tsn)))) ++ cat false P by simp]
      exact List.drop_left' (by simp [be_len])
    rw [e]
    have e2 := ev_cat (ch := false) [] hpf
    rw [List.append_nil, ev_nil, List.append_nil] at e2
    rw [e2, ← hP]
    unfold pars
    simp only [List.map_nil, List.append_nil, List.map_append, List.map_map]
    have ha := prr_ads ad { bare ⟨kd, fl, be 4 tag ++ (be 4 rwn ++ (be 2 out ++ (be 2 inn ++ (be 4 tsn ++ cat false P))))⟩ with tag := tag, rw := rwn, out := out, inn := inn, tsn := tsn } ((if kd = 2 then [(⟨7, 0, da⟩ : Tv)] else []).map (fun x => (x, (0 : Int)))) hb.ad (by simpa [bare, zero] using f9)
    refine Eq.trans ?_ (ha.trans ?_)
    · rfl
    · by_cases h2 : kd = 2
      · subst h2
        have hd : da ≠ [] := fun h => by have := f12 (.inr rfl); rw [h] at this; exact this rfl
        rw [if_pos rfl]
        simp only [List.map_cons, List.map_nil]
        rw [prr, if_neg (by simp), if_neg (by simp), if_pos rfl, if_neg (by simp [bare, zero, hd]), prr]
        simp [bare, zero]
      · rw [if_neg h2]
        obtain rfl := nil_of (show da.length = 0 by omega)
        simp only [List.map_nil]
        rw [prr]
        simp [bare, zero]
  by_cases h3 : kd = 3
  · subst h3
    obtain ⟨rfl, rfl, rfl⟩ : sid = 0 ∧ ssn = 0 ∧ ppid = 0 := by omega
    obtain ⟨rfl, rfl, rfl, h6⟩ : tag = 0 ∧ out = 0 ∧ inn = 0 ∧ ad.length = 0 := by omega
    obtain rfl := nil_of h6
    obtain rfl := nil_of (show ca.length = 0 by omega)
    obtain rfl := nil_of (show da.length = 0 by omega)
    have hv : val ⟨3, fl, 0, rwn, tsn, 0, 0, 0, 0, 0, [], [], ga, du, []⟩ = be 4 tsn ++ (be 4 rwn ++ (be 2 ga.length ++ (be 2 du.length ++ (gb ga ++ ub du)))) := by
      simp [val, body, pars, nums, cat]
    have h8 : nn (val ⟨3, fl, 0, rwn, tsn, 0, 0, 0, 0, 0, [], [], ga, du, []⟩) 8 2 = ga.length := nn_hit (be 4 tsn ++ be 4 rwn) 2 _ (be 2 du.length ++ (gb ga ++ ub du)) _ 8 (by rw [hv]; simp) (by simp [be_len]) (by omega)
    have h10 : nn (val ⟨3, fl, 0, rwn, tsn, 0, 0, 0, 0, 0, [], [], ga, du, []⟩) 10 2 = du.length := nn_hit (be 4 tsn ++ be 4 rwn ++ be 2 ga.length) 2 _ (gb ga ++ ub du) _ 10 (by rw [hv]; simp) (by simp [be_len]) (by omega)
    rw [raw_sack rfl]
    simp only
    rw [h8, h10, if_pos (by rw [hv]; simp [be_len, gb_len, ub_len]; omega)]
    have g1 : gaps_ (val ⟨3, fl, 0, rwn, tsn, 0, 0, 0, 0, 0, [], [], ga, du, []⟩) ga.length = ga := by
      rw [hv, show be 4 tsn ++ (be 4 rwn ++ (be 2 ga.length ++ (be 2 du.length ++ (gb ga ++ ub du)))) = (be 4 tsn ++ (be 4 rwn ++ (be 2 ga.length ++ be 2 du.length))) ++ (gb ga ++ ub du) by simp]
      exact gaps_back ga _ _ (by simp [be_len]) hb.ga
    have g2 : dups_ (val ⟨3, fl, 0, rwn, tsn, 0, 0, 0, 0, 0, [], [], ga, du, []⟩) ga.length du.length = du := by
      rw [hv, show be 4 tsn ++ (be 4 rwn ++ (be 2 ga.length ++ (be 2 du.length ++ (gb ga ++ ub du)))) = (be 4 tsn ++ (be 4 rwn ++ (be 2 ga.length ++ (be 2 du.length ++ gb ga)))) ++ ub du by simp]
      exact dups_back du _ _ (by simp [be_len, gb_len]; omega) hb.du
    rw [g1, g2, nn_hit [] 4 tsn _ _ 0 hv rfl hb.tsn, nn_hit (be 4 tsn) 4 rwn _ _ 4 hv (be_len _ _) hb.rw]
    rfl
  obtain rfl : rwn = 0 := by omega
  obtain ⟨rfl, rfl, rfl⟩ : sid = 0 ∧ ssn = 0 ∧ ppid = 0 := by omega
  obtain ⟨rfl, rfl, rfl, h6⟩ : tag = 0 ∧ out = 0 ∧ inn = 0 ∧ ad.length = 0 := by omega
  obtain rfl := nil_of h6
  obtain ⟨h71, h72⟩ : ga.length = 0 ∧ du.length = 0 := by omega
  obtain rfl := nil_of h71
  obtain rfl := nil_of h72
  by_cases h6 : kd = 6 ∨ kd = 9
  · obtain rfl : tsn = 0 := by omega
    obtain rfl := nil_of (show da.length = 0 by omega)
    have hv : val ⟨kd, fl, 0, 0, 0, 0, 0, 0, 0, 0, [], [], [], [], ca⟩ = cat false (pars ⟨kd, fl, 0, 0, 0, 0, 0, 0, 0, 0, [], [], [], [], ca⟩) := by
      unfold val body nums
      simp only
      rw [if_neg h0, if_neg h12, if_neg h3, if_neg (by omega), if_neg (by omega)]
      simp
    have hp : pars ⟨kd, fl, 0, 0, 0, 0, 0, 0, 0, 0, [], [], [], [], ca⟩ = ca.map (fun x => ⟨x.1, 0, x.2⟩) := by
      unfold pars
      simp only
      rw [if_neg (by omega)]
      simp
    have ht := tl_cat (ch := false) [] hpf
    rw [List.append_nil, tl_nil, List.append_nil] at ht
    rw [raw_cause h6]
    simp only
    rw [hv, ht, if_pos rfl, hp]
    simp [bare, zero, Function.comp_def]
  obtain rfl := nil_of (show ca.length = 0 by omega)
  have hv : ∀ d, val ⟨kd, fl, 0, 0, tsn, 0, 0, 0, 0, 0, d, [], [], [], []⟩ = (if kd = 7 then be 4 tsn else []) ++ d := fun d => by
    have h2 : ¬ kd = 2 := fun h => h12 (.inr h)
    unfold val body nums pars
    simp only
    rw [if_neg h0, if_neg h12, if_neg h3, if_neg h2, if_neg h2]
    simp [cat]
  by_cases h7 : kd = 7
  · subst h7
    obtain rfl := nil_of (show da.length = 0 by omega)
    rw [raw_shut rfl]
    simp only
    rw [hv, if_pos rfl, List.append_nil, if_pos (be_len _ _), nn_hit [] 4 tsn [] (be 4 tsn) 0 (by simp) rfl hb.tsn]
    rfl
  obtain rfl : tsn = 0 := by omega
  by_cases h8 : kd = 8 ∨ kd = 11 ∨ kd = 14
  · obtain rfl := nil_of (show da.length = 0 by omega)
    rw [raw_none h8]
    simp only
    rw [hv, if_neg h7]
    rfl
  rw [raw_data (by simp only; omega)]
  simp only
  rw [hv, if_neg h7]
  rfl
theorem take_put {c : Ck} (hok : c.ok) (hm : may c) (hl : (val c).length ≤ 65531) : take ⟨c.kd, c.fl, val c⟩ = some c := by
  rw [take_mayO (by have := hok.kd; show c.kd ≤ 255; omega), raw_val hok hm hl]
  exact (by show mayO c = some c; unfold mayO; rw [if_pos hm])
end Go.Proofs.Ytbliipjiilmbcaa
/-
  Words for the walks of ChunkBack and ChunkParams.
-/
namespace Go.Proofs.Ytbliipjiilmbcaa
open Go.RowKit Wire Tlv Chunk

/-- The blocks of the chunk and of the thing that were handed in. -/
def CB (w : World) (cs xv : Array Value) (W : World) : Prop := Bk W w.heap.size cs 32 ∧ Bk W (w.heap.size + 1) xv 25 ∧ Below w.heap.size w W
theorem CB.new (w : World) (cs xv : Array Value) : CB w cs xv ((w.alloc (.cells cs 32)).alloc (.cells xv 25)) := by
  refine ⟨(Bk.new w cs _).alloc _, ?_, ((Below.refl _ _).alloc (Nat.le_refl _) _).alloc (by simp) _⟩
  have := Bk.new (w.alloc (.cells cs 32)) xv 25
  rw [World.size_alloc] at this
  exact this
theorem CB.next {w W W' : World} {cs xv : Array Value} (h : CB w cs xv W) (hb : Below W.heap.size W W') : CB w cs xv W' := ⟨h.1.next hb, h.2.1.next hb, bnext' h.2.2 hb⟩
theorem tlist_tb {y : Tv} (hy : y.ok) (hf : fit true y) (hl : y.v.length ≤ 65531) : tlist true (tb true y) = ([y], 0) := by
  have h := tl_cat (ch := true) (xs := [y]) [] (fun x hx => by
    simp at hx
    subst hx
    exact ⟨hy, hf, hl⟩)
  simp only [cat, List.flatMap_cons, List.flatMap_nil, List.append_nil, tl_nil] at h
  unfold tlist
  rw [h]
  rfl
theorem one_of {qs : List Q} {y : Tv} (h : qs.map (·.1) = [y]) : ∃ u, qs = [(y, u)] := by
  match qs, h with
  | [(z, u)], h =>
    simp at h
    exact ⟨u, by rw [h]⟩
theorem ckSame_lit (c : Ck) (s s' : Ls) (w : World) (h : Ch w c s) (h' : Ch w c s') : Calls Try.prog 14 #[.agg #[.int .u8 (c.kd : Int), .int .u8 (c.fl : Int), .int .u32 (c.tag : Int), .int .u32 (c.rw : Int), .int .u32 (c.tsn : Int), .int .u16 (c.out : Int), .int .u16 (c.inn : Int), .int .u16 (c.sid : Int), .int .u16 (c.ssn : Int), .int .u32 (c.ppid : Int), .slice s.dA s.dn s.dc, .slice s.aA s.an s.ac, .slice s.gA s.gn s.gc, .slice s.uA s.un s.uc, .slice s.cA s.cn s.cc], .agg #[.int .u8 (c.kd : Int), .int .u8 (c.fl : Int), .int .u32 (c.tag : Int), .int .u32 (c.rw : Int), .int .u32 (c.tsn : Int), .int .u16 (c.out : Int), .int .u16 (c.inn : Int), .int .u16 (c.sid : Int), .int .u16 (c.ssn : Int), .int .u32 (c.ppid : Int), .slice s'.dA s'.dn s'.dc, .slice s'.aA s'.an s'.ac, .slice s'.gA s'.gn s'.gc, .slice s'.uA s'.un s'.uc, .slice s'.cA s'.cn s'.cc]] w fun e w' => e = .returned (.bool true) ∧ Below w.heap.size w w' := ckSame_any c s s' w h h'
theorem ckSame_zl (c : Ck) (s : Ls) (w : World) (h : Ch w c s) (hc : c = zero) : Calls Try.prog 14 #[.agg #[.int .u8 (c.kd : Int), .int .u8 (c.fl : Int), .int .u32 (c.tag : Int), .int .u32 (c.rw : Int), .int .u32 (c.tsn : Int), .int .u16 (c.out : Int), .int .u16 (c.inn : Int), .int .u16 (c.sid : Int), .int .u16 (c.ssn : Int), .int .u32 (c.ppid : Int), .slice s.dA s.dn s.dc, .slice s.aA s.an s.ac, .slice s.gA s.gn s.gc, .slice s.uA s.un s.uc, .slice s.cA s.cn s.cc], .agg zlit] w fun e w' => e = .returned (.bool true) ∧ Below w.heap.size w w' := by
  subst hc
  exact ckSame_any zero s nol w h (ch_none (W := w) 0 zero_ok rfl rfl rfl rfl rfl).ch
theorem ckMay_cv (c : Ck) (s : Ls) (w : World) (h : Ch w c s) : Calls Try.prog 18 #[.agg (cv c s)] w fun e w' => e = .returned (.bool (mayB c)) ∧ Below w.heap.size w w' := ckMay_lit c s w h
theorem add_zero' (a : Addr) : a.add (0 * 3) = a := by
  unfold Addr.add
  split <;> simp_all
/-- What is asked of what was taken. -/
theorem taken_says {x : Tv} {d : Ck} (hx : x.ok) (hl : x.v.length ≤ 5000) (h : take x = some d) : may d ∧ cput d = (tb true ⟨d.kd, d.fl, val d⟩, 0) ∧ (d.kd ≠ 1 → d.kd ≠ 2 → tp true x = (tb true ⟨d.kd, d.fl, val d⟩, 0)) := by
  have h255 : x.k ≤ 255 := by
    refine Nat.le_of_not_lt fun hh => ?_
    unfold take at h
    rw [if_pos hh] at h
    cases h
  have hm : may d := by
    rw [take_mayO h255] at h
    obtain ⟨c, _, hm⟩ := Option.bind_eq_some_iff.1 h
    by_cases hmay : may c
    · rw [mayO, if_pos hmay] at hm; rw [← Option.some.inj hm]; exact hmay
    · rw [mayO, if_neg hmay] at hm; cases hm
  by_cases hk : x.k = 1 ∨ x.k = 2
  · have h1 := val_side hx h hk
    refine ⟨hm, cput_ok hm (by omega), fun h2 h3 => ?_⟩
    rw [h1.2] at h2 h3
    omega
  · obtain ⟨h1, h2, h3⟩ := val_taken hx h hk
    refine ⟨hm, cput_ok hm (by rw [h1]; omega), fun _ _ => ?_⟩
    rw [h1, h2, h3, tp_true (by omega), if_neg (by omega)]
end Go.Proofs.Ytbliipjiilmbcaa
/-
  Plain words for ChunkParams: a parameter that is not known, ahead of others and behind them.
-/
namespace Go.Proofs.Ytbliipjiilmbcaa
open Go.RowKit Wire Tlv Chunk

/-- The chunk without what its parameters tell. -/
def c0_ (c : Ck) : Ck := { c with ad := [], da := [] }
theorem val_sides {c : Ck} (hm : may c) (hk : c.kd = 1 ∨ c.kd = 2) : val c = nums c ++ cat false (pars c) ∧ (nums c).length = 16 := by
  have hn : (nums c).length = 16 := by
    unfold nums
    rw [if_neg (by omega), if_pos hk]
    simp [be_len]
  refine ⟨?_, hn⟩
  unfold val body
  split
  · simp
  · rename_i h2
    have : c.da = [] := nil_of (hm.1.da.resolve_left (by unfold hDa; omega))
    rw [this]
    simp
theorem cat_mod (xs : List Tv) : (cat false xs).length % 4 = 0 := by
  induction xs with
  | nil => rfl
  | cons x xs ih =>
    simp only [cat, List.flatMap_cons, List.length_append, tb_len] at ih ⊢
    have := whl_le (4 + x.v.length)
    omega
theorem raw_head {c : Ck} (hok : c.ok) (hm : may c) (hk : c.kd = 1 ∨ c.kd = 2) (T : List Int) : raw ⟨c.kd, c.fl, nums c ++ T⟩ = prr (c0_ c) (ev false T) := by
  obtain ⟨F, hap⟩ := hm
  have hb := hok
  obtain ⟨kd, fl, tag, rwn, tsn, out, inn, sid, ssn, ppid, da, ad, ga, du, ca⟩ := c
  obtain ⟨f1, f2, f3, f4, f5, f6, f7, f8, f9, f10, f11, f12⟩ := F
  simp only [hTsn, hRw, hDa, hPc, hIn, hGp, hCa] at f2 f3 f4 f5 f6 f7 f8 f9 f10 f11 f12 hk
  obtain ⟨rfl, rfl, rfl⟩ : sid = 0 ∧ ssn = 0 ∧ ppid = 0 := by omega
  have h7 : ga.length = 0 ∧ du.length = 0 := by omega
  have h8 : ca.length = 0 := by omega
  obtain rfl := nil_of h7.1
  obtain rfl := nil_of h7.2
  obtain rfl := nil_of h8
  have hv : nums ⟨kd, fl, tag, rwn, tsn, out, inn, 0, 0, 0, da, ad, [], [], []⟩ ++ T = be 4 tag ++ (be 4 rwn ++ (be 2 out ++ (be 2 inn ++ (be 4 tsn ++ T)))) := by
    unfold nums
    simp only
    rw [if_neg (by omega), if_pos hk]
    simp
  rw [raw_side hk]
  simp only
  rw [hv, if_pos (by simp [be_len]; omega)]
  rw [nn_first 4 tag _ hb.tag, nn_hit (be 4 tag) 4 rwn (be 2 out ++ (be 2 inn ++ (be 4 tsn ++ T))) _ 4 rfl (be_len _ _) hb.rw,
    nn_hit (be 4 tag ++ be 4 rwn) 2 out (be 2 inn ++ (be 4 tsn ++ T)) _ 8 (by simp) (by simp [be_len]) hb.out, nn_hit (be 4 tag ++ be 4 rwn ++ be 2 out) 2 inn (be 4 tsn ++ T) _ 10 (by simp) (by simp [be_len]) hb.inn,
    nn_hit (be 4 tag ++ be 4 rwn ++ be 2 out ++ be 2 inn) 4 tsn T _ 12 (by simp) (by simp [be_len]) hb.tsn]
  have e : (be 4 tag ++ (be 4 rwn ++ (be 2 out ++ (be 2 inn ++ (be 4 tsn ++ T))))).drop 16 = T := by
    rw [show be 4 tag ++ (be 4 rwn ++ (be 2 out ++ (be 2 inn ++ (be 4 tsn ++ T)))) = (be 4 tag ++ (be 4 rwn ++ (be 2 out ++ (be 2 inn ++ be 4 tsn)))) ++ T by simp]
    exact List.drop_left' (by simp [be_len])
  rw [e]
  rfl
theorem prr_pars {c : Ck} (hok : c.ok) (hm : may c) (hk : c.kd = 1 ∨ c.kd = 2) (t : List (Tv × Int)) : prr (c0_ c) ((pars c).map (fun x => (x, (0 : Int))) ++ t) = prr c t := by
  have hca : c.ca = [] := nil_of (hm.1.ca.resolve_left (by unfold hCa; omega))
  have h := prr_ads c.ad (c0_ c) ((if c.kd = 2 then [(⟨7, 0, c.da⟩ : Tv)] else []).map (fun x => (x, (0 : Int))) ++ t) hok.ad (by simpa [c0_] using hm.1.ad3)
  have e : (pars c).map (fun x => (x, (0 : Int))) ++ t = (c.ad.map fun a => ((⟨5, 0, be 4 a⟩ : Tv), (0 : Int))) ++ ((if c.kd = 2 then [(⟨7, 0, c.da⟩ : Tv)] else []).map (fun x => (x, (0 : Int))) ++ t) := by
    unfold pars
    rw [hca]
    simp [List.map_append, Function.comp_def]
  rw [e, h]
  by_cases h2 : c.kd = 2
  · have hd : c.da ≠ [] := fun hh => by have := hm.1.has (.inr h2); rw [hh] at this; exact this rfl
    rw [if_pos h2]
    simp only [List.map_cons, List.map_nil, List.cons_append, List.nil_append]
    rw [prr, if_neg (by simp), if_neg (by simp), if_pos rfl, if_neg (by simp [c0_, hd, h2])]
    simp [c0_]
  · have hd : c.da = [] := nil_of (hm.1.da.resolve_left (by unfold hDa; omega))
    rw [if_neg h2]
    simp only [List.map_nil, List.nil_append]
    congr 1
    obtain ⟨kd, fl, tag, rwn, tsn, out, inn, sid, ssn, ppid, da, ad, ga, du, ca⟩ := c
    simp only at hd
    subst hd
    simp [c0_]
theorem ev_more {q : Tv} (hq : q.ok) (hf : q.f = 0) (hl : q.v.length ≤ 65531) (T : List Int) : ev false (tb false q ++ T) = (q, 0) :: ev false T := by
  have h := ev_cat (ch := false) (xs := [q]) T (fun x hx => by
    simp at hx
    subst hx
    exact ⟨hq, by simpa [fit] using hf, hl⟩)
  simpa [cat] using h
theorem ev_pars {c : Ck} (hok : c.ok) (hl : (val c).length ≤ 65531) (T : List Int) : ev false (cat false (pars c) ++ T) = (pars c).map (fun x => (x, (0 : Int))) ++ ev false T := ev_cat (ch := false) T (pars_fit hok hl)
theorem mayO_c0 {c : Ck} (hm : may c) (hk : c.kd = 1 ∨ c.kd = 2) : mayO (c0_ c) = if c.kd = 2 then none else some (c0_ c) := by
  unfold mayO
  split
  · rename_i h
    rw [if_neg]
    intro h2
    have := h.1.has (.inr h2)
    exact this rfl
  · rename_i h
    split
    · rfl
    · rename_i h2
      refine absurd ?_ h
      obtain ⟨F, hap⟩ := hm
      refine ⟨{ F with da := .inr rfl, inn := .inl hk, ad3 := Nat.zero_le _, has := fun h3 => ?_ }, hap⟩
      have h3 : c.kd = 0 ∨ c.kd = 2 := h3
      omega
/-- What ChunkParams asks of what is taken. -/
theorem params_say {c : Ck} (hok : c.ok) (hm : may c) (hk : c.kd = 1 ∨ c.kd = 2) (hl : (val c).length ≤ 65531) {q : Tv} (hq : q.ok) (hf : q.f = 0) (hql : q.v.length ≤ 65531) (h5 : q.k ≠ 5) (h7 : q.k ≠ 7) (bh : List Int) :
    (¬ q.k < 32768 → take ⟨c.kd, c.fl, nums c ++ (tb false q ++ cat false (pars c))⟩ = some c) ∧
    (q.k < 32768 → take ⟨c.kd, c.fl, nums c ++ (tb false q ++ cat false (pars c))⟩ = if c.kd = 2 then none else some (c0_ c)) ∧
    (q.k < 32768 → take ⟨c.kd, c.fl, nums c ++ (cat false (pars c) ++ (tb false q ++ bh))⟩ = some c) := by
  have hk8 : c.kd ≤ 255 := by omega
  refine ⟨fun h => ?_, fun h => ?_, fun h => ?_⟩
  · rw [take_mayO hk8, raw_head hok hm hk, ev_more hq hf hql, prrHigh h5 h7 h]
    have e := ev_pars hok hl []
    rw [List.append_nil, ev_nil] at e
    rw [e, prr_pars hok hm hk]
    show Option.bind (prr c []) mayO = _
    rw [prr]
    exact (by show mayO c = some c; unfold mayO; rw [if_pos hm])
  · rw [take_mayO hk8, raw_head hok hm hk, ev_more hq hf hql, prrLow h5 h7 h]
    exact mayO_c0 hm hk
  · rw [take_mayO hk8, raw_head hok hm hk, ev_pars hok hl, ev_more hq hf hql, prr_pars hok hm hk, prrLow h5 h7 h]
    exact (by show mayO c = some c; unfold mayO; rw [if_pos hm])
end Go.Proofs.Ytbliipjiilmbcaa
