/-
  The reader of layer 5: cookie, as it reads a parameter's value.
-/
import Derived.Test.YtbliipjiilmbcaaYChunkRd6
import Derived.Test.YtbliipjiilmbcaaYP1c
import Derived.Test.YtbliipjiilmbcaaYChunkRMay
import Derived.BigRegion
namespace Go.Proofs.Ytbliipjiilmbcaa
open Go.RowKit Wire Tlv Chunk

theorem others_below {W W' : World} (h : Below W.heap.size W W') : KeepsOthers W W' := ⟨h.size, fun k _ hk _ => (h.block k (Array.getElem?_eq_some_iff.1 hk).1).trans hk⟩
/-- What cookie leaves. -/
def CoOut (w W0 : World) (b : Nat) (r : Rt) (s : Ls) (A : Option Addr) (n cap : Nat) (l : List Int) (m : Nat) (W : World) (e : Ending) (W' : World) : Prop := e = .returned (.tuple #[]) ∧ ∃ dA dc, Rr w b ⟨r.l, { r.c with da := l }, r.bad || decide (l = [] ∨ r.c.da ≠ [])⟩ (putD s dA m dc) A n cap W' ∧
  W'.ownsRow W0.heap.size 5 1 (.slice dA m dc) m (bs l) ∧ Ot W0 W' b ∧ (∀ v n xs, W.ownsRow W0.heap.size 27 1 v n xs → W'.ownsRow W0.heap.size 27 1 v n xs) ∧ KeepsOthers W W'
set_option maxRecDepth 100000 in
set_option maxHeartbeats 2000000 in
theorem cookie_r (w W0 W : World) (b : Nat) (r : Rt) (s : Ls) (A : Option Addr) (n cap : Nat) (l : List Int) (A2 : Option Addr) (m c2 : Nat) (h : Rr w b r s A n cap W) (hot : Ot W0 W b) (hlt : b < W0.heap.size)
    (hdn : r.c.da.length = s.dn) (hl : l.length = m) (hm : m ≤ 65531) (hr : W.ownsRow W0.heap.size 5 1 (.slice A2 m c2) m (bs l)) :
    Calls Try.prog 93 #[.pointer (some ⟨b, 0, none⟩), .slice A2 m c2] W (CoOut w W0 b r s A n cap l m W) := by
  have g16 := h.bk.r16
  have f16 := h.bk.frozen 16
  have g11 := h.bk.r11
  have HR := Lib.hid h
  have HOT := Lib.hid hot
  have HOW := Lib.hid hr
  have HL := Lib.hid hl
  have HD := Lib.hid hdn
  have HB := Lib.hid h.bk
  have HFIN : Hid (∀ v W1, v = (r.bad || decide (l = [] ∨ r.c.da ≠ [])) → W1 = W.setCell ⟨b, 16, none⟩ (.bool v) → Rr w b ⟨r.l, r.c, r.bad || decide (l = [] ∨ r.c.da ≠ [])⟩ s A n cap W1 ∧ Ot W0 W1 b ∧ W1.ownsRow W0.heap.size 5 1 (.slice A2 m c2) m (bs l) ∧
      (∀ v n xs, W.ownsRow W0.heap.size 27 1 v n xs → W1.ownsRow W0.heap.size 27 1 v n xs) ∧ KeepsOthers W W1) := Lib.hid fun v W1 hv e => by
    subst e
    have h1 := h.bad_ v
    rw [hv] at h1 ⊢
    exact ⟨h1, hot.set 16 _, owns_put hr hlt, fun _ _ _ h2 => owns_put h2 hlt, KeepsOthers.setCell _ _ _⟩
  have hd : l = [] ↔ m = 0 := by rw [← hl]; exact ⟨fun h => by rw [h]; rfl, fun h => List.eq_nil_of_length_eq_zero h⟩
  have hd2 : r.c.da = [] ↔ s.dn = 0 := by rw [← hdn]; exact ⟨fun h => by rw [h]; rfl, fun h => List.eq_nil_of_length_eq_zero h⟩
  have HE1 := Lib.hid hd
  have HE2 := Lib.hid hd2
  clear h hot hr hl hdn hd hd2
  have key : r.bad = true ∨ (r.bad = false ∧ m = 0) ∨ (r.bad = false ∧ m ≠ 0) := by
    cases r.bad
    · rcases Nat.eq_zero_or_pos m with h | h
      · exact .inr (.inl ⟨rfl, h⟩)
      · exact .inr (.inr ⟨rfl, by omega⟩)
    · exact .inl rfl
  go_enter Try.func93, Try.ntmps93
  rcases key with h1 | ⟨h1, h2⟩ | ⟨h1, h2⟩
  case' inl =>
    rw [h1] at g16
    replace HFIN := Lib.hid (HFIN.out true _ (by rw [h1]; rfl) rfl)
    clear h1
  case' inr.inl =>
    rw [h1] at g16
    replace HFIN := Lib.hid (HFIN.out true _ (by simp [HE1.out.2 h2]) rfl)
    have d2 : ((m : Int) == 0) = true := by simp; omega
    clear h1 h2
  case' inr.inr =>
    rw [h1] at g16
    replace HFIN := Lib.hid (HFIN.out (decide (0 < s.dn)) _ (by
      have e2 : l ≠ [] := fun e => h2 (HE1.out.1 e)
      have e3 := HE2.out
      rw [h1, Bool.false_or, Bool.eq_iff_iff]
      simp only [decide_eq_true_eq, ne_eq, e2, false_or, e3]
      omega) rfl)
    have d2 : ((m : Int) == 0) = false := by simp; omega
    clear h1 h2
  all_goals
    go_upto_region 1 with fail
    generalize World.setCell W _ _ = W1 at HFIN ⊢
    obtain ⟨hr1, ho1, hw1, hu1, hk1⟩ := HFIN.out
    have HO := Lib.hid (own_any A2 m c2 l W1 HL.out (by omega) (row_of_own hw1))
    have HR1 := Lib.hid hr1
    have HO1 := Lib.hid ho1
    have HU1 := Lib.hid hu1
    have HK1 := Lib.hid hk1
    have HSZ := Lib.hid ho1.size
    clear HFIN hr1 ho1 hw1 hu1 hk1 g16 f16 g11
    try clear d2
    go_wp2_with fail
    (with_reducible refine HO.out.mono ?_)
    rintro e W2 ⟨A1, c1, rfl, hoo⟩
    have hr2 := HR1.out.next hoo.2
    have g11' := hr2.bk.r11
    have f11 := hr2.bk.frozen 11
    have HF := Lib.hid (hr2.put 11 (.slice A1 m c1) { r.c with da := l } (rv_da _ _ _ _ _ _ l _ _ _))
    have HOT2 := Lib.hid ((HO1.out.trans (Ot.below b hoo.2)).set 11 (.slice A1 m c1))
    have HOB := Lib.hid (owns_put (i := 11) (u := .slice A1 m c1) (own_base hoo.1 HSZ.out) hlt)
    have HU2 : Hid (∀ v n xs, W.ownsRow W0.heap.size 27 1 v n xs → (W2.setCell ⟨b, 11, none⟩ (.slice A1 m c1)).ownsRow W0.heap.size 27 1 v n xs) := Lib.hid fun v n xs h => owns_put (own_below (HU1.out v n xs h) hoo.2) hlt
    have HK2 : Hid (KeepsOthers W (W2.setCell ⟨b, 11, none⟩ (.slice A1 m c1))) := Lib.hid ((HK1.out.trans (others_below hoo.2)).trans (KeepsOthers.setCell _ _ _))
    clear hr2 hoo
    go_wp2_with fail
    go_end0
    exact ⟨rfl, A1, c1, HF.out, HOB.out, HOT2.out, HU2.out, HK2.out⟩
end Go.Proofs.Ytbliipjiilmbcaa
/-
  The reader of layer 5: parameters, given what the function does that it hands them to.
-/
namespace Go.Proofs.Ytbliipjiilmbcaa
open Go.RowKit Wire Tlv Chunk Go.Shelf
attribute [local go_sem] Oper.semAt_some

/-- Reading goes over what is told. -/
def gone (step : Rt → Tv → Rt × Bool) : Rt → List (Tv × Int) → Rt
  | r, [] => r
  | r, (x, e) :: l => if e ≠ 0 then { r with bad := true } else if (step r x).2 = true then gone step (step r x).1 l else (step r x).1
theorem tl_short {ch : Bool} : ∀ (m : Nat) (b : List Int), b.length ≤ m → Byt b → ∀ x ∈ (tl ch b).1, x.v.length ≤ 65531
  | 0, b, h, _, x, hx => by
    rw [List.eq_nil_of_length_eq_zero (show b.length = 0 by omega), tl_nil] at hx
    simp at hx
  | m + 1, b, h, hb, x, hx => by
    by_cases h0 : b.length = 0
    · rw [List.eq_nil_of_length_eq_zero h0, tl_nil] at hx
      simp at hx
    cases ht : t1 ch b with
    | none => rw [tl_none h0 ht] at hx; simp at hx
    | some p =>
      obtain ⟨y, s⟩ := p
      rw [tl_some ht] at hx
      have hlt := t1_lt ht
      rcases List.mem_cons.1 hx with rfl | hx
      · exact (tb_t1 hb ht).2.2.1
      · exact tl_short m (b.drop s) (by simp; omega) (Byt.drop hb s) x hx
theorem ev_short {ch : Bool} {b : List Int} (hb : Byt b) {x : Tv × Int} (h : x ∈ ev ch b) : x.1.v.length ≤ 65531 := by
  unfold ev at h
  rcases List.mem_append.1 h with h | h
  · obtain ⟨y, hy, rfl⟩ := List.mem_map.1 h
    exact tl_short b.length b (Nat.le_refl _) hb y hy
  · split at h
    · simp at h
    · simp at h
      subst h
      simp [none_]
theorem Ot.calm {W0 W W' : World} {b B : Nat} (h : Ot W0 W b) (hB : W0.heap.size ≤ B) (hc : Calm B W W') : Ot W0 W' b :=
  ⟨hc.1.os.trans h.os, hc.1.tape.trans h.tape, hc.1.output.trans h.output, Nat.le_trans h.size hc.1.size, fun i hi hne => (hc.1.block i (Nat.lt_of_lt_of_le hi hB)).trans (h.block i hi hne)⟩
theorem Rr.calm {w W W' : World} {b B : Nat} {r : Rt} {s : Ls} {A : Option Addr} {n cap : Nat} (h : Rr w b r s A n cap W) (hB : w.heap.size ≤ B) (hc : Calm B W W') : Rr w b r s A n cap W' :=
  ⟨h.bk.calm hc, h.lo, h.bl.trans (hc.1.mono hB), h.row, h.len, h.le, h.cm, h.byt, h.sm⟩
theorem Bk.ot {W W' : World} {b p : Nat} {cs : Array Value} {t : TypeId} (h : Bk W p cs t) (k : Ot W W' b) (hne : p ≠ b) : Bk W' p cs t := (k.block p h.lt (fun e => hne (by injection e))).trans h
theorem Ot.kept {W0 W W' : World} {b lo : Nat} (h : Ot W0 W b) (k : Ot W0 W' b) (hs : W.heap.size ≤ W'.heap.size) (hb : b < lo) : Kept lo W0.heap.size W W' :=
  ⟨hs, fun i h1 h2 => (k.block i h2 (fun e => by injection e; omega)).trans (h.block i h2 (fun e => by injection e; omega)).symm⟩
/-- The reader while parameters are read. -/
def Pst (w W0 : World) (b : Nat) (X : World → Nat → Ck → Ls → World → Prop) (k : Nat) (r : Rt) (W : World) : Prop := ∃ s A n cap, Rr w b r s A n cap W ∧ Ot W0 W b ∧ X W0 k r.c s W
/-- Between two rounds; and behind the last one. -/
def Pi (w W0 : World) (b : Nat) (X : World → Nat → Ck → Ls → World → Prop) (step : Rt → Tv → Rt × Bool) (r : Rt) (pre : List Ev) (W : World) : Prop := ∃ r', Pst w W0 b X pre.length r' W ∧ ∀ t, gone step r (pre.map pl ++ t) = gone step r' t
def Px (w W0 : World) (b : Nat) (X : World → Nat → Ck → Ls → World → Prop) (step : Rt → Tv → Rt × Bool) (r : Rt) (pre : List Ev) (W : World) : Prop := ∃ r', Pst w W0 b X pre.length r' W ∧ ∀ t, gone step r (pre.map pl ++ t) = r'
/-- In the middle of a round. -/
def Pa (w W0 : World) (b : Nat) (X : World → Nat → Ck → Ls → World → Prop) (step : Rt → Tv → Rt × Bool) (r : Rt) (l : List Int) (f : Value) (p : Nat) (A : Option Addr) (n cap : Nat) (F : Value) (pre : List Ev) (x : Ev) (a : Act) (W : World) : Prop := ∃ Bx, Bk W Bx #[.int .u16 (x.1.1.k : Int), .int .u8 (x.1.1.f : Int), x.1.2] 25 ∧ Pi w W0 b X step r pre W ∧ Vev false l W0.heap.size pre x W ∧
  a = { tmps := #[.pointer (some ⟨b, 0, none⟩), f, .pointer (some ⟨p, 0, none⟩), .pointer (some ⟨p + 1, 0, none⟩), .pointer (some ⟨Bx, 0, none⟩), .int .i64 x.2, .pointer (some ⟨b, 0, none⟩), .pointer (some ⟨b, 0, none⟩), .pointer (some ⟨b, 0, none⟩), .slice A n cap, F,
    .agg #[.int .u16 (x.1.1.k : Int), .int .u8 (x.1.1.f : Int), x.1.2], .int .i64 x.2, undef, undef, undef, undef, undef, undef, undef, undef, undef, undef, undef, undef, undef, undef, undef, undef], defers := [] }
/-- What parameters leaves. -/
def POut (w W : World) (b : Nat) (X : World → Nat → Ck → Ls → World → Prop) (step : Rt → Tv → Rt × Bool) (r : Rt) (e : Ending) (W' : World) : Prop := e = .returned (.tuple #[]) ∧ ∃ W0 k s', Below W.heap.size W W0 ∧ k ≤ 20000 ∧ Rr w b ⟨[], (gone step r (ev false r.l)).c, (gone step r (ev false r.l)).bad⟩ s' none 0 0 W' ∧ Ot W W' b ∧ X W0 k (gone step r (ev false r.l)).c s' W'
section
variable (w W : World) (b : Nat) (r : Rt) (F : Nat) (cs : Array Value) (step : Rt → Tv → Rt × Bool) (X : World → Nat → Ck → Ls → World → Prop)
/-- What is asked of the function and of what is kept. -/
structure Asks : Prop where
  enters : ∀ args w, (callFunc F args).run Try.prog w = .ok (.enter F args) w
  calm : ∀ W0 k c s A B, Below W.heap.size W W0 → X W0 k c s A → Calm W0.heap.size A B → X W0 k c s B
  set_ : ∀ W0 k c s A i v, Below W.heap.size W W0 → X W0 k c s A → X W0 k c s (A.setCell ⟨b, i, none⟩ v)
  more : ∀ W0 k c s A, X W0 k c s A → X W0 (k + 1) c s A
  call : ∀ W0 k r' (q : Q) W1, Below W.heap.size W W0 → k ≤ 20000 → Pst w W0 b X k r' W1 → Vo W0.heap.size W1 q → q.1.v.length ≤ 65531 →
     Calls Try.prog F (#[.agg #[.int .u16 (q.1.k : Int), .int .u8 (q.1.f : Int), q.2]] ++ cs) W1 fun e W2 => e = .returned (.bool (step r' q.1).2) ∧ Pst w W0 b X (k + 1) (step r' q.1).1 W2 ∧ KeepsOthers W1 W2
end
set_option maxRecDepth 100000 in
set_option maxHeartbeats 2000000 in
theorem params_r (w W : World) (b : Nat) (r : Rt) (s : Ls) (A : Option Addr) (n cap : Nat) (h : Rr w b r s A n cap W) (F : Nat) (cs : Array Value) (step : Rt → Tv → Rt × Bool) (X : World → Nat → Ck → Ls → World → Prop)
    (hX0 : ∀ W0, Below W.heap.size W W0 → X W0 0 r.c s W0) (hA : Asks w W b F cs step X) :
    Calls Try.prog 90 #[.pointer (some ⟨b, 0, none⟩), .func (.func F) #[] cs] W (POut w W b X step r) := by
  have hbx : Below W.heap.size W ((W.alloc (.cells #[.pointer (some ⟨b, 0, none⟩)] 93)).alloc (.cells #[.func (.func F) #[] cs] 37)) := ((Below.refl _ _).alloc (Nat.le_refl _) _).alloc (by simp) _
  have HR1 := Lib.hid (h.next hbx)
  have HBX := Lib.hid hbx
  have hP : Bk ((W.alloc (.cells #[.pointer (some ⟨b, 0, none⟩)] 93)).alloc (.cells #[.func (.func F) #[] cs] 37)) W.heap.size #[.pointer (some ⟨b, 0, none⟩)] 93 := (Bk.new W _ _).alloc _
  have hQ : Bk ((W.alloc (.cells #[.pointer (some ⟨b, 0, none⟩)] 93)).alloc (.cells #[.func (.func F) #[] cs] 37)) (W.heap.size + 1) #[.func (.func F) #[] cs] 37 := by
    have := Bk.new (W.alloc (.cells #[.pointer (some ⟨b, 0, none⟩)] 93)) #[.func (.func F) #[] cs] 37
    rwa [World.size_alloc] at this
  have HP := Lib.hid hP
  have HQ := Lib.hid hQ
  have hbW := h.bk.lt
  have HX0 := Lib.hid hX0
  have HA := Lib.hid hA
  have HLO : Hid (w.heap.size ≤ W.heap.size) := Lib.hid h.bl.size
  clear h hbx hP hQ hX0 hA
  refine calls_marks Try.func90 rfl ?_
  simp only [Try.ntmps90, List.size_toArray, List.length_cons, List.length_nil, Nat.reduceAdd, Nat.reduceSub, Array.replicate_succ, Array.replicate_zero, List.push_toArray, List.append_toArray, List.nil_append, List.cons_append]
  go_upto_region 1 with fail
  generalize hWx : World.alloc (World.alloc W _) _ = Wx at HR1 HBX HP HQ ⊢
  have hsx : Wx.heap.size = W.heap.size + 1 + 1 := by rw [← hWx, World.size_alloc, World.size_alloc]
  clear hWx
  obtain ⟨p, hp⟩ : ∃ p, W.heap.size = p := ⟨_, rfl⟩
  rw [hp] at HP HQ HLO hsx hbW
  rw [hp]
  have HPE := Lib.hid hp
  clear hp
  have r2 := HP.out.cell 0
  have q0 := HR1.out.bk.r0
  simp at r2
  have HTA := Lib.hid (tall_any false A n cap r.l Wx HR1.out.len (by have := HR1.out.sm; omega) (HR1.out.row.below HR1.out.bl))
  go_wp2_with fail
  (with_reducible refine HTA.out.mono ?_)
  rintro e W0 ⟨A1, n1, c1, ob, rfl, hI1, hob, hob2, hb1⟩
  rw [hsx] at hI1 hob
  have hs0 := hb1.size
  rw [hsx] at hs0
  have hn1 : n1 ≤ 100000 := by have := hI1.2.2.1; rw [bs_len, HR1.out.len] at this; have := HR1.out.sm; omega
  have hseq := iter_seq false A1 n1 c1 r.l (p + 1 + 1) ob (p + 1 + 1) W0 hn1 HR1.out.byt hI1 ⟨Nat.le_refl _, by omega⟩ ⟨hob, hob2⟩
  have HS := Lib.hid hseq
  have hBW : Below W.heap.size W W0 := HBX.out.trans (hb1.mono (by rw [hsx, HPE.out]; omega))
  have HBW := Lib.hid hBW
  have HR0 := Lib.hid (HR1.out.next (hb1.mono (Nat.le_refl _)))
  have HP0 := Lib.hid (HP.out.next hb1)
  have HQ0 := Lib.hid (HQ.out.next hb1)
  have hPi : Pi w W0 b X step r [] W0 := ⟨r, ⟨s, A, n, cap, HR0.out, Ot.refl _ _, HX0.out W0 hBW⟩, fun t => rfl⟩
  have HPI := Lib.hid hPi
  have HEL := Lib.hid (ev_len false r.l)
  have HLN : Hid (r.l.length ≤ 65531) := Lib.hid (by rw [HR1.out.len]; exact HR1.out.sm)
  have HBY := Lib.hid HR1.out.byt
  have HEN := HA.out.enters
  have hws : w.heap.size ≤ W0.heap.size := by have := HLO.out; omega
  have HWS := Lib.hid hws
  have hcalmP : ∀ k r' B' A' A'', W0.heap.size = B' → Pst w W0 b X k r' A' → Calm B' A' A'' → Pst w W0 b X k r' A'' := fun k r' B' A' A'' hB ⟨s', B, m, mc, h1, h2, h3⟩ hc => by
    subst hB
    exact ⟨s', B, m, mc, h1.calm hws hc, h2.calm (Nat.le_refl _) hc, HA.out.calm W0 _ _ _ _ _ hBW h3 hc⟩
  have HCP := Lib.hid hcalmP
  clear hseq hI1 hb1 hBW hPi hcalmP HTA HR1 HBX HP HQ HX0 r2 q0 HR0
  go_wp2_with fail
  refine (wpIn_wide (n := 9)).1 ?_
  refine range_wpIn (gf := 74) (lb := #[.pointer (some ⟨ob, 0, none⟩), .pointer (some ⟨p + 1 + 1, 0, none⟩)]) rfl (enters_of Try.func74 (by kernel_rfl) rfl) HS.out (Nat.le_refl _) (fun _ => rfl)
    (fun pre W => Pi w W0 b X step r pre W) (fun c pre W => c = .exit 0 ∧ Px w W0 b X step r pre W) (fun pre A B ⟨r', h1, h2⟩ hc => ⟨r', HCP.out _ _ _ _ _ rfl h1 hc, h2⟩) (fun c pre A B ⟨h0, r', h1, h2⟩ hc => ⟨h0, r', HCP.out _ _ _ _ _ rfl h1 hc, h2⟩) HPI.out
    (Pa w W0 b X step r r.l (.func (.func F) #[] cs) p A n cap (.func (.func 74) #[] #[.pointer (some ⟨ob, 0, none⟩), .pointer (some ⟨p + 1 + 1, 0, none⟩)]))
    (fun pre x a₁ A B ⟨Bx, h1, ⟨r', h2, h5⟩, h3, h4⟩ hc => ⟨Bx, h1.calm hc, ⟨r', HCP.out _ _ _ _ _ rfl h2 hc, h5⟩, ⟨h3.1, h3.2.calm hc⟩, h4⟩) ?assign ?body ?done ?stop
  case assign =>
    intro y pre x W9 K hi hv hK
    obtain ⟨A2, n2, c2, hx2, _⟩ := hv.2.2
    have hbel : Below W9.heap.size W9 (W9.alloc (.cells #[.int .u16 (x.1.1.k : Int), .int .u8 (x.1.1.f : Int), x.1.2] 25)) := (Below.refl _ _).alloc (Nat.le_refl _) _
    have hla := hK _ _ hbel ⟨W9.heap.size, Bk.new _ _ _, (by obtain ⟨r', h1, h2⟩ := hi; exact ⟨r', HCP.out _ _ _ _ _ rfl h1 (Calm.of_below hbel (by obtain ⟨_, _, _, _, _, h, _⟩ := h1; exact h.size)), h2⟩), ⟨hv.1, hv.2.next hbel⟩, rfl⟩
    rw [hx2] at hla
    have HLA := Lib.hid hla
    obtain ⟨⟨xt, xv⟩, xe⟩ := x
    simp only at hx2
    subst hx2
    clear hi hv hK hbel hla
    simp only [enc]
    gi_wp2
    exact HLA.out
  case body =>
    rintro y pre ⟨⟨xt, xv⟩, xe⟩ a₁ W9 hsize ⟨Bx, hx, ⟨r', hpst, hgo⟩, hv, rfl⟩
    obtain ⟨A2, n2, c2, hx2, _⟩ := hv.2.2
    simp only at hx2
    subst hx2
    simp only at hx
    have hpre : pre.length ≤ 20000 := by
      obtain ⟨t, ht⟩ := hv.1
      have h1 := HEL.out
      rw [ht] at h1
      have h2 := HLN.out
      simp at h1
      omega
    obtain ⟨s', B, m, mc, hrr, hot, hX⟩ := hpst
    have hbp : p ≠ b := by omega
    have hbq : p + 1 ≠ b := by omega
    have q2 := (HP0.out.ot hot hbp).cell 0
    have q3 := (HQ0.out.ot hot hbq).cell 0
    simp at q2 q3
    by_cases he : xe = 0
    · have d1 : (xe != 0) = false := by simpa using he
      have HE := Lib.hid he
      have x0 := hx.cell 0
      have x1 := hx.cell 1
      have x2 := hx.cell 2
      simp at x0 x1 x2
      have hshort : xt.v.length ≤ 65531 := by
        obtain ⟨t, ht⟩ := hv.1
        exact ev_short (x := (xt, xe)) HBY.out (by rw [ht]; simp [pl])
      have HCL := Lib.hid (HA.out.call W0 pre.length r' (xt, .slice A2 n2 c2) W9 HBW.out hpre ⟨s', B, m, mc, hrr, hot, hX⟩ hv.2 hshort)
      have HOT := Lib.hid hot
      have HGO := Lib.hid hgo
      clear he hrr hot hX hv hx hgo hshort hbp hbq
      gi_wp2
      refine ⟨trivial, ?_⟩
      refine (CallsIn.inRound y (callsIn_wide.2 HCL.out)).mono ?_
      rintro e w6 ⟨he6, hpst6, hko6⟩
      have hot6 : Ot W0 w6 b := by obtain ⟨_, _, _, _, _, h, _⟩ := hpst6; exact h
      have HKP : Hid (Kept (p + 1 + 1) W0.heap.size W9 w6) := Lib.hid (HOT.out.kept hot6 hko6.size (by omega))
      by_cases hst : (step r' xt).2 = true
      · have HI6 : Hid (Pi w W0 b X step r (pre ++ [((xt, .slice A2 n2 c2), xe)]) w6) := Lib.hid ⟨(step r' xt).1, by rw [List.length_append]; exact hpst6, fun t => by
          rw [List.map_append, List.append_assoc, HGO.out]
          show gone step r' ((xt, xe) :: t) = _
          rw [gone, if_neg (by simpa using HE.out), if_pos hst]⟩
        have HKF := Lib.hid (hko6.from W0.heap.size)
        rw [hst] at he6
        subst he6
        clear hpst6 hko6 hot6
        gi_wp2
        exact ⟨HKF.out, HKP.out, HI6.out⟩
      · have hstf : (step r' xt).2 = false := by simpa using hst
        have HI6 : Hid (Px w W0 b X step r (pre ++ [((xt, .slice A2 n2 c2), xe)]) w6) := Lib.hid ⟨(step r' xt).1, by rw [List.length_append]; exact hpst6, fun t => by
          rw [List.map_append, List.append_assoc, HGO.out]
          show gone step r' ((xt, xe) :: t) = _
          rw [gone, if_neg (by simpa using HE.out), if_neg hst]⟩
        have HKF := Lib.hid (hko6.from W0.heap.size)
        rw [hstf] at he6
        subst he6
        clear hpst6 hko6 hot6 hst
        gi_wp2
        exact ⟨HKF.out, rfl, HI6.out⟩
    · have d1 : (xe != 0) = true := by simpa using he
      have f16 := hrr.bk.frozen 16
      have g16 := hrr.bk.r16
      have HI6 : Hid (Px w W0 b X step r (pre ++ [((xt, .slice A2 n2 c2), xe)]) (W9.setCell ⟨b, 16, none⟩ (.bool true))) := Lib.hid ⟨{ r' with bad := true }, ⟨s', B, m, mc, hrr.bad_ true, hot.set 16 _, by rw [List.length_append]; exact HA.out.more _ _ _ _ _ (HA.out.set_ W0 _ _ _ _ _ _ HBW.out hX)⟩, fun t => by
        rw [List.map_append, List.append_assoc, hgo]
        show gone step r' ((xt, xe) :: t) = _
        rw [gone, if_pos he]⟩
      have HKF := Lib.hid ((KeepsOthers.setCell W9 ⟨b, 16, none⟩ (.bool true)).from W0.heap.size)
      clear he hrr hot hX hv hx hgo hbp hbq
      gi_wp2
      refine ⟨(fun f hf => by cases hf), ?_⟩
      gi_wp2
      exact ⟨HKF.out, rfl, HI6.out⟩
  case done =>
    rintro D xs W9 hD hS ⟨r', ⟨s', B, m, mc, hrr, hot, hX⟩, hgo⟩ hK
    have HXL : Hid (xs.length ≤ 20000) := Lib.hid (by
      have h1 := HEL.out
      rw [← hS] at h1
      have h2 := HLN.out
      simp at h1
      omega)
    have hg : gone step r (ev false r.l) = r' := by rw [← hS]; have := hgo []; rw [List.append_nil] at this; exact this
    have hbp : p ≠ b := by omega
    have r2 := (HP0.out.ot hot hbp).cell 0
    have g0 := hrr.bk.r0
    have f0 := hrr.bk.frozen 0
    simp at r2
    have hKK' := (KeepsOthers.setCell W9 ⟨b, 0, none⟩ (.slice none 0 0)).same D _ hK rfl
    have hcalm : Calm W0.heap.size (W9.setCell ⟨b, 0, none⟩ (.slice none 0 0)) _ := Calm.of_put (.deferred none) hKK' rfl (by omega)
    have HFIN : Hid (∀ W7, W7 = W9.setCell ⟨b, 0, none⟩ (.slice none 0 0) → W7.heap[D]? = some (.deferred (some [])) ∧ POut w W b X step r (.returned (.tuple #[])) (W7.putObj D (.deferred none))) := Lib.hid fun W7 e => by
      subst e
      refine ⟨hKK', rfl, W0, xs.length, s', HBW.out, HXL.out, ?_, ?_, ?_⟩
      · rw [hg]; exact (hrr.no).calm HWS.out hcalm
      · exact ((Ot.below b HBW.out).trans (hot.set 0 _)).calm (by have := HBW.out.size; exact this) hcalm
      · rw [hg]; exact HA.out.calm W0 _ _ _ _ _ HBW.out (HA.out.set_ W0 _ _ _ _ _ _ HBW.out hX) hcalm
    clear hrr hot hX hgo hg hK hKK' hcalm hbp
    clear hS
    go_wp2_with fail
    obtain ⟨k1, k2⟩ := HFIN.out _ rfl
    generalize World.setCell W9 _ _ = W7 at k1 k2 ⊢
    refine ⟨by simp, .inl ⟨_, _, rfl, run_takeDeferred k1, ?_⟩⟩
    exact ⟨.tuple #[], by simp [results, Try.results90, go_sem], k2⟩
  case stop =>
    rintro D c pre W9 hD ⟨t, ht⟩ ⟨rfl, r', ⟨s', B, m, mc, hrr, hot, hX⟩, hgo⟩ hK
    have HXL : Hid (pre.length ≤ 20000) := Lib.hid (by
      have h1 := HEL.out
      rw [ht] at h1
      have h2 := HLN.out
      simp at h1
      omega)
    have hg : gone step r (ev false r.l) = r' := by rw [ht]; exact hgo t
    have hbp : p ≠ b := by omega
    have r2 := (HP0.out.ot hot hbp).cell 0
    have g0 := hrr.bk.r0
    have f0 := hrr.bk.frozen 0
    simp at r2
    have hKK' := (KeepsOthers.setCell W9 ⟨b, 0, none⟩ (.slice none 0 0)).same D _ hK rfl
    have hcalm : Calm W0.heap.size (W9.setCell ⟨b, 0, none⟩ (.slice none 0 0)) _ := Calm.of_put (.deferred none) hKK' rfl (by omega)
    have HFIN : Hid (∀ W7, W7 = W9.setCell ⟨b, 0, none⟩ (.slice none 0 0) → W7.heap[D]? = some (.deferred (some [])) ∧ POut w W b X step r (.returned (.tuple #[])) (W7.putObj D (.deferred none))) := Lib.hid fun W7 e => by
      subst e
      refine ⟨hKK', rfl, W0, pre.length, s', HBW.out, HXL.out, ?_, ?_, ?_⟩
      · rw [hg]; exact (hrr.no).calm HWS.out hcalm
      · exact ((Ot.below b HBW.out).trans (hot.set 0 _)).calm (by have := HBW.out.size; exact this) hcalm
      · rw [hg]; exact HA.out.calm W0 _ _ _ _ _ HBW.out (HA.out.set_ W0 _ _ _ _ _ _ HBW.out hX) hcalm
    clear hrr hot hX hgo hg hK hKK' hcalm hbp
    clear ht
    gi_wp2
    go_wp2_with fail
    obtain ⟨k1, k2⟩ := HFIN.out _ rfl
    generalize World.setCell W9 _ _ = W7 at k1 k2 ⊢
    refine ⟨by simp, .inl ⟨_, _, rfl, run_takeDeferred k1, ?_⟩⟩
    exact ⟨.tuple #[], by simp [results, Try.results90, go_sem], k2⟩
end Go.Proofs.Ytbliipjiilmbcaa
/-
  The reader of layer 5: what is done with a parameter of a CkAbort or CkError.
-/
namespace Go.Proofs.Ytbliipjiilmbcaa
open Go.RowKit Wire Tlv Chunk Go.Shelf

theorem Try_infoCause : (Try.prog.info? 73).map (fun i => (i.zero, i.size, i.bytes)) = some (some (.agg #[.int .u16 0, .slice none 0 0]), 2, 32) := by kernel_rfl
def putC (s : Ls) (A : Option Addr) (n c : Nat) (q : List Value) : Ls := { s with cA := A, cn := n, cc := c, cq := q }
theorem rv_ca (A : Option Addr) (n cap : Nat) (c : Ck) (s : Ls) (bad : Bool) (l : List (Nat × List Int)) (A' : Option Addr) (n' c' : Nat) (q : List Value) : (rv A n cap c s bad).setIfInBounds 15 (.slice A' n' c') = rv A n cap { c with ca := l } (putC s A' n' c' q) bad := by simp [rv, putC]
theorem cs_snoc : ∀ (l : List (Nat × List Int)) (q : List Value) (x : Nat × List Int) (v : Value), q.length = l.length → cs (l ++ [x]) (q ++ [v]) = cs l q ++ [.int .u16 (x.1 : Int), v]
  | [], [], _, _, _ => rfl
  | y :: l, u :: q, x, v, h => by
    show .int .u16 (y.1 : Int) :: u :: cs (l ++ [x]) (q ++ [v]) = _
    rw [cs_snoc l q x v (by simpa using h)]
    rfl
  | [], _ :: _, _, _, h => by simp at h
  | _ :: _, [], _, _, h => by simp at h
/-- The cause's bytes lie in a row of the call's own. -/
def Vd (B : Nat) (W : World) (l : List Int) (v : Value) : Prop := ∃ A n c, v = .slice A n c ∧ W.ownsRow B 5 1 (.slice A n c) n (bs l)
theorem Vd.vb {B : Nat} {W : World} {l : List Int} {v : Value} (h : Vd B W l v) (hs : l.length ≤ 65531) : Vb W l v := by
  obtain ⟨A, n, c, h1, h2⟩ := h
  have hl : l.length = n := by have := h2.1; simpa [bs] using this
  obtain ⟨g1, g2, g3⟩ := owns_none h2
  exact ⟨A, n, c, h1, hl, g2, g3, by omega, row_of_owns h2, g1⟩
theorem Vd.calm {B C : Nat} {W W' : World} {l : List Int} {v : Value} (h : Vd B W l v) (hc : Calm C W W') : Vd B W' l v := by
  obtain ⟨A, n, c, h1, h2⟩ := h
  exact ⟨A, n, c, h1, owns_calm h2 hc⟩
theorem Vd.below {B : Nat} {W W' : World} {l : List Int} {v : Value} (h : Vd B W l v) (hb : Below W.heap.size W W') : Vd B W' l v := by
  obtain ⟨A, n, c, h1, h2⟩ := h
  exact ⟨A, n, c, h1, own_below h2 hb⟩
theorem Vd.put {B b i : Nat} {u : Value} {W : World} {l : List Int} {v : Value} (h : Vd B W l v) (hb : b < B) : Vd B (W.setCell ⟨b, i, none⟩ u) l v := by
  obtain ⟨A, n, c, h1, h2⟩ := h
  exact ⟨A, n, c, h1, owns_put h2 hb⟩
theorem Vd.same {B : Nat} {W W' : World} {l : List Int} {v : Value} (h : Vd B W l v) (hk : ∀ k, B ≤ k → k < W.heap.size → W'.heap[k]? = W.heap[k]?) : Vd B W' l v := by
  obtain ⟨A, n, c, h1, h2⟩ := h
  exact ⟨A, n, c, h1, owns_same h2 hk⟩
theorem Vd.kept {B : Nat} {W W' : World} {l : List Int} {u : Value} {e : TypeId} {b s : Nat} {v : Value} {n : Nat} {xs : List Value} (h : Vd B W l u) (ho : W.ownsRow b e s v n xs) (hne : 5 ≠ e) (hg : W.grownBy W' v.ownBlock) : Vd B W' l u := by
  obtain ⟨A, n, c, h1, h2⟩ := h
  exact ⟨A, n, c, h1, h2.kept hg (own_apart h2 ho hne)⟩
/-- A row of causes of the call's own. -/
def Cr (B : Nat) (l : List (Nat × List Int)) (A : Option Addr) (c : Nat) (q : List Value) (W : World) : Prop := q.length = l.length ∧ W.ownsRow B 73 2 (.slice A l.length c) l.length (cs l q) ∧ ∀ (i : Nat) x v, l[i]? = some x → q[i]? = some v → Vd B W x.2 v
theorem Cr.nil (B : Nat) (W : World) : Cr B [] none 0 [] W := ⟨rfl, World.ownsRow_nil _ _ _ _, fun i x v h => by simp at h⟩
theorem Cr.calm {B C : Nat} {W W' : World} {l : List (Nat × List Int)} {A : Option Addr} {c : Nat} {q : List Value} (h : Cr B l A c q W) (hc : Calm C W W') : Cr B l A c q W' := ⟨h.1, owns_calm h.2.1 hc, fun i x v h1 h2 => (h.2.2 i x v h1 h2).calm hc⟩
theorem Cr.below {B : Nat} {W W' : World} {l : List (Nat × List Int)} {A : Option Addr} {c : Nat} {q : List Value} (h : Cr B l A c q W) (hb : Below W.heap.size W W') : Cr B l A c q W' := ⟨h.1, own_below h.2.1 hb, fun i x v h1 h2 => (h.2.2 i x v h1 h2).below hb⟩
theorem Cr.put {B b i : Nat} {u : Value} {W : World} {l : List (Nat × List Int)} {A : Option Addr} {c : Nat} {q : List Value} (h : Cr B l A c q W) (hb : b < B) : Cr B l A c q (W.setCell ⟨b, i, none⟩ u) := ⟨h.1, owns_put h.2.1 hb, fun i x v h1 h2 => (h.2.2 i x v h1 h2).put hb⟩
theorem Cr.same {B : Nat} {W W' : World} {l : List (Nat × List Int)} {A : Option Addr} {c : Nat} {q : List Value} (h : Cr B l A c q W) (hk : ∀ k, B ≤ k → k < W.heap.size → W'.heap[k]? = W.heap[k]?) : Cr B l A c q W' := ⟨h.1, owns_same h.2.1 hk, fun i x v h1 h2 => (h.2.2 i x v h1 h2).same hk⟩
theorem Cr.snoc {B : Nat} {W W' : World} {l : List (Nat × List Int)} {A A' : Option Addr} {c c' : Nat} {q : List Value} {x : Nat × List Int} {v : Value} (h : Cr B l A c q W) (hv : Vd B W x.2 v)
    (ho : W'.ownsRow B 73 2 (.slice A' (l.length + 1) c') (l.length + 1) (cs l q ++ [.int .u16 (x.1 : Int), v])) (hg : W.grownBy W' (Value.slice A l.length c).ownBlock) : Cr B (l ++ [x]) A' c' (q ++ [v]) W' := by
  refine ⟨by simp [h.1], by rw [cs_snoc _ _ _ _ h.1, List.length_append]; exact ho, fun i y u h1 h2 => ?_⟩
  by_cases hi : i < l.length
  · rw [List.getElem?_append_left hi] at h1
    rw [List.getElem?_append_left (by rw [h.1]; exact hi)] at h2
    exact (h.2.2 i y u h1 h2).kept h.2.1 (by decide) hg
  · rw [List.getElem?_append_right (by omega)] at h1
    rw [List.getElem?_append_right (by rw [h.1]; omega), h.1] at h2
    by_cases h0 : i - l.length = 0
    · rw [h0] at h1 h2
      simp at h1 h2
      subst h1 h2
      exact hv.kept h.2.1 (by decide) hg
    · obtain ⟨m, hm⟩ : ∃ m, i - l.length = m + 1 := ⟨i - l.length - 1, by omega⟩
      rw [hm] at h1
      simp at h1
theorem Vd.keep {B : Nat} {W W' : World} {l : List Int} {v : Value} (h : Vd B W l v) (hk : Keeps B W W') : Vd B W' l v := by
  obtain ⟨A, n, c, h1, h2⟩ := h
  exact ⟨A, n, c, h1, owns_keep h2 (.inl rfl) hk⟩
theorem Cr.keep {B : Nat} {W W' : World} {l : List (Nat × List Int)} {A : Option Addr} {c : Nat} {q : List Value} (h : Cr B l A c q W) (hk : Keeps B W W') : Cr B l A c q W' := ⟨h.1, owns_keep h.2.1 (.inr (.inr (.inr rfl))) hk, fun i x v h1 h2 => (h.2.2 i x v h1 h2).keep hk⟩
/-- A chunk of causes whose rows are the call's own. -/
theorem ch_cause {W : World} {B : Nat} {c : Ck} {A : Option Addr} {cc : Nat} {q : List Value} (hok : c.ok) (hd : c.da = []) (ha : c.ad = []) (hg : c.ga = []) (hu : c.du = []) (hl : c.ca.length ≤ 65536) (hs : ∀ x ∈ c.ca, x.2.length ≤ 65531) (h : Cr B c.ca A cc q W) : ChF B W c (putC nol A c.ca.length cc q) := fun W2 h2 => by
  have h3 := h.keep h2
  refine ⟨hok, ?_, ?_, ?_, ?_, ?_, row_of_owns h3.2.1, h3.1, fun i x v h4 h5 => (h3.2.2 i x v h4 h5).vb (hs x (List.mem_of_getElem? h4))⟩
  · constructor
    all_goals simp [putC, nol, hd, ha, hg, hu]
    all_goals omega
  · rw [hd]; exact ⟨none, 0, 0, rfl, rfl, Nat.le_refl _, Nat.zero_le _, Nat.zero_le _, Row.nil_ _ _, fun _ => ⟨rfl, rfl⟩⟩
  · rw [ha]; intro i v hv; simp [us] at hv
  · rw [hg]; intro i v hv; simp [gs] at hv
  · rw [hu]; intro i v hv; simp [us] at hv
/-- One parameter. -/
def cst (r : Rt) (x : Tv) : Rt × Bool := (⟨r.l, { r.c with ca := r.c.ca ++ [(x.k, x.v)] }, r.bad⟩, true)
theorem gone_cst : ∀ (l : List Tv) (r : Rt) (t : List (Tv × Int)), gone cst r (l.map (fun x => (x, 0)) ++ t) = gone cst ⟨r.l, { r.c with ca := r.c.ca ++ l.map (fun x => (x.k, x.v)) }, r.bad⟩ t
  | [], r, t => by simp
  | x :: l, r, t => by
    show gone cst r ((x, 0) :: (l.map (fun x => (x, (0 : Int))) ++ t)) = _
    rw [gone, if_neg (by simp), if_pos (show (cst r x).2 = true from rfl), gone_cst l]
    simp [cst]
theorem gone_ev (v : List Int) (r : Rt) (hr : r.bad = false) : ((gone cst r (ev false v)).bad = !(tl false v).2) ∧ (gone cst r (ev false v)).c = { r.c with ca := r.c.ca ++ (tl false v).1.map (fun x => (x.k, x.v)) } := by
  unfold ev
  rw [gone_cst]
  cases (tl false v).2
  · rw [if_neg (by simp), gone, if_pos (by simp)]
    exact ⟨rfl, rfl⟩
  · rw [if_pos rfl, gone]
    exact ⟨hr, rfl⟩
theorem raw_cause {x : Tv} (h : x.k = 6 ∨ x.k = 9) : raw x = if (tl false x.v).2 then some { bare x with ca := (tl false x.v).1.map (fun y => (y.k, y.v)) } else none := by
  unfold raw
  rw [if_neg (by omega), if_neg (by omega), if_neg (by omega), if_pos h]
/-- What is kept of the list. -/
def XC (c0 : Ck) (W0 : World) (k : Nat) (c : Ck) (s : Ls) (W : World) : Prop := ∃ A cc q, s = putC nol A c.ca.length cc q ∧ c = { c0 with ca := c.ca } ∧ (c.ca.length ≤ k ∧ ∀ x ∈ c.ca, x.1 < 65536 ∧ Byt x.2 ∧ x.2.length ≤ 65531) ∧ Cr W0.heap.size c.ca A cc q W
theorem ck_ca {c c0 : Ck} (h : c = { c0 with ca := c.ca }) (l : List (Nat × List Int)) : ({ c with ca := l } : Ck) = { c0 with ca := l } := by
  cases c; cases c0; simp_all
end Go.Proofs.Ytbliipjiilmbcaa
/-
  The reader of layer 5: what is done with a parameter of a CkInit or CkInitAck.
-/
namespace Go.Proofs.Ytbliipjiilmbcaa
open Go.RowKit Wire Tlv Chunk Go.Shelf

/-- One parameter. -/
def sst (r : Rt) (x : Tv) : Rt × Bool :=
  if x.k = 5 then (⟨r.l, { r.c with ad := r.c.ad ++ [(⟨x.v, zero, false⟩ : Rt).n4.1] }, r.bad || decide (x.v.length ≠ 4)⟩, true)
  else if x.k = 7 then (⟨r.l, { r.c with da := x.v }, r.bad || decide (x.v = [] ∨ r.c.da ≠ [])⟩, true)
  else (r, decide (32768 ≤ x.k))
/-- What is kept of the lists. -/
def XS (c0 : Ck) (W0 : World) (k : Nat) (c : Ck) (s : Ls) (W : World) : Prop := ∃ aA ac dA dc, s = putD (putA nol aA c.ad.length ac) dA c.da.length dc ∧ c = { c0 with ad := c.ad, da := c.da } ∧ (c.ad.length ≤ k ∧ (∀ a ∈ c.ad, a < 4294967296) ∧ Byt c.da ∧ c.da.length ≤ 65531) ∧
  W.ownsRow W0.heap.size 27 1 (.slice aA c.ad.length ac) c.ad.length (us c.ad) ∧ W.ownsRow W0.heap.size 5 1 (.slice dA c.da.length dc) c.da.length (bs c.da)
theorem ck_ad {c c0 : Ck} (h : c = { c0 with ad := c.ad, da := c.da }) (l : List Nat) : ({ c with ad := l } : Ck) = { c0 with ad := l, da := c.da } := by
  cases c; cases c0; simp_all
theorem ck_da {c c0 : Ck} (h : c = { c0 with ad := c.ad, da := c.da }) (l : List Int) : ({ c with da := l } : Ck) = { c0 with ad := c.ad, da := l } := by
  cases c; cases c0; simp_all
set_option maxRecDepth 100000 in
set_option maxHeartbeats 1000000 in
theorem side_call (c0 : Ck) (w W W0 : World) (b bx k : Nat) (r : Rt) (q : Q) (W1 : World) (hbx : Bk W bx #[.pointer (some ⟨b, 0, none⟩)] 93) (hne : bx ≠ b) (hbW : b < W.heap.size) (hws : w.heap.size ≤ W.heap.size) (hBW : Below W.heap.size W W0) (hk : k ≤ 20000)
    (hp : Pst w W0 b (XS c0) k r W1) (hv : Vo W0.heap.size W1 q) (hsh : q.1.v.length ≤ 65531) :
    Calls Try.prog 91 (#[.agg #[.int .u16 (q.1.k : Int), .int .u8 (q.1.f : Int), q.2]] ++ #[.pointer (some ⟨bx, 0, none⟩)]) W1 fun e W2 => e = .returned (.bool (sst r q.1).2) ∧ Pst w W0 b (XS c0) (k + 1) (sst r q.1).1 W2 ∧ KeepsOthers W1 W2 := by
  obtain ⟨s, A, n, cap, hrr, hot, aA, ac, dA, dc, rfl, hc0, ⟨hk1, hk2, hk3, hk4⟩, hou, hod⟩ := hp
  obtain ⟨⟨xk, xf, xv⟩, qv⟩ := q
  obtain ⟨hxo, A2, m, c2, hx2, hm2, hox⟩ := hv
  simp only at hx2 hsh hox
  subst hx2
  have hb0 := hbW
  have hlt : b < W0.heap.size := Nat.lt_of_lt_of_le hbW hBW.size
  have hwx : Bk W1 bx #[.pointer (some ⟨b, 0, none⟩)] 93 := (hbx.next hBW).ot hot hne
  have hal : Below W1.heap.size W1 (W1.alloc (.cells #[.int .u16 (xk : Int), .int .u8 (xf : Int), .slice A2 m c2] 25)) := (Below.refl _ _).alloc (Nat.le_refl _) _
  have HX := Lib.hid (Bk.new W1 #[.int .u16 (xk : Int), .int .u8 (xf : Int), .slice A2 m c2] 25)
  have HBX := Lib.hid (hwx.next hal)
  have HRR := Lib.hid (hrr.next hal)
  have HOT := Lib.hid (hot.trans (Ot.below b hal))
  have HOU := Lib.hid (own_below hou hal)
  have HOD := Lib.hid (own_below hod hal)
  have HOX := Lib.hid (own_below hox hal)
  have HKO := Lib.hid (others_below hal)
  obtain rfl : xv.length = m := by have := hox.1; simpa [bs] using this
  have HXO := Lib.hid hxo
  have HC0 := Lib.hid hc0
  have HK2 := Lib.hid hk2
  have HK3 := Lib.hid hk3
  have HK4 := Lib.hid hk4
  have hws0 : w.heap.size ≤ W0.heap.size := Nat.le_trans hws hBW.size
  clear hrr hot hou hod hox hxo hc0 hk2 hk3 hwx hal hbx hBW
  show Calls Try.prog 91 #[.agg #[.int .u16 (xk : Int), .int .u8 (xf : Int), .slice A2 xv.length c2], .pointer (some ⟨bx, 0, none⟩)] W1 _
  go_enter Try.func91, Try.ntmps91
  go_upto_region 1 with fail
  generalize World.alloc W1 _ = W2 at HX HBX HRR HOT HOU HOD HOX HKO ⊢
  generalize W1.heap.size = bb at HX ⊢
  have x0 := HX.out.cell 0
  have x2 := HX.out.cell 2
  have y0 := HBX.out.cell 0
  simp at x0 x2 y0
  by_cases h5 : xk = 5
  · subst h5
    have HAD := Lib.hid (address_r w W0 W2 b r _ A n cap xv A2 xv.length c2 HRR.out HOT.out hws0 hlt HOU.out (by show r.c.ad.length ≤ 100000; omega) rfl (by omega) (owns_none HOX.out).2.1 (owns_none HOX.out).2.2 HXO.out.2.2 (row_of_own HOX.out))
    clear HX hm2 hk4
    go_wp2_with fail
    (with_reducible refine HAD.out.mono ?_)
    rintro e W3 ⟨rfl, aA', ac', v, hr3, ⟨hv1, hv2⟩, hv3, hu3, ho3, h83, hko3⟩
    subst hv1
    have hfin : Hid ((sst r ⟨5, xf, xv⟩).2 = true ∧ Pst w W0 b (XS c0) (k + 1) (sst r ⟨5, xf, xv⟩).1 W3 ∧ KeepsOthers W1 W3) := by
      refine ⟨rfl, ⟨_, _, _, _, hr3, ho3, aA', ac', dA, dc, (by simp [putA, putD, nol, sst]), ck_ad HC0.out _, ⟨?_, ?_, HK3.out, HK4.out⟩, ?_, h83 _ _ _ HOD.out⟩, HKO.out.trans hko3⟩
      · show (r.c.ad ++ [_]).length ≤ k + 1
        simp; omega
      · intro a ha
        rcases List.mem_append.1 ha with ha | ha
        · exact HK2.out a ha
        · simp at ha
          rw [ha]; exact hv3
      · show W3.ownsRow W0.heap.size 27 1 (.slice aA' (r.c.ad ++ [_]).length ac') (r.c.ad ++ [_]).length _
        rw [List.length_append]
        exact hu3
    clear hr3 hv2 hv3 hu3 ho3 h83 hko3
    go_wp2_with fail
    go_ret
    exact ⟨rfl, hfin.out.2.1, hfin.out.2.2⟩
  by_cases h7 : xk = 7
  · subst h7
    have HCO := Lib.hid (cookie_r w W0 W2 b r _ A n cap xv A2 xv.length c2 HRR.out HOT.out hlt rfl rfl (by omega) HOX.out)
    clear HX hm2 hk4
    go_wp2_with fail
    (with_reducible refine HCO.out.mono ?_)
    rintro e W3 ⟨rfl, dA', dc', hr3, hd3, ho3, hu3, hko3⟩
    have hfin : Hid ((sst r ⟨7, xf, xv⟩).2 = true ∧ Pst w W0 b (XS c0) (k + 1) (sst r ⟨7, xf, xv⟩).1 W3 ∧ KeepsOthers W1 W3) := by
      refine ⟨rfl, ⟨_, _, _, _, hr3, ho3, aA, ac, dA', dc', (by simp [putA, putD, nol, sst]), ck_da HC0.out _, ⟨by show r.c.ad.length ≤ k + 1; omega, HK2.out, HXO.out.2.2, hsh⟩, hu3 _ _ _ HOU.out, hd3⟩, HKO.out.trans hko3⟩
    clear hr3 hd3 ho3 hu3 hko3
    go_wp2_with fail
    go_ret
    exact ⟨rfl, hfin.out.2.1, hfin.out.2.2⟩
  have d5 : ((xk : Int) == 5) = false := by simp; omega
  have d7 : ((xk : Int) == 7) = false := by simp; omega
  have hfin : Hid ((sst r ⟨xk, xf, xv⟩).2 = decide (32768 ≤ xk) ∧ Pst w W0 b (XS c0) (k + 1) (sst r ⟨xk, xf, xv⟩).1 W2 ∧ KeepsOthers W1 W2) := by
    have e : sst r ⟨xk, xf, xv⟩ = (r, decide (32768 ≤ xk)) := by unfold sst; rw [if_neg h5, if_neg h7]
    rw [e]
    exact ⟨rfl, ⟨_, _, _, _, HRR.out, HOT.out, aA, ac, dA, dc, rfl, HC0.out, ⟨by show r.c.ad.length ≤ k + 1; omega, HK2.out, HK3.out, HK4.out⟩, HOU.out, HOD.out⟩, HKO.out⟩
  have HDD : Hid (decide ((32768 : Int) ≤ (xk : Int)) = decide (32768 ≤ xk)) := Lib.hid (by rw [Bool.eq_iff_iff]; simp; omega)
  clear HX hm2 hk4 h5 h7
  go_wp2_with fail
  go_ret
  exact ⟨by rw [hfin.out.1, ← HDD.out]; rfl, hfin.out.2.1, hfin.out.2.2⟩
end Go.Proofs.Ytbliipjiilmbcaa
/-
  What going over the parameters of a CkInit or CkInitAck leaves is what the plain words say.
-/
namespace Go.Proofs.Ytbliipjiilmbcaa
open Go.RowKit Wire Tlv Chunk Go.Shelf

/-- Nothing comes of such a reader any more. -/
def Dead (r : Rt) : Prop := r.bad = true ∨ (r.c.kd = 1 ∧ r.c.da ≠ []) ∨ 4 ≤ r.c.ad.length
theorem fin_dead {r : Rt} (h : Dead r) (l : List Int) : fin ⟨l, r.c, r.bad⟩ = none := by
  unfold fin
  split
  · rfl
  · rename_i h0
    have hb : r.bad = false := by simp at h0; exact h0.1
    rw [if_neg]
    intro hm
    rcases h with h | ⟨h, hd⟩ | h
    · rw [hb] at h; cases h
    · rcases hm.1.da with h1 | h1
      · exact h1 (.inl h)
      · exact hd (List.eq_nil_of_length_eq_zero h1)
    · have := hm.1.ad3
      have e : (⟨l, r.c, r.bad⟩ : Rt).c.ad.length = r.c.ad.length := rfl
      omega
theorem dead_sst {r : Rt} (h : Dead r) (x : Tv) : Dead (sst r x).1 := by
  unfold sst
  split
  · rcases h with h | h | h
    · exact .inl (by simp [h])
    · exact .inr (.inl h)
    · refine .inr (.inr ?_)
      simp; omega
  · split
    · rcases h with h | ⟨_, h⟩ | h
      · exact .inl (by simp [h])
      · exact .inl (by simp [h])
      · exact .inr (.inr h)
    · exact h
theorem dead_gone : ∀ (l : List (Tv × Int)) {r : Rt}, Dead r → Dead (gone sst r l)
  | [], _, h => h
  | (x, e) :: l, r, h => by
    rw [gone]
    split
    · exact .inl rfl
    · split
      · exact dead_gone l (dead_sst h x)
      · exact dead_sst h x
/-- The chunk, where it may be. -/
noncomputable def mayO (c : Ck) : Option Ck := @ite _ (may c) (Classical.propDecidable _) (some c) none
theorem gone_prr : ∀ (l : List (Tv × Int)) (r : Rt), r.bad = false → r.c.ad.length ≤ 3 → (r.c.kd = 1 → r.c.da = []) → fin ⟨[], (gone sst r l).c, (gone sst r l).bad⟩ = (prr r.c l).bind mayO
  | [], r, hb, _, _ => by
    rw [gone, prr, fin_ok (r := ⟨[], r.c, r.bad⟩) hb rfl]
    rfl
  | (x, e) :: l, r, hb, ha, hd => by
    have dead : ∀ {r' : Rt} {o : Option Ck}, Dead r' → o = none → fin ⟨[], (gone sst r' l).c, (gone sst r' l).bad⟩ = o.bind mayO := fun h ho => by
      rw [fin_dead (dead_gone l h), ho]; rfl
    rw [gone, prr]
    by_cases he : e ≠ 0
    · rw [if_pos he, if_pos he, fin_bad rfl]; rfl
    · rw [if_neg he, if_neg he]
      by_cases h5 : x.k = 5
      · have e2 : sst r x = (⟨r.l, { r.c with ad := r.c.ad ++ [(⟨x.v, zero, false⟩ : Rt).n4.1] }, r.bad || decide (x.v.length ≠ 4)⟩, true) := by unfold sst; rw [if_pos h5]
        rw [e2, if_pos rfl, if_pos h5]
        by_cases h4 : x.v.length ≠ 4 ∨ r.c.ad.length = 3
        · rw [if_pos h4]
          refine dead ?_ rfl
          rcases h4 with h4 | h4
          · exact .inl (by simp [h4])
          · exact .inr (.inr (by simp [h4]))
        · have h44 : x.v.length = 4 := by omega
          have hv : (⟨x.v, zero, false⟩ : Rt).n4.1 = nu x.v := by
            rw [(Rt.n4_eq ⟨x.v, zero, false⟩).2 (by show 4 ≤ x.v.length; omega), List.take_of_length_le (by show x.v.length ≤ 4; omega)]
          rw [if_neg h4, hv]
          exact gone_prr l ⟨r.l, { r.c with ad := r.c.ad ++ [nu x.v] }, _⟩ (by simp [hb, h44]) (by simp; omega) hd
      · rw [if_neg h5]
        by_cases h7 : x.k = 7
        · have e2 : sst r x = (⟨r.l, { r.c with da := x.v }, r.bad || decide (x.v = [] ∨ r.c.da ≠ [])⟩, true) := by unfold sst; rw [if_neg h5, if_pos h7]
          rw [e2, if_pos rfl, if_pos h7]
          by_cases h4 : r.c.kd = 1 ∨ r.c.da ≠ [] ∨ x.v = []
          · rw [if_pos h4]
            refine dead ?_ rfl
            by_cases h0 : x.v = []
            · exact .inl (by simp [h0])
            · rcases h4 with h4 | h4 | h4
              · exact .inr (.inl ⟨h4, h0⟩)
              · exact .inl (by simp [h4])
              · exact absurd h4 h0
          · rw [if_neg h4]
            have h41 : r.c.kd ≠ 1 := fun h => h4 (.inl h)
            have h42 : r.c.da = [] := Classical.byContradiction fun h => h4 (.inr (.inl h))
            have h43 : x.v ≠ [] := fun h => h4 (.inr (.inr h))
            exact gone_prr l ⟨r.l, { r.c with da := x.v }, _⟩ (by simp [hb, h42, h43]) ha (fun h => absurd h h41)
        · have e2 : sst r x = (r, decide (32768 ≤ x.k)) := by unfold sst; rw [if_neg h5, if_neg h7]
          rw [e2, if_neg h7]
          by_cases hs : x.k < 32768
          · rw [if_neg (by simpa using hs), if_pos hs, fin_ok (r := ⟨[], r.c, r.bad⟩) hb rfl]
            rfl
          · rw [if_pos (by simp; omega), if_neg hs]
            exact gone_prr l r hb ha hd
/-- A chunk of addresses and bytes whose rows are the call's own. -/
theorem ch_side {W : World} {B : Nat} {c : Ck} {aA dA : Option Addr} {ac dc : Nat} (hok : c.ok) (hg : c.ga = []) (hu : c.du = []) (hc : c.ca = []) (hal : c.ad.length ≤ 65536) (hdl : c.da.length ≤ 65536)
    (oa : W.ownsRow B 27 1 (.slice aA c.ad.length ac) c.ad.length (us c.ad)) (od : W.ownsRow B 5 1 (.slice dA c.da.length dc) c.da.length (bs c.da)) : ChF B W c (putD (putA nol aA c.ad.length ac) dA c.da.length dc) := fun W2 h2 => by
  have h3 := owns_keep oa (.inr (.inl rfl)) h2
  have h4 := owns_keep od (.inl rfl) h2
  have hz := owns_none h4
  refine ⟨hok, ?_, ⟨dA, c.da.length, dc, rfl, rfl, hz.2.1, hz.2.2, by omega, row_of_own h4, hz.1⟩, row_of_owns h3, ?_, ?_, ?_, ?_, ?_⟩
  · constructor
    all_goals simp [putD, putA, nol, hg, hu, hc]
    all_goals omega
  · rw [hg]; intro i v hv; simp [gs] at hv
  · rw [hu]; intro i v hv; simp [us] at hv
  · rw [hc]; intro i v hv; simp [cs] at hv
  · rw [hc]; rfl
  · rw [hc]; intro i x v h1; simp at h1
theorem raw_side {x : Tv} (h : x.k = 1 ∨ x.k = 2) : raw x = if 16 ≤ x.v.length then prr { bare x with tag := nn x.v 0 4, rw := nn x.v 4 4, out := nn x.v 8 2, inn := nn x.v 10 2, tsn := nn x.v 12 4 } (ev false (x.v.drop 16)) else none := by
  unfold raw
  rw [if_neg (by omega), if_pos h]
theorem take_mayO {x : Tv} (h : x.k ≤ 255) : take x = (raw x).bind mayO := take_raw h
theorem rv_tag (A : Option Addr) (n cap : Nat) (c : Ck) (s : Ls) (bad : Bool) (x : Nat) : (rv A n cap c s bad).setIfInBounds 3 (.int .u32 (x : Int)) = rv A n cap { c with tag := x } s bad := by simp [rv]
theorem rv_out (A : Option Addr) (n cap : Nat) (c : Ck) (s : Ls) (bad : Bool) (x : Nat) : (rv A n cap c s bad).setIfInBounds 6 (.int .u16 (x : Int)) = rv A n cap { c with out := x } s bad := by simp [rv]
theorem rv_in (A : Option Addr) (n cap : Nat) (c : Ck) (s : Ls) (bad : Bool) (x : Nat) : (rv A n cap c s bad).setIfInBounds 7 (.int .u16 (x : Int)) = rv A n cap { c with inn := x } s bad := by simp [rv]
end Go.Proofs.Ytbliipjiilmbcaa
/-
  The document's Take: words.
-/
namespace Go.Proofs.Ytbliipjiilmbcaa
open Go.RowKit Wire Tlv Chunk

theorem rfMayL (c : Ck) (s : Ls) (w : World) (h : Ch w c s) :
    Calls Try.prog 39 #[.agg #[.int .u8 (c.kd : Int), .int .u8 (c.fl : Int), .int .u32 (c.tag : Int), .int .u32 (c.rw : Int), .int .u32 (c.tsn : Int), .int .u16 (c.out : Int), .int .u16 (c.inn : Int), .int .u16 (c.sid : Int), .int .u16 (c.ssn : Int), .int .u32 (c.ppid : Int),
  .slice s.dA s.dn s.dc, .slice s.aA s.an s.ac, .slice s.gA s.gn s.gc, .slice s.uA s.un s.uc, .slice s.cA s.cn s.cc]] w fun e w' => e = .returned (.bool (mayB c)) ∧ Below w.heap.size w w' := rfMay_any c s w h
/-- The blocks of the call, the chunk too. -/
def RT (w : World) (xv z y : Array Value) (W : World) : Prop := T2 w xv z W ∧ Bk W (w.heap.size + 1 + 1) y 32
abbrev blit (k f : Nat) : Array Value := #[.int .u8 (k : Int), .int .u8 (f : Int), .int .u32 0, .int .u32 0, .int .u32 0, .int .u16 0, .int .u16 0, .int .u16 0, .int .u16 0, .int .u32 0, .slice none 0 0, .slice none 0 0, .slice none 0 0, .slice none 0 0, .slice none 0 0]
theorem RT.new (w : World) (xv : Array Value) (k f : Nat) (v : List Int) : RT w xv zlit (cv (bare ⟨k, f, v⟩) nol) (((w.alloc (.cells xv 25)).alloc (.cells zlit 32)).alloc (.cells (blit k f) 32)) := by
  refine ⟨(T2.new w _ _).next ((Below.refl _ _).alloc (Nat.le_refl _) _), ?_⟩
  have := Bk.new ((w.alloc (.cells xv 25)).alloc (.cells zlit 32)) (cv (bare ⟨k, f, v⟩) nol) 32
  rw [World.size_alloc, World.size_alloc] at this
  exact this
theorem RT.next {w W W' : World} {xv z y : Array Value} (h : RT w xv z y W) (hb : Below W.heap.size W W') : RT w xv z y W' := ⟨h.1.next hb, h.2.next hb⟩
theorem RT.set {w W : World} {xv z y : Array Value} (h : RT w xv z y W) (i : Nat) (v : Value) : RT w xv z (y.setIfInBounds i v) (W.setCell ⟨w.heap.size + 1 + 1, i, none⟩ v) :=
  ⟨h.1.ot ((Ot.refl W _).set i v) (by omega), h.2.set i v⟩
theorem RT.row {w W : World} {xv z y : Array Value} (h : RT w xv z y W) (z' : Array Value) : RT w xv z' y (W.setRow (w.heap.size + 1) z') := ⟨h.1.row z', h.2.rowO (by omega) _⟩
theorem RT.below {w W : World} {xv z y : Array Value} (h : RT w xv z y W) : Below w.heap.size w W := h.1.2.2
theorem cv_tag (c : Ck) (s : Ls) (x : Nat) : (cv c s).setIfInBounds 2 (.int .u32 (x : Int)) = cv { c with tag := x } s := by simp [cv]
theorem cv_rw (c : Ck) (s : Ls) (x : Nat) : (cv c s).setIfInBounds 3 (.int .u32 (x : Int)) = cv { c with rw := x } s := by simp [cv]
theorem cv_tsn (c : Ck) (s : Ls) (x : Nat) : (cv c s).setIfInBounds 4 (.int .u32 (x : Int)) = cv { c with tsn := x } s := by simp [cv]
theorem cv_out (c : Ck) (s : Ls) (x : Nat) : (cv c s).setIfInBounds 5 (.int .u16 (x : Int)) = cv { c with out := x } s := by simp [cv]
theorem cv_inn (c : Ck) (s : Ls) (x : Nat) : (cv c s).setIfInBounds 6 (.int .u16 (x : Int)) = cv { c with inn := x } s := by simp [cv]
theorem cv_sid (c : Ck) (s : Ls) (x : Nat) : (cv c s).setIfInBounds 7 (.int .u16 (x : Int)) = cv { c with sid := x } s := by simp [cv]
theorem cv_ssn (c : Ck) (s : Ls) (x : Nat) : (cv c s).setIfInBounds 8 (.int .u16 (x : Int)) = cv { c with ssn := x } s := by simp [cv]
theorem cv_ppid (c : Ck) (s : Ls) (x : Nat) : (cv c s).setIfInBounds 9 (.int .u32 (x : Int)) = cv { c with ppid := x } s := by simp [cv]
theorem cv_da (c : Ck) (s : Ls) (l : List Int) (A : Option Addr) (n cp : Nat) : (cv c s).setIfInBounds 10 (.slice A n cp) = cv { c with da := l } (putD s A n cp) := by simp [cv, putD]
theorem mayO_yes {c : Ck} (h : may c) : mayO c = some c := by unfold mayO; rw [if_pos h]
theorem mayO_no {c : Ck} (h : ¬ may c) : mayO c = none := by unfold mayO; rw [if_neg h]
/-- The answer where the chunk may not be. -/
theorem rt_none {w W : World} {x : Tv} {xv z y : Array Value} (ht : take x = none) (h : RT w xv z y W) : TakeOut w (take x) (.returned (.tuple #[.agg (cv zero nol), .int .i64 50])) W := by
  rw [ht]; exact ⟨rfl, h.below⟩
theorem rt_some {w W : World} {x : Tv} {c : Ck} {s : Ls} {xv z y : Array Value} (ht : take x = some c) (h : RT w xv z y W) (hc : ChF (w.heap.size + 1 + 1 + 1) W c s) : TakeOut w (take x) (.returned (.tuple #[.agg (cv c s), .int .i64 0])) W := by
  rw [ht]; exact ⟨s, rfl, hc.lower (by omega), h.below⟩
end Go.Proofs.Ytbliipjiilmbcaa
