/-
  The reader of layer 5: came, as it reads a value.
-/
import Derived.Test.YtbliipjiilmbcaaYP1b
import Derived.Deep.RegionLaw
namespace Go.Proofs.Ytbliipjiilmbcaa
open Go.RowKit Wire Tlv Chunk

theorem Try_infoGap : (Try.prog.info? 63).map (fun i => (i.zero, i.size, i.bytes)) = some (some (.agg #[.int .u16 0, .int .u16 0]), 2, 4) := by kernel_rfl
theorem Try_info32 : (Try.prog.info? 27).map (fun i => (i.zero, i.size, i.bytes)) = some (some (.int .u32 0), 1, 4) := by kernel_rfl
def putG (s : Ls) (A : Option Addr) (n c : Nat) : Ls := { s with gA := A, gn := n, gc := c }
def putU (s : Ls) (A : Option Addr) (n c : Nat) : Ls := { s with uA := A, un := n, uc := c }
theorem rv_ga (A : Option Addr) (n cap : Nat) (c : Ck) (s : Ls) (bad : Bool) (l : List (Nat × Nat)) (A' : Option Addr) (n' c' : Nat) : (rv A n cap c s bad).setIfInBounds 13 (.slice A' n' c') = rv A n cap { c with ga := l } (putG s A' n' c') bad := by simp [rv, putG]
theorem rv_du (A : Option Addr) (n cap : Nat) (c : Ck) (s : Ls) (bad : Bool) (l : List Nat) (A' : Option Addr) (n' c' : Nat) : (rv A n cap c s bad).setIfInBounds 14 (.slice A' n' c') = rv A n cap { c with du := l } (putU s A' n' c') bad := by simp [rv, putU]
theorem rv_rw (A : Option Addr) (n cap : Nat) (c : Ck) (s : Ls) (bad : Bool) (x : Nat) : (rv A n cap c s bad).setIfInBounds 4 (.int .u32 (x : Int)) = rv A n cap { c with rw := x } s bad := by simp [rv]
def gaps_ (v : List Int) (k : Nat) : List (Nat × Nat) := (List.range k).map fun i => (nn v (12 + 4 * i) 2, nn v (14 + 4 * i) 2)
def dups_ (v : List Int) (g k : Nat) : List Nat := (List.range k).map fun i => nn v (12 + 4 * g + 4 * i) 4
theorem raw_sack {x : Tv} (h : x.k = 3) : raw x = if x.v.length = 12 + 4 * nn x.v 8 2 + 4 * nn x.v 10 2 then some { bare x with tsn := nn x.v 0 4, rw := nn x.v 4 4, ga := gaps_ x.v (nn x.v 8 2), du := dups_ x.v (nn x.v 8 2) (nn x.v 10 2) } else none := by simp [raw, h, gaps_, dups_]
theorem gaps_len (v : List Int) (k : Nat) : (gaps_ v k).length = k := by simp [gaps_]
theorem dups_len (v : List Int) (g k : Nat) : (dups_ v g k).length = k := by simp [dups_]
theorem gaps_snoc (v : List Int) (k : Nat) : gaps_ v (k + 1) = gaps_ v k ++ [(nn v (12 + 4 * k) 2, nn v (14 + 4 * k) 2)] := by simp [gaps_, List.range_succ]
theorem dups_snoc (v : List Int) (g k : Nat) : dups_ v g (k + 1) = dups_ v g k ++ [nn v (12 + 4 * g + 4 * k) 4] := by simp [dups_, List.range_succ]
theorem gs_snoc (l : List (Nat × Nat)) (a b : Nat) : gs (l ++ [(a, b)]) = gs l ++ [.int .u16 (a : Int), .int .u16 (b : Int)] := by simp [gs]
theorem us_snoc (l : List Nat) (a : Nat) : us (l ++ [a]) = us l ++ [.int .u32 (a : Int)] := by simp [us]
theorem nn_lt2 {v : List Int} (h : Byt v) (i : Nat) : nn v i 2 < 65536 := by
  unfold nn
  split
  · exact nu_lt 2 _ (by simp; omega) (Byt.take (Byt.drop h i) 2)
  · omega
theorem nn_lt4 {v : List Int} (h : Byt v) (i : Nat) : nn v i 4 < 4294967296 := by
  unfold nn
  split
  · exact nu_lt 4 _ (by simp; omega) (Byt.take (Byt.drop h i) 4)
  · omega
theorem n2_drop (v : List Int) (c : Ck) (bad : Bool) (i : Nat) : (⟨v.drop i, c, bad⟩ : Rt).n2 = (nn v i 2, ⟨v.drop (i + 2), c, bad || decide (v.length < i + 2)⟩) := by
  rw [Rt.n2_eq]
  simp only [List.drop_drop, List.length_drop]
  unfold nn
  congr 1
  · by_cases h : i + 2 ≤ v.length
    · rw [if_pos h, if_neg (by omega)]
    · rw [if_neg h, if_pos (by omega)]
  · congr 2
    rw [Bool.eq_iff_iff]; simp; omega
theorem n2_at {v : List Int} {i : Nat} (h : i + 2 ≤ v.length) (c : Ck) (bad : Bool) : (⟨v.drop i, c, bad⟩ : Rt).n2 = (nn v i 2, ⟨v.drop (i + 2), c, bad⟩) := by
  rw [n2_drop]
  have : decide (v.length < i + 2) = false := by simp; omega
  rw [this, Bool.or_false]
theorem n4_at {v : List Int} {i : Nat} (h : i + 4 ≤ v.length) (c : Ck) (bad : Bool) : (⟨v.drop i, c, bad⟩ : Rt).n4 = (nn v i 4, ⟨v.drop (i + 4), c, bad⟩) := by
  obtain ⟨e1, e2⟩ := Rt.n4_eq ⟨v.drop i, c, bad⟩
  have e3 := e2 (by simp; omega)
  have : decide ((v.drop i).length < 4) = false := by simp; omega
  simp only [this, Bool.or_false, List.drop_drop] at e1
  rw [← nn_at h] at e3
  exact Prod.ext e3 e1
theorem Ot.gr {W0 W W' : World} {b : Nat} {ob : Option Nat} (h : Ot W0 W b) (hg : W.grownBy W' ob) (hob : ∀ j, ob = some j → W0.heap.size ≤ j) : Ot W0 W' b :=
  ⟨hg.os.trans h.os, hg.tape.trans h.tape, hg.output.trans h.output, Nat.le_trans h.size hg.size, fun i hi hne => (hg.block i (Nat.lt_of_lt_of_le hi h.size) (fun e => by have := hob i e.symm; omega)).trans (h.block i hi hne)⟩
/-- The reader, behind an append to a row that is not its own. -/
theorem Rr.gr {w W W' : World} {b : Nat} {r : Rt} {s : Ls} {A : Option Addr} {n cap : Nat} {ob : Option Nat} (h : Rr w b r s A n cap W) (hg : W.grownBy W' ob) (hne : ob ≠ some b) (hob : ∀ j, ob = some j → w.heap.size ≤ j) : Rr w b r s A n cap W' :=
  ⟨(hg.block b h.bk.lt (fun e => hne e.symm)).trans h.bk, h.lo, h.bl.grown hg h.bl.size hob, h.row, h.len, h.le, h.cm, h.byt, h.sm⟩
theorem came_put {w W0 W W' : World} {b : Nat} {q : Rt} {s : Ls} {A : Option Addr} {n cap : Nat} {o : Obj} {ob : Option Nat} (hr : Rr w b q s A n cap W) (ho : Ot W0 W b) (hw : w.heap.size ≤ W0.heap.size) (hlt : b < W0.heap.size)
    (hg : (W.alloc o).grownBy W' ob) (hob : ∀ j, ob = some j → W0.heap.size ≤ j) : Rr w b q s A n cap W' ∧ Ot W0 W' b := by
  have ha : Below W.heap.size W (W.alloc o) := (Below.refl _ _).alloc (Nat.le_refl _) _
  exact ⟨(hr.next ha).gr hg (fun e => by have := hob b e; omega) (fun j e => Nat.le_trans hw (hob j e)), (ho.trans (Ot.below b ha)).gr hg hob⟩
/-- What is kept while gaps are read, and numbers behind them. -/
def CaSt (w W0 : World) (b : Nat) (v : List Int) (c0 : Ck) (bad : Bool) (k : Nat) (W : World) : Prop := ∃ A n cap gA gc, Rr w b ⟨v.drop (12 + 4 * k), { c0 with ga := gaps_ v k }, bad⟩ (putG nol gA k gc) A n cap W ∧ Ot W0 W b ∧ W.ownsRow W0.heap.size 63 2 (.slice gA k gc) k (gs (gaps_ v k))
def CaSu (w W0 : World) (b : Nat) (v : List Int) (c0 : Ck) (bad : Bool) (g k : Nat) (W : World) : Prop := ∃ A n cap gA gc uA uc, Rr w b ⟨v.drop (12 + 4 * g + 4 * k), { c0 with ga := gaps_ v g, du := dups_ v g k }, bad⟩ (putU (putG nol gA g gc) uA k uc) A n cap W ∧ Ot W0 W b ∧ W.ownsRow W0.heap.size 63 2 (.slice gA g gc) g (gs (gaps_ v g)) ∧ W.ownsRow W0.heap.size 27 1 (.slice uA k uc) k (us (dups_ v g k))
/-- A chunk of gaps whose rows are the call's own. -/
theorem ch_sack {W : World} {B : Nat} {c : Ck} {gA uA : Option Addr} {g d gc uc : Nat} (hok : c.ok) (hd : c.da = []) (ha : c.ad = []) (hc : c.ca = []) (hgl : c.ga.length = g) (hul : c.du.length = d) (hg : g ≤ 65536) (hu : d ≤ 65536)
    (og : W.ownsRow B 63 2 (.slice gA g gc) g (gs c.ga)) (ou : W.ownsRow B 27 1 (.slice uA d uc) d (us c.du)) : ChF B W c (putU (putG nol gA g gc) uA d uc) := fun W2 h2 => by
  have h3 := owns_keep og (.inr (.inr (.inl rfl))) h2
  have h4 := owns_keep ou (.inr (.inl rfl)) h2
  refine ⟨hok, ?_, ?_, ?_, row_of_owns h3, row_of_owns h4, ?_, ?_, ?_⟩
  · constructor
    all_goals simp [putU, putG, nol, hd, ha, hc, hgl, hul]
    all_goals omega
  · rw [hd]; exact ⟨none, 0, 0, rfl, rfl, Nat.le_refl _, Nat.zero_le _, Nat.zero_le _, Row.nil_ _ _, fun _ => ⟨rfl, rfl⟩⟩
  · rw [ha]; intro i v hv; simp [us] at hv
  · rw [hc]; intro i v hv; simp [cs] at hv
  · rw [hc]; rfl
  · rw [hc]; intro i x v h1; simp at h1
set_option maxRecDepth 100000 in
set_option maxHeartbeats 4000000 in
theorem came_f (w W : World) (b : Nat) (x : Tv) (A : Option Addr) (n cap : Nat) (hx : x.ok) (hk : x.k = 3) (h : Rr w b (r0 x) nol A n cap W) :
    Calls Try.prog 63 #[.pointer (some ⟨b, 0, none⟩)] W (FOut w b x W) := by
  have HR := Lib.hid h
  have HF4 := Lib.hid fun r s W A n cap h => four_r w W b r s A n cap h
  have HF2 := Lib.hid fun r s W A n cap h => two_r w W b r s A n cap h
  have hlt := h.bk.lt
  have HX := Lib.hid hx
  have HK := Lib.hid hk
  have HWS : Hid (w.heap.size ≤ W.heap.size) := Lib.hid h.bl.size
  have hsm := h.sm
  have hln := h.len
  have HL : Hid (x.v.length = n) := Lib.hid hln
  obtain ⟨i0, hi0, hz0, hz1, hz2⟩ := info_parts Try_infoGap
  have HI := Lib.hid hi0
  have HZ0 := Lib.hid hz0
  have HZ1 := Lib.hid hz1
  have HZ2 := Lib.hid hz2
  obtain ⟨i4, hi4, hy0, hy1, hy2⟩ := info_parts Try_info32
  have HJ := Lib.hid hi4
  have HY0 := Lib.hid hy0
  have HY1 := Lib.hid hy1
  have HY2 := Lib.hid hy2
  clear h hln hi0 hz0 hz1 hz2 hi4 hy0 hy1 hy2
  go_enter Try.func63, Try.ntmps63
  go_wp2_with fail
  (with_reducible refine (HF4.out _ _ _ _ _ _ HR.out).mono ?_)
  rintro e W1 ⟨A1, n1, c1, rfl, hr1, ho1⟩
  have hlt1 := Rt.n4_lt HR.out.byt
  obtain ⟨e1, e1v⟩ := Rt.n4_eq (r0 x)
  generalize hv1 : (r0 x).n4.1 = v1 at *
  have f5 := hr1.bk.frozen 5
  have g5 := hr1.bk.r5
  have HR1 := Lib.hid (hr1.put 5 (.int .u32 (v1 : Int)) _ (rv_tsn _ _ _ _ _ _ v1))
  have HO1 := Lib.hid (ho1.set 5 (.int .u32 (v1 : Int)))
  generalize hq1 : (⟨(r0 x).n4.2.l, { (r0 x).n4.2.c with tsn := v1 }, (r0 x).n4.2.bad⟩ : Rt) = q1 at HR1
  have HE1 : Hid (q1 = ⟨x.v.drop 4, { bare x with tsn := v1 }, decide (x.v.length < 4)⟩) := Lib.hid (by rw [← hq1, e1]; rfl)
  have HV1 : Hid (4 ≤ x.v.length → v1 = nn x.v 0 4) := Lib.hid (fun hl => by rw [e1v hl, nn_at (by omega), List.drop_zero]; rfl)
  have HLT1 := Lib.hid hlt1
  clear hr1 ho1 e1 e1v hlt1 hv1 hq1
  go_wp2_with fail
  (with_reducible refine (HF4.out _ _ _ _ _ _ HR1.out).mono ?_)
  rintro e W2 ⟨A2, n2, c2, rfl, hr2, ho2⟩
  have hlt2 := Rt.n4_lt HR1.out.byt
  obtain ⟨e2, e2v⟩ := Rt.n4_eq q1
  generalize hv2 : q1.n4.1 = v2 at *
  have f4 := hr2.bk.frozen 4
  have g4 := hr2.bk.r4
  have HR2 := Lib.hid (hr2.put 4 (.int .u32 (v2 : Int)) _ (rv_rw _ _ _ _ _ _ v2))
  have HO2 := Lib.hid ((HO1.out.trans ho2).set 4 (.int .u32 (v2 : Int)))
  generalize hq2 : (⟨q1.n4.2.l, { q1.n4.2.c with rw := v2 }, q1.n4.2.bad⟩ : Rt) = q2 at HR2
  have HE2 : Hid (q2 = ⟨x.v.drop 8, { bare x with tsn := v1, rw := v2 }, decide (x.v.length < 8)⟩) := Lib.hid (by
    rw [← hq2, e2, HE1.out]
    simp only [List.drop_drop, List.length_drop]
    congr 1
    rw [Bool.eq_iff_iff]; simp; omega)
  have HV2 : Hid (8 ≤ x.v.length → v2 = nn x.v 4 4) := Lib.hid fun hl => by
    rw [e2v (by rw [HE1.out]; simp; omega), HE1.out, nn_at (by omega)]
  have HLT2 := Lib.hid hlt2
  clear hr2 ho2 e2 e2v hlt2 hv2 hq2 f5 g5
  go_wp2_with fail
  (with_reducible refine (HF2.out _ _ _ _ _ _ HR2.out).mono ?_)
  rintro e W3 ⟨A3, n3, c3, rfl, hr3, ho3⟩
  have HE3 : Hid (q2.n2 = (nn x.v 8 2, ⟨x.v.drop 10, { bare x with tsn := v1, rw := v2 }, decide (x.v.length < 10)⟩)) := Lib.hid (by
    rw [HE2.out, n2_drop]
    congr 2
    rw [Bool.eq_iff_iff]; simp; omega)
  rw [HE3.out] at hr3
  have HR3 := Lib.hid hr3
  have HO3 := Lib.hid (HO2.out.trans ho3)
  have hg := nn_lt2 HX.out.2.2 8
  rw [HE3.out]
  simp only
  obtain ⟨g, hge⟩ : ∃ g, nn x.v 8 2 = g := ⟨_, rfl⟩
  rw [hge] at hg ⊢
  have HGE := Lib.hid hge
  clear hr3 ho3 f4 g4 hge
  go_wp2_with fail
  (with_reducible refine (HF2.out _ _ _ _ _ _ HR3.out).mono ?_)
  rintro e W4 ⟨A4, n4, c4, rfl, hr4, ho4⟩
  have HE4 := Lib.hid (n2_drop x.v { bare x with tsn := v1, rw := v2 } (decide (x.v.length < 10)) 10)
  rw [HE4.out] at hr4 ⊢
  have hbad : (decide (x.v.length < 10) || decide (x.v.length < 10 + 2)) = decide (n < 12) := by rw [HL.out]; rw [Bool.eq_iff_iff]; simp; omega
  rw [hbad] at hr4
  have HR4 := Lib.hid hr4
  have HO4 := Lib.hid (HO3.out.trans ho4)
  have hd := nn_lt2 HX.out.2.2 10
  simp only
  obtain ⟨d, hde⟩ : ∃ d, nn x.v 10 2 = d := ⟨_, rfl⟩
  rw [hde] at hd ⊢
  have HDE := Lib.hid hde
  have hl4 := hr4.len
  have hn4 : n4 = n - 12 := by rw [← hl4]; show (x.v.drop 12).length = _; rw [List.length_drop, HL.out]
  have hsh : n < 12 → d = 0 := fun h => by rw [← hde]; unfold nn; rw [if_neg (by rw [HL.out]; omega)]
  have hsg : n < 10 → g = 0 := fun h => by rw [← HGE.out]; unfold nn; rw [if_neg (by rw [HL.out]; omega)]
  have q0 := hr4.bk.r0
  have f16 := hr4.bk.frozen 16
  have q16 := hr4.bk.r16
  have HBAD := Lib.hid (hr4.bad_ true)
  have HSH := Lib.hid hsh
  have HSG := Lib.hid hsg
  have HN4 := Lib.hid hn4
  clear hr4 ho4 hl4 hbad hde hsh hsg hn4
  by_cases heq : n4 = 4 * (g + d)
  · have d1 : ((n4 : Int) != 4 * ((g : Int) + (d : Int))) = false := by simp; omega
    have HEQ := Lib.hid heq
    have HSTA : Hid (CaSt w W b x.v { bare x with tsn := v1, rw := v2 } (decide (n < 12)) 0 W4) := Lib.hid ⟨A4, n4, c4, none, 0, HR4.out, HO4.out, World.ownsRow_nil _ _ _ _⟩
    have HLEN : Hid (0 < g + d → x.v.length = 12 + 4 * g + 4 * d) := Lib.hid fun h0 => by have h1 := HL.out; have h2 := HN4.out; have h3 := HEQ.out; omega
    clear heq q16 f16
    go_wp2_with fail
    clear d1 q0
    go_loopw [36] (fun i wr => ∃ k : Nat, k ≤ g ∧ i = .int .i64 (k : Int) ∧ Hid (CaSt w W b x.v { bare x with tsn := v1, rw := v2 } (decide (n < 12)) k wr)) (fun i _ => g - (intOf i).toNat)
    case atStart => exact ⟨0, by omega, rfl, HSTA⟩
    case round =>
      clear HSTA
      obtain ⟨k, hk1, rfl, hst⟩ := hrel
      by_cases hlt1 : k < g
      · obtain ⟨B, m, mc, gA, gc, hrr, hot, hog⟩ := hst.out
        have hln := HLEN.out (by omega)
        have HT1 : Hid (∀ W A n cap, Rr w b ⟨x.v.drop (12 + 4 * k), { ({ bare x with tsn := v1, rw := v2 } : Ck) with ga := gaps_ x.v k }, decide (n < 12)⟩ (putG nol gA k gc) A n cap W → True) := Lib.hid fun _ _ _ _ _ => trivial
        obtain ⟨y0, hy0⟩ : ∃ y : Rt, (⟨x.v.drop (12 + 4 * k), { ({ bare x with tsn := v1, rw := v2 } : Ck) with ga := gaps_ x.v k }, decide (n < 12)⟩ : Rt) = y := ⟨_, rfl⟩
        obtain ⟨y1, hy1⟩ : ∃ y : Rt, (⟨x.v.drop (14 + 4 * k), { ({ bare x with tsn := v1, rw := v2 } : Ck) with ga := gaps_ x.v k }, decide (n < 12)⟩ : Rt) = y := ⟨_, rfl⟩
        obtain ⟨y2, hy2⟩ : ∃ y : Rt, (⟨x.v.drop (12 + 4 * (k + 1)), { ({ bare x with tsn := v1, rw := v2 } : Ck) with ga := gaps_ x.v k }, decide (n < 12)⟩ : Rt) = y := ⟨_, rfl⟩
        have hn0 : y0.n2 = (nn x.v (12 + 4 * k) 2, y1) := by rw [← hy0, ← hy1, n2_at (by omega), show 12 + 4 * k + 2 = 14 + 4 * k by omega]
        have hn1 : y1.n2 = (nn x.v (14 + 4 * k) 2, y2) := by rw [← hy1, ← hy2, n2_at (by omega), show 14 + 4 * k + 2 = 12 + 4 * (k + 1) by omega]
        rw [hy0] at hrr
        have HS := Lib.hid (gaps_snoc x.v k)
        have HY2E := Lib.hid hy2
        have hx0 := nn_lt2 HX.out.2.2 (12 + 4 * k)
        have hx1 := nn_lt2 HX.out.2.2 (14 + 4 * k)
        generalize nn x.v (12 + 4 * k) 2 = z0 at hn0 HS hx0
        generalize nn x.v (14 + 4 * k) 2 = z1 at hn1 HS hx1
        have HT0 : Hid (∀ W A n cap, Rr w b y0 (putG nol gA k gc) A n cap W → Calls Try.prog 89 #[.pointer (some ⟨b, 0, none⟩)] W (NOut w b y1 (putG nol gA k gc) (.int .u16 (z0 : Int)) W)) := Lib.hid fun W A n cap h => by have := HF2.out y0 _ W A n cap h; rw [hn0] at this; exact this
        have HT2 : Hid (∀ W A n cap, Rr w b y1 (putG nol gA k gc) A n cap W → Calls Try.prog 89 #[.pointer (some ⟨b, 0, none⟩)] W (NOut w b y2 (putG nol gA k gc) (.int .u16 (z1 : Int)) W)) := Lib.hid fun W A n cap h => by have := HF2.out y1 _ W A n cap h; rw [hn1] at this; exact this
        have hrd := hrr.drew
        have HOD := Lib.hid hot.drew
        have HOG := Lib.hid hog
        have g13 : wr.drew.cell? ⟨b, 13, none⟩ = some (.slice gA k gc) := hrd.bk.r13
        have hne : (Value.slice gA k gc).ownBlock ≠ some b := fun e => by have := (hog.lt _ e).1; omega
        have HNE := Lib.hid hne
        have HRB := Lib.hid hrr
        have HQW : Hid (∀ (W2 : World) (o : Obj), Ot wr W2 b → (W2.alloc o).ownsRow W.heap.size 63 2 (.slice gA k gc) k (gs (gaps_ x.v k))) := Lib.hid fun W2 o h2 => own_below (owns_ot HOG.out h2 HNE.out) ((Below.refl _ _).alloc (Nat.le_refl _) _)
        have HOB : Hid (∀ j, (Value.slice gA k gc).ownBlock = some j → W.heap.size ≤ j) := Lib.hid fun j e => (HOG.out.lt j e).1
        clear hst hrr hot hog hne hn0 hn1 hy0 hy1 hy2 HT1
        go_upto_region 7 with fail
        first | go_region_law (first
          | (go_simp; go_at_call 89; (with_reducible refine (HT0.out _ _ _ _ hrd).mono ?_); rintro e wP ⟨AP, nP, cP, rfl, hrP, hoP⟩; have gP : wP.cell? ⟨b, 13, none⟩ = some (.slice gA k gc) := hrP.bk.r13; have HOP := Lib.hid (((Ot.refl wr b).drew).trans hoP); have HOPW := Lib.hid (HOD.out.trans hoP); clear hoP)
          | (go_simp; go_at_call 89; (with_reducible refine (HT2.out _ _ _ _ hrP).mono ?_); rintro e wQ ⟨AQ, nQ, cQ, rfl, hrQ, hoQ⟩; have gQ : wQ.cell? ⟨b, 13, none⟩ = some (.slice gA k gc) := hrQ.bk.r13; have HWQ := Lib.hid (HOP.out.trans hoQ); have HOQ := Lib.hid (HOPW.out.trans hoQ); have HRQ := Lib.hid hrQ; have gQ2 : (wQ.alloc (.cells #[.int .u16 (z0 : Int), .int .u16 (z1 : Int)] 63)).cell? ⟨b, 13, none⟩ = some (.slice gA k gc) := (hrQ.next ((Below.refl _ _).alloc (Nat.le_refl _) _)).bk.r13; clear hoQ)
          | (refine step_append_lies _ rfl (.tmp 43) (.tmp 49) 29 rfl W.heap.size 63 i0 _ 2 4 Try.underlying29 HI.out HZ0.out HZ1.out HZ2.out rfl (by decide) _ k _ rfl (HQW.out _ _ HWQ.out) ⟨wQ.heap.size, 0, none⟩ 1 1 [.int .u16 (z0 : Int), .int .u16 (z1 : Int)] rfl rfl (bcells (Row.new wQ [.int .u16 (z0 : Int), .int .u16 (z1 : Int)] 63 (0, 0))) (by simp [Value.oneCell']) (by omega) (by unfold maxLen; omega) (by omega) (by rw [World.size_alloc]; have := HOQ.out.size; omega) _ rfl ?_; intro g9 cap9 w10 hown10 hgrow10 hat10 _; obtain ⟨hr10, ho10⟩ := came_put HRQ.out HOQ.out HWS.out hlt hgrow10 HOB.out; have HR10 := Lib.hid hr10; have HO10 := Lib.hid ho10; have g13' := hr10.bk.r13; have f13 := hr10.bk.frozen 13; have HOW := Lib.hid hown10; clear hr10 ho10 hown10 hgrow10 hat10)) | fail
        all_goals
          have HN : Hid (CaSt w W b x.v { bare x with tsn := v1, rw := v2 } (decide (n < 12)) (k + 1) (w10.setCell ⟨b, 13, none⟩ (.slice (some ⟨g9, 0, none⟩) (k + 1) cap9))) := Lib.hid (by
            have h1 := HR10.out.put 13 (.slice (some ⟨g9, 0, none⟩) (k + 1) cap9) { y2.c with ga := gaps_ x.v (k + 1) } (rv_ga _ _ _ _ _ _ (gaps_ x.v (k + 1)) _ _ _)
            rw [← HY2E.out] at h1
            refine ⟨_, _, _, _, _, h1, HO10.out.set 13 _, owns_put ?_ hlt⟩
            rw [HS.out, gs_snoc]
            exact HOW.out)
          go_wp2_with fail
          go_roundw
          case rel => exact ⟨k + 1, by omega, by go_num, HN⟩
          case measure => simp [intOf]; omega
      · have hke : k = g := by omega
        subst hke
        obtain ⟨B, m, mc, gA, gc, hrr, hot, hog⟩ := hst.out
        have HST : Hid (CaSu w W b x.v { bare x with tsn := v1, rw := v2 } (decide (n < 12)) k 0 wr) := Lib.hid ⟨B, m, mc, gA, gc, none, 0, hrr, hot, hog, World.ownsRow_nil _ _ _ _⟩
        clear hst hrr hot hog
        go_wp2_with fail
        go_loopw [56] (fun i wr => ∃ j : Nat, j ≤ d ∧ i = .int .i64 (j : Int) ∧ Hid (CaSu w W b x.v { bare x with tsn := v1, rw := v2 } (decide (n < 12)) k j wr)) (fun i _ => d - (intOf i).toNat)
        case atStart => exact ⟨0, by omega, rfl, HST⟩
        case round =>
          clear HST
          obtain ⟨j, hj1, rfl, hst⟩ := hrel
          obtain ⟨B, m, mc, gA, gc, uA, uc, hrr, hot, hog, hou⟩ := hst.out
          by_cases hlt2 : j < d
          · have hln := HLEN.out (by omega)
            obtain ⟨y0, hy0⟩ : ∃ y : Rt, (⟨x.v.drop (12 + 4 * k + 4 * j), { ({ bare x with tsn := v1, rw := v2 } : Ck) with ga := gaps_ x.v k, du := dups_ x.v k j }, decide (n < 12)⟩ : Rt) = y := ⟨_, rfl⟩
            obtain ⟨y1, hy1⟩ : ∃ y : Rt, (⟨x.v.drop (12 + 4 * k + 4 * (j + 1)), { ({ bare x with tsn := v1, rw := v2 } : Ck) with ga := gaps_ x.v k, du := dups_ x.v k j }, decide (n < 12)⟩ : Rt) = y := ⟨_, rfl⟩
            have hn0 : y0.n4 = (nn x.v (12 + 4 * k + 4 * j) 4, y1) := by rw [← hy0, ← hy1, n4_at (by omega), show 12 + 4 * k + 4 * j + 4 = 12 + 4 * k + 4 * (j + 1) by omega]
            rw [hy0] at hrr
            have HS := Lib.hid (dups_snoc x.v k j)
            have HY1E := Lib.hid hy1
            have hx0 := nn_lt4 HX.out.2.2 (12 + 4 * k + 4 * j)
            generalize nn x.v (12 + 4 * k + 4 * j) 4 = z0 at hn0 HS hx0
            have HT0 : Hid (∀ W A n cap, Rr w b y0 (putU (putG nol gA k gc) uA j uc) A n cap W → Calls Try.prog 88 #[.pointer (some ⟨b, 0, none⟩)] W (NOut w b y1 (putU (putG nol gA k gc) uA j uc) (.int .u32 (z0 : Int)) W)) := Lib.hid fun W A n cap h => by have := HF4.out y0 _ W A n cap h; rw [hn0] at this; exact this
            have hrd := hrr.drew
            have HOD := Lib.hid hot.drew
            have HOG := Lib.hid hog
            have HOU := Lib.hid hou
            have g14 : wr.drew.cell? ⟨b, 14, none⟩ = some (.slice uA j uc) := hrd.bk.r14
            have HNG : Hid ((Value.slice gA k gc).ownBlock ≠ some b) := Lib.hid fun e => by have := (hog.lt _ e).1; omega
            have HNU : Hid ((Value.slice uA j uc).ownBlock ≠ some b) := Lib.hid fun e => by have := (hou.lt _ e).1; omega
            have HNN := Lib.hid (own_apart hog hou (by decide))
            have HQG : Hid (∀ (W2 : World) (o : Obj), Ot wr W2 b → (W2.alloc o).ownsRow W.heap.size 63 2 (.slice gA k gc) k (gs (gaps_ x.v k))) := Lib.hid fun W2 o h2 => own_below (owns_ot HOG.out h2 HNG.out) ((Below.refl _ _).alloc (Nat.le_refl _) _)
            have HQW : Hid (∀ (W2 : World) (o : Obj), Ot wr W2 b → (W2.alloc o).ownsRow W.heap.size 27 1 (.slice uA j uc) j (us (dups_ x.v k j))) := Lib.hid fun W2 o h2 => own_below (owns_ot HOU.out h2 HNU.out) ((Below.refl _ _).alloc (Nat.le_refl _) _)
            have HOB : Hid (∀ i, (Value.slice uA j uc).ownBlock = some i → W.heap.size ≤ i) := Lib.hid fun i e => (HOU.out.lt i e).1
            clear hst hrr hot hog hou hn0 hy0 hy1
            go_upto_region 11 with fail
            first | go_region_law (first
              | (go_simp; go_at_call 88; (with_reducible refine (HT0.out _ _ _ _ hrd).mono ?_); rintro e wQ ⟨AQ, nQ, cQ, rfl, hrQ, hoQ⟩; have gQ : wQ.cell? ⟨b, 14, none⟩ = some (.slice uA j uc) := hrQ.bk.r14; have HWQ := Lib.hid (((Ot.refl wr b).drew).trans hoQ); have HOQ := Lib.hid (HOD.out.trans hoQ); have HRQ := Lib.hid hrQ; have gQ2 : (wQ.alloc (.cells #[.int .u32 (z0 : Int)] 27)).cell? ⟨b, 14, none⟩ = some (.slice uA j uc) := (hrQ.next ((Below.refl _ _).alloc (Nat.le_refl _) _)).bk.r14; clear hoQ)
              | (refine step_append_lies _ rfl (.tmp 63) (.tmp 66) 28 rfl W.heap.size 27 i4 _ 1 4 Try.underlying28 HJ.out HY0.out HY1.out HY2.out rfl (by decide) _ j _ rfl (HQW.out _ _ HWQ.out) ⟨wQ.heap.size, 0, none⟩ 1 1 [.int .u32 (z0 : Int)] rfl rfl (bcells (Row.new wQ [.int .u32 (z0 : Int)] 27 (0, 0))) (by simp [Value.oneCell']) (by omega) (by unfold maxLen; omega) (by omega) (by rw [World.size_alloc]; have := HOQ.out.size; omega) _ rfl ?_; intro g9 cap9 w10 hown10 hgrow10 hat10 _; obtain ⟨hr10, ho10⟩ := came_put HRQ.out HOQ.out HWS.out hlt hgrow10 HOB.out; have HR10 := Lib.hid hr10; have HO10 := Lib.hid ho10; have g14' := hr10.bk.r14; have f14 := hr10.bk.frozen 14; have HOW := Lib.hid hown10; have HOGW := Lib.hid ((HQG.out _ (.cells #[.int .u32 (z0 : Int)] 27) HWQ.out).kept hgrow10 HNN.out); clear hr10 ho10 hown10 hgrow10 hat10)) | fail
            all_goals
              have HN : Hid (CaSu w W b x.v { bare x with tsn := v1, rw := v2 } (decide (n < 12)) k (j + 1) (w10.setCell ⟨b, 14, none⟩ (.slice (some ⟨g9, 0, none⟩) (j + 1) cap9))) := Lib.hid (by
                have h1 := HR10.out.put 14 (.slice (some ⟨g9, 0, none⟩) (j + 1) cap9) { y1.c with du := dups_ x.v k (j + 1) } (rv_du _ _ _ _ _ _ (dups_ x.v k (j + 1)) _ _ _)
                rw [← HY1E.out] at h1
                refine ⟨_, _, _, _, _, _, _, h1, HO10.out.set 14 _, owns_put HOGW.out hlt, owns_put ?_ hlt⟩
                rw [HS.out, us_snoc]
                exact HOW.out)
              go_wp2_with fail
              go_roundw
              case rel => exact ⟨j + 1, by omega, by go_num, HN⟩
              case measure => simp [intOf]; omega
          · have hje : j = d := by omega
            subst hje
            have HRR := Lib.hid hrr
            have HOT := Lib.hid hot
            have HOG := Lib.hid hog
            have HOU := Lib.hid hou
            clear hst hrr hot hog hou
            go_wp2_with fail
            go_end0
            refine ⟨rfl, _, _, _, _, _, HRR.out, HOT.out, fun hb hl => ?_, ?_⟩
            · have hn12 : 12 ≤ n := by simpa using hb
              have hb := bare_ok HX.out (by have := HK.out; omega)
              refine ch_sack ?_ rfl rfl rfl (gaps_len _ _) (dups_len _ _ _) (by omega) (by omega) HOG.out HOU.out
              exact { hb with tsn := HLT1.out, rw := HLT2.out, ga := fun p hp => (by
                obtain ⟨i, _, rfl⟩ := List.mem_map.1 hp
                exact ⟨nn_lt2 HX.out.2.2 _, nn_lt2 HX.out.2.2 _⟩), du := fun p hp => (by
                obtain ⟨i, _, rfl⟩ := List.mem_map.1 hp
                exact nn_lt4 HX.out.2.2 _) }
            · rw [take_raw (by have := HK.out; omega), raw_sack HK.out, HGE.out, HDE.out]
              have h1 := HL.out
              have h2 := HN4.out
              have h3 := HEQ.out
              have h4 := HSH.out
              have h5 := HSG.out
              by_cases hs : n < 12
              · rw [fin_bad (by simpa using hs), if_neg (by omega)]
                rfl
              · rw [if_pos (by omega), fin_ok (by simp; omega) (List.drop_of_length_le (by omega)), HV1.out (by omega), HV2.out (by omega)]
                rfl
  · have d1 : ((n4 : Int) != 4 * ((g : Int) + (d : Int))) = true := by simp; omega
    have HEQ := Lib.hid heq
    clear heq
    go_wp2_with fail
    go_end0
    refine ⟨rfl, _, _, _, _, _, HBAD.out, HO4.out.set 16 (.bool true), (fun hb _ => by cases hb), ?_⟩
    rw [fin_bad rfl, take_raw (by have := HK.out; omega), raw_sack HK.out, HGE.out, HDE.out, if_neg (by have h1 := HL.out; have h2 := HN4.out; have h3 := HEQ.out; have h4 := HSH.out; have h5 := HSG.out; omega)]
    rfl
end Go.Proofs.Ytbliipjiilmbcaa
