/-
  TlvBack: the walk.
-/
import Derived.Test.YtlcmfhikcdppoaaTlvGoes
namespace Go.Proofs.Ytlcmfhikcdppoaa
open Go.RowKit Wire Tlv Go.Shelf
attribute [local go_sem] Oper.semAt_some

theorem tp_ok {ch : Bool} {x : Tv} (h : (tp ch x).2 = 0) : fit ch x ∧ x.v.length ≤ 65531 ∧ (tp ch x).1 = tb ch x := by
  unfold tp at *
  by_cases h1 : fit ch x
  · rw [if_neg (by simpa using h1)] at h ⊢
    by_cases h2 : 65531 < x.v.length
    · rw [if_pos h2] at h
      cases h
    · rw [if_neg h2]
      exact ⟨h1, by omega, rfl⟩
  · rw [if_pos (by simpa using h1)] at h
    cases h
theorem tp_of {ch : Bool} {x : Tv} (h1 : fit ch x) (h2 : x.v.length ≤ 65531) : tp ch x = (tb ch x, 0) := by
  unfold tp
  rw [if_neg (by simpa using h1), if_neg (by omega)]
theorem cat_take {ch : Bool} {xs : List Tv} {k : Nat} (h : k < xs.length) : cat ch (xs.take (k + 1)) = cat ch (xs.take k) ++ tb ch xs[k] := by
  unfold cat
  rw [List.take_succ_eq_append_getElem h, List.flatMap_append]
  simp
theorem cat_byt {ch : Bool} {xs : List Tv} (h : ∀ x ∈ xs, x.ok ∧ fit ch x ∧ x.v.length ≤ 65531) : Byt (cat ch xs) := by
  intro c hc
  obtain ⟨x, hx, hc⟩ := List.mem_flatMap.1 hc
  exact tb_byt (h x hx).1 (h x hx).2.1 c hc
theorem cat_le (ch : Bool) (xs : List Tv) (k : Nat) : (cat ch (xs.take k)).length ≤ (cat ch xs).length := by
  have : cat ch xs = cat ch (xs.take k) ++ cat ch (xs.drop k) := by
    unfold cat
    rw [← List.flatMap_append, List.take_append_drop]
  rw [this, List.length_append]
  omega
/-- The first blocks of the call. -/
def Hd (w : World) (A : Option Addr) (N c : Nat) (W : World) : Prop := Bk W w.heap.size #[.slice A N c] 32 ∧ Bk W (w.heap.size + 1) #[.bool false] 4 ∧ Below w.heap.size w W
theorem Hd.next {w : World} {A : Option Addr} {N c : Nat} {W W' : World} (h : Hd w A N c W) (hb : Below W.heap.size W W') : Hd w A N c W' := ⟨h.1.next hb, h.2.1.next hb, bnext' h.2.2 hb⟩
theorem Hd.calm {w : World} {A : Option Addr} {N c C : Nat} {W W' : World} (h : Hd w A N c W) (hw : w.heap.size ≤ C) (hc : Calm C W W') : Hd w A N c W' := ⟨h.1.calm hc, h.2.1.calm hc, h.2.2.trans (hc.1.mono hw)⟩
theorem Hd.lt {w : World} {A : Option Addr} {N c : Nat} {W : World} (h : Hd w A N c W) : w.heap.size + 1 + 1 ≤ W.heap.size := h.2.1.lt
theorem Hd.nextB {w : World} {A : Option Addr} {N c : Nat} {W W' : World} (h : Hd w A N c W) (hb : Below (w.heap.size + 1 + 1) W W') : Hd w A N c W' := ⟨h.1.nextB hb (by omega), h.2.1.nextB hb (by omega), h.2.2.trans (hb.mono (by omega))⟩
theorem Hd.set {w : World} {A : Option Addr} {N c d : Nat} {W : World} (h : Hd w A N c W) (hd : w.heap.size + 1 < d) (u : Value) : Hd w A N c (W.setCell ⟨d, 0, none⟩ u) :=
  ⟨h.1.other (by omega) 0 u, h.2.1.other (by omega) 0 u, h.2.2.setCell (p := ⟨d, 0, none⟩) (by show w.heap.size ≤ d; omega) u⟩
/-- The result stored, the mark taken. -/
theorem Hd.mark {w : World} {A : Option Addr} {N c D : Nat} {W : World} (h : Hd w A N c W) (hd : W.heap[D]? = some (.deferred (some []))) (hw : w.heap.size + 1 < D) :
    (W.setCell ⟨w.heap.size + 1, 0, none⟩ (.bool true)).heap[D]? = some (.deferred (some [])) ∧ ((W.setCell ⟨w.heap.size + 1, 0, none⟩ (.bool true)).putObj D (.deferred none)).cell? ⟨w.heap.size + 1, 0, none⟩ = some (.bool true) ∧ Below w.heap.size w ((W.setCell ⟨w.heap.size + 1, 0, none⟩ (.bool true)).putObj D (.deferred none)) := by
  have e1 : (W.setCell ⟨w.heap.size + 1, 0, none⟩ (.bool true)).heap[D]? = some (.deferred (some [])) := (Below.heap_setCell _ _ _ D (by show D ≠ w.heap.size + 1; omega)).trans hd
  have c1 := Calm.of_put (B := w.heap.size) (.deferred none) e1 rfl (by omega)
  have b1 := h.2.1.set 0 (.bool true)
  simp at b1
  have g0 := (b1.calm c1).cell 0
  simp at g0
  exact ⟨e1, g0, (h.2.2.setCell (p := ⟨w.heap.size + 1, 0, none⟩) (by simp) _).trans c1.1⟩
theorem Hd.fin {w : World} {A : Option Addr} {N c : Nat} {W : World} (h : Hd w A N c W) : (W.setCell ⟨w.heap.size + 1, 0, none⟩ (.bool true)).cell? ⟨w.heap.size + 1, 0, none⟩ = some (.bool true) ∧ Below w.heap.size w (W.setCell ⟨w.heap.size + 1, 0, none⟩ (.bool true)) := by
  have b1 := (h.2.1.set 0 (.bool true)).cell 0
  simp at b1
  exact ⟨b1, h.2.2.setCell (p := ⟨w.heap.size + 1, 0, none⟩) (by simp) _⟩
/-- The bytes that were put so far. -/
def Al (B : Nat) (L : List Int) (v : Value) (W : World) : Prop := ∃ A m c, v = .slice A m c ∧ W.ownsRow B 5 1 (.slice A m c) m (bs L)
set_option maxRecDepth 100000 in
set_option maxHeartbeats 4000000 in
theorem tlvBack_main (ch : Bool) (A : Option Addr) (N c : Nat) (qs : List Q) (A2 : Option Addr) (n2 c2 : Nat) (b : List Int) (w : World) (hN : N ≤ 100) (hq : qs.length = N) (ht : Ths w A qs) (hl : b.length = n2) (hn : n2 ≤ 5000) (hnc : n2 ≤ c2) (hcm : c2 ≤ maxLen) (hb : Byt b) (hr : Row w A2 (bs b)) (hz : A2 = none → n2 = 0 ∧ c2 = 0) :
    Calls Try.prog 5 #[.bool ch, .slice A N c, .slice A2 n2 c2] w fun e w' => e = .returned (.bool true) ∧ Below w.heap.size w w' := by
  have HK := Lib.hid known_any
  have HQ := Lib.hid hq
  have HT := Lib.hid ht
  have HL := Lib.hid hl
  have HB := Lib.hid hb
  have HR := Lib.hid hr
  have HZ := Lib.hid hz
  have HCM := Lib.hid hcm
  have d1 : decide ((5000 : Int) < (n2 : Int)) = false := by simp; omega
  have d0 : decide ((100 : Int) < (N : Int)) = false := by simp; omega
  have hb0 : Hid (Hd w A N c ((w.alloc (.cells #[.slice A N c] 32)).alloc (.cells #[.bool false] 4))) := by
    have e2 := Bk.new (w.alloc (.cells #[.slice A N c] 32)) #[.bool false] 4
    rw [World.size_alloc] at e2
    exact ⟨(Bk.new w _ _).alloc _, e2, ((Below.refl _ _).alloc (Nat.le_refl _) _).alloc (by simp) _⟩
  obtain ⟨i0, hi0, hz0, hz1, hz2⟩ := info_parts Try_info8
  have HI := Lib.hid hi0
  have HZ0 := Lib.hid hz0
  have HZ1 := Lib.hid hz1
  have HZ2 := Lib.hid hz2
  clear hq ht hl hb hr hz hi0 hz0 hz1 hz2 hcm
  refine calls_marks Try.func5 rfl ?_
  simp only [Try.ntmps5, List.size_toArray, List.length_cons, List.length_nil, Nat.reduceAdd, Nat.reduceSub, Array.replicate_succ, Array.replicate_zero, List.push_toArray, List.append_toArray, List.nil_append, List.cons_append]
  go_wp2_with fail
  refine (HK.out _).mono ?_
  rintro e w1 ⟨rfl, hb1⟩
  have HH1 := Lib.hid (hb0.out.next hb1)
  have r0 := HH1.out.1.cell 0
  simp at r0
  clear hb1 hb0
  go_wp2_with fail
  clear r0
  have hAl0 : Hid (Al (w.heap.size + 1 + 1) (cat ch ((qs.map (·.1)).take 0)) (.slice none 0 0) w1) := ⟨none, 0, 0, rfl, World.ownsRow_nil _ _ _ _⟩
  go_loopw [7, 33] (fun v i wr => ∃ k : Nat, k ≤ N ∧ i = .int .i64 k ∧ Hid (Hd w A N c wr) ∧ Hid (∃ m, lenOf v = m ∧ m ≤ 5000 ∧ Al (w.heap.size + 1 + 1) (cat ch ((qs.map (·.1)).take k)) v wr) ∧ Hid (∀ x ∈ (qs.map (·.1)).take k, x.ok ∧ fit ch x ∧ x.v.length ≤ 65531)) (fun _ i _ => N - (intOf i).toNat)
  case atStart => exact ⟨0, by omega, rfl, HH1, Lib.hid ⟨0, rfl, by omega, hAl0.out⟩, Lib.hid fun x h => by simp at h⟩
  case round =>
    clear hAl0 HH1
    obtain ⟨k, hk, rfl, hh, hal, hfit⟩ := hrel
    obtain ⟨m, hm1, hm5, A7, m7, c7, rfl, hrow⟩ := hal.out
    have hm75 : m7 ≤ 5000 := by rw [← hm1] at hm5; exact hm5
    have HROW := Lib.hid hrow
    clear hal hm1 hm5 hrow
    by_cases hlt : k < N
    · have hkq : k < qs.length := by rw [HQ.out]; exact hlt
      obtain ⟨a, B, m3, d3, rfl, x0, x1, x2, xe, xl, xc, xm, xn, xo, xr, xz⟩ := (HT.out.next (W' := wr) hh.out.2.2).at hkq
      have hp := fun W hW => tput_any ch qs[k].1 B m3 d3 W xo xl xn (xr.below (w' := W) hW)
      have HP := Lib.hid hp
      have hbox : Hid (Hd w (some a) N c (wr.alloc (.cells #[.int .u16 (qs[k].1.k : Int), .int .u8 (qs[k].1.f : Int), .slice B m3 d3] 25)) ∧ Below wr.heap.size wr (wr.alloc (.cells #[.int .u16 (qs[k].1.k : Int), .int .u8 (qs[k].1.f : Int), .slice B m3 d3] 25)) ∧ (wr.alloc (.cells #[.int .u16 (qs[k].1.k : Int), .int .u8 (qs[k].1.f : Int), .slice B m3 d3] 25)).ownsRow (w.heap.size + 1 + 1) 5 1 (.slice A7 m7 c7) m7 (bs (cat ch ((qs.map (·.1)).take k)))) :=
        ⟨hh.out.next ((Below.refl _ _).alloc (Nat.le_refl _) _), (Below.refl _ _).alloc (Nat.le_refl _) _, HROW.out.alloc _⟩
      have hxk : (qs.map (·.1))[k]? = some qs[k].1 := by rw [List.getElem?_map, List.getElem?_eq_getElem hkq]; rfl
      have HXK := Lib.hid hxk
      have HXO := Lib.hid xo
      clear hp xe xl xc xm xn xo xr xz HROW hxk
      obtain ⟨x, hx⟩ : ∃ x, qs[k].1 = x := ⟨_, rfl⟩
      rw [hx] at x0 x1 HP hbox HXK HXO
      clear hx
      go_wp2_with fail
      refine (HP.out _ hbox.out.2.1).mono ?_
      rintro e w4 ⟨A4, n4, c4, rfl, ho4⟩
      have hh4 := Lib.hid (hbox.out.1.next ho4.2)
      have HO4 := Lib.hid ho4
      have HR4 := Lib.hid (own_below hbox.out.2.2 ho4.2)
      have hlen4 := ho4.len
      have hTP := tp_ok (ch := ch) (x := x)
      have HLEN4 := Lib.hid hlen4
      have HTP := Lib.hid hTP
      have hcp := ho4.cap
      have HCP := Lib.hid hcp
      have r1 := hh4.out.2.1.cell 0
      have f1 := hh4.out.2.1.frozen 0
      simp at r1
      clear ho4 hlen4 hTP hcp hbox x0 x1 x2
      have hn4 : n4 ≤ 65540 := by
        have h := HLEN4.out
        unfold tp at h
        have hw := whl_le (4 + x.v.length)
        split at h
        · simp at h; omega
        split at h
        · simp at h; omega
        · rw [tb_len] at h; omega
      generalize tp ch x = p at HO4 HLEN4 HTP ⊢
      obtain ⟨L4, err⟩ := p
      simp only at HO4 HLEN4 HTP ⊢
      by_cases he : err = 0
      case neg =>
        have de : (err != 0) = true := by simpa using he
        have HF := Lib.hid hh4.out.fin
        clear he
        go_wp2_with fail
        obtain ⟨g0, hbel⟩ := HF.out
        clear HF r1 f1
        generalize World.setCell w4 _ _ = W9 at g0 hbel ⊢
        exact ⟨.bool true, by simp [results, Try.results5, go_sem, g0], rfl, hbel⟩
      case pos =>
        have de : (err != 0) = false := by simpa using he
        obtain ⟨hfx, hvx, hLx⟩ := HTP.out he
        subst hLx
        have hn44 : 4 ≤ n4 := by rw [← HLEN4.out, tb_len]; have := whl_le (4 + x.v.length); omega
        obtain ⟨g4, c4', hv4, _, _⟩ := HO4.out.1.form (by omega)
        simp only [Value.slice.injEq] at hv4
        obtain ⟨rfl, _, rfl⟩ := hv4
        subst he
        by_cases hbig : 5000 < m7 + n4
        · have db : decide ((5000 : Int) < (m7 : Int) + (n4 : Int)) = true := by simp; omega
          have HF := Lib.hid hh4.out.fin
          clear de
          go_wp2_with fail
          obtain ⟨g0, hbel⟩ := HF.out
          clear HF r1 f1
          generalize World.setCell w4 _ _ = W9 at g0 hbel ⊢
          exact ⟨.bool true, by simp [results, Try.results5, go_sem, g0], rfl, hbel⟩
        · have db : decide ((5000 : Int) < (m7 : Int) + (n4 : Int)) = false := by simp; omega
          have hfitk : Hid (∀ y ∈ (qs.map (·.1)).take (k + 1), y.ok ∧ fit ch y ∧ y.v.length ≤ 65531) := Lib.hid fun y hy => by
            have hkl : k < (qs.map (·.1)).length := by simpa using hkq
            rw [List.take_succ_eq_append_getElem hkl] at hy
            have e := HXK.out
            rw [List.getElem?_eq_getElem hkl] at e
            injection e with e
            rw [e] at hy
            rcases List.mem_append.1 hy with hy | hy
            · exact hfit.out y hy
            · simp at hy
              subst hy
              exact ⟨HXO.out, hfx, hvx⟩
          have hcat : cat ch ((qs.map (·.1)).take (k + 1)) = cat ch ((qs.map (·.1)).take k) ++ tb ch x := by
            have hkl : k < (qs.map (·.1)).length := by simpa using hkq
            rw [cat_take hkl]
            have e := HXK.out
            rw [List.getElem?_eq_getElem hkl] at e
            injection e with e
            rw [e]
          have HCAT := Lib.hid hcat
          have HLB : Hid ((bs (tb ch x)).length = n4 * 1) := Lib.hid (by rw [bs_len, HLEN4.out, Nat.mul_one])
          clear hcat hfx hvx r1 f1
          go_upto_region 13 with (at_builtin; refine wpList_append_lies _ rfl (.tmp 53) (.tmp 54) 23 rfl (w.heap.size + 1 + 1) 5 i0 (.int .u8 0) 1 1 Try.underlying23 HI.out HZ0.out HZ1.out HZ2.out rfl (by decide) _ _ _ rfl HR4.out ⟨g4, 0, none⟩ n4 _ (bs (tb ch x)) rfl HLB.out (bcells HO4.out.row) (bs_one _) (by omega) (by unfold maxLen; omega) (by omega) hh4.out.lt _ rfl ?_; intro b5 cap5 w5 hown5 hgrow5 _ _)
          have hh5 := Lib.hid (hh4.out.nextB ((Below.refl _ _).grown hgrow5 hh4.out.lt (fun j hj => (HR4.out.lt j hj).1)))
          rw [bs_app, ← HCAT.out] at hown5
          have HAL : Hid (∃ m, lenOf (.slice (some ⟨b5, 0, none⟩) (m7 + n4) cap5) = m ∧ m ≤ 5000 ∧ Al (w.heap.size + 1 + 1) (cat ch ((qs.map (·.1)).take (k + 1))) (.slice (some ⟨b5, 0, none⟩) (m7 + n4) cap5) w5) := ⟨_, rfl, by show m7 + n4 ≤ 5000; omega, _, _, _, rfl, hown5⟩
          clear hown5 hgrow5
          go_wp2_with fail
          go_roundw
          case rel => exact ⟨k + 1, by omega, by go_num, hh5, HAL, hfitk⟩
          case measure => simp [intOf]; omega
    · have hxs : (qs.map (·.1)).take k = qs.map (·.1) := List.take_of_length_le (by rw [List.length_map, HQ.out]; omega)
      have hfa : ∀ x ∈ qs.map (·.1), x.ok ∧ fit ch x ∧ x.v.length ≤ 65531 := by rw [← hxs]; exact hfit.out
      rw [hxs] at HROW
      have HXS : Hid (∀ x ∈ qs.map (·.1), x.ok ∧ fit ch x ∧ x.v.length ≤ 65531) := hfa
      have hbL := cat_byt hfa
      have htl := tl_cat (ch := ch) (xs := qs.map (·.1)) [] hfa
      rw [List.append_nil, tl_nil] at htl
      have hlist : tlist ch (cat ch (qs.map (·.1))) = (qs.map (·.1), 0) := by
        unfold tlist
        rw [htl]
        simp
      have hev : ev ch (cat ch (qs.map (·.1)) ++ b) = (qs.map (·.1)).map (fun x => (x, 0)) ++ ev ch b := ev_cat b hfa
      have HEV := Lib.hid hev
      have hbLb : Byt (cat ch (qs.map (·.1)) ++ b) := byt_app hbL HB.out
      have HBL := Lib.hid hbLb
      have hLl : (cat ch (qs.map (·.1))).length = m7 := by have := HROW.out.1; simpa [bs] using this
      have HLL := Lib.hid hLl
      have hc1 := list_any ch A7 m7 c7 (cat ch (qs.map (·.1))) wr hLl (by omega) hbL (row_of_own HROW.out)
      rw [hlist] at hc1
      have HC1 := Lib.hid hc1
      clear hxs hfa hbL htl hlist hev hbLb hLl hc1 hfit
      generalize cat ch (qs.map (·.1)) = L at HROW HEV HBL HLL HC1
      go_wp2_with fail
      refine HC1.out.mono ?_
      rintro e w5 ⟨A12, n12, c12, qs12, rfl, hq12, ht12⟩
      have hh5 := Lib.hid (hh.out.next ht12.2.2.2)
      have HR5 := Lib.hid (own_below HROW.out ht12.2.2.2)
      have hsm := sameAll_any A12 n12 c12 qs12 A N c qs w5 (by have := congrArg List.length hq12; simp only [List.length_map] at this; have := ht12.1; have := HQ.out; omega) ht12.1 HQ.out hq12 ht12.ths (HT.out.next hh5.out.2.2)
      have HSM := Lib.hid hsm
      have r0 := hh5.out.1.cell 0
      simp at r0
      clear hq12 ht12 hsm hh HROW HC1
      go_wp2_with fail
      refine HSM.out.mono ?_
      rintro e w6 ⟨rfl, hb6⟩
      have hh6 := Lib.hid (hh5.out.next hb6)
      have HR6 := Lib.hid (own_below HR5.out hb6)
      clear hb6 hh5 HR5 HSM r0
      go_upto_region 18 with fail
      have hb7 : Below w6.heap.size w6 (w6.alloc (.cells #[.int .i64 0] 3)) := (Below.refl _ _).alloc (Nat.le_refl _) _
      have hh7 := Lib.hid (hh6.out.next hb7)
      have HR7 := Lib.hid (own_below HR6.out hb7)
      have HP7 : Hid (Bk (w6.alloc (.cells #[.int .i64 0] 3)) w6.heap.size #[.int .i64 0] 3) := Bk.new _ _ _
      have HB7 : Hid (Row (w6.alloc (.cells #[.int .i64 0] 3)) A2 (bs b)) := HR.out.below hh7.out.2.2
      have hB14 : w.heap.size + 1 < w6.heap.size := hh6.out.lt
      clear hb7 hh6 HR6
      obtain ⟨p, hp⟩ : ∃ p, w6.heap.size = p := ⟨_, rfl⟩
      rw [hp] at HP7 hB14
      rw [hp]
      clear hp
      generalize w6.alloc (.cells #[.int .i64 0] 3) = w7 at hh7 HR7 HP7 HB7 ⊢
      have hplt : p < w7.heap.size := HP7.out.lt
      have HTA := Lib.hid fun (A' : Option Addr) (n' c' : Nat) (W : World) (hl : (L ++ b).length = n') (hn : n' ≤ 100000) (hr : Row W A' (bs (L ++ b))) => tall_any ch A' n' c' (L ++ b) W hl hn hr
      go_cut [75] from 71 to 75 (fun v W => ∃ (cb ob : Nat) (A' : Option Addr) (n' c' : Nat), v = .func (.func 19) #[] #[.pointer (some ⟨ob, 0, none⟩), .pointer (some ⟨cb, 0, none⟩)] ∧ Hid (It cb ob cb ch A' n' c' (L ++ b) W ∧ cb ≤ ob ∧ ob < W.heap.size ∧ p < cb) ∧ Hid (Hd w A N c W) ∧ Hid (Bk W p #[.int .i64 0] 3))
      case first =>
        rcases A2 with _ | a2
        · obtain ⟨rfl, rfl⟩ := HZ.out rfl
          have hb0 : b = [] := List.eq_nil_of_length_eq_zero HL.out
          have hT := HTA.out A7 m7 c7 w7 (by rw [hb0, List.append_nil, HLL.out]) (by omega) (by rw [hb0, List.append_nil]; exact row_of_own HR7.out)
          have HTT := Lib.hid hT
          clear hT
          go_wp2_with (at_builtin; refine wpList_append_own_none rfl (.tmp 72) (.tmp 73) 23 rfl (w.heap.size + 1 + 1) 5 i0 1 Try.underlying23 HI.out _ _ _ rfl HR7.out rfl ?_)
          refine HTT.out.mono ?_
          rintro e w8 ⟨A8, n8, c8, ob, rfl, hI, hob, hob2, hb8⟩
          have HIT : Hid (It w7.heap.size ob w7.heap.size ch A8 n8 c8 (L ++ b) w8 ∧ w7.heap.size ≤ ob ∧ ob < w8.heap.size ∧ p < w7.heap.size) := ⟨hI, hob, hob2, hplt⟩
          have hh8 := Lib.hid (hh7.out.next hb8)
          have hp8 := Lib.hid (HP7.out.next hb8)
          clear hI hb8
          go_wp2_with fail
          go_meet
          case rel => exact ⟨_, ob, A8, n8, c8, rfl, HIT, hh8, hp8⟩
        · go_wp2_with (at_builtin; refine wpList_append_own _ rfl (.tmp 72) (.tmp 73) 23 rfl (w.heap.size + 1 + 1) 5 i0 (.int .u8 0) 1 1 Try.underlying23 HI.out HZ0.out HZ1.out HZ2.out rfl (by decide) _ _ _ rfl HR7.out a2 n2 c2 (bs b) rfl (by rw [bs_len, HL.out]; omega) (bcells HB7.out) (bs_one b) (by unfold maxLen; omega) (by omega) hh7.out.lt ?_; intro v' w8 hown hgr hv; obtain ⟨A8, c8, rfl⟩ := own_form hown)
          rw [bs_app] at hown
          have hh8 := Lib.hid (hh7.out.nextB ((Below.refl _ _).grown hgr hh7.out.lt (fun j hj => (HR7.out.lt j hj).1)))
          have hp8 := Lib.hid (HP7.out.grown HR7.out (by decide) hgr)
          have hsz8 := hgr.size
          have hT := HTA.out A8 (m7 + n2) c8 w8 (by rw [List.length_append, HLL.out, HL.out]) (by omega) (row_of_own hown)
          have HTT := Lib.hid hT
          clear hT hown hgr hv
          refine HTT.out.mono ?_
          rintro e w9 ⟨A9, n9, c9, ob, rfl, hI, hob, hob2, hb9⟩
          have HIT : Hid (It w8.heap.size ob w8.heap.size ch A9 n9 c9 (L ++ b) w9 ∧ w8.heap.size ≤ ob ∧ ob < w9.heap.size ∧ p < w8.heap.size) := ⟨hI, hob, hob2, by omega⟩
          have hh9 := Lib.hid (hh8.out.next hb9)
          have hp9 := Lib.hid (hp8.out.next hb9)
          clear hI hb9
          go_wp2_with fail
          go_meet
          case rel => exact ⟨_, ob, A9, n9, c9, rfl, HIT, hh9, hp9⟩
      case rest =>
        obtain ⟨cb, ob, A8, n8, c8, rfl, hit, hh8, hp8⟩ := hcut
        go_wp2_with fail
        rename_i K hKK
        have hcont : ∀ (D : Nat) (W : World), wc.heap.size ≤ D → Hid (Hd w A N c W ∧ Bk W p #[.int .i64 (N : Int)] 3 ∧ W.heap[D]? = some (.deferred (some []))) → K { tmps := #[.bool ch, .slice A N c, .slice A2 n2 c2, undef, .pointer (some ⟨w.heap.size, 0, none⟩), undef, .pointer (some ⟨w.heap.size + 1, 0, none⟩), .slice A7 m7 c7, undef, u9, u10, u11, .slice A12 n12 c12, .int .i64 0, .pointer (some ⟨p, 0, none⟩), undef, undef, undef, undef, undef, undef, .bool true, .bool false, .slice A N c, .int .i64 (N : Int), .bool false, .bool false, .slice A2 n2 c2, .int .i64 (n2 : Int), .bool false, .bool false, .slice A N c, .int .i64 (N : Int), .int .i64 (k : Int), .bool false, u35, u36, u37, u38, u39, u40, u41, u42, u43, u44, u45, u46, u47, u48, u49, u50, u51, u52, u53, u54, u55, u56, .tuple #[.slice A12 n12 c12, .int .i64 0], .bool ch, .slice A7 m7 c7, .tuple #[.slice A12 n12 c12, .int .i64 0], .slice A12 n12 c12, .int .i64 0, .int .i64 0, .bool false, .bool false, .slice A12 n12 c12, .slice A N c, .bool true, .bool false, .bool false, u71, u72, u73, u74, .func (.func 19) #[] #[.pointer (some ⟨ob, 0, none⟩), .pointer (some ⟨cb, 0, none⟩)], undef, undef, undef, undef, undef, undef, undef, undef, undef, undef, undef, undef, undef, undef, undef, undef, undef, undef, undef, undef, undef, undef, undef, undef, undef, undef, undef, undef, undef, undef, undef, undef, undef, undef, undef, undef, undef, undef, undef, undef, undef, undef, undef, undef, undef, undef, undef, undef, undef, undef, undef, undef, undef, undef, undef, undef, undef, undef, undef, undef], defers := [{ target := .collected D, args := #[] }] } W := by
          intro D W hD hst
          have hpw := list_any ch A2 n2 c2 b W HL.out (by omega) HB.out (HR.out.below hst.out.1.2.2)
          have hBW := hst.out.1.lt
          refine hKK _ _ ?_
          go_wp2_with fail
          refine hpw.mono ?_
          rintro e w9 ⟨A9, n9, c9, qs9, rfl, hq9, ht9⟩
          have hst9 : Hid (Hd w A N c w9 ∧ Bk w9 p #[.int .i64 (N : Int)] 3 ∧ w9.heap[D]? = some (.deferred (some []))) := ⟨hst.out.1.next ht9.2.2.2, hst.out.2.1.next ht9.2.2.2, (ht9.2.2.2.block _ (Array.getElem?_eq_some_iff.1 hst.out.2.2).1).trans hst.out.2.2⟩
          have HQ9 := Lib.hid hq9
          have HT9 := Lib.hid ht9.ths
          have HL9 := Lib.hid ht9.1
          have hwD : w.heap.size + 1 < D := by have := hit.out.2; have := hh8.out.lt; omega
          clear hq9 ht9 hst hpw hit
          have r0 := hst9.out.1.1.cell 0
          have r14 := hst9.out.2.1.cell 0
          have r1 := hst9.out.1.2.1.cell 0
          have f1 := hst9.out.1.2.1.frozen 0
          simp at r0 r14 r1
          cases htl : (tl ch b).2 with
          | false =>
            have hlist : tlist ch b = ([], 40) := by unfold tlist; rw [if_neg (by rw [htl]; decide)]
            rw [hlist] at HQ9 ⊢
            have HF := Lib.hid (hst9.out.1.mark hst9.out.2.2 hwD)
            clear hlist htl
            go_wp2_with fail
            obtain ⟨k1, k2, k3⟩ := HF.out
            clear HF r0 r14 r1 f1
            generalize World.setCell w9 _ _ = W10 at k1 k2 k3 ⊢
            refine ⟨by simp, .inl ⟨_, _, rfl, run_takeDeferred k1, ?_⟩⟩
            exact ⟨.bool true, by simp [results, Try.results5, go_sem, k2], rfl, k3⟩
          | true =>
            have hlist : tlist ch b = ((tl ch b).1, 0) := by unfold tlist; rw [if_pos htl]
            have hct := cat_tl b.length b (Nat.le_refl _) HB.out htl
            rw [hlist] at HQ9 ⊢
            simp only at HQ9
            rw [← HQ9.out] at hct
            have hM : 4 * n9 ≤ n2 := by
              have := tl_len ch b.length b (Nat.le_refl _)
              rw [← HQ9.out, List.length_map, HL9.out, HL.out] at this
              exact this
            have HCT := Lib.hid hct
            have hAl : Hid (Al w9.heap.size (cat ch ((qs9.map (·.1)).take 0)) (.slice none 0 0) w9) := ⟨none, 0, 0, rfl, World.ownsRow_nil _ _ _ _⟩
            clear hlist htl hct
            go_wp2_with fail
            clear r0 r14 r1 f1
            go_loopw [7, 115] (fun v i wr => ∃ k : Nat, k ≤ n9 ∧ i = .int .i64 k ∧ Hid (Below w9.heap.size w9 wr) ∧ Hid (Al w9.heap.size (cat ch ((qs9.map (·.1)).take k)) v wr)) (fun _ i _ => n9 - (intOf i).toNat)
            case atStart => exact ⟨0, by omega, rfl, Lib.hid (Below.refl _ _), hAl⟩
            case round =>
              clear hAl
              obtain ⟨k2, hk2, rfl, hb9, hal⟩ := hrel
              obtain ⟨A3, m3, c3, rfl, hrow⟩ := hal.out
              have HROW := Lib.hid hrow
              clear hal hrow
              have hm3 : m3 ≤ 5000 := by
                have h1 := HROW.out.1
                rw [bs_len, Nat.mul_one] at h1
                have h2 := cat_le ch (qs9.map (·.1)) k2
                rw [HCT.out.1, HL.out] at h2
                omega
              by_cases hlt2 : k2 < n9
              · have hkq : k2 < qs9.length := by rw [HL9.out]; exact hlt2
                obtain ⟨a, B, m5, d3, rfl, x0, x1, x2, xe, xl, xc, xm, xn, xo, xr, xz⟩ := (HT9.out.next hb9.out).at hkq
                have hkl : k2 < (qs9.map (·.1)).length := by simpa using hkq
                have hxf := HCT.out.2 qs9[k2].1 (List.mem_map.2 ⟨_, List.getElem_mem hkq, rfl⟩)
                have hp := fun W hW => tput_any ch qs9[k2].1 B m5 d3 W xo xl xn (xr.below (w' := W) hW)
                rw [tp_of hxf.2.1 hxf.2.2] at hp
                have HP := Lib.hid hp
                have hbox : Hid (Below w9.heap.size w9 (wr.alloc (.cells #[.int .u16 (qs9[k2].1.k : Int), .int .u8 (qs9[k2].1.f : Int), .slice B m5 d3] 25)) ∧ Below wr.heap.size wr (wr.alloc (.cells #[.int .u16 (qs9[k2].1.k : Int), .int .u8 (qs9[k2].1.f : Int), .slice B m5 d3] 25)) ∧ (wr.alloc (.cells #[.int .u16 (qs9[k2].1.k : Int), .int .u8 (qs9[k2].1.f : Int), .slice B m5 d3] 25)).ownsRow w9.heap.size 5 1 (.slice A3 m3 c3) m3 (bs (cat ch ((qs9.map (·.1)).take k2)))) :=
                  ⟨bnext' hb9.out ((Below.refl _ _).alloc (Nat.le_refl _) _), (Below.refl _ _).alloc (Nat.le_refl _) _, HROW.out.alloc _⟩
                have hcat : cat ch ((qs9.map (·.1)).take (k2 + 1)) = cat ch ((qs9.map (·.1)).take k2) ++ tb ch qs9[k2].1 := by
                  rw [cat_take hkl, List.getElem_map]
                have hlb : (tb ch qs9[k2].1).length ≤ 65540 ∧ 4 ≤ (tb ch qs9[k2].1).length := by
                  rw [tb_len]
                  have := whl_le (4 + qs9[k2].1.v.length)
                  have := hxf.2.2
                  omega
                have HCAT := Lib.hid hcat
                clear hp xe xl xc xm xn xo xr xz HROW hcat hxf
                obtain ⟨x, hx⟩ : ∃ x, qs9[k2].1 = x := ⟨_, rfl⟩
                rw [hx] at x0 x1 HP hbox HCAT hlb
                clear hx
                go_wp2_with fail
                refine (HP.out _ hbox.out.2.1).mono ?_
                rintro e w4 ⟨A4, n4, c4, rfl, ho4⟩
                have hlen4 := ho4.len
                simp only at hlen4
                rw [hlen4] at hlb
                have HLB : Hid ((bs (tb ch x)).length = n4 * 1) := Lib.hid (by rw [bs_len, hlen4, Nat.mul_one])
                have HB4 := Lib.hid (hbox.out.1.trans (ho4.2.mono (by have := hbox.out.1.size; omega)))
                have HR4 := Lib.hid (own_below hbox.out.2.2 ho4.2)
                obtain ⟨g4, c4', hv4, _, _⟩ := ho4.1.form (by omega)
                simp only [Value.slice.injEq] at hv4
                obtain ⟨rfl, _, rfl⟩ := hv4
                have HROW4 := Lib.hid ho4.row
                have hsz4 := HB4.out.size
                clear ho4 hlen4 hbox x0 x1 x2
                go_upto_region 36 with (at_builtin; refine wpList_append_lies _ rfl (.tmp 127) (.tmp 128) 23 rfl w9.heap.size 5 i0 (.int .u8 0) 1 1 Try.underlying23 HI.out HZ0.out HZ1.out HZ2.out rfl (by decide) _ _ _ rfl HR4.out ⟨g4, 0, none⟩ n4 _ (bs (tb ch x)) rfl HLB.out (bcells HROW4.out) (bs_one _) (by omega) (by unfold maxLen; omega) (by omega) hsz4 _ rfl ?_; intro b5 cap5 w5 hown5 hgrow5 _ _)
                have HB5 := Lib.hid (HB4.out.grown hgrow5 hsz4 (fun j hj => (HR4.out.lt j hj).1))
                rw [bs_app, ← HCAT.out] at hown5
                have HAL : Hid (Al w9.heap.size (cat ch ((qs9.map (·.1)).take (k2 + 1))) (.slice (some ⟨b5, 0, none⟩) (m3 + n4) cap5) w5) := ⟨_, _, _, rfl, hown5⟩
                clear hown5 hgrow5
                go_wp2_with fail
                go_roundw
                case rel => exact ⟨k2 + 1, by omega, by go_num, HB5, HAL⟩
                case measure => simp [intOf]; omega
              · have hcb : cat ch ((qs9.map (·.1)).take k2) = b := by
                  rw [List.take_of_length_le (by rw [List.length_map, HL9.out]; omega), HCT.out.1]
                have hrow3 := row_of_own HROW.out
                have hlen3 := HROW.out.1
                rw [hcb] at hrow3 hlen3
                rw [bs_len, Nat.mul_one] at hlen3
                have hhr : Hd w A N c wr := hst9.out.1.nextB (hb9.out.mono (by exact hst9.out.1.lt))
                have hmr : wr.heap[D]? = some (.deferred (some [])) := (hb9.out.block _ (Array.getElem?_eq_some_iff.1 hst9.out.2.2).1).trans hst9.out.2.2
                have HF := Lib.hid (hhr.mark hmr hwD)
                have cv1 := run_strOf (P := Try.prog) (src := 23) (dst := 9) (c := c3) Try.underlying23 Try.underlying5 Try.underlying9 hlen3 hrow3
                have cv2 := run_strOf (P := Try.prog) (src := 23) (dst := 9) (c := c2) Try.underlying23 Try.underlying5 Try.underlying9 HL.out (HR.out.below hhr.2.2)
                have r1 := hhr.2.1.cell 0
                have f1 := hhr.2.1.frozen 0
                simp at r1
                generalize strOf b = str at cv1 cv2
                clear hcb hrow3 hlen3 hhr hmr HROW
                go_wp2_with fail
                obtain ⟨q1, q2, q3⟩ := HF.out
                clear HF r1 f1 cv1 cv2
                generalize World.setCell wr _ _ = W10 at q1 q2 q3 ⊢
                refine ⟨by simp, .inl ⟨_, _, rfl, run_takeDeferred q1, ?_⟩⟩
                exact ⟨.bool true, by simp [results, Try.results5, go_sem, q2], rfl, q3⟩
        have hn8 : n8 ≤ 100000 := by
          have := hit.out.1.2.2.1
          rw [bs_len, List.length_append, HLL.out, HL.out] at this
          omega
        have hseq := iter_seq ch A8 n8 c8 (L ++ b) cb ob cb wc hn8 HBL.out hit.out.1 ⟨Nat.le_refl _, by have := hit.out.2; omega⟩ ⟨hit.out.2.1, hit.out.2.2.1⟩
        have HS := Lib.hid hseq
        have hws : w.heap.size ≤ wc.heap.size := by have := hit.out.2; omega
        have hpc : p < cb := hit.out.2.2.2
        have hcw : cb ≤ wc.heap.size := by have := hit.out.2; omega
        have hI0 : Hid (Hd w A N c wc ∧ Bk wc p #[.int .i64 ((([] : List Ev).length : Nat) : Int)] 3 ∧ ([] : List Ev).length ≤ N ∧ wc.heap.size ≤ wc.heap.size) := ⟨hh8.out, hp8.out, by simp, Nat.le_refl _⟩
        clear hseq hit hh8 hp8 HTA HR7 HP7 HB7 hh7
        refine (wpIn_wide (n := 9)).1 ?_
        refine range_wpIn (gf := 19) (lb := #[.pointer (some ⟨ob, 0, none⟩), .pointer (some ⟨cb, 0, none⟩)]) rfl (enters_of Try.func19 (by kernel_rfl) rfl) HS.out (Nat.le_refl _) (fun _ => rfl)
          (fun pre W => Hd w A N c W ∧ Bk W p #[.int .i64 ((pre.length : Nat) : Int)] 3 ∧ pre.length ≤ N ∧ wc.heap.size ≤ W.heap.size)
          (fun q pre W => q = .exit 2 ∧ Hd w A N c W ∧ Bk W p #[.int .i64 (N : Int)] 3 ∧ wc.heap.size ≤ W.heap.size)
          (fun pre A' B' h hc => ⟨h.1.calm hws hc, h.2.1.calm hc, h.2.2.1, Nat.le_trans h.2.2.2 hc.1.size⟩)
          (fun q pre A' B' h hc => ⟨h.1, h.2.1.calm hws hc, h.2.2.1.calm hc, Nat.le_trans h.2.2.2 hc.1.size⟩) hI0.out
          (fun pre x a W => ∃ Bx, Bk W Bx #[.int .u16 (x.1.1.k : Int), .int .u8 (x.1.1.f : Int), x.1.2] 25 ∧ (Hd w A N c W ∧ Bk W p #[.int .i64 ((pre.length : Nat) : Int)] 3 ∧ pre.length ≤ N ∧ wc.heap.size ≤ W.heap.size) ∧ Vev ch (L ++ b) wc.heap.size pre x W ∧
            a = { tmps := #[.bool ch, .slice A N c, .slice A2 n2 c2, undef, .pointer (some ⟨w.heap.size, 0, none⟩), undef, .pointer (some ⟨w.heap.size + 1, 0, none⟩), .slice A7 m7 c7, undef, u9, u10, u11, .slice A12 n12 c12, .int .i64 0, .pointer (some ⟨p, 0, none⟩), .pointer (some ⟨Bx, 0, none⟩), .int .i64 x.2, undef, undef, undef, undef, .bool true, .bool false, .slice A N c, .int .i64 (N : Int), .bool false, .bool false, .slice A2 n2 c2, .int .i64 (n2 : Int), .bool false, .bool false, .slice A N c, .int .i64 (N : Int), .int .i64 (k : Int), .bool false, u35, u36, u37, u38, u39, u40, u41, u42, u43, u44, u45, u46, u47, u48, u49, u50, u51, u52, u53, u54, u55, u56, .tuple #[.slice A12 n12 c12, .int .i64 0], .bool ch, .slice A7 m7 c7, .tuple #[.slice A12 n12 c12, .int .i64 0], .slice A12 n12 c12, .int .i64 0, .int .i64 0, .bool false, .bool false, .slice A12 n12 c12, .slice A N c, .bool true, .bool false, .bool false, u71, u72, u73, u74, .func (.func 19) #[] #[.pointer (some ⟨ob, 0, none⟩), .pointer (some ⟨cb, 0, none⟩)], .agg #[.int .u16 (x.1.1.k : Int), .int .u8 (x.1.1.f : Int), x.1.2], .int .i64 x.2, undef, undef, undef, undef, undef, undef, undef, undef, undef, undef, undef, undef, undef, undef, undef, undef, undef, undef, undef, undef, undef, undef, undef, undef, undef, undef, undef, undef, undef, undef, undef, undef, undef, undef, undef, undef, undef, undef, undef, undef, undef, undef, undef, undef, undef, undef, undef, undef, undef, undef, undef, undef, undef, undef, undef, undef, undef, undef], defers := [] })
          (fun pre x a₁ A' B' ⟨Bx, h1, h, h3, h4⟩ hc => ⟨Bx, h1.calm hc, ⟨h.1.calm hws hc, h.2.1.calm hc, h.2.2.1, Nat.le_trans h.2.2.2 hc.1.size⟩, ⟨h3.1, h3.2.calm hc⟩, h4⟩) ?assign ?body ?done ?stop
        case assign =>
          intro y pre x W K2 hi hv hK2
          obtain ⟨A9, n9, c9, hx2, _⟩ := hv.2.2
          have hbel : Below W.heap.size W (W.alloc (.cells #[.int .u16 (x.1.1.k : Int), .int .u8 (x.1.1.f : Int), x.1.2] 25)) := (Below.refl _ _).alloc (Nat.le_refl _) _
          have hla := hK2 _ _ hbel ⟨W.heap.size, Bk.new _ _ _, ⟨hi.1.next hbel, hi.2.1.next hbel, hi.2.2.1, Nat.le_trans hi.2.2.2 hbel.size⟩, ⟨hv.1, hv.2.next hbel⟩, rfl⟩
          rw [hx2] at hla
          have HLA := Lib.hid hla
          obtain ⟨⟨xt, xv⟩, xe⟩ := x
          simp only at hx2
          subst hx2
          clear hi hv hK2 hbel hla hKK
          simp only [enc]
          gi_wp2
          exact HLA.out
        case body =>
          clear hKK hcont hI0
          rintro y pre ⟨⟨xt, xv⟩, xe⟩ a₁ W hsize ⟨Bx, hx, ⟨hhd, hp, hpn, hhi⟩, hv, rfl⟩
          obtain ⟨A9, n9, c9, hx2, _⟩ := hv.2.2
          simp only at hx2
          subst hx2
          simp only at hx
          obtain ⟨j, hj⟩ : ∃ j, pre.length = j := ⟨_, rfl⟩
          have HPJ := Lib.hid hj
          rw [hj] at hp hpn
          clear hj
          have r0 := hhd.1.cell 0
          have r14 := hp.cell 0
          simp at r0 r14
          by_cases hjN : j = N
          · subst hjN
            have HHD := Lib.hid hhd
            have HP := Lib.hid hp
            clear hx hv hhd hp
            gi_wp2
            exact ⟨KeepsFrom.refl _ _, rfl, HHD.out, HP.out, hhi⟩
          · have hjq : j < qs.length := by have := HQ.out; omega
            obtain ⟨t, ht⟩ := hv.1
            have hq1 : xt = qs[j].1 ∧ xe = 0 := by
              have e := congrArg (fun r : List (Tv × Int) => r[j]?) (HEV.out.symm.trans ht)
              rw [List.getElem?_append_left (by simpa using hjq), List.getElem?_append_right (by rw [List.length_map, HPJ.out]; exact Nat.le_refl _), List.length_map, HPJ.out, Nat.sub_self, List.getElem?_cons_zero, List.getElem?_map, List.getElem?_map, List.getElem?_eq_getElem hjq] at e
              simp only [Option.map_some, Option.some.injEq, pl, Prod.mk.injEq] at e
              exact ⟨e.1.symm, e.2.symm⟩
            obtain ⟨rfl, rfl⟩ := hq1
            have dj : ((j : Int) == (N : Int)) = false := by simp; omega
            have hjN' : j < N := by omega
            have x0 := hx.cell 0
            have x1 := hx.cell 1
            have x2 := hx.cell 2
            simp at x0 x1 x2
            obtain ⟨a7, rB, m, e7, hA7, y0, y1, y2, ye, _⟩ := (HT.out.next hhd.2.2).at hjq
            subst hA7
            have cS : ∀ W5, Hid (Hd w (some a7) N c W5 ∧ Vo wc.heap.size W5 (qs[j].1, .slice A9 n9 c9)) → Calls Try.prog 12 #[.agg #[.int .u16 (qs[j].1.k : Int), .int .u8 (qs[j].1.f : Int), .slice A9 n9 c9], .agg #[.int .u16 (qs[j].1.k : Int), .int .u8 (qs[j].1.f : Int), .slice rB m e7]] W5 fun e w' => e = .returned (.bool true) ∧ Below W5.heap.size W5 w' := fun W5 h => by
              obtain ⟨_, B1, m1, d1, _, _, _, _, e1, l1, _, _, _, _, q1, _⟩ := (HT.out.next h.out.1.2.2).at hjq
              rw [ye] at e1
              injection e1 with e1 e3 e4
              subst e1; subst e3; subst e4
              obtain ⟨B2, m2, d2, e2, l2, _, _, _, _, q2, _⟩ := h.out.2.vl
              injection e2 with e2 e5 e6
              subst e2; subst e5; subst e6
              exact same_any qs[j].1 _ _ _ _ _ _ W5 l2 l1 q2 q1
            have CS := Lib.hid cS
            have hSt : Hid (Hd w (some a7) N c W.drew ∧ Vo wc.heap.size W.drew (qs[j].1, .slice A9 n9 c9)) := ⟨hhd.next (Below.refl _ _).drew, hv.2.next (Below.refl _ _).drew⟩
            have HHD := Lib.hid hhd
            have HP := Lib.hid hp
            have hmo : Try.prog.follows .mixedOrders = true := by kernel_rfl
            clear hx hv hhd hp ht cS hjN
            gi_wp2
            gi_cut [92] from 82 (fun v W9 => v = .bool false ∧ Hid (Below W.heap.size W W9))
            case first =>
              gi_region_with_o (first
                | (refine ⟨trivial, ?_⟩; gi_at_call 12; (with_reducible refine (CallsIn.inRound y (callsIn_wide.2 (CS.out _ ?_))).mono ?_); assumption; rintro e w6 ⟨rfl, hb6⟩))
              all_goals
                have hfin := (Below.refl _ _).drew.trans hb6
                have HFIN := Lib.hid hfin
                clear hfin hb6
                gi_wp2
                gi_meet
                case rel => exact ⟨rfl, HFIN⟩
            case rest =>
              obtain ⟨rfl, hb6⟩ := hcut
              have HH6 := Lib.hid (HHD.out.next hb6.out)
              have HP6 := Lib.hid (HP.out.next hb6.out)
              have q9 := HP6.out.cell 0
              have f9 := HP6.out.frozen 0
              simp at q9
              have hn9 := HP6.out.set 0 (.int .i64 ((j : Int) + 1))
              simp at hn9
              have HN9 := Lib.hid hn9
              clear hn9 x0 x1 x2 y0 y1 y2 r0 r14
              gi_wp2
              refine ⟨((KeepsOthers.of_below hb6.out).trans (KeepsOthers.setCell _ _ _)).from _, (Kept.of_below hb6.out hhi).trans (Kept.of_set _ (.inl hpc)), HH6.out.set (by omega) _, ?_, by rw [List.length_append, HPJ.out, List.length_singleton]; omega, Nat.le_trans hhi (Nat.le_trans hb6.out.size (by simp [World.setCell]))⟩
              rw [List.length_append, HPJ.out, List.length_singleton]
              exact HN9.out
        case done =>
          rintro D xs W hD hS ⟨hhd, hp, hpn, hhi⟩ hK2
          have hlen : xs.length = N := by
            have h1 := congrArg List.length hS
            rw [List.length_map, HEV.out, List.length_append, List.length_map, List.length_map, HQ.out] at h1
            omega
          rw [hlen] at hp
          have HC := Lib.hid (hcont D W hD ⟨hhd, hp, hK2⟩)
          exact HC.out
        case stop =>
          rintro D q pre W hD _ ⟨rfl, hhd, hp, hhi⟩ hK2
          have HC := Lib.hid (hcont D W hD ⟨hhd, hp, hK2⟩)
          clear hhd hp hK2 hcont hKK hI0
          gi_wp2
          exact HC.out
end Go.Proofs.Ytlcmfhikcdppoaa
