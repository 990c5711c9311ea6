/-
  What the document's One does.
-/
import Derived.Test.YtbliipjiilmbcaaYP1a
namespace Go.Proofs.Ytbliipjiilmbcaa
open Go.RowKit Wire Tlv

/-- What a call that looks for a thing leaves. -/
def OneOut (w : World) (at_ : Nat) (r : Option (Tv × Nat)) (e : Ending) (w' : World) : Prop :=
  match r with
  | none => e = .returned (.tuple #[.agg #[.int .u16 0, .int .u8 0, .slice none 0 0], .int .i64 (at_ : Int), .bool false]) ∧ Below w.heap.size w w'
  | some (x, s) => ∃ A n c, e = .returned (.tuple #[.agg #[.int .u16 (x.k : Int), .int .u8 (x.f : Int), .slice A n c], .int .i64 ((at_ + s : Nat) : Int), .bool true]) ∧ Own w w' A n c x.v
theorem Kx.set {w W : World} {x : Array Value} (h : Kx w x W) (i : Nat) (v : Value) : Kx w (x.setIfInBounds i v) (W.setCell ⟨w.heap.size, i, none⟩ v) :=
  ⟨h.1.set _ _, h.2.setCell (p := ⟨w.heap.size, i, none⟩) (Nat.le_refl _) v⟩
theorem all_zero {b : List Int} {n s : Nat} (h : ∀ i, n ≤ i → i < s → b.getD i 0 = 0) : (((b.take s).drop n).all (· == 0)) = true := by
  rw [List.all_eq_true]
  intro c hc
  obtain ⟨i, hi, rfl⟩ := List.mem_iff_getElem.1 hc
  simp only [List.length_drop, List.length_take] at hi
  rw [List.getElem_drop, List.getElem_take]
  have := h (n + i) (by omega) (by omega)
  rw [List.getD_eq_getElem?_getD, List.getElem?_eq_getElem (by omega)] at this
  simpa using this
theorem not_zero {b : List Int} {n s i : Nat} (h1 : n ≤ i) (h2 : i < s) (h : b.getD i 0 ≠ 0) : ¬ (((b.take s).drop n).all (· == 0)) = true := by
  intro ha
  rw [List.all_eq_true] at ha
  by_cases hl : i < b.length
  · have := ha (b[i]) (by
      rw [List.mem_iff_getElem]
      refine ⟨i - n, by simp; omega, ?_⟩
      rw [List.getElem_drop, List.getElem_take]
      congr 1
      omega)
    rw [List.getD_eq_getElem?_getD, List.getElem?_eq_getElem hl] at h
    simp at this h
    exact h this
  · rw [List.getD_eq_getElem?_getD, List.getElem?_eq_none (by omega)] at h
    exact h rfl

set_option maxRecDepth 100000 in
set_option maxHeartbeats 1000000 in
theorem one_short (ch : Bool) (A : Option Addr) (n c at_ : Nat) (w : World) (_hn : n ≤ 100000) (hat : at_ ≤ n) (h4 : n < at_ + 4) :
    Calls Try.prog 57 #[.bool ch, .slice A n c, .int .i64 (at_ : Int)] w (OneOut w at_ none) := by
  have HB := Lib.hid ((Below.refl w.heap.size w).alloc (Nat.le_refl _) (.cells #[.int .u16 0, .int .u8 0, .slice none 0 0] 25))
  have d1 : decide ((n : Int) - (at_ : Int) < 4) = true := by simp; omega
  go_enter Try.func57, Try.ntmps57
  go_wp2_with fail
  refine bodyPost_ret (v := .tuple #[.agg #[.int .u16 0, .int .u8 0, .slice none 0 0], .int .i64 (at_ : Int), .bool false]) (by simp [results, Try.results57, go_sem]) rfl ⟨rfl, HB.out⟩

set_option maxRecDepth 100000 in
set_option maxHeartbeats 4000000 in
theorem one_long (ch : Bool) (A : Option Addr) (n c : Nat) (l : List Int) (at_ : Nat) (w : World) (hl : l.length = n) (hn : n ≤ 100000) (hnc : n ≤ c) (_hcm : c ≤ maxLen) (hb : Byt l) (hr : Row w A (bs l)) (h4 : at_ + 4 ≤ n) :
    Calls Try.prog 57 #[.bool ch, .slice A n c, .int .i64 (at_ : Int)] w (OneOut w at_ (t1 ch (l.drop at_))) := by
  obtain ⟨a, rfl, _⟩ := Row.byte hr (show 0 < l.length by omega)
  have sz : (Try.prog.info? 5).map (·.size) = some 1 := by kernel_rfl
  have q24 : ∀ W, (Instr.slice 23 (.slice (some a) n c) (some (.int .i64 ((at_ : Int) + 2))) (some (.int .i64 ((at_ : Int) + 4))) none).run Try.prog W = .ok (.slice (cutA (some a) c (at_ + 2)) 2 (c - (at_ + 2))) W := fun W => by
    have := run_cut_lh (P := Try.prog) Try.underlying23 sz (k := .i64) (k' := .i64) (some a) n c (at_ + 2) (at_ + 4) (by omega) (by omega) W
    rw [show at_ + 4 - (at_ + 2) = 2 by omega] at this
    exact this
  have hlen : (l.drop at_).length = n - at_ := by simp [hl]
  have hln : ln (l.drop at_) < 65536 := nu_lt 2 _ (by simp; omega) (Byt.take (Byt.drop (Byt.drop hb _) 2) 2)
  have hw := whl_le (ln (l.drop at_))
  have hcut : ∀ lo hi, lo ≤ hi → hi ≤ n → ∀ W, Row W (some a) (bs l) → Row W (cutA (some a) c lo) (bs ((l.take hi).drop lo)) := fun lo hi h1 h2 W h => by
    have := h.cut (c := c) (lo := lo) (hi := hi) (by omega)
    simpa [bs] using this
  have cn : ∀ W, Row W (some a) (bs l) → Calls Try.prog 68 #[.slice (cutA (some a) c (at_ + 2)) 2 (c - (at_ + 2))] W fun e w' => e = .returned (.int .u64 (ln (l.drop at_) : Nat)) ∧ w' = W := fun W h => by
    have := rnumber_any (cutA (some a) c (at_ + 2)) 2 (c - (at_ + 2)) ((l.take (at_ + 4)).drop (at_ + 2)) W (by simp; omega) (by omega) (Byt.drop (Byt.take hb _) _) (hcut _ _ (by omega) (by omega) W h)
    have e : ln (l.drop at_) = nu ((l.take (at_ + 4)).drop (at_ + 2)) := by
      unfold ln
      rw [List.drop_drop, List.take_drop]
    rw [e]
    exact this
  have HC := Lib.hid hcut
  have CN := Lib.hid cn
  have HR := Lib.hid hr
  have HL := Lib.hid hl
  have HBY := Lib.hid hb
  have HLEN := Lib.hid hlen
  have SZ := Lib.hid sz
  have HT : Hid (t1 ch (l.drop at_) = if ln (l.drop at_) < 4 ∨ (l.drop at_).length < whl (ln (l.drop at_)) then none
      else if (((l.drop at_).take (whl (ln (l.drop at_)))).drop (ln (l.drop at_))).all (· == 0) then some (⟨kk ch (l.drop at_), ff ch (l.drop at_), ((l.drop at_).take (ln (l.drop at_))).drop 4⟩, whl (ln (l.drop at_))) else none) := by
    unfold t1
    rw [if_neg (by omega)]
    exact Lib.hid rfl
  have HKX : Hid (Kx w _ _) := Kx.new w #[.int .u16 0, .int .u8 0, .slice none 0 0]
  have HRW := Lib.hid (hr.alloc (.cells #[.int .u16 0, .int .u8 0, .slice none 0 0] 25))
  have d1 : decide ((n : Int) - (at_ : Int) < 4) = false := by simp; omega
  clear hcut cn hr hl hb hlen sz
  obtain ⟨m, hm⟩ : ∃ m, ln (l.drop at_) = m := ⟨_, rfl⟩
  rw [hm] at CN HT hln hw
  clear hm
  have wm : IntKind.i64.wrap (m : Int) = (m : Int) := IntWalk.i64_in _ (by omega)
  generalize whl m = s at hw HT
  go_enter Try.func57, Try.ntmps57
  go_wp2_with fail
  (with_reducible refine (CN.out _ HRW.out).mono ?_)
  rintro e w1 ⟨rfl, rfl⟩
  go_wp2_with fail
  generalize hWv : w.alloc (.cells #[.int .u16 0, .int .u8 0, .slice none 0 0] 25) = W0 at HKX HRW ⊢
  clear hWv
  go_loop [10] (fun e => ∃ j : Nat, m + j ≤ s ∧ e = .int .i64 ((at_ + m + j : Nat) : Int)) (fun e => at_ + s - (intOf e).toNat)
  case atStart => exact ⟨0, by omega, by go_num⟩
  case round =>
    obtain ⟨j, hj, rfl⟩ := hrel
    by_cases hms : m + j = s
    case neg =>
      have dd : (((at_ + m + j : Nat) : Int) % 4 != (at_ : Int) % 4) = true := by simp only [bne_iff_ne, ne_eq]; omega
      go_wp2_with fail
      go_round
      case rel => exact ⟨j + 1, by omega, by go_num⟩
      case measure => simp [intOf]; omega
    case pos =>
      have dd : (((at_ + m + j : Nat) : Int) % 4 != (at_ : Int) % 4) = false := by simp only [bne_eq_false_iff_eq]; omega
      obtain ⟨E, hE⟩ : ∃ E, at_ + m + j = E := ⟨_, rfl⟩
      rw [hE] at dd
      rw [hE]
      have hEs : E = at_ + s := by omega
      have HES := Lib.hid hEs
      have hEb : E ≤ at_ + m + 3 := by omega
      have hEm : at_ + m ≤ E := by omega
      clear hE hms hj hEs
      by_cases hbad : m < 4 ∨ n < E
      · have htn : Hid (t1 ch (l.drop at_) = none) := by
          have e := HT.out
          rw [if_pos (by rw [HLEN.out]; have := HES.out; omega)] at e
          exact Lib.hid e
        clear HT
        have g0 := HKX.out.1.cell 0
        have g1 := HKX.out.1.cell 1
        have g2 := HKX.out.1.cell 2
        simp at g0 g1 g2
        have g3 := HKX.out.1.frozen 0
        have g4 := HKX.out.1.frozen 1
        have g5 := HKX.out.1.frozen 2
        have hz := ((HKX.out.set 0 (.int .u16 0)).set 1 (.int .u8 0)).set 2 (.slice none 0 0)
        simp at hz
        have HZ := Lib.hid hz
        clear hz
        by_cases hm4 : m < 4
        all_goals
          go_wp2_with fail
          clear g0 g1 g2 g3 g4 g5
          have g0 := HZ.out.1.cell 0
          have g1 := HZ.out.1.cell 1
          have g2 := HZ.out.1.cell 2
          simp at g0 g1 g2
          generalize World.setCell (World.setCell (World.setCell _ _ _) _ _) _ _ = W9 at g0 g1 g2 HZ ⊢
          refine bodyPost_ret (v := .tuple #[.agg #[.int .u16 0, .int .u8 0, .slice none 0 0], .int .i64 (at_ : Int), .bool false]) (by simp [results, Try.results57, go_sem, g0, g1, g2]) rfl ?_
          rw [htn.out]
          exact ⟨rfl, HZ.out.2⟩
      · have hm4 : 4 ≤ m := by omega
        have hEn : E ≤ n := by omega
        clear hbad
        have dm : decide ((m : Int) < 4) = false := by simp; omega
        have de : decide ((n : Int) < (E : Int)) = false := by simp; omega
        have HT2 : Hid (t1 ch (l.drop at_) = if (((l.drop at_).take s).drop m).all (· == 0) then some (⟨kk ch (l.drop at_), ff ch (l.drop at_), ((l.drop at_).take m).drop 4⟩, s) else none) := by
          have e := HT.out
          rw [if_neg (by rw [HLEN.out]; have := HES.out; omega)] at e
          exact Lib.hid e
        clear HT
        go_wp2_with fail
        clear dm de
        go_loop [11] (fun e => ∃ j : Nat, at_ + m + j ≤ E ∧ e = .int .i64 ((at_ + m + j : Nat) : Int) ∧ Hid (∀ t, m ≤ t → t < m + j → (l.drop at_).getD t 0 = 0)) (fun e => E - (intOf e).toNat)
        case atStart => exact ⟨0, by omega, by go_num, Lib.hid fun t h1 h2 => by omega⟩
        case round =>
          obtain ⟨j, hj, rfl, hz⟩ := hrel
          by_cases hlt : at_ + m + j < E
          · obtain ⟨a', ha', hc⟩ := Row.byte HRW.out (k := at_ + m + j) (by rw [HL.out]; omega)
            injection ha' with ha'
            subst ha'
            obtain ⟨u, hu, hu8⟩ := Byt.at HBY.out (k := at_ + m + j) (by rw [HL.out]; omega)
            rw [hu] at hc
            have hgd : (l.drop at_).getD (m + j) 0 = (u : Int) := by rw [getD_drop, ← hu]; congr 1; omega
            have HGD := Lib.hid hgd
            clear hu hgd
            by_cases hu0 : u = 0
            · subst hu0
              have HZ2 : Hid (∀ t, m ≤ t → t < m + (j + 1) → (l.drop at_).getD t 0 = 0) := Lib.hid fun t h1 h2 => by
                by_cases ht : t < m + j
                · exact hz.out t h1 ht
                · rw [show t = m + j by omega, HGD.out]; rfl
              clear hz
              go_wp2_with fail
              go_round
              case rel => exact ⟨j + 1, by omega, by go_num, HZ2⟩
              case measure => simp [intOf]; omega
            · have du : decide (0 < u) = true := by simp; omega
              have htn : Hid (t1 ch (l.drop at_) = none) := by
                have e := HT2.out
                rw [if_neg (not_zero (i := m + j) (by omega) (by have := HES.out; omega) (by rw [HGD.out]; omega))] at e
                exact Lib.hid e
              clear HT2 hz HGD
              have g0 := HKX.out.1.cell 0
              have g1 := HKX.out.1.cell 1
              have g2 := HKX.out.1.cell 2
              simp at g0 g1 g2
              have g3 := HKX.out.1.frozen 0
              have g4 := HKX.out.1.frozen 1
              have g5 := HKX.out.1.frozen 2
              have hz := ((HKX.out.set 0 (.int .u16 0)).set 1 (.int .u8 0)).set 2 (.slice none 0 0)
              simp at hz
              have HZ := Lib.hid hz
              clear hz
              go_wp2_with fail
              clear g0 g1 g2 g3 g4 g5
              have g0 := HZ.out.1.cell 0
              have g1 := HZ.out.1.cell 1
              have g2 := HZ.out.1.cell 2
              simp at g0 g1 g2
              generalize World.setCell (World.setCell (World.setCell _ _ _) _ _) _ _ = W9 at g0 g1 g2 HZ ⊢
              refine bodyPost_ret (v := .tuple #[.agg #[.int .u16 0, .int .u8 0, .slice none 0 0], .int .i64 (at_ : Int), .bool false]) (by simp [results, Try.results57, go_sem, g0, g1, g2]) rfl ?_
              rw [htn.out]
              exact ⟨rfl, HZ.out.2⟩
          · have HTS : Hid (t1 ch (l.drop at_) = some (⟨kk ch (l.drop at_), ff ch (l.drop at_), ((l.drop at_).take m).drop 4⟩, s)) := by
              have e := HT2.out
              rw [if_pos (all_zero (fun i h1 h2 => hz.out i h1 (by have := HES.out; omega)))] at e
              exact Lib.hid e
            clear HT2 hz
            have q4 : ∀ W, (Instr.slice 23 (.slice (some a) n c) (some (.int .i64 ((at_ : Int) + 4))) (some (.int .i64 ((at_ : Int) + (m : Int)))) none).run Try.prog W = .ok (.slice (cutA (some a) c (at_ + 4)) (m - 4) (c - (at_ + 4))) W := fun W => by
              have := run_cut_lh (P := Try.prog) Try.underlying23 SZ.out (k := .i64) (k' := .i64) (some a) n c (at_ + 4) (at_ + m) (by omega) (by omega) W
              rw [show at_ + m - (at_ + 4) = m - 4 by omega] at this
              exact this
            obtain ⟨ad, had⟩ : ∃ ad, cutA (some a) c (at_ + 4) = some ad := by unfold cutA; split <;> exact ⟨_, rfl⟩
            rw [had] at q4
            have hr4 := HC.out (at_ + 4) (at_ + m) (by omega) (by omega) W0 HRW.out
            rw [had] at hr4
            have hv : (l.take (at_ + m)).drop (at_ + 4) = ((l.drop at_).take m).drop 4 := by
              rw [List.take_drop, List.drop_drop]
            rw [hv] at hr4
            have hvl : (((l.drop at_).take m).drop 4).length = m - 4 := by simp [HL.out]; omega
            have HV4 := Lib.hid (hr4.alloc (.cells #[] 5))
            have HVL := Lib.hid hvl
            clear had hr4 hv hvl
            generalize ((l.drop at_).take m).drop 4 = vl at HTS HV4 HVL
            obtain ⟨i0, hi0, hz0, hz1, hz2⟩ := info_parts Try_info8
            have HI := Lib.hid hi0
            have HZ0 := Lib.hid hz0
            have HZ1 := Lib.hid hz1
            have HZ2 := Lib.hid hz2
            clear hi0 hz0 hz1 hz2
            go_upto_region 15 with (at_builtin; refine wpList_append_own _ rfl (.tmp 63) (.tmp 70) 23 rfl W0.heap.size 5 i0 (.int .u8 0) 1 1 Try.underlying23 HI.out HZ0.out HZ1.out HZ2.out rfl (by omega) _ 0 [] rfl (World.ownsRow_made W0 #[] 0 (Nat.le_refl _) (by decide) rfl) ad (m - 4) (c - (at_ + 4)) (bs vl) rfl (by rw [bs_len, HVL.out]; omega) (bcells HV4.out) (bs_one vl) (by unfold maxLen; omega) (by omega) (by simp) ?_; intro v' w2 hown hgr hv; obtain ⟨A', c', rfl⟩ := own_form hown)
            rw [Nat.zero_add, List.nil_append] at hown
            have hbw : Below W0.heap.size W0 w2 := ((Below.refl _ _).alloc (Nat.le_refl _) _).grown hgr (by simp) fun k hk => by injection hk with hk; exact Nat.le_of_eq hk
            have hK2 := HKX.out.next hbw
            have hRd : ∀ W, W = w2.alloc (.cells #[.int .u16 0, .int .u8 0, .slice A' (m - 4) c'] 25) → Hid (Rd w w2.heap.size #[.int .u16 0, .int .u8 0, .slice none 0 0] #[.int .u16 0, .int .u8 0, .slice A' (m - 4) c'] A' (m - 4) c' vl W) := fun W e => by
              subst e
              exact ⟨(hK2.alloc _).1, Bk.new _ _ _, ⟨(own_base hown (by have := HKX.out.lt; omega)).alloc _, (hK2.alloc _).2⟩, hK2.1.lt⟩
            have hRD := Lib.hid (hRd _ rfl)
            clear hRd hK2 hbw hown hgr hv
            obtain ⟨g, hg⟩ : ∃ g, w2.heap.size = g := ⟨_, rfl⟩
            have HRD := hRD.out
            rw [hg] at HRD
            rw [hg]
            clear hg hRD
            generalize w2.alloc (.cells #[.int .u16 0, .int .u8 0, .slice A' (m - 4) c'] 25) = W3 at HRD ⊢
            obtain ⟨a0, ha0, hc0⟩ := Row.byte (HR.out.below HRD.out.2.2.1.2) (k := at_) (by rw [HL.out]; omega)
            injection ha0 with ha0
            subst ha0
            obtain ⟨u, hu, hu8⟩ := Byt.at HBY.out (k := at_) (by rw [HL.out]; omega)
            obtain ⟨v, hv, hv8⟩ := Byt.at HBY.out (k := at_ + 1) (by rw [HL.out]; omega)
            rw [hu] at hc0
            have hkt : kk true (l.drop at_) = u ∧ ff true (l.drop at_) = v := by
              unfold kk ff
              rw [if_pos rfl, if_pos rfl, getD_drop, getD_drop, show at_ + 0 = at_ by omega, hu, hv]
              exact ⟨rfl, rfl⟩
            have hkf : kk false (l.drop at_) = nu ((l.take (at_ + 2)).drop at_) ∧ ff false (l.drop at_) = 0 := by
              unfold kk ff
              rw [if_neg (by decide), if_neg (by decide), List.take_drop]
              exact ⟨rfl, rfl⟩
            have HKT := Lib.hid hkt
            have HKF := Lib.hid hkf
            have HV := Lib.hid hv
            clear hu hv hkt hkf
            have hat : at_ < n := by omega
            cases ch
            · rw [HKF.out.1, HKF.out.2] at HTS
              have q2 : ∀ W, (Instr.slice 23 (.slice (some a) n c) (some (.int .i64 (at_ : Int))) (some (.int .i64 ((at_ : Int) + 2))) none).run Try.prog W = .ok (.slice (cutA (some a) c at_) 2 (c - at_)) W := fun W => by
                have := run_cut_lh (P := Try.prog) Try.underlying23 SZ.out (k := .i64) (k' := .i64) (some a) n c at_ (at_ + 2) (by omega) (by omega) W
                rw [show at_ + 2 - at_ = 2 by omega] at this
                exact this
              have hN := rnumber_any (cutA (some a) c at_) 2 (c - at_) ((l.take (at_ + 2)).drop at_) W3 (by simp [HL.out]; omega) (by omega) (Byt.drop (Byt.take HBY.out _) _) (HC.out _ _ (by omega) (by omega) W3 (HR.out.below HRD.out.2.2.1.2))
              have hz8 : nu ((l.take (at_ + 2)).drop at_) < 65536 := nu_lt 2 _ (by simp [HL.out]; omega) (Byt.drop (Byt.take HBY.out _) _)
              have HN := Lib.hid hN
              clear hN HKT HKF hc0
              generalize nu ((l.take (at_ + 2)).drop at_) = z at HTS HN hz8
              have wz : IntKind.u16.wrap (z : Int) = (z : Int) := by rw [IntKind.wrap_u16]; omega
              go_wp2_with fail
              (with_reducible refine HN.out.mono ?_)
              rintro e w4 ⟨rfl, rfl⟩
              have g0 := HRD.out.2.1.cell 0
              simp at g0
              have f0 := HRD.out.2.1.frozen 0
              have hR := HRD.out.setx 0 (.int .u16 (z : Int))
              simp at hR
              have HR4 := Lib.hid hR
              clear hR
              go_upto_region 19 with fail
              clear g0 f0
              generalize World.setCell _ _ _ = W5 at HR4 ⊢
              have g0 := HR4.out.2.1.cell 0
              have g1 := HR4.out.2.1.cell 1
              have g2 := HR4.out.2.1.cell 2
              have r0 := HR4.out.1.cell 0
              have r1 := HR4.out.1.cell 1
              have r2 := HR4.out.1.cell 2
              have f0 := HR4.out.1.frozen 0
              have f1 := HR4.out.1.frozen 1
              have f2 := HR4.out.1.frozen 2
              simp at g0 g1 g2 r0 r1 r2
              have hE := ((HR4.out.setr 0 (.int .u16 (z : Int))).setr 1 (.int .u8 0)).setr 2 (.slice A' (m - 4) c')
              simp at hE
              have HE := Lib.hid hE
              clear hE
              go_wp2_with fail
              clear g0 g1 g2 r0 r1 r2 f0 f1 f2
              have g0 := HE.out.1.cell 0
              have g1 := HE.out.1.cell 1
              have g2 := HE.out.1.cell 2
              simp at g0 g1 g2
              generalize World.setCell (World.setCell (World.setCell W5 _ _) _ _) _ _ = W9 at g0 g1 g2 HE ⊢
              refine bodyPost_ret (v := .tuple #[.agg #[.int .u16 (z : Int), .int .u8 0, .slice A' (m - 4) c'], .int .i64 (E : Int), .bool true]) (by simp [results, Try.results57, go_sem, g0, g1, g2]) rfl ?_
              rw [HTS.out, HES.out]
              exact ⟨_, _, _, rfl, HE.out.2.2.1⟩
            · rw [HKT.out.1, HKT.out.2] at HTS
              have wu : IntKind.u16.wrap (u : Int) = (u : Int) := by rw [IntKind.wrap_u16]; omega
              have g0 := HRD.out.2.1.cell 0
              simp at g0
              have f0 := HRD.out.2.1.frozen 0
              have hR := HRD.out.setx 0 (.int .u16 (u : Int))
              simp at hR
              have HR3 := Lib.hid hR
              obtain ⟨a1, ha1, hc1⟩ := Row.byte (HR.out.below HRD.out.2.2.1.2) (k := at_ + 1) (by rw [HL.out]; omega)
              injection ha1 with ha1
              subst ha1
              rw [HV.out] at hc1
              have hc2 : W3.cell? { block := a.block, off := a.off + (at_ + 1) } = some (.int .u8 (v : Int)) := by rw [← hc1]; congr 1
              have g1 := hR.2.1.cell 1
              simp at g1
              have f1 := hR.2.1.frozen 1
              have hR4 := hR.setx 1 (.int .u8 (v : Int))
              simp at hR4
              have HR4 := Lib.hid hR4
              clear hR hR4
              go_upto_region 19 with fail
              clear g0 f0 g1 f1 hc0 hc1 hc2
              generalize World.setCell (World.setCell _ _ _) _ _ = W5 at HR4 ⊢
              have g0 := HR4.out.2.1.cell 0
              have g1 := HR4.out.2.1.cell 1
              have g2 := HR4.out.2.1.cell 2
              have r0 := HR4.out.1.cell 0
              have r1 := HR4.out.1.cell 1
              have r2 := HR4.out.1.cell 2
              have f0 := HR4.out.1.frozen 0
              have f1 := HR4.out.1.frozen 1
              have f2 := HR4.out.1.frozen 2
              simp at g0 g1 g2 r0 r1 r2
              have hE := ((HR4.out.setr 0 (.int .u16 (u : Int))).setr 1 (.int .u8 (v : Int))).setr 2 (.slice A' (m - 4) c')
              simp at hE
              have HE := Lib.hid hE
              clear hE
              go_wp2_with fail
              clear g0 g1 g2 r0 r1 r2 f0 f1 f2
              have g0 := HE.out.1.cell 0
              have g1 := HE.out.1.cell 1
              have g2 := HE.out.1.cell 2
              simp at g0 g1 g2
              generalize World.setCell (World.setCell (World.setCell W5 _ _) _ _) _ _ = W9 at g0 g1 g2 HE ⊢
              refine bodyPost_ret (v := .tuple #[.agg #[.int .u16 (u : Int), .int .u8 (v : Int), .slice A' (m - 4) c'], .int .i64 (E : Int), .bool true]) (by simp [results, Try.results57, go_sem, g0, g1, g2]) rfl ?_
              rw [HTS.out, HES.out]
              exact ⟨_, _, _, rfl, HE.out.2.2.1⟩
end Go.Proofs.Ytbliipjiilmbcaa
