/-
  What head.Put does.
-/
import Derived.Test.YtgepmicodfhhmaaHeadRef
import Derived.Laws.CopyOwn
namespace Go.Proofs.Ytgepmicodfhhmaa
open Go.RowKit Crc Head

theorem run_make_cap (n : Nat) (h : n ≤ 100000) (W : World) :
    (Instr.makeSlice 26 (.int .i64 0) (.int .i64 (12 + (n : Int)))).run Try.prog W = .ok (.slice (some ⟨W.heap.size, 0, none⟩) 0 (12 + n)) (W.alloc (.cells (madeCells #[.int .u8 0] (12 + n)) 5)) := by
  obtain ⟨i0, hi0, hz0, hz1, hz2⟩ := info_parts Try_info8
  have hr := run_make (P := Try.prog) W 26 5 i0 (.int .u8 0) Try.underlying26 hi0 hz0 .i64 .i64 0 (12 + (n : Int)) (by omega) (by omega) (by rw [hz2]; omega) (by omega)
  rw [hz1, show (12 + (n : Int)).toNat = 12 + n by omega, Nat.mul_one] at hr
  exact hr
theorem own_made (w : World) (base n : Nat) (hb : base ≤ w.heap.size) (hn : n ≤ maxLen) :
    (w.alloc (.cells (madeCells #[.int .u8 0] n) 5)).ownsRow base 5 1 (.slice (some ⟨w.heap.size, 0, none⟩) 0 n) 0 (bs []) :=
  World.ownsRow_made _ _ _ hb hn (by rw [size_madeCells, Nat.mul_one])
theorem or_head {f t : Nat} (hf : f < 65536) (ht : t < 65536) : bits .or .u32 ((f : Int) * 65536) (t : Int) = ((f * 65536 + t : Nat) : Int) := by
  rw [show (f : Int) * 65536 = ((f * 2 ^ 16 : Nat) : Int) by omega, u32_or_nat _ _ (by omega) (by omega), or_app (by omega)]
theorem own_cells {W : World} {base g n c : Nat} {l : List Int} (h : W.ownsRow base 5 1 (.slice (some ⟨g, 0, none⟩) n c) n (bs l)) :
    ∃ cur : List Value, W.heap[g]? = some (.cells cur.toArray 5 (0, 0)) ∧ cur.length = c ∧ cur.take n = bs l ∧ base ≤ g ∧ n ≤ c ∧ c ≤ maxLen := by
  rcases h.2 with ⟨h1, _⟩ | ⟨g', cap, cur, hv, hb, hg, h1, h2, h3, h4⟩
  · cases h1
  · simp only [Value.slice.injEq, Option.some.injEq, Addr.mk.injEq] at hv
    obtain ⟨⟨rfl, _, _⟩, _, rfl⟩ := hv
    exact ⟨cur.toList, by simpa using hg, by simpa using h3, by simpa using h4, hb, h1, h2⟩
theorem own_spliced {W : World} {base g n c : Nat} {l m : List Int} {cur : List Value} (hc : cur.length = c) (ht : cur.take n = bs l) (hb : base ≤ g) (hn : n ≤ c) (hm : c ≤ maxLen) (hl : l.length = n) (h12 : 12 ≤ n) (hm4 : m.length = 4)
    (h : W.heap[g]? = some (.cells (splice cur 8 (bs m)).toArray 5 (0, 0))) : W.ownsRow base 5 1 (.slice (some ⟨g, 0, none⟩) n c) n (bs (l.take 8 ++ (m ++ l.drop 12))) := by
  refine ⟨by simp [bs]; omega, .inr ⟨g, c, _, rfl, hb, h, hn, hm, ?_, ?_⟩⟩
  · rw [List.size_toArray, length_splice _ _ _ (by rw [bs_len]; omega), hc, Nat.mul_one]
  · unfold splice
    have e1 : cur.take 8 = bs (l.take 8) := by
      have := congrArg (List.take 8) ht
      rw [List.take_take, Nat.min_eq_left (by omega)] at this
      rw [this]
      simp [bs]
    have e2 : (cur.drop 12).take (n - 12) = bs (l.drop 12) := by
      have := congrArg (List.drop 12) ht
      rw [List.drop_take] at this
      rw [this]
      simp [bs]
    rw [e1, bs_len, hm4, List.toList_toArray, Nat.mul_one, ← List.append_assoc, List.take_append, List.take_of_length_le (by simp [bs]; omega), show n - (bs (l.take 8) ++ bs m).length = n - 12 by simp [bs]; omega, e2]
    simp [bs]
theorem q_eight {g n c : Nat} (h : 12 ≤ n) (hc : n ≤ c) (W : World) :
    (Instr.slice 26 (.slice (some ⟨g, 0, none⟩) n c) (some (.int .i64 8)) none none).run Try.prog W = .ok (.slice (some ⟨g, 8, none⟩) (n - 8) (c - 8)) W := by
  have sz : (Try.prog.info? 5).map (·.size) = some 1 := by kernel_rfl
  have := run_cut_l (P := Try.prog) Try.underlying26 sz (k := .i64) (some ⟨g, 0, none⟩) n c 8 (by omega) W
  rw [show cutA (some ⟨g, 0, none⟩) c 8 = some ⟨g, 8, none⟩ by unfold cutA; rw [if_neg (by omega)]; simp [Addr.add]] at this
  exact this

theorem Kh.nextB {w W W' : World} {f t g : Nat} (h : Kh w f t g W) (hb : Below (w.heap.size + 1) W W') : Kh w f t g W' :=
  ⟨(hb.block _ (by omega)).trans h.1, h.2.trans (hb.mono (by omega))⟩
/-- Block g holds the cells, and what stood before is as it was. -/
def Cs (w : World) (g : Nat) (cur : List Value) (W : World) : Prop := W.heap[g]? = some (.cells cur.toArray 5 (0, 0)) ∧ Below w.heap.size w W
theorem Cs.next {w W W' : World} {g : Nat} {cur : List Value} (h : Cs w g cur W) (hb : Below W.heap.size W W') : Cs w g cur W' :=
  ⟨(hb.block _ (Array.getElem?_eq_some_iff.1 h.1).1).trans h.1, bnext' h.2 hb⟩
theorem row_of_block {W : World} {g n : Nat} {cur : List Value} {l : List Int} (h : W.heap[g]? = some (.cells cur.toArray 5 (0, 0))) (ht : cur.take n = bs l) : Row W (some ⟨g, 0, none⟩) (bs l) := fun i v hv => by
  refine ⟨_, rfl, ?_⟩
  have e : (⟨g, 0, none⟩ : Addr).add i = ⟨g, i, none⟩ := by unfold Addr.add; split <;> simp_all
  rw [e, cell_of_row _ _ _ _ _ _ h]
  rw [← ht, List.getElem?_take] at hv
  split at hv
  · simpa using hv
  · cases hv
theorem pk_put (f t g s : Nat) (l : List Int) : (pk f t g 0 l).take 8 ++ (be 4 s ++ (pk f t g 0 l).drop 12) = pk f t g s l := by
  unfold pk
  rw [take8 (be_len _ _) (be_len _ _) (be_len _ _), drop12 (be_len _ _) (be_len _ _) (be_len _ _) (be_len _ _)]
  simp only [List.append_assoc]
theorem hb0 {base : Nat} (A : Option Addr) (c : Nat) (l : List Int) (w : World) (hb : base ≤ w.heap.size) (hown : w.ownsRow base 5 1 (.slice A 8 c) 8 (bs l)) :
    Calls Try.prog 11 #[.slice A 8 c, .int .u32 0] w fun e w' => ∃ g c', e = .returned (.slice (some ⟨g, 0, none⟩) 12 c') ∧ w'.ownsRow base 5 1 (.slice (some ⟨g, 0, none⟩) 12 c') 12 (bs (l ++ be 4 0)) ∧ Below base w w' :=
  hbehind_any base A 8 c l 0 w (by omega) (by omega) hb hown
set_option maxRecDepth 100000 in
set_option maxHeartbeats 1000000 in
theorem hput_any (f t g : Nat) (A : Option Addr) (n c : Nat) (l : List Int) (w : World) (hf : f < 65536) (ht : t < 65536) (hg : g < 4294967296) (hl : l.length = n) (hn : n ≤ 100000) (hb : Byt l) (hr : Row w A (bs l)) (hz : A = none → n = 0 ∧ c = 0) :
    Calls Try.prog 7 #[.agg #[.int .u16 (f : Int), .int .u16 (t : Int), .int .u32 (g : Int)], .slice A n c] w (PutOut w (pt f t g l)) := by
  have hk0 := kh_new w f t g
  have hpt : pt f t g l = if n % 4 ≠ 0 then ([], 32) else if 1488 < n then ([], 3) else (pk f t g (more 0 (pk f t g 0 l)) l, 0) := by unfold pt; rw [hl]
  have hnb : Own w (w.alloc (.cells #[.int .u16 (f : Int), .int .u16 (t : Int), .int .u32 (g : Int)] 25)) none 0 0 [] := ⟨World.ownsRow_nil _ _ _ _, (Below.refl _ _).alloc (Nat.le_refl _) _⟩
  have HK0 := Lib.hid hk0
  have HNB := Lib.hid hnb
  by_cases h1 : n % 4 = 0
  case neg =>
    rw [if_pos h1] at hpt
    rw [hpt]
    have d1 : ((n : Int) % 4 != 0) = true := by simp only [bne_iff_ne, ne_eq]; omega
    clear hk0 hpt hnb hr hz hb hl
    go_enter Try.func7, Try.ntmps7
    go_wp2_with fail
    go_ret2
    exact ⟨_, _, _, rfl, HNB.out⟩
  case pos =>
    have d1 : ((n : Int) % 4 != 0) = false := by simp only [bne_eq_false_iff_eq]; omega
    rw [if_neg (by omega)] at hpt
    by_cases h2 : 1488 < n
    · rw [if_pos h2] at hpt
      rw [hpt]
      have d2 : decide ((1488 : Int) < (n : Int)) = true := by simp; omega
      clear hk0 hpt hnb hr hz hb hl
      go_enter Try.func7, Try.ntmps7
      go_wp2_with fail
      go_ret2
      exact ⟨_, _, _, rfl, HNB.out⟩
    · rw [if_neg h2] at hpt
      rw [hpt]
      have d2 : decide ((1488 : Int) < (n : Int)) = false := by simp; omega
      have hmk := run_make_cap n hn
      have hv := or_head hf ht
      obtain ⟨X, hX⟩ : ∃ X, f * 65536 + t = X := ⟨_, rfl⟩
      have hX2 : X < 4294967296 := by omega
      rw [hX] at hv
      have HX := Lib.hid hX
      have hw0 : Kh w f t g ((w.alloc (.cells #[.int .u16 (f : Int), .int .u16 (t : Int), .int .u32 (g : Int)] 25)).alloc (.cells (madeCells #[.int .u8 0] (12 + n)) 5)) := hk0.alloc _
      have ho0 := own_made (w.alloc (.cells #[.int .u16 (f : Int), .int .u16 (t : Int), .int .u32 (g : Int)] 25)) (w.heap.size + 1) (12 + n) (by simp) (by unfold maxLen; omega)
      rw [World.size_alloc] at ho0
      have HW0 := Lib.hid hw0
      have HO0 := Lib.hid ho0
      have HL := Lib.hid hl
      have HB := Lib.hid hb
      have HR := Lib.hid hr
      have HZ := Lib.hid hz
      obtain ⟨i0, hi0, hz0, hz1, hz2⟩ := info_parts Try_info8
      have HI := Lib.hid hi0
      have HZ0 := Lib.hid hz0
      have HZ1 := Lib.hid hz1
      have HZ2 := Lib.hid hz2
      clear hk0 hpt hnb hr hz hb hl hX hw0 ho0 hi0 hz0 hz1 hz2 HK0 HNB
      go_enter Try.func7, Try.ntmps7
      go_wp2_with fail
      (with_reducible refine (hbehind_any (w.heap.size + 1) _ _ _ [] X _ (by omega) hX2 HW0.out.lt HO0.out).mono ?_)
      rintro e w1 ⟨g1, c1, rfl, ho1, hb1⟩
      have HO1 := Lib.hid ho1
      have HK1 := Lib.hid (HW0.out.nextB hb1)
      have e2 := HK1.out.c2
      clear ho1 hb1
      go_wp2_with fail
      (with_reducible refine (hbehind_any (w.heap.size + 1) _ _ _ _ g _ (by omega) hg HK1.out.lt HO1.out).mono ?_)
      rintro e w2 ⟨g2, c2, rfl, ho2, hb2⟩
      have HO2 := Lib.hid ho2
      have HK2 := Lib.hid (HK1.out.nextB hb2)
      clear ho2 hb2 e2
      go_wp2_with fail
      (with_reducible refine (hb0 _ _ _ _ HK2.out.lt HO2.out).mono ?_)
      rintro e w3 ⟨g3, c3, rfl, ho3, hb3⟩
      have HO3 := Lib.hid ho3
      have HK3 := Lib.hid (HK2.out.nextB hb3)
      have HR3 := Lib.hid (HR.out.below HK3.out.2)
      clear ho3 hb3
      have hL : be 4 X ++ be 4 g ++ be 4 0 ++ l = pk f t g 0 l := by rw [← HX.out, be4_split f t ht]; unfold pk; simp only [List.append_assoc]
      have HLL := Lib.hid hL
      have hR10 : [] ++ be 4 X ++ be 4 g ++ be 4 0 = be 4 X ++ be 4 g ++ be 4 0 := rfl
      have HO3b : Hid (w3.ownsRow (w.heap.size + 1) 5 1 (.slice (some ⟨g3, 0, none⟩) 12 c3) 12 (bs (be 4 X ++ be 4 g ++ be 4 0))) := HO3.out
      clear hL hR10
      go_upto_region 9 with fail
      go_cut [6] from 36 to 38 (fun v6 W => ∃ g4 c4, v6 = .slice (some ⟨g4, 0, none⟩) (12 + n) c4 ∧ Hid (W.ownsRow (w.heap.size + 1) 5 1 (.slice (some ⟨g4, 0, none⟩) (12 + n) c4) (12 + n) (bs (pk f t g 0 l))) ∧ Hid (Kh w f t g W))
      case first =>
        rcases A with _ | a
        · obtain ⟨rfl, rfl⟩ := HZ.out rfl
          have hl0 : l = [] := List.eq_nil_of_length_eq_zero HL.out
          subst hl0
          go_wp2_with (at_builtin; refine wpList_append_own_none rfl (.tmp 36) (.tmp 37) 26 rfl (w.heap.size + 1) 5 i0 1 Try.underlying26 HI.out _ 12 _ rfl HO3b.out rfl ?_)
          go_wp2_with fail
          go_meet
          case rel => exact ⟨g3, c3, rfl, (by rw [← HLL.out, List.append_nil]; exact HO3b.out), HK3⟩
        · go_wp2_with (at_builtin; refine wpList_append_own _ rfl (.tmp 36) (.tmp 37) 26 rfl (w.heap.size + 1) 5 i0 (.int .u8 0) 1 1 Try.underlying26 HI.out HZ0.out HZ1.out HZ2.out rfl (by decide) _ 12 _ rfl HO3b.out a n c (bs l) rfl (by rw [bs_len, HL.out]; omega) (bcells HR3.out) (bs_one l) (by unfold maxLen; omega) (by omega) HK3.out.lt ?_; intro v' w8 hown hgr hv)
          rw [bs_app, HLL.out] at hown
          have HK8 := Lib.hid (HK3.out.grown_ HO3b.out hgr)
          have HO8 := Lib.hid hown
          clear hown hgr hv
          obtain ⟨g4, c4, rfl, _, _⟩ := HO8.out.form (by omega)
          go_wp2_with fail
          go_meet
          case rel => exact ⟨g4, c4, rfl, HO8, HK8⟩
      case rest =>
        obtain ⟨g4, c4, rfl, ho4, hk4⟩ := hcut
        obtain ⟨cur, hcell, hcl, hct, hcb, hcn, hcm⟩ := own_cells ho4.out
        have q8 := q_eight (g := g4) (n := 12 + n) (c := c4) (by omega) hcn
        have hSm : sm (pk f t g 0 l) = more 0 (pk f t g 0 l) := sm_pk f t g 0 l
        have hpp := pk_put f t g (more 0 (pk f t g 0 l)) l
        have hS := more_lt 0 (pk f t g 0 l)
        have hlen : (pk f t g 0 l).length = 12 + n := by rw [pk_len, HL.out]
        have hBy := pk_byt f t g 0 HB.out
        have hcs0 : Hid (Cs w g4 cur wc.drew) := ⟨hcell, hk4.out.2.drew⟩
        have k1 : ∀ W, Hid (Cs w g4 cur W) → Calls Try.prog 12 #[.slice (some ⟨g4, 0, none⟩) (12 + n) c4] W fun e w' => e = .returned (.int .u32 (more 0 (pk f t g 0 l) : Nat)) ∧ Hid (Cs w g4 cur w') := fun W h =>
          (hsum_any _ (12 + n) c4 (pk f t g 0 l) W hlen (by omega) hcn hcm hBy (row_of_block h.1 hct)).mono fun _ _ ⟨he, hb⟩ => ⟨by rw [he, hSm], h.out.next hb⟩
        have k2 : ∀ W, Hid (Cs w g4 cur W) → Calls Try.prog 11 #[.slice none 0 0, .int .u32 (more 0 (pk f t g 0 l) : Nat)] W fun e w' => ∃ b c', e = .returned (.slice (some ⟨b, 0, none⟩) 4 c') ∧ Hid (Row w' (some ⟨b, 0, none⟩) (bs (be 4 (more 0 (pk f t g 0 l))))) ∧ Hid (Cs w g4 cur w') := fun W h =>
          (hbehind_any W.heap.size none 0 0 [] _ W (by omega) hS (Nat.le_refl _) (World.ownsRow_nil _ _ _ _)).mono fun _ _ ⟨b, c', he, ho, hb⟩ => ⟨b, c', he, row_of_own ho, h.out.next hb⟩
        have K1 := Lib.hid k1
        have K2 := Lib.hid k2
        have HCL := Lib.hid hcl
        have HCT := Lib.hid hct
        have HCB := Lib.hid hcb
        have HCN := Lib.hid hcn
        have HCM := Lib.hid hcm
        have HLEN := Lib.hid hlen
        have HPP := Lib.hid hpp
        have sz : (Try.prog.info? 5).map (·.size) = some 1 := by kernel_rfl
        have SZ := Lib.hid sz
        clear k1 k2 hSm hpp hS hlen hBy hcl hct hcb hcn hcm hcell ho4 hk4 HO3b HO3 HO2 HO1 HO0 HK1 HK2 HK3 HW0 hmk HLL sz
        obtain ⟨S, hS'⟩ : ∃ S, more 0 (pk f t g 0 l) = S := ⟨_, rfl⟩
        rw [hS'] at K1 K2 HPP
        have HS := Lib.hid hS'
        clear hS'
        go_wp2_with fail
        go_region_law (first
          | (refine step_copy_splice rfl (.tmp 40) (.tmp 43) 26 26 rfl 5 Try.underlying26 SZ.out _ _ _ _ _ _ rfl rfl g4 8 cur 5 hcs2.out.1 (bs (be 4 S)) (by rw [bs_len, be_len]; simp only [Nat.min_def]; split <;> omega) (fun _ => ⟨rfl, _, rfl, bcells hrw.out⟩) (by rw [bs_len, be_len, HCL.out]; have := HCN.out; omega) (bs_one _) w.heap.size w hcs2.out.2 (Nat.le_trans (Nat.le_succ _) HCB.out) ?_; intro w9 hc9 hb9)
          | (go_simp; go_at_call 12; (with_reducible refine (K1.out _ ?_).mono ?_); assumption; rintro e w5 ⟨rfl, hcs1⟩)
          | (go_simp; go_at_call 11; (with_reducible refine (K2.out _ ?_).mono ?_); assumption; rintro e w6 ⟨b6, c6, rfl, hrw, hcs2⟩))
        all_goals
          have ho9 := own_spliced HCL.out HCT.out HCB.out HCN.out HCM.out HLEN.out (by omega) (be_len 4 S) hc9.out
          rw [HPP.out, ← HS.out] at ho9
          have HO9 := Lib.hid ho9
          clear ho9 hc9
          go_wp2_with fail
          go_ret2
          exact ⟨_, _, _, rfl, own_base HO9.out (Nat.le_succ _), hb9⟩
end Go.Proofs.Ytgepmicodfhhmaa
