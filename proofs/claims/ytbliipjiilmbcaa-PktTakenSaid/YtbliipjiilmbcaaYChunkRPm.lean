/-
  The document's params.
-/
import Derived.Test.YtbliipjiilmbcaaYChunkRSk
import Derived.Test.YtbliipjiilmbcaaYP1a
set_option linter.unusedVariables false
set_option linter.unusedSimpArgs false
namespace Go.Proofs.Ytbliipjiilmbcaa
open Go.RowKit Wire Tlv Chunk Go.Shelf

/-- What params leaves. -/
def PmOut (w : World) (R : Option Ck) (e : Ending) (w' : World) : Prop := ∃ c' s', e = .returned (.tuple #[.agg (cv c' s'), .bool R.isSome]) ∧ Below w.heap.size w w' ∧ ∀ d, R = some d → c' = d ∧ ChF w.heap.size w' d s'
/-- What is kept of the chunk on the way. -/
structure Pmi (w : World) (c0 c : Ck) (aA : Option Addr) (ac : Nat) (dA : Option Addr) (dc : Nat) (W : World) : Prop where
  up : UP w (cv c (putD (putA nol aA c.ad.length ac) dA c.da.length dc)) zlit W
  eq : c = { c0 with ad := c.ad, da := c.da }
  adl : ∀ a ∈ c.ad, a < 4294967296
  ad3 : c.ad.length ≤ 3
  dab : Byt c.da
  dal : c.da.length ≤ 65531
  oa : W.ownsRow (w.heap.size + 2) 27 1 (.slice aA c.ad.length ac) c.ad.length (us c.ad)
  od : W.ownsRow (w.heap.size + 2) 5 1 (.slice dA c.da.length dc) c.da.length (bs c.da)
theorem Pmi.next {w W W' : World} {c0 c : Ck} {aA dA : Option Addr} {ac dc : Nat} (h : Pmi w c0 c aA ac dA dc W) (hb : Below W.heap.size W W') : Pmi w c0 c aA ac dA dc W' :=
  { h with up := h.up.next hb, oa := own_below h.oa hb, od := own_below h.od hb }
theorem Pmi.row {w W : World} {c0 c : Ck} {aA dA : Option Addr} {ac dc : Nat} (h : Pmi w c0 c aA ac dA dc W) (z : Array Value) : UP w (cv c (putD (putA nol aA c.ad.length ac) dA c.da.length dc)) z (W.setRow (w.heap.size + 1) z) ∧ ((c0.ok ∧ c0.ga = [] ∧ c0.du = [] ∧ c0.ca = []) → ChF w.heap.size (W.setRow (w.heap.size + 1) z) c (putD (putA nol aA c.ad.length ac) dA c.da.length dc)) := by
  refine ⟨h.up.row z, fun h0 => ?_⟩
  have e := h.eq
  have h3 := h.ad3
  have h4 := h.dal
  have hk : c.ok := by
    rw [e]
    exact { h0.1 with ad := h.adl, da := h.dab }
  refine (ch_side (B := w.heap.size + 2) hk (by rw [e]; exact h0.2.1) (by rw [e]; exact h0.2.2.1) (by rw [e]; exact h0.2.2.2) (by omega) (by omega) ?_ ?_).lower (by omega)
  · exact owns_same h.oa (fun k hk _ => setRow_other _ _ _ _ (by omega))
  · exact owns_same h.od (fun k hk _ => setRow_other _ _ _ _ (by omega))
theorem Pmi.setA {w W W' : World} {c0 c : Ck} {aA dA A' : Option Addr} {ac dc c' z : Nat} (h : Pmi w c0 c aA ac dA dc W) (hz : z < 4294967296) (h3 : c.ad.length ≠ 3) (hg : W.grownBy W' (Value.slice aA c.ad.length ac).ownBlock)
    (ho : W'.ownsRow (w.heap.size + 2) 27 1 (.slice A' (c.ad.length + 1) c') (c.ad.length + 1) (us c.ad ++ [.int .u32 (z : Int)])) : Pmi w c0 { c with ad := c.ad ++ [z] } A' c' dA dc (W'.setCell ⟨w.heap.size, 11, none⟩ (.slice A' (c.ad.length + 1) c')) := by
  have hU := h.up.gr hg (fun j hj => (h.oa.lt j hj).1)
  have hU2 := hU.set 11 (.slice A' (c.ad.length + 1) c')
  have e : (cv c (putD (putA nol aA c.ad.length ac) dA c.da.length dc)).setIfInBounds 11 (.slice A' (c.ad.length + 1) c') = cv { c with ad := c.ad ++ [z] } (putD (putA nol A' (c.ad ++ [z]).length c') dA c.da.length dc) := by simp [cv, putD, putA]
  rw [e] at hU2
  have hl := h.ad3
  refine { up := hU2, eq := ?_, adl := ?_, ad3 := ?_, dab := h.dab, dal := h.dal, oa := ?_, od := ?_ }
  · show ({ c with ad := c.ad ++ [z] } : Ck) = { c0 with ad := c.ad ++ [z], da := c.da }
    exact ck_ad h.eq _
  · intro a ha
    rcases List.mem_append.1 ha with ha | ha
    · exact h.adl a ha
    · simp at ha
      rw [ha]; exact hz
  · show (c.ad ++ [z]).length ≤ 3
    simp; omega
  · have e1 : (c.ad ++ [z]).length = c.ad.length + 1 := by simp
    have e2 : us (c.ad ++ [z]) = us c.ad ++ [.int .u32 (z : Int)] := us_snoc _ _
    show World.ownsRow _ _ _ _ (.slice A' (c.ad ++ [z]).length c') (c.ad ++ [z]).length (us (c.ad ++ [z]))
    rw [e1, e2]
    exact owns_put ho (by omega)
  · exact owns_put (h.od.kept hg (own_apart h.od h.oa (by decide))) (by omega)
theorem Pmi.setD {w W : World} {c0 c : Ck} {aA dA A' : Option Addr} {ac dc c' n' : Nat} {v : List Int} (h : Pmi w c0 c aA ac dA dc W) (hv : Byt v) (hl : v.length ≤ 65531) (hn : v.length = n')
    (ho : W.ownsRow (w.heap.size + 2) 5 1 (.slice A' n' c') n' (bs v)) : Pmi w c0 { c with da := v } aA ac A' c' (W.setCell ⟨w.heap.size, 10, none⟩ (.slice A' n' c')) := by
  subst hn
  have hU2 := h.up.set 10 (.slice A' v.length c')
  have e : (cv c (putD (putA nol aA c.ad.length ac) dA c.da.length dc)).setIfInBounds 10 (.slice A' v.length c') = cv { c with da := v } (putD (putA nol aA c.ad.length ac) A' v.length c') := by simp [cv, putD, putA]
  rw [e] at hU2
  refine { up := hU2, eq := ?_, adl := h.adl, ad3 := h.ad3, dab := hv, dal := hl, oa := owns_put h.oa (by omega), od := owns_put ho (by omega) }
  show ({ c with da := v } : Ck) = { c0 with ad := c.ad, da := v }
  exact ck_da h.eq _
set_option maxRecDepth 100000 in
set_option maxHeartbeats 4000000 in
theorem rparams_any (c0 : Ck) (v : List Int) (A : Option Addr) (n cp : Nat) (w : World) (hc0 : c0.ok) (h0 : c0.ad = [] ∧ c0.da = [] ∧ c0.ga = [] ∧ c0.du = [] ∧ c0.ca = []) (hv : Byt v) (hl : v.length = n) (hn : n ≤ 65531) (hle : n ≤ cp) (hcm : cp ≤ maxLen) (hr : Row w A (bs v)) :
    Calls Try.prog 36 #[.agg (cv c0 nol), .slice A n cp] w (PmOut w (prr c0 (ev false v))) := by
  have HP : Hid (Pmi w c0 c0 none 0 none 0 ((w.alloc (.cells (cv c0 nol) 32)).alloc (.cells zlit 32))) := Lib.hid (by
    refine { up := ?_, eq := by rw [h0.1, h0.2.1, ← h0.1]; conv => rhs; rw [← h0.2.1], adl := ?_, ad3 := ?_, dab := ?_, dal := ?_, oa := ?_, od := ?_ }
    · exact (show putD (putA nol none c0.ad.length 0) none c0.da.length 0 = nol by rw [h0.1, h0.2.1]; rfl) ▸ UP.new w (cv c0 nol)
    · rw [h0.1]; intro a ha; simp at ha
    · rw [h0.1]; simp
    · rw [h0.2.1]; intro a ha; simp at ha
    · rw [h0.2.1]; simp
    · rw [h0.1]; exact World.ownsRow_nil _ _ _ _
    · rw [h0.2.1]; exact World.ownsRow_nil _ _ _ _)
  have HC0 : Hid (c0.ok ∧ c0.ga = [] ∧ c0.du = [] ∧ c0.ca = []) := Lib.hid ⟨hc0, h0.2.2⟩
  have HD0 := Lib.hid h0.2.1
  have HV := Lib.hid hv
  have HL := Lib.hid hl
  have HCO : ∀ c : Ck, ∀ s : Ls, (cv c s).all (·.oneCell') = true := cv_one
  have HCO := Lib.hid HCO
  have HCI : ∀ c : Ck, ∀ s : Ls, (Try.prog.info? 32).map (·.size) = some (cv c s).size := cv_info
  have HCI := Lib.hid HCI
  obtain ⟨i4, hi4, hy0, hy1, hy2⟩ := info_parts Try_info32
  have HJ := Lib.hid hi4
  have HY0 := Lib.hid hy0
  have HY1 := Lib.hid hy1
  have HY2 := Lib.hid hy2
  have HO := Lib.hid fun (k : Nat) (hk : k ≤ n) W (hW : Below w.heap.size w W) => one_any false A n cp v k W hl (by omega) hle hcm hv (hr.below hW) hk
  obtain ⟨R, hR⟩ : ∃ R, prr c0 (ev false v) = R := ⟨_, rfl⟩
  rw [hR]
  have HR0 := Lib.hid hR
  clear hR hi4 hy0 hy1 hy2 hc0 h0 hv hl hr hle hcm
  go_enter Try.func36, Try.ntmps36
  go_upto_region 1 with fail
  generalize World.alloc (World.alloc w _) _ = W1 at HP ⊢
  go_wp2_with fail
  go_loopw [6, 7] (fun y i wr => ∃ (k q : Nat) (c : Ck) (aA : Option Addr) (ac : Nat) (dA : Option Addr) (dc : Nat), k ≤ n ∧ i = .int .i64 (k : Int) ∧ y = .int .i64 (q : Int) ∧ q ≤ 1 ∧ Hid (q = 0 ↔ c.da = []) ∧ Hid (R = prr c (ev false (v.drop k))) ∧ Hid (Pmi w c0 c aA ac dA dc wr)) (fun _ i _ => n - (intOf i).toNat)
  case atStart => exact ⟨0, 0, c0, none, 0, none, 0, by omega, rfl, rfl, by omega, Lib.hid (by simp [HD0.out]), Lib.hid (by rw [← HR0.out]; simp), HP⟩
  case round =>
    clear HP
    obtain ⟨k, q, c, aA, ac, dA, dc, hk, rfl, rfl, hq, HQ, HR, HP⟩ := hrel
    by_cases hlt2 : k < n
    · have hone := HO.out k hk wr HP.out.up.2.2
      cases ht : t1 false (v.drop k) with
      | none =>
        as_aux_lemma =>
          have hRe : R = none := by
            rw [HR.out, ev_none (by rw [List.length_drop, HL.out]; omega) ht]
            rfl
          have HRE := Lib.hid hRe
          rw [ht] at hone
          have HONE := Lib.hid hone
          clear hone ht hRe
          go_wp2_with fail
          (with_reducible refine HONE.out.mono ?_)
          rintro e w3 ⟨rfl, hb3⟩
          have hp3 := HP.out.next hb3
          have HP4 := Lib.hid (hp3.next ((Below.refl _ _).alloc (Nat.le_refl _) (.cells #[.int .u16 0, .int .u8 0, .slice none 0 0] 25)))
          clear hp3 hb3
          go_upto_region 6 with fail
          generalize World.alloc w3 _ = w4 at HP4 ⊢
          obtain ⟨s, hs⟩ : ∃ s : Ls, s = putD (putA nol aA c.ad.length ac) dA c.da.length dc := ⟨_, rfl⟩
          have HU : Hid (UP w (cv c s) zlit _) := Lib.hid (by rw [hs]; exact HP4.out.up)
          have hW := HP4.out.row (cv c s)
          rw [← hs] at hW
          have HW := Lib.hid hW
          clear hW hs
          go_wp2_with (first | (refine wpList_load_row rfl 32 (.tmp 2) rfl w.heap.size rfl 32 (cv c s) (0, 0) _ HU.out.1 Try.underlying32 rfl (HCI.out _ _) ?_) | (refine wpList_store_row rfl 32 (.tmp 4) (.tmp 24) rfl (w.heap.size + 1) (cv c s) rfl rfl 32 zlit HU.out.2.1 (HCI.out _ _) (cv_size _ _).symm (HCO.out _ _) ?_))
          generalize World.setRow _ _ _ = W9 at HW ⊢
          have hz := HW.out.1.2.1
          refine bodyPost_ret (v := .tuple #[.agg (cv c s), .bool false]) (by simp [results, Try.results36, go_sem, hz.c0, hz.c1, hz.c2, hz.c3, hz.c4, hz.c5, hz.c6, hz.c7, hz.c8, hz.c9, hz.c10, hz.c11, hz.c12, hz.c13, hz.c14, cv]) rfl ⟨c, s, by rw [HRE.out]; rfl, HW.out.1.2.2, fun d hd => by
            rw [HRE.out] at hd
            cases hd⟩
      | some p =>
        obtain ⟨⟨xk, xf, xv⟩, z⟩ := p
        rw [ht] at hone
        have HONE := Lib.hid hone
        have hts := t1_lt ht
        have hxo := (tb_t1 (Byt.drop HV.out k) ht)
        have hRe : R = prr c ((⟨xk, xf, xv⟩, 0) :: ev false (v.drop (k + z))) := by
          rw [HR.out, ev_some ht, List.drop_drop]
        have HRE := Lib.hid hRe
        have HXO : Hid ((⟨xk, xf, xv⟩ : Tv).ok ∧ xv.length ≤ 65531) := Lib.hid ⟨hxo.1, hxo.2.2.1⟩
        have hks : k + z ≤ n := by have := hts.2; simp [HL.out] at this; omega
        have hz4 : 4 ≤ z := hts.1
        have hxk : xk < 65536 := hxo.1.1
        have hxl : xv.length ≤ 65531 := hxo.2.2.1
        clear hone ht hRe hxo hts HR
        go_wp2_with fail
        (with_reducible refine HONE.out.mono ?_)
        rintro e w3 ⟨A3, n3, c3, rfl, ho3⟩
        obtain rfl : xv.length = n3 := ho3.len
        have hp3 := HP.out.next ho3.2
        have hox := own_base ho3.1 (show w.heap.size + 2 ≤ wr.heap.size from HP.out.up.two)
        have hal : Below w3.heap.size w3 (w3.alloc (.cells #[.int .u16 (xk : Int), .int .u8 (xf : Int), .slice A3 xv.length c3] 25)) := (Below.refl _ _).alloc (Nat.le_refl _) _
        have HP4 := Lib.hid (hp3.next hal)
        have HOX := Lib.hid (own_below hox hal)
        have HTB := Lib.hid (Bk.new w3 #[.int .u16 (xk : Int), .int .u8 (xf : Int), .slice A3 xv.length c3] 25)
        clear hp3 ho3 hox hal HP HONE
        go_upto_region 7 with fail
        generalize World.alloc w3 _ = w4 at HP4 HOX HTB ⊢
        generalize w3.heap.size = bb at HTB ⊢
        have x0 := HTB.out.cell 0
        have x2 := HTB.out.cell 2
        simp at x0 x2
        have k0 : w4.cell? ⟨w.heap.size, 0, none⟩ = some (.int .u8 (c.kd : Int)) := HP4.out.up.1.c0
        have k11 : w4.cell? ⟨w.heap.size, 11, none⟩ = some (.slice aA c.ad.length ac) := HP4.out.up.1.c11
        have had := HP4.out.ad3
        by_cases h5 : xk = 5
        · as_aux_lemma =>
            have e5 : ((xk : Int) == 5) = true := by simp; omega
            by_cases h4 : xv.length ≠ 4
            · have d4 : ((xv.length : Int) != 4) = true := by simp; omega
              have HRN : Hid (R = none) := Lib.hid (by rw [HRE.out]; exact prr5no h5 (.inl h4))
              clear h5 h4
              go_upto_region 10 with fail
              obtain ⟨s, hs⟩ : ∃ s : Ls, s = putD (putA nol aA c.ad.length ac) dA c.da.length dc := ⟨_, rfl⟩
              have HU : Hid (UP w (cv c s) zlit _) := Lib.hid (by rw [hs]; exact HP4.out.up)
              have hW := HP4.out.row (cv c s)
              rw [← hs] at hW
              have HW := Lib.hid hW
              clear hW hs
              go_wp2_with (first | (refine wpList_load_row rfl 32 (.tmp 2) rfl w.heap.size rfl 32 (cv c s) (0, 0) _ HU.out.1 Try.underlying32 rfl (HCI.out _ _) ?_) | (refine wpList_store_row rfl 32 (.tmp 4) (.tmp 39) rfl (w.heap.size + 1) (cv c s) rfl rfl 32 zlit HU.out.2.1 (HCI.out _ _) (cv_size _ _).symm (HCO.out _ _) ?_))
              generalize World.setRow _ _ _ = W9 at HW ⊢
              have hz := HW.out.1.2.1
              refine bodyPost_ret (v := .tuple #[.agg (cv c s), .bool false]) (by simp [results, Try.results36, go_sem, hz.c0, hz.c1, hz.c2, hz.c3, hz.c4, hz.c5, hz.c6, hz.c7, hz.c8, hz.c9, hz.c10, hz.c11, hz.c12, hz.c13, hz.c14, cv]) rfl ⟨c, s, by rw [HRN.out]; rfl, HW.out.1.2.2, fun d hd => by
                rw [HRN.out] at hd
                cases hd⟩
            · have h4 : xv.length = 4 := by omega
              by_cases h3 : c.ad.length = 3
              · have d4 : ((xv.length : Int) != 4) = false := by simp; omega
                have da3 : ((c.ad.length : Int) == 3) = true := by simp; omega
                have HRN : Hid (R = none) := Lib.hid (by rw [HRE.out]; exact prr5no h5 (.inr h3))
                clear h5 h4 h3
                go_upto_region 10 with fail
                obtain ⟨s, hs⟩ : ∃ s : Ls, s = putD (putA nol aA c.ad.length ac) dA c.da.length dc := ⟨_, rfl⟩
                have HU : Hid (UP w (cv c s) zlit _) := Lib.hid (by rw [hs]; exact HP4.out.up)
                have hW := HP4.out.row (cv c s)
                rw [← hs] at hW
                have HW := Lib.hid hW
                clear hW hs
                go_wp2_with (first | (refine wpList_load_row rfl 32 (.tmp 2) rfl w.heap.size rfl 32 (cv c s) (0, 0) _ HU.out.1 Try.underlying32 rfl (HCI.out _ _) ?_) | (refine wpList_store_row rfl 32 (.tmp 4) (.tmp 39) rfl (w.heap.size + 1) (cv c s) rfl rfl 32 zlit HU.out.2.1 (HCI.out _ _) (cv_size _ _).symm (HCO.out _ _) ?_))
                generalize World.setRow _ _ _ = W9 at HW ⊢
                have hz := HW.out.1.2.1
                refine bodyPost_ret (v := .tuple #[.agg (cv c s), .bool false]) (by simp [results, Try.results36, go_sem, hz.c0, hz.c1, hz.c2, hz.c3, hz.c4, hz.c5, hz.c6, hz.c7, hz.c8, hz.c9, hz.c10, hz.c11, hz.c12, hz.c13, hz.c14, cv]) rfl ⟨c, s, by rw [HRN.out]; rfl, HW.out.1.2.2, fun d hd => by
                  rw [HRN.out] at hd
                  cases hd⟩
              · have d4 : ((xv.length : Int) != 4) = false := by simp; omega
                have da3 : ((c.ad.length : Int) == 3) = false := by simp; omega
                have HRF0 : R = prr { c with ad := c.ad ++ [nn xv 0 4] } (ev false (v.drop (k + z))) := by rw [HRE.out]; exact prr5 h5 h4 h3
                have hoy := HOX.out
                have hbw4 := HP4.out.up.2.2
                have CN : Hid (∀ W, Below w4.heap.size w4 W → Calls Try.prog 35 #[.slice A3 xv.length c3, .int .i64 0, .int .i64 4] W fun e w' => e = .returned (.int .u32 (nn xv 0 4 : Nat)) ∧ W = w') := Lib.hid fun W hW => rn_any A3 xv.length c3 xv 0 4 W rfl (owns_none hoy).2.1 (by omega) HXO.out.1.2.2 ((row_of_own hoy).below hW) (by omega) (by omega)
                have hy := nn_lt4 HXO.out.1.2.2 0
                generalize nn xv 0 4 = y0 at HRF0 CN hy
                have HRF := Lib.hid HRF0
                have HY := Lib.hid hy
                have hal : Below w4.drew.heap.size w4.drew (w4.drew.alloc (.cells #[.int .u32 (y0 : Int)] 27)) := (Below.refl _ _).alloc (Nat.le_refl _) _
                have HPA := Lib.hid ((HP4.out.next (Below.refl _ _).drew).next hal)
                have HNA : Hid (∀ j, (Value.slice aA c.ad.length ac).ownBlock = some j → w.heap.size + 2 ≤ j) := Lib.hid fun j e => (HPA.out.oa.lt j e).1
                have hbd : Below w4.heap.size w4 w4.drew := (Below.refl _ _).drew
                have g2 : w4.drew.cell? ⟨bb, 2, none⟩ = some (.slice A3 xv.length c3) := x2
                have g11d : w4.drew.cell? ⟨w.heap.size, 11, none⟩ = some (.slice aA c.ad.length ac) := k11
                have g11A : (w4.alloc (.cells #[.int .u32 (y0 : Int)] 27)).drew.cell? ⟨w.heap.size, 11, none⟩ = some (.slice aA c.ad.length ac) := HPA.out.up.1.c11
                clear HRF0 hoy hal hbw4 h5 h4
                go_upto_region 11 with fail
                clear x0 x2 k0 k11
                refine wp_region_held_drew (S := (fun _ => True)) (by kernel_rfl) (trivial) (fun hHeld => ?_)
                refine wpAnyH_take (i := 0) (v := ?_) rfl (by kernel_rfl) (by kernel_rfl) (by kernel_rfl) (fun _ _ _ h => h) (Or.inl ⟨by rfl, ?_⟩) (by first | assumption | trivial) ?_
                rotate_left 1
                · (intro w9 hSw; go_simp; try (with_reducible rfl))
                try simp only [Act.put, List.setIfInBounds_toArray, List.set_cons_zero, List.set_cons_succ, List.getElem_toArray, List.getElem_cons_zero, List.getElem_cons_succ]
                refine wpAnyH_take (i := 2) (v := ?_) rfl (by kernel_rfl) (by kernel_rfl) (by kernel_rfl) (fun _ _ _ h => h) (Or.inl ⟨by rfl, ?_⟩) (by first | assumption | trivial) ?_
                rotate_left 1
                · (intro w9 hSw; go_simp; try (with_reducible rfl))
                try simp only [Act.put, List.setIfInBounds_toArray, List.set_cons_zero, List.set_cons_succ, List.getElem_toArray, List.getElem_cons_zero, List.getElem_cons_succ]
                refine wpAnyH_ready (rs := [1, 3]) (by kernel_rfl) (by simp) ?_
                refine AllReadyH.cons rfl (fun K hK => ?_) (AllReadyH.cons rfl (fun K hK => ?_) AllReadyH.nil)
                · go_simp
                  refine hK.out _ _ (hHeld) (fun hHeld => ?_)
                  clear hK K
                  try simp only [Act.put, List.setIfInBounds_toArray, List.set_cons_zero, List.set_cons_succ, List.getElem_toArray, List.getElem_cons_zero, List.getElem_cons_succ]
                  refine wpAnyH_ready (rs := [3]) (by kernel_rfl) (by simp) ?_
                  refine AllReadyH.cons rfl (fun K hK => ?_) AllReadyH.nil
                  go_simp
                  refine hK.out _ _ (hHeld) (fun hHeld => ?_)
                  clear hK K
                  try simp only [Act.put, List.setIfInBounds_toArray, List.set_cons_zero, List.set_cons_succ, List.getElem_toArray, List.getElem_cons_zero, List.getElem_cons_succ]
                  refine wpAnyH_ready (rs := [4]) (by kernel_rfl) (by simp) ?_
                  refine AllReadyH.cons rfl (fun K hK => ?_) AllReadyH.nil
                  go_simp
                  go_at_call 35
                  (with_reducible refine (CN.out _ hbd).mono ?_)
                  rintro e w1 ⟨rfl, rfl⟩
                  refine hK.out _ _ (hHeld) (fun hHeld => ?_)
                  clear hK K
                  try simp only [Act.put, List.setIfInBounds_toArray, List.set_cons_zero, List.set_cons_succ, List.getElem_toArray, List.getElem_cons_zero, List.getElem_cons_succ]
                  refine wpAnyH_ready (rs := [5]) (by kernel_rfl) (by simp) ?_
                  refine AllReadyH.cons rfl (fun K hK => ?_) AllReadyH.nil
                  go_simp
                  refine hK.out _ _ (hHeld) (fun hHeld => ?_)
                  clear hK K
                  try simp only [Act.put, List.setIfInBounds_toArray, List.set_cons_zero, List.set_cons_succ, List.getElem_toArray, List.getElem_cons_zero, List.getElem_cons_succ]
                  refine wpAnyH_ready (rs := [6]) (by kernel_rfl) (by simp) ?_
                  refine AllReadyH.cons rfl (fun K hK => ?_) AllReadyH.nil
                  refine step_append_lies _ rfl (.tmp 41) (.tmp 45) 28 rfl (w.heap.size + 2) 27 i4 _ 1 4 Try.underlying28 HJ.out HY0.out HY1.out HY2.out rfl (by decide) _ c.ad.length _ rfl HPA.out.oa ⟨w4.heap.size, 0, none⟩ 1 1 [.int .u32 (y0 : Int)] rfl rfl (bcells (Row.new w4.drew [.int .u32 (y0 : Int)] 27 (0, 0))) (by simp [Value.oneCell']) (by omega) (by unfold maxLen; omega) (by omega) HPA.out.up.two _ rfl ?_
                  intro g9 cap9 w10 hown10 hgrow10 hat10 _
                  have hU10 := HPA.out.up.gr hgrow10 HNA.out
                  have g11 := hU10.1.c11
                  have f11 := hU10.1.frozen 11
                  have HN := Lib.hid (HPA.out.setA HY.out (by omega) hgrow10 hown10)
                  clear hU10 hown10 hgrow10 hat10
                  refine hK.out _ _ (hHeld) (fun hHeld => ?_)
                  clear hK K
                  try simp only [Act.put, List.setIfInBounds_toArray, List.set_cons_zero, List.set_cons_succ, List.getElem_toArray, List.getElem_cons_zero, List.getElem_cons_succ]
                  refine wpAnyH_take (i := 7) (v := ?_) rfl (by kernel_rfl) (by kernel_rfl) (by kernel_rfl) (fun _ _ _ h => h) (Or.inl ⟨by rfl, ?_⟩) (by first | assumption | trivial) ?_
                  rotate_left 1
                  · (intro w9 hSw; go_simp; try (with_reducible rfl))
                  try simp only [Act.put, List.setIfInBounds_toArray, List.set_cons_zero, List.set_cons_succ, List.getElem_toArray, List.getElem_cons_zero, List.getElem_cons_succ]
                  refine wpAnyH_ready (rs := [8]) (by kernel_rfl) (by simp) ?_
                  refine AllReadyH.cons rfl (fun K hK => ?_) AllReadyH.nil
                  go_simp
                  refine hK.out _ _ (hHeld) (fun hHeld => ?_)
                  clear hK K
                  try simp only [Act.put, List.setIfInBounds_toArray, List.set_cons_zero, List.set_cons_succ, List.getElem_toArray, List.getElem_cons_zero, List.getElem_cons_succ]
                  refine wpAnyH_done (by kernel_rfl) ?_ _
                  go_wp2_with fail
                  go_roundw
                  case rel => exact ⟨k + z, q, { c with ad := c.ad ++ [y0] }, _, _, dA, dc, hks, by go_num, by go_num, by omega, Lib.hid (HQ.out), HRF, HN⟩
                  case measure => simp [intOf]; omega
                · go_simp
                  refine hK.out _ _ (hHeld) (fun hHeld => ?_)
                  clear hK K
                  try simp only [Act.put, List.setIfInBounds_toArray, List.set_cons_zero, List.set_cons_succ, List.getElem_toArray, List.getElem_cons_zero, List.getElem_cons_succ]
                  refine wpAnyH_ready (rs := [1, 4]) (by kernel_rfl) (by simp) ?_
                  refine AllReadyH.cons rfl (fun K hK => ?_) (AllReadyH.cons rfl (fun K hK => ?_) AllReadyH.nil)
                  · go_simp
                    refine hK.out _ _ (hHeld) (fun hHeld => ?_)
                    clear hK K
                    try simp only [Act.put, List.setIfInBounds_toArray, List.set_cons_zero, List.set_cons_succ, List.getElem_toArray, List.getElem_cons_zero, List.getElem_cons_succ]
                    refine wpAnyH_ready (rs := [4]) (by kernel_rfl) (by simp) ?_
                    refine AllReadyH.cons rfl (fun K hK => ?_) AllReadyH.nil
                    go_simp
                    go_at_call 35
                    (with_reducible refine (CN.out _ hbd).mono ?_)
                    rintro e w1 ⟨rfl, rfl⟩
                    refine hK.out _ _ (hHeld) (fun hHeld => ?_)
                    clear hK K
                    try simp only [Act.put, List.setIfInBounds_toArray, List.set_cons_zero, List.set_cons_succ, List.getElem_toArray, List.getElem_cons_zero, List.getElem_cons_succ]
                    refine wpAnyH_ready (rs := [5]) (by kernel_rfl) (by simp) ?_
                    refine AllReadyH.cons rfl (fun K hK => ?_) AllReadyH.nil
                    go_simp
                    refine hK.out _ _ (hHeld) (fun hHeld => ?_)
                    clear hK K
                    try simp only [Act.put, List.setIfInBounds_toArray, List.set_cons_zero, List.set_cons_succ, List.getElem_toArray, List.getElem_cons_zero, List.getElem_cons_succ]
                    refine wpAnyH_ready (rs := [6]) (by kernel_rfl) (by simp) ?_
                    refine AllReadyH.cons rfl (fun K hK => ?_) AllReadyH.nil
                    refine step_append_lies _ rfl (.tmp 41) (.tmp 45) 28 rfl (w.heap.size + 2) 27 i4 _ 1 4 Try.underlying28 HJ.out HY0.out HY1.out HY2.out rfl (by decide) _ c.ad.length _ rfl HPA.out.oa ⟨w4.heap.size, 0, none⟩ 1 1 [.int .u32 (y0 : Int)] rfl rfl (bcells (Row.new w4.drew [.int .u32 (y0 : Int)] 27 (0, 0))) (by simp [Value.oneCell']) (by omega) (by unfold maxLen; omega) (by omega) HPA.out.up.two _ rfl ?_
                    intro g9 cap9 w10 hown10 hgrow10 hat10 _
                    have hU10 := HPA.out.up.gr hgrow10 HNA.out
                    have g11 := hU10.1.c11
                    have f11 := hU10.1.frozen 11
                    have HN := Lib.hid (HPA.out.setA HY.out (by omega) hgrow10 hown10)
                    clear hU10 hown10 hgrow10 hat10
                    refine hK.out _ _ (hHeld) (fun hHeld => ?_)
                    clear hK K
                    try simp only [Act.put, List.setIfInBounds_toArray, List.set_cons_zero, List.set_cons_succ, List.getElem_toArray, List.getElem_cons_zero, List.getElem_cons_succ]
                    refine wpAnyH_take (i := 7) (v := ?_) rfl (by kernel_rfl) (by kernel_rfl) (by kernel_rfl) (fun _ _ _ h => h) (Or.inl ⟨by rfl, ?_⟩) (by first | assumption | trivial) ?_
                    rotate_left 1
                    · (intro w9 hSw; go_simp; try (with_reducible rfl))
                    try simp only [Act.put, List.setIfInBounds_toArray, List.set_cons_zero, List.set_cons_succ, List.getElem_toArray, List.getElem_cons_zero, List.getElem_cons_succ]
                    refine wpAnyH_ready (rs := [8]) (by kernel_rfl) (by simp) ?_
                    refine AllReadyH.cons rfl (fun K hK => ?_) AllReadyH.nil
                    go_simp
                    refine hK.out _ _ (hHeld) (fun hHeld => ?_)
                    clear hK K
                    try simp only [Act.put, List.setIfInBounds_toArray, List.set_cons_zero, List.set_cons_succ, List.getElem_toArray, List.getElem_cons_zero, List.getElem_cons_succ]
                    refine wpAnyH_done (by kernel_rfl) ?_ _
                    go_wp2_with fail
                    go_roundw
                    case rel => exact ⟨k + z, q, { c with ad := c.ad ++ [y0] }, _, _, dA, dc, hks, by go_num, by go_num, by omega, Lib.hid (HQ.out), HRF, HN⟩
                    case measure => simp [intOf]; omega
                  · go_simp
                    go_at_call 35
                    (with_reducible refine (CN.out _ hbd).mono ?_)
                    rintro e w1 ⟨rfl, rfl⟩
                    refine hK.out _ _ (hHeld) (fun hHeld => ?_)
                    clear hK K
                    try simp only [Act.put, List.setIfInBounds_toArray, List.set_cons_zero, List.set_cons_succ, List.getElem_toArray, List.getElem_cons_zero, List.getElem_cons_succ]
                    refine wpAnyH_ready (rs := [1, 5]) (by kernel_rfl) (by simp) ?_
                    refine AllReadyH.cons rfl (fun K hK => ?_) (AllReadyH.cons rfl (fun K hK => ?_) AllReadyH.nil)
                    · go_simp
                      refine hK.out _ _ (hHeld) (fun hHeld => ?_)
                      clear hK K
                      try simp only [Act.put, List.setIfInBounds_toArray, List.set_cons_zero, List.set_cons_succ, List.getElem_toArray, List.getElem_cons_zero, List.getElem_cons_succ]
                      refine wpAnyH_ready (rs := [5]) (by kernel_rfl) (by simp) ?_
                      refine AllReadyH.cons rfl (fun K hK => ?_) AllReadyH.nil
                      go_simp
                      refine hK.out _ _ (hHeld) (fun hHeld => ?_)
                      clear hK K
                      try simp only [Act.put, List.setIfInBounds_toArray, List.set_cons_zero, List.set_cons_succ, List.getElem_toArray, List.getElem_cons_zero, List.getElem_cons_succ]
                      refine wpAnyH_ready (rs := [6]) (by kernel_rfl) (by simp) ?_
                      refine AllReadyH.cons rfl (fun K hK => ?_) AllReadyH.nil
                      refine step_append_lies _ rfl (.tmp 41) (.tmp 45) 28 rfl (w.heap.size + 2) 27 i4 _ 1 4 Try.underlying28 HJ.out HY0.out HY1.out HY2.out rfl (by decide) _ c.ad.length _ rfl HPA.out.oa ⟨w4.heap.size, 0, none⟩ 1 1 [.int .u32 (y0 : Int)] rfl rfl (bcells (Row.new w4.drew [.int .u32 (y0 : Int)] 27 (0, 0))) (by simp [Value.oneCell']) (by omega) (by unfold maxLen; omega) (by omega) HPA.out.up.two _ rfl ?_
                      intro g9 cap9 w10 hown10 hgrow10 hat10 _
                      have hU10 := HPA.out.up.gr hgrow10 HNA.out
                      have g11 := hU10.1.c11
                      have f11 := hU10.1.frozen 11
                      have HN := Lib.hid (HPA.out.setA HY.out (by omega) hgrow10 hown10)
                      clear hU10 hown10 hgrow10 hat10
                      refine hK.out _ _ (hHeld) (fun hHeld => ?_)
                      clear hK K
                      try simp only [Act.put, List.setIfInBounds_toArray, List.set_cons_zero, List.set_cons_succ, List.getElem_toArray, List.getElem_cons_zero, List.getElem_cons_succ]
                      refine wpAnyH_take (i := 7) (v := ?_) rfl (by kernel_rfl) (by kernel_rfl) (by kernel_rfl) (fun _ _ _ h => h) (Or.inl ⟨by rfl, ?_⟩) (by first | assumption | trivial) ?_
                      rotate_left 1
                      · (intro w9 hSw; go_simp; try (with_reducible rfl))
                      try simp only [Act.put, List.setIfInBounds_toArray, List.set_cons_zero, List.set_cons_succ, List.getElem_toArray, List.getElem_cons_zero, List.getElem_cons_succ]
                      refine wpAnyH_ready (rs := [8]) (by kernel_rfl) (by simp) ?_
                      refine AllReadyH.cons rfl (fun K hK => ?_) AllReadyH.nil
                      go_simp
                      refine hK.out _ _ (hHeld) (fun hHeld => ?_)
                      clear hK K
                      try simp only [Act.put, List.setIfInBounds_toArray, List.set_cons_zero, List.set_cons_succ, List.getElem_toArray, List.getElem_cons_zero, List.getElem_cons_succ]
                      refine wpAnyH_done (by kernel_rfl) ?_ _
                      go_wp2_with fail
                      go_roundw
                      case rel => exact ⟨k + z, q, { c with ad := c.ad ++ [y0] }, _, _, dA, dc, hks, by go_num, by go_num, by omega, Lib.hid (HQ.out), HRF, HN⟩
                      case measure => simp [intOf]; omega
                    · go_simp
                      refine hK.out _ _ (hHeld) (fun hHeld => ?_)
                      clear hK K
                      try simp only [Act.put, List.setIfInBounds_toArray, List.set_cons_zero, List.set_cons_succ, List.getElem_toArray, List.getElem_cons_zero, List.getElem_cons_succ]
                      refine wpAnyH_ready (rs := [1]) (by kernel_rfl) (by simp) ?_
                      refine AllReadyH.cons rfl (fun K hK => ?_) AllReadyH.nil
                      go_simp
                      refine hK.out _ _ (hHeld) (fun hHeld => ?_)
                      clear hK K
                      try simp only [Act.put, List.setIfInBounds_toArray, List.set_cons_zero, List.set_cons_succ, List.getElem_toArray, List.getElem_cons_zero, List.getElem_cons_succ]
                      refine wpAnyH_ready (rs := [6]) (by kernel_rfl) (by simp) ?_
                      refine AllReadyH.cons rfl (fun K hK => ?_) AllReadyH.nil
                      refine step_append_lies _ rfl (.tmp 41) (.tmp 45) 28 rfl (w.heap.size + 2) 27 i4 _ 1 4 Try.underlying28 HJ.out HY0.out HY1.out HY2.out rfl (by decide) _ c.ad.length _ rfl HPA.out.oa ⟨w4.heap.size, 0, none⟩ 1 1 [.int .u32 (y0 : Int)] rfl rfl (bcells (Row.new w4.drew [.int .u32 (y0 : Int)] 27 (0, 0))) (by simp [Value.oneCell']) (by omega) (by unfold maxLen; omega) (by omega) HPA.out.up.two _ rfl ?_
                      intro g9 cap9 w10 hown10 hgrow10 hat10 _
                      have hU10 := HPA.out.up.gr hgrow10 HNA.out
                      have g11 := hU10.1.c11
                      have f11 := hU10.1.frozen 11
                      have HN := Lib.hid (HPA.out.setA HY.out (by omega) hgrow10 hown10)
                      clear hU10 hown10 hgrow10 hat10
                      refine hK.out _ _ (hHeld) (fun hHeld => ?_)
                      clear hK K
                      try simp only [Act.put, List.setIfInBounds_toArray, List.set_cons_zero, List.set_cons_succ, List.getElem_toArray, List.getElem_cons_zero, List.getElem_cons_succ]
                      refine wpAnyH_take (i := 7) (v := ?_) rfl (by kernel_rfl) (by kernel_rfl) (by kernel_rfl) (fun _ _ _ h => h) (Or.inl ⟨by rfl, ?_⟩) (by first | assumption | trivial) ?_
                      rotate_left 1
                      · (intro w9 hSw; go_simp; try (with_reducible rfl))
                      try simp only [Act.put, List.setIfInBounds_toArray, List.set_cons_zero, List.set_cons_succ, List.getElem_toArray, List.getElem_cons_zero, List.getElem_cons_succ]
                      refine wpAnyH_ready (rs := [8]) (by kernel_rfl) (by simp) ?_
                      refine AllReadyH.cons rfl (fun K hK => ?_) AllReadyH.nil
                      go_simp
                      refine hK.out _ _ (hHeld) (fun hHeld => ?_)
                      clear hK K
                      try simp only [Act.put, List.setIfInBounds_toArray, List.set_cons_zero, List.set_cons_succ, List.getElem_toArray, List.getElem_cons_zero, List.getElem_cons_succ]
                      refine wpAnyH_done (by kernel_rfl) ?_ _
                      go_wp2_with fail
                      go_roundw
                      case rel => exact ⟨k + z, q, { c with ad := c.ad ++ [y0] }, _, _, dA, dc, hks, by go_num, by go_num, by omega, Lib.hid (HQ.out), HRF, HN⟩
                      case measure => simp [intOf]; omega
        · by_cases h7 : xk = 7
          · as_aux_lemma =>
              have e5 : ((xk : Int) == 5) = false := by simp; omega
              have e7 : ((xk : Int) == 7) = true := by simp; omega
              by_cases h1 : c.kd = 1
              · have dk1 : ((c.kd : Int) == 1) = true := by simp; omega
                have HRN : Hid (R = none) := Lib.hid (by rw [HRE.out]; exact prr7no h7 (.inl h1))
                clear h7 h1
                go_upto_region 15 with fail
                obtain ⟨s, hs⟩ : ∃ s : Ls, s = putD (putA nol aA c.ad.length ac) dA c.da.length dc := ⟨_, rfl⟩
                have HU : Hid (UP w (cv c s) zlit _) := Lib.hid (by rw [hs]; exact HP4.out.up)
                have hW := HP4.out.row (cv c s)
                rw [← hs] at hW
                have HW := Lib.hid hW
                clear hW hs
                go_wp2_with (first | (refine wpList_load_row rfl 32 (.tmp 2) rfl w.heap.size rfl 32 (cv c s) (0, 0) _ HU.out.1 Try.underlying32 rfl (HCI.out _ _) ?_) | (refine wpList_store_row rfl 32 (.tmp 4) (.tmp 66) rfl (w.heap.size + 1) (cv c s) rfl rfl 32 zlit HU.out.2.1 (HCI.out _ _) (cv_size _ _).symm (HCO.out _ _) ?_))
                generalize World.setRow _ _ _ = W9 at HW ⊢
                have hz := HW.out.1.2.1
                refine bodyPost_ret (v := .tuple #[.agg (cv c s), .bool false]) (by simp [results, Try.results36, go_sem, hz.c0, hz.c1, hz.c2, hz.c3, hz.c4, hz.c5, hz.c6, hz.c7, hz.c8, hz.c9, hz.c10, hz.c11, hz.c12, hz.c13, hz.c14, cv]) rfl ⟨c, s, by rw [HRN.out]; rfl, HW.out.1.2.2, fun d hd => by
                  rw [HRN.out] at hd
                  cases hd⟩
              · by_cases hq1 : q = 1
                · have dk1 : ((c.kd : Int) == 1) = false := by simp; omega
                  obtain rfl : q = 1 := by omega
                  have HRN : Hid (R = none) := Lib.hid (by rw [HRE.out]; exact prr7no h7 (.inr (.inl (fun h => by have := HQ.out.2 h; omega))))
                  clear h7 h1
                  go_upto_region 15 with fail
                  obtain ⟨s, hs⟩ : ∃ s : Ls, s = putD (putA nol aA c.ad.length ac) dA c.da.length dc := ⟨_, rfl⟩
                  have HU : Hid (UP w (cv c s) zlit _) := Lib.hid (by rw [hs]; exact HP4.out.up)
                  have hW := HP4.out.row (cv c s)
                  rw [← hs] at hW
                  have HW := Lib.hid hW
                  clear hW hs
                  go_wp2_with (first | (refine wpList_load_row rfl 32 (.tmp 2) rfl w.heap.size rfl 32 (cv c s) (0, 0) _ HU.out.1 Try.underlying32 rfl (HCI.out _ _) ?_) | (refine wpList_store_row rfl 32 (.tmp 4) (.tmp 66) rfl (w.heap.size + 1) (cv c s) rfl rfl 32 zlit HU.out.2.1 (HCI.out _ _) (cv_size _ _).symm (HCO.out _ _) ?_))
                  generalize World.setRow _ _ _ = W9 at HW ⊢
                  have hz := HW.out.1.2.1
                  refine bodyPost_ret (v := .tuple #[.agg (cv c s), .bool false]) (by simp [results, Try.results36, go_sem, hz.c0, hz.c1, hz.c2, hz.c3, hz.c4, hz.c5, hz.c6, hz.c7, hz.c8, hz.c9, hz.c10, hz.c11, hz.c12, hz.c13, hz.c14, cv]) rfl ⟨c, s, by rw [HRN.out]; rfl, HW.out.1.2.2, fun d hd => by
                    rw [HRN.out] at hd
                    cases hd⟩
                · by_cases h0 : xv = []
                  · have dk1 : ((c.kd : Int) == 1) = false := by simp; omega
                    obtain rfl : q = 0 := by omega
                    have dl : ((xv.length : Int) == 0) = true := by simp [h0]
                    have HRN : Hid (R = none) := Lib.hid (by rw [HRE.out]; exact prr7no h7 (.inr (.inr h0)))
                    clear h7 h1
                    go_upto_region 15 with fail
                    obtain ⟨s, hs⟩ : ∃ s : Ls, s = putD (putA nol aA c.ad.length ac) dA c.da.length dc := ⟨_, rfl⟩
                    have HU : Hid (UP w (cv c s) zlit _) := Lib.hid (by rw [hs]; exact HP4.out.up)
                    have hW := HP4.out.row (cv c s)
                    rw [← hs] at hW
                    have HW := Lib.hid hW
                    clear hW hs
                    go_wp2_with (first | (refine wpList_load_row rfl 32 (.tmp 2) rfl w.heap.size rfl 32 (cv c s) (0, 0) _ HU.out.1 Try.underlying32 rfl (HCI.out _ _) ?_) | (refine wpList_store_row rfl 32 (.tmp 4) (.tmp 66) rfl (w.heap.size + 1) (cv c s) rfl rfl 32 zlit HU.out.2.1 (HCI.out _ _) (cv_size _ _).symm (HCO.out _ _) ?_))
                    generalize World.setRow _ _ _ = W9 at HW ⊢
                    have hz := HW.out.1.2.1
                    refine bodyPost_ret (v := .tuple #[.agg (cv c s), .bool false]) (by simp [results, Try.results36, go_sem, hz.c0, hz.c1, hz.c2, hz.c3, hz.c4, hz.c5, hz.c6, hz.c7, hz.c8, hz.c9, hz.c10, hz.c11, hz.c12, hz.c13, hz.c14, cv]) rfl ⟨c, s, by rw [HRN.out]; rfl, HW.out.1.2.2, fun d hd => by
                      rw [HRN.out] at hd
                      cases hd⟩
                  · have dk1 : ((c.kd : Int) == 1) = false := by simp; omega
                    obtain rfl : q = 0 := by omega
                    have dl : ((xv.length : Int) == 0) = false := by
                      have := List.length_pos_iff.2 h0
                      simp; omega
                    have HRF : Hid (R = prr { c with da := xv } (ev false (v.drop (k + z)))) := Lib.hid (by rw [HRE.out]; exact prr7 h7 h1 (HQ.out.1 rfl) h0)
                    have HX0 := Lib.hid h0
                    have k10 := HP4.out.up.1.c10
                    have f10 := HP4.out.up.1.frozen 10
                    have HN := Lib.hid (HP4.out.setD HXO.out.1.2.2 HXO.out.2 rfl HOX.out)
                    clear h7 h1 h0
                    go_wp2_with fail
                    go_roundw
                    case rel => exact ⟨k + z, 1, { c with da := xv }, aA, ac, A3, c3, hks, by go_num, by go_num, by omega, Lib.hid (⟨fun h => by omega, fun h => absurd h HX0.out⟩), HRF, HN⟩
                    case measure => simp [intOf]; omega
          · as_aux_lemma =>
              have e5 : ((xk : Int) == 5) = false := by simp; omega
              have e7 : ((xk : Int) == 7) = false := by simp; omega
              by_cases hw : xk < 32768
              · have dw : decide ((xk : Int) < 32768) = true := by simp; omega
                have HRN : Hid (R = some c) := Lib.hid (by rw [HRE.out]; exact prrLow h5 h7 hw)
                clear h5 h7 hw
                go_upto_region 18 with fail
                obtain ⟨s, hs⟩ : ∃ s : Ls, s = putD (putA nol aA c.ad.length ac) dA c.da.length dc := ⟨_, rfl⟩
                have HU : Hid (UP w (cv c s) zlit _) := Lib.hid (by rw [hs]; exact HP4.out.up)
                have hW := HP4.out.row (cv c s)
                rw [← hs] at hW
                have HW := Lib.hid hW
                clear hW hs
                go_wp2_with (first | (refine wpList_load_row rfl 32 (.tmp 2) rfl w.heap.size rfl 32 (cv c s) (0, 0) _ HU.out.1 Try.underlying32 rfl (HCI.out _ _) ?_) | (refine wpList_store_row rfl 32 (.tmp 4) (.tmp 73) rfl (w.heap.size + 1) (cv c s) rfl rfl 32 zlit HU.out.2.1 (HCI.out _ _) (cv_size _ _).symm (HCO.out _ _) ?_))
                generalize World.setRow _ _ _ = W9 at HW ⊢
                have hz := HW.out.1.2.1
                refine bodyPost_ret (v := .tuple #[.agg (cv c s), .bool true]) (by simp [results, Try.results36, go_sem, hz.c0, hz.c1, hz.c2, hz.c3, hz.c4, hz.c5, hz.c6, hz.c7, hz.c8, hz.c9, hz.c10, hz.c11, hz.c12, hz.c13, hz.c14, cv]) rfl ⟨c, s, by rw [HRN.out]; rfl, HW.out.1.2.2, fun d hd => by
                  rw [HRN.out] at hd
                  cases hd
                  exact ⟨rfl, HW.out.2 HC0.out⟩⟩
              · have dw : decide ((xk : Int) < 32768) = false := by simp; omega
                have HRF : Hid (R = prr c (ev false (v.drop (k + z)))) := Lib.hid (by rw [HRE.out]; exact prrHigh h5 h7 hw)
                clear h5 h7 hw
                go_wp2_with fail
                go_roundw
                case rel => exact ⟨k + z, q, c, aA, ac, dA, dc, hks, by go_num, by go_num, by omega, Lib.hid (HQ.out), HRF, HP4⟩
                case measure => simp [intOf]; omega
    · as_aux_lemma =>
        have hke : k = n := by omega
        subst hke
        have HRN : Hid (R = some c) := Lib.hid (by
          rw [HR.out, List.drop_of_length_le (by rw [HL.out]; exact Nat.le_refl _), ev_nil]
          rfl)
        go_upto_region 19 with fail
        obtain ⟨s, hs⟩ : ∃ s : Ls, s = putD (putA nol aA c.ad.length ac) dA c.da.length dc := ⟨_, rfl⟩
        have HU : Hid (UP w (cv c s) zlit _) := Lib.hid (by rw [hs]; exact HP.out.up)
        have hW := HP.out.row (cv c s)
        rw [← hs] at hW
        have HW := Lib.hid hW
        clear hW hs
        go_wp2_with (first | (refine wpList_load_row rfl 32 (.tmp 2) rfl w.heap.size rfl 32 (cv c s) (0, 0) _ HU.out.1 Try.underlying32 rfl (HCI.out _ _) ?_) | (refine wpList_store_row rfl 32 (.tmp 4) (.tmp 74) rfl (w.heap.size + 1) (cv c s) rfl rfl 32 zlit HU.out.2.1 (HCI.out _ _) (cv_size _ _).symm (HCO.out _ _) ?_))
        generalize World.setRow _ _ _ = W9 at HW ⊢
        have hz := HW.out.1.2.1
        refine bodyPost_ret (v := .tuple #[.agg (cv c s), .bool true]) (by simp [results, Try.results36, go_sem, hz.c0, hz.c1, hz.c2, hz.c3, hz.c4, hz.c5, hz.c6, hz.c7, hz.c8, hz.c9, hz.c10, hz.c11, hz.c12, hz.c13, hz.c14, cv]) rfl ⟨c, s, by rw [HRN.out]; rfl, HW.out.1.2.2, fun d hd => by
          rw [HRN.out] at hd
          cases hd
          exact ⟨rfl, HW.out.2 HC0.out⟩⟩
end Go.Proofs.Ytbliipjiilmbcaa
