/-
  What chunk.value does.
-/
import Derived.Test.YtjlemghkaodkkaaChunkPar
import Derived.Test.YtjlemghkaodkkaaTlvAny
namespace Go.Proofs.Ytjlemghkaodkkaa
open Go.RowKit Wire Tlv Chunk

theorem Gr.lies' {W w' : World} {v : Value} {g H n c : Nat} (h : W.grownBy w' v.ownBlock) (k : v.ownBlock = some g ∨ g = H) (hH : H = W.heap.size) : Gr W w' v (.slice (some ⟨g, 0, none⟩) n c) :=
  ⟨h, fun q hq => by
    have e : g = q := by simpa [Value.ownBlock] using hq
    subst e
    rcases k with k | k
    · exact .inl k
    · right
      rw [k, hH]
      exact Nat.le_refl _⟩
theorem Gr.below {W W' : World} (v : Value) (h : Below W.heap.size W W') : Gr W W' v v := ⟨⟨h.os, h.tape, h.output, h.size, fun k hk _ => h.block k hk⟩, fun _ h => .inl h⟩
theorem cat_app (ch : Bool) (xs ys : List Tv) : cat ch (xs ++ ys) = cat ch xs ++ cat ch ys := by simp [cat]
theorem cat_take_le (ch : Bool) (ps : List Tv) (k : Nat) : (cat ch (ps.take k)).length ≤ (cat ch ps).length := by
  conv => rhs; rw [← List.take_append_drop k ps, cat_app]
  rw [List.length_append]
  omega
theorem val_take {c : Ck} (k : Nat) : (body c ++ cat false ((pars c).take k)).length ≤ (val c).length := by
  have := cat_take_le false (pars c) k
  simp only [val, List.length_append]
  omega
theorem tp_ok {x : Tv} (h : fit false x) (hl : x.v.length ≤ 65531) : tp false x = (tb false x, 0) := by
  unfold tp
  rw [if_neg (by simpa using h), if_neg (by omega)]
theorem tp_long {x : Tv} (h : fit false x) (hl : 65531 < x.v.length) : tp false x = ([], 3) := by
  unfold tp
  rw [if_neg (by simpa using h), if_pos hl]
/-- What chunk.value leaves. -/
def ValOut (w : World) (c : Ck) (e : Ending) (w' : World) : Prop := ∃ A n c' l er, e = .returned (.tuple #[.slice A n c', .int .i64 er]) ∧ Own w w' A n c' l ∧ ((er = 0 ∧ l = val c) ∨ (er = 3 ∧ 65531 < (val c).length)) ∧ n ≤ 140737488353000
theorem nums_le {c : Ck} (hg : c.ga.length ≤ 64) (hu : c.du.length ≤ 16) : (nums c).length ≤ 400 := by
  unfold nums
  repeat' split
  all_goals (simp [be_len, gb_len, ub_len]; try omega)
set_option maxRecDepth 100000 in
set_option maxHeartbeats 4000000 in
theorem value_any (c : Ck) (s : Ls) (w : World) (h : Ch w c s) (ha : s.an ≤ 3) (hg : s.gn ≤ 64) (hu : s.un ≤ 16) (hbp : pars c ≠ [] → (body c).length ≤ 400) :
    Calls Try.prog 23 #[.agg (cv c s)] w (ValOut w c) := by
  have HU : Hid (U1 w (cv c s) _) := Lib.hid (U1.new w (cv c s))
  have HC : Hid (Ch _ c s) := Lib.hid (h.alloc (.cells (cv c s) 29))
  have hnl := nums_le (c := c) (by rw [h.z.g]; exact hg) (by rw [h.z.u]; exact hu)
  have HNL := Lib.hid hnl
  have HDL := Lib.hid h.z.d
  have hdm := h.z.dm
  have HBP := Lib.hid hbp
  have HPO := Lib.hid (pars_ok h.ok)
  obtain ⟨i0, hi0, hz0, hz1, hz2⟩ := info_parts Try_info8
  have HI := Lib.hid hi0
  have HZ0 := Lib.hid hz0
  have HZ1 := Lib.hid hz1
  have HZ2 := Lib.hid hz2
  have HCI := Lib.hid (cv_info c s)
  clear hi0 hz0 hz1 hz2 hnl hbp h
  go_enter Try.func23, Try.ntmps23
  go_upto_region 1 with fail
  generalize World.alloc w _ = W1 at HU HC ⊢
  have hlt := HU.out.1.lt
  go_wp2_with ((refine wpList_load_row rfl 29 (.tmp 1) rfl w.heap.size rfl 29 (cv c s) (0, 0) _ HU.out.1 Try.underlying29 rfl HCI.out ?_))
  (with_reducible refine (numbers_any c s W1 HC.out hg hu).mono ?_)
  rintro e W2 ⟨A2, n2, c2, rfl, ho2⟩
  have hn2 : n2 ≤ 400 := by rw [← ho2.len]; exact HNL.out
  have HO2 := Lib.hid ho2
  clear ho2
  have g0 := (HU.out.1.nextB HO2.out.2 hlt).c0
  have g10 := (HU.out.1.nextB HO2.out.2 hlt).c10
  obtain ⟨b2, hb2⟩ : ∃ b2 : Bool, ((c.kd : Int) != 2) = b2 := ⟨_, rfl⟩
  go_upto_if 13 with fail
  go_cut [4] from 14 to 17 (fun v4 W => ∃ (m : Nat) (A' : Option Addr) (c'' : Nat), m ≤ 140737488352000 ∧ v4 = .slice A' m c'' ∧ Hid (Own W1 W A' m c'' (body c)))
  case first =>
    by_cases hk2 : c.kd = 2
    · obtain rfl : false = b2 := by rw [← hb2]; simp [hk2]
      clear hb2
      have HN : Hid (Own W1 W2 A2 n2 c2 (body c)) := Lib.hid (by unfold body; rw [if_pos hk2, List.append_nil]; exact HO2.out)
      clear hk2
      go_wp2_with fail
      go_meet
      case rel => exact ⟨n2, _, _, by omega, rfl, HN⟩
    · obtain rfl : true = b2 := by rw [← hb2]; simp; omega
      clear hb2
      have hbd : body c = nums c ++ c.da := by unfold body; rw [if_neg hk2]
      have HBD := Lib.hid hbd
      have hvb := HC.out.dr.next (HO2.out.2.mono (Nat.le_refl _))
      obtain ⟨A, n, cc, hv, hl, hnc, hcm, hnr, hr, hz⟩ := hvb
      injection hv with hA hn hc
      subst hA; subst hn; subst hc
      have HL := Lib.hid hl
      have HR := Lib.hid hr
      have HZ := Lib.hid hz
      have hsz := HO2.out.2.size
      clear hk2 hbd hl hr hz hcm
      rcases hdA : s.dA with _ | a
      · obtain ⟨e1, e2⟩ := HZ.out hdA
        have hd0 : c.da = [] := List.eq_nil_of_length_eq_zero (by rw [HL.out, e1])
        rw [hdA, e1, e2] at g10
        have HN : Hid (Own W1 W2 A2 n2 c2 (body c)) := Lib.hid (by rw [HBD.out, hd0, List.append_nil]; exact HO2.out)
        clear e1 e2 hd0 hdA
        go_wp2_with (at_builtin; refine wpList_append_own_none rfl (.tmp 14) (.tmp 16) 24 rfl W1.heap.size 5 i0 1 Try.underlying24 HI.out _ _ _ rfl HO2.out.1 rfl ?_)
        go_meet
        case rel => exact ⟨n2, _, _, by omega, rfl, HN⟩
      · rw [hdA] at g10 HR
        clear hdA
        go_wp2_with (at_builtin; refine wpList_append_own _ rfl (.tmp 14) (.tmp 16) 24 rfl W1.heap.size 5 i0 (.int .u8 0) 1 1 Try.underlying24 HI.out HZ0.out HZ1.out HZ2.out rfl (by decide) _ _ _ rfl HO2.out.1 a s.dn s.dc (bs c.da) rfl (by rw [bs_len, HL.out, Nat.mul_one]) (bcells HR.out) (bs_one _) (by unfold maxLen; omega) (by omega) hsz ?_; intro v' w3 hown hgr hv; obtain ⟨A', c', rfl⟩ := own_form hown; have HN : Hid (Own W1 w3 A' (n2 + s.dn) c' (body c)) := Lib.hid ⟨by rw [HBD.out, ← bs_app]; exact hown, HO2.out.2.grown hgr hsz (fun k hk => (HO2.out.1.lt k hk).1)⟩; clear hown hgr)
        go_meet
        case rel => exact ⟨n2 + s.dn, _, _, by omega, rfl, HN⟩
  case rest =>
    obtain ⟨m, A3, c3, hm, rfl, HO3⟩ := hcut
    clear HO2 g0 g10 hb2
    have hbk := HU.out.1.nextB HO3.out.2 hlt
    have HBK := Lib.hid hbk
    clear hbk
    go_wp2_with ((refine wpList_load_row rfl 29 (.tmp 1) rfl w.heap.size rfl 29 (cv c s) (0, 0) _ HBK.out Try.underlying29 rfl HCI.out ?_))
    have hbw : Below W1.heap.size W1 wc := HO3.out.2
    (with_reducible refine (parameters_any c s W1 _ HC.out hbw ha).mono ?_)
    rintro e Wp ⟨A4, n4, c4, qs, rfl, hqs, hpm⟩
    have hml : m = (body c).length := HO3.out.len.symm
    have hql : qs.length = (pars c).length := by have := congrArg List.length hqs; simpa using this
    have hm4 : 0 < n4 → m ≤ 65531 := fun h => by
      have := HBP.out (by intro e; have h2 : qs.length = 0 := by rw [hql, e]; rfl
                          have h1 := hpm.1
                          omega)
      omega
    have hn4 : n4 ≤ 4398046520000 := by
      have h1 := hpm.1
      rw [hql] at h1
      have h2 : (pars c).length ≤ c.ad.length + 1 + c.ca.length := by
        unfold pars
        simp only [List.length_append, List.length_map]
        split <;> simp <;> omega
      have h3 := HC.out.z.a
      have h4 := HC.out.z.c
      have h5 := HC.out.z.cm
      omega
    have HO4 := Lib.hid (HO3.out.next hpm.2.2.2)
    have HPM := Lib.hid hpm
    have HQS := Lib.hid hqs
    have HGR := Lib.hid (Gr.refl Wp (.slice A3 m c3))
    have HV0 : Hid (∀ g, (Value.slice A3 m c3).ownBlock = some g → g < wc.heap.size) := Lib.hid fun g hg => (HO3.out.1.lt g hg).2
    have HN4 := Lib.hid hpm.1
    clear hpm hqs HBK hml hql HO3 HNL HBP hdm
    go_wp2_with fail
    go_loopw [4, 21] (fun v i wr => ∃ (k m' : Nat) (A : Option Addr) (c' : Nat), k ≤ n4 ∧ Hid (k < n4 → m' ≤ 65531) ∧ m' ≤ 140737488352000 ∧ i = .int .i64 (k : Int) ∧ v = .slice A m' c' ∧ Hid (Own W1 wr A m' c' (body c ++ cat false ((pars c).take k))) ∧ Hid (Gr Wp wr (.slice A3 m c3) (.slice A m' c'))) (fun _ i _ => n4 - (intOf i).toNat)
    case atStart => exact ⟨0, m, _, _, by omega, Lib.hid hm4, by omega, rfl, rfl, Lib.hid (by have := HO4.out; simpa [cat] using this), HGR⟩
    case round =>
      obtain ⟨k, m', A, c', hk, hm1, hm2, rfl, rfl, hown, hgr⟩ := hrel
      by_cases hlt1 : k < n4
      · have hkq : k < qs.length := by rw [HN4.out]; exact hlt1
        have hkp : k < (pars c).length := by rw [← HQS.out]; simpa using hkq
        have hths := HPM.out.gr hgr.out HV0.out (by have := hown.out.2; exact this.mono (Nat.le_refl _))
        obtain ⟨a, B, bn, bc, rfl, k0, k1, k2, hqe, hxl, hxc, hxm, hxn, hxo, hxr, hxz⟩ := hths.at hkq
        have hqk : qs[k].1 = (pars c)[k] := by
          have e := congrArg (fun l : List Tv => l[k]?) HQS.out
          simp [List.getElem?_map, List.getElem?_eq_getElem hkq, List.getElem?_eq_getElem hkp] at e
          exact e
        have hfit := (HPO.out _ (List.getElem_mem hkp)).2
        have hvt := val_take (c := c) (k + 1)
        have htk : (pars c).take (k + 1) = (pars c).take k ++ [(pars c)[k]] := List.take_succ_eq_append_getElem hkp
        rw [htk, cat_app] at hvt
        rw [← hqk] at hfit hvt htk
        generalize qs[k].1 = x at *
        obtain ⟨xk, xf, xv⟩ := x
        simp only at k0 k1 hxl hxr
        have hf0 : xf = 0 := by simpa [fit] using hfit
        subst hf0
        have HVT := Lib.hid hvt
        have HTK := Lib.hid htk
        have hO5 := hown.out.next ((Below.refl wr.heap.size wr).alloc (Nat.le_refl _) (.cells #[.int .u16 (xk : Int), .int .u8 0, .slice B bn bc] 36))
        have HO5 := Lib.hid hO5
        have hP : Calls Try.prog 22 #[.bool false, .agg #[.int .u16 (xk : Int), .int .u8 0, .slice B bn bc]] (wr.alloc (.cells #[.int .u16 (xk : Int), .int .u8 0, .slice B bn bc] 36)) (PutOut _ (tp false ⟨xk, 0, xv⟩)) := tput_any false ⟨xk, 0, xv⟩ B bn bc _ hxo hxl (by omega) (hxr.alloc _)
        by_cases hlong : 65531 < xv.length
        · rw [tp_long hfit hlong] at hP
          have HP := Lib.hid hP
          have HF : Hid (65531 < (val c).length) := Lib.hid (by
            have := HVT.out
            simp only [List.length_append, cat, List.flatMap_cons, List.flatMap_nil, List.append_nil] at this
            have h2 := tb_len false ⟨xk, 0, xv⟩
            have h3 := whl_le (4 + xv.length)
            simp only at h2
            omega)
          clear hP hvt htk hths hqe hqk hxo hxr hfit hO5 hlong
          go_wp2_with fail
          (with_reducible refine HP.out.mono ?_)
          rintro e W9 ⟨A9, n9, c9, rfl, ho9⟩
          have HO9 := Lib.hid (HO5.out.next ho9.2)
          clear ho9
          go_wp2_with fail
          go_ret2
          exact ⟨none, 0, 0, [], 3, rfl, own_lift ⟨World.ownsRow_nil _ _ _ _, HO9.out.2⟩ HU.out.2, .inr ⟨rfl, HF.out⟩, by omega⟩
        · rw [tp_ok hfit (by simp only; omega)] at hP
          have HP := Lib.hid hP
          have htl := tb_len false ⟨xk, 0, xv⟩
          have hwl := whl_le (4 + xv.length)
          simp only at htl
          have HTL := Lib.hid htl
          have hm65 := hm1.out hlt1
          clear hP hvt htk hths hqe hqk hxo hxr hfit hO5 htl
          go_wp2_with fail
          (with_reducible refine HP.out.mono ?_)
          rintro e W9 ⟨A9, n9, c9, rfl, ho9⟩
          have hl9 := ho9.len
          have HL9 := Lib.hid hl9
          have hn9 : n9 = whl (4 + xv.length) := by rw [← hl9, HTL.out]
          have hn9a : 0 < n9 := by omega
          have hn9b : n9 ≤ 65540 := by omega
          obtain ⟨a9, rfl, _⟩ := Row.byte ho9.row (k := 0) (by rw [hl9]; exact hn9a)
          have hO9 := HO5.out.next ho9.2
          have HO9 := Lib.hid hO9
          have HR9 := Lib.hid ho9.row
          have hG9 := hgr.out.trans (Gr.below (.slice A m' c') (bnext' ((Below.refl wr.heap.size wr).alloc (Nat.le_refl _) (.cells #[.int .u16 (xk : Int), .int .u8 0, .slice B bn bc] 36)) ho9.2))
          have HG9 := Lib.hid hG9
          have hsz := hO9.2.size
          clear ho9 hO9 hl9 hn9 hG9 hwl
          go_upto_region 11 with (at_builtin; refine wpList_append_lies _ rfl (.tmp 33) (.tmp 34) 24 rfl W1.heap.size 5 i0 (.int .u8 0) 1 1 Try.underlying24 HI.out HZ0.out HZ1.out HZ2.out rfl (by decide) _ _ _ rfl HO9.out.1 a9 n9 c9 (bs (tb false ⟨xk, 0, xv⟩)) rfl (by rw [bs_len, HL9.out, Nat.mul_one]) (bcells HR9.out) (bs_one _) hn9a (by unfold maxLen; omega) (by omega) hsz _ rfl ?_; intro g9 cap9 w10 hown10 hgrow10 hat10 _; have HN : Hid (Own W1 w10 (some ⟨g9, 0, none⟩) (m' + n9) cap9 (body c ++ cat false ((pars c).take (k + 1)))) := Lib.hid ⟨by rw [HTK.out, cat_app, ← List.append_assoc, ← bs_app]; simpa [cat] using hown10, HO9.out.2.grown hgrow10 hsz (fun k hk => (HO9.out.1.lt k hk).1)⟩; have HG : Hid (Gr Wp w10 (.slice A3 m c3) (.slice (some ⟨g9, 0, none⟩) (m' + n9) cap9)) := Lib.hid (HG9.out.trans (Gr.lies' hgrow10 hat10 rfl)); clear hown10 hgrow10 hat10)
          by_cases hbig : 65531 < m' + n9
          · have db : decide ((65531 : Int) < (m' : Int) + (n9 : Int)) = true := by simp; omega
            have HF : Hid (65531 < (val c).length) := Lib.hid (by
              have := HN.out.len
              have h2 := val_take (c := c) (k + 1)
              omega)
            go_wp2_with fail
            go_ret2
            exact ⟨none, 0, 0, [], 3, rfl, own_lift ⟨World.ownsRow_nil _ _ _ _, HN.out.2⟩ HU.out.2, .inr ⟨rfl, HF.out⟩, by omega⟩
          · have db : decide ((65531 : Int) < (m' : Int) + (n9 : Int)) = false := by simp; omega
            go_wp2_with fail
            go_roundw
            case rel => exact ⟨k + 1, m' + n9, _, _, by omega, Lib.hid (fun _ => by omega), by omega, by go_num, rfl, HN, HG⟩
            case measure => simp [intOf]; omega
      · have HF : Hid (Own W1 wr A m' c' (val c)) := Lib.hid (by
          have := hown.out
          rw [List.take_of_length_le (by rw [← HQS.out, List.length_map, HN4.out]; omega)] at this
          exact this)
        clear hown
        go_wp2_with fail
        go_ret2
        exact ⟨_, _, _, val c, 0, rfl, own_lift HF.out HU.out.2, .inl ⟨rfl, rfl⟩, by omega⟩
end Go.Proofs.Ytjlemghkaodkkaa
