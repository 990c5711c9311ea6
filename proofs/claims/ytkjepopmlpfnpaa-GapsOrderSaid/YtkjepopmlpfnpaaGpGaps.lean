/-
  The program's gaps.
-/
import Derived.Test.YtkjepopmlpfnpaaGpGapW
namespace Go.Proofs.Ytkjepopmlpfnpaa
open Go.RowKit Go.Maps
set_option linter.unusedVariables false

theorem gaps_nil (W : World) : Calls Try.prog 16 #[.pointer none] W fun e w' => e = .returned (.slice none 0 0) ∧ W = w' := by
  go_enter Try.func16, Try.ntmps16
  go_wp2_with fail
  go_ret
  exact ⟨rfl, rfl⟩
set_option maxHeartbeats 1000000 in
theorem gaps_any (W : World) (F : Nat → Prop) (s : Nat) (st : St) (h : PSet W F s st) :
    Calls Try.prog 16 #[.pointer (some ⟨s, 0, none⟩)] W fun e w' => ∃ A c, e = .returned (.slice A st.gaps.length c) ∧ Row w' A (gs st.gaps) ∧ Below W.heap.size W w' := by
  have HWY := Lib.hid (ways_any W F s st h)
  have ok := h.2
  have HOK := Lib.hid ok
  have HLEN := Lib.hid (ris_len ok.2.1)
  have HGP : Hid (st.gaps = (runs st.ws).take 64) := Lib.hid rfl
  clear h ok
  obtain ⟨ws, hws⟩ : ∃ ws, ws = st.ws := ⟨_, rfl⟩
  have HRIS : Hid (Ris 2 65535 ws) := Lib.hid (by rw [hws]; exact HOK.out.2.1)
  rw [← hws] at HWY HLEN HGP
  clear hws HOK
  generalize st.gaps = gg at HGP ⊢
  obtain ⟨nw, hnw⟩ : ∃ nw, nw = ws.length := ⟨_, rfl⟩
  rw [← hnw] at HWY HLEN
  have HNW := Lib.hid hnw
  have hnw9 := HLEN.out
  clear hnw
  go_enter Try.func16, Try.ntmps16
  go_wp2_with fail
  refine HWY.out.mono ?_
  rintro e w1 ⟨gw, cw, rfl, hrow, hb1⟩
  have HROW := Lib.hid hrow
  have HB1 := Lib.hid hb1
  clear hrow hb1 HWY
  go_wp2_with fail
  go_loopw [3, 5, 6, 12] (fun v3 _ _ v12 wr => ∃ (k : Nat) (A : Option Addr) (c n : Nat) (l : List (Nat × Nat)), v12 = .int .i64 k ∧ k ≤ nw ∧ v3 = .slice A n c ∧ n ≤ 64 ∧ Hid (l = runs (ws.take k)) ∧ Hid (n = l.length) ∧ Hid (Gr wr (.slice A n c) l) ∧ Hid (∀ a, A = some a → W.heap.size ≤ a.block ∧ a.block ≠ gw) ∧ Hid (Row wr (some ⟨gw, 0, none⟩) (ns .u16 ws)) ∧ Hid (Below W.heap.size W wr)) (fun _ _ _ v12 _ => nw - (iof v12).toNat)
  case atStart => exact ⟨0, none, 0, 0, [], rfl, Nat.zero_le _, rfl, by omega, Lib.hid (by simp [runs]), rfl, Gr.nil _, Lib.hid (fun a ha => by cases ha), HROW, HB1⟩
  case round =>
    obtain ⟨k, A, c, n, l, rfl, hk, rfl, hn, HL, HN, HG, HA, HR, HB⟩ := hrel
    clear HROW HB1
    by_cases hlt : k < nw
    · have hkl : k < ws.length := by rw [← HNW.out]; exact hlt
      have hwv := ris_at HRIS.out hkl
      have hcw : wr.cell? ⟨gw, k, none⟩ = some (.int .u16 ((ws.getD k 0 : Nat) : Int)) := by
        obtain ⟨a, ha, hc⟩ := HR.out k _ (ns_get hkl)
        injection ha with ha
        subst ha
        rwa [addr0] at hc
      have HGW : Hid (gw < wr.heap.size) := Lib.hid (block_lt_of_cell hcw)
      have HST : Hid (runs (ws.take (k + 1)) = gstep l (ws.getD k 0)) := Lib.hid (by rw [take_snoc hkl, runs_snoc, HL.out])
      have HLAST : Hid (∀ m p, l = m ++ [p] → p.2 < ws.getD k 0) := Lib.hid fun m p e => last_lt HRIS.out hkl (by rw [← HL.out, e])
      have HFULL : Hid (l.length = 64 → (∀ p, l.getLast? = some p → p.2 + 1 ≠ ws.getD k 0) → gg = l) := Lib.hid fun h1 h2 => by
        rw [HGP.out, HL.out]
        conv => lhs; rw [split_at hkl]
        exact runs_full (by rw [← HL.out]; exact h1) (by rw [← HL.out]; exact h2)
      generalize ws.getD k 0 = w at hwv hcw HST HLAST HFULL
      clear hkl
      rcases List.eq_nil_or_concat l with rfl | ⟨m, p, rfl⟩
      · have hn0 : n = 0 := by simpa using HN.out
        subst hn0
        go_wp2_with (at_builtin; refine gr_app rfl _ _ rfl (.slice A 0 c) [] rfl (HG.out.kept (World.grownBy_alloc wr _ none) (by cases hv : (Value.slice A 0 c).ownBlock <;> simp)) w w wr.heap.size 1 49 rfl (Bk.new wr _ _) (by simp) ?_; intro g' c' w2 hown2 hgr2 hat2)
        go_roundw
        case rel => exact ⟨k + 1, some ⟨g', 0, none⟩, c', 1, [(w, w)], by go_num, by omega, rfl, by omega, Lib.hid (by rw [HST.out]; rfl), rfl, Lib.hid hown2, Lib.hid (lies_new (n := 0) (c := c) (w2 := w2) HA.out HB.out HGW.out hat2), Lib.hid (row_far (row_far HR.out (World.grownBy_alloc wr _ none) (by simp)) hgr2 (own_far (n := 0) (c := c) HA.out).1), Lib.hid ((HB.out.alloc HB.out.size _).grown hgr2 (by have := HB.out.size; simp; omega) (own_far (n := 0) (c := c) HA.out).2)⟩
        case measure => simp [iof] <;> omega
      · rw [List.concat_eq_append] at HN HG HST HLAST HFULL
        obtain ⟨g, rfl⟩ : ∃ g, A = some ⟨g, 0, none⟩ := by
          have hf := (World.ownsRow.form HG.out (by simp))
          obtain ⟨g, cap, he, _⟩ := hf
          simp only [Value.slice.injEq] at he
          exact ⟨g, he.1⟩
        have hnm : n = m.length + 1 := by have := HN.out; simpa using this
        obtain ⟨j, hj⟩ : ∃ j, j = m.length := ⟨_, rfl⟩
        have hp2 := HLAST.out m p rfl
        have hcp : wr.cell? ⟨g, j * 2 + 1, none⟩ = some (.int .u16 (p.2 : Int)) := by
          rw [World.ownsRow.cellAt (n := n) (cap := c) (by have := HG.out; unfold Gr at this; rw [← HN.out] at this; exact this) _ (by omega)]
          have := (gs_get (l := m ++ [p]) (i := m.length) (by simp)).2
          rw [hj]
          simpa using this
        have hfz : wr.frozen? ⟨g, j * 2 + 1, none⟩ = false := World.ownsRow.frozenAt (n := n) (cap := c) (by have := HG.out; unfold Gr at this; rw [← HN.out] at this; exact this) _
        rw [← hj] at hnm
        have HJ := Lib.hid hj
        subst hnm
        clear hj HGP HLEN
        have e1 : ((j + 1 : Nat) : Int) - 1 = j := by omega
        by_cases hadj : p.2 + 1 = w
        · have hq : ((p.2 : Int) + 1 == (w : Int)) = true := by simp; omega
          have HNEW : Hid (m ++ [(p.1, w)] = runs (ws.take (k + 1))) := Lib.hid (by rw [HST.out, gstep_on hadj])
          have hp3 : p.2 ≤ 65534 := by omega
          clear hadj
          go_wp2_with fail
          have hgs := setc_grown wr g (j * 2 + 1) (.int .u16 (w : Int))
          have hG2 : Gr (wr.setCell ⟨g, j * 2 + 1, none⟩ (.int .u16 (w : Int))) (.slice (some ⟨g, 0, none⟩) (j + 1) c) (m ++ [(p.1, w)]) := by
            have := Gr.last (W := wr) (g := g) (n := j + 1) (c := c) (l := m) (p := p) HG.out w
            rw [← HJ.out] at this
            exact this
          go_roundw
          case rel => exact ⟨k + 1, some ⟨g, 0, none⟩, c, j + 1, m ++ [(p.1, w)], by go_num, by omega, rfl, hn, HNEW, Lib.hid (by simp; exact HJ.out), Lib.hid hG2, HA, Lib.hid (row_far HR.out hgs (by simp; exact fun e => (HA.out _ rfl).2 e.symm)), Lib.hid (HB.out.grown hgs HB.out.size (fun k hk => by injection hk with e; rw [← e]; exact (HA.out _ rfl).1))⟩
          case measure => simp [iof] <;> omega
        · have hq : ((p.2 : Int) + 1 == (w : Int)) = false := by simp; omega
          have hp3 : p.2 ≤ 65534 := by omega
          by_cases h64 : j + 1 = 64
          · obtain rfl : j = 63 := by omega
            have HGG : Hid (gg = m ++ [p]) := Lib.hid (HFULL.out (by simp; have := HJ.out; omega) (fun q hq => by simp at hq; rw [← hq]; exact hadj))
            clear hadj h64
            go_wp2_with fail
            go_ret
            exact ⟨some ⟨g, 0, none⟩, c, by rw [HGG.out]; have := HJ.out; simp [← this], by rw [HGG.out]; exact HG.out.row, HB.out⟩
          · have HNEW : Hid (m ++ [p] ++ [(w, w)] = runs (ws.take (k + 1))) := Lib.hid (by rw [HST.out, gstep_new hadj])
            have h64z : (((j + 1 : Nat) : Int) == 64) = false := by simp; omega
            have h64y : ((j : Int) + 1 == 64) = false := by simp; omega
            have HG1 : Hid (Gr wr (.slice (some ⟨g, 0, none⟩) (j + 1) c) (m ++ [p])) := HG
            clear hadj
            go_wp2_with (at_builtin; refine gr_app rfl _ _ rfl (.slice (some ⟨g, 0, none⟩) (j + 1) c) (m ++ [p]) rfl (HG1.out.kept (World.grownBy_alloc wr _ none) (.inr (by simp [Value.ownBlock]))) w w wr.heap.size 1 49 rfl (Bk.new wr _ _) (by simp; have := HJ.out; omega) ?_; intro g' c' w2 hown2 hgr2 hat2)
            go_roundw
            case rel => exact ⟨k + 1, some ⟨g', 0, none⟩, c', m.length + 1 + 1, m ++ [p] ++ [(w, w)], by go_num, by omega, rfl, by have := HJ.out; omega, HNEW, Lib.hid (by simp), Lib.hid (by simpa using hown2), Lib.hid (lies_new (n := j + 1) (c := c) (w2 := w2) HA.out HB.out HGW.out hat2), Lib.hid (row_far (row_far HR.out (World.grownBy_alloc wr _ none) (by simp)) hgr2 (own_far (n := j + 1) (c := c) HA.out).1), Lib.hid ((HB.out.alloc HB.out.size _).grown hgr2 (by have := HB.out.size; simp; omega) (own_far (n := j + 1) (c := c) HA.out).2)⟩
            case measure => simp [iof] <;> omega
    · have hkn : k = nw := by omega
      have hfin : gg = l := by
        rw [HGP.out, HL.out, hkn, HNW.out, List.take_length]
        apply List.take_of_length_le
        have := HN.out
        rw [HL.out, hkn, HNW.out, List.take_length] at this
        omega
      have HF := Lib.hid hfin
      clear hkn hfin
      go_wp2_with fail
      go_ret
      refine ⟨A, c, by rw [HF.out, ← HN.out]; rfl, ?_, HB.out⟩
      rw [HF.out]
      exact HG.out.row
end Go.Proofs.Ytkjepopmlpfnpaa
