/-
  The document's gaps.
-/
import Derived.Test.YtkjepopmlpfnpaaGpRef
namespace Go.Proofs.Ytkjepopmlpfnpaa
open Go.RowKit Go.Maps
set_option linter.unusedVariables false

theorem cut_gaps (g n c : Nat) (h : 64 ≤ c) (W : World) : (Instr.slice 40 (.slice (some ⟨g, 0, none⟩) n c) none (some (.int .i64 64)) none).run Try.prog W = .ok (.slice (some ⟨g, 0, none⟩) 64 c) W := by
  have he : Try.prog.elem 40 = 49 := by simp [Program.elem, Try.underlying40]
  rw [run_slice_h W 40 (some ⟨g, 0, none⟩) n c Try.underlying40 .i64 64 (by omega) (by omega), he, Try.sizeOf49]
  simp [Result.andThen, sliced, Addr.add]
theorem lies_new' {W wr : World} {g' n c : Nat} {A : Option Addr} {o : Obj} (hA : ∀ a, A = some a → W.heap.size ≤ a.block) (hb : Below W.heap.size W wr)
    (hat : (Value.slice A n c).ownBlock = some g' ∨ g' = (wr.alloc o).heap.size) : ∀ a, some (⟨g', 0, none⟩ : Addr) = some a → W.heap.size ≤ a.block := fun a ha => by
  injection ha with ha
  subst ha
  rcases hat with h | h
  · cases A with
    | none => cases h
    | some a =>
      obtain rfl : a.block = g' := by simpa [Value.ownBlock] using h
      exact hA a rfl
  · have h2 : g' = wr.heap.size + 1 := by simpa using h
    have := hb.size
    show W.heap.size ≤ g'
    omega
theorem own_far' {W : World} {n c : Nat} {A : Option Addr} (hA : ∀ a, A = some a → W.heap.size ≤ a.block) : ∀ k, (Value.slice A n c).ownBlock = some k → W.heap.size ≤ k := by
  cases A with
  | none => exact fun k hk => by cases hk
  | some a =>
    exact fun k hk => by
      have : a.block = k := by simpa [Value.ownBlock] using hk
      rw [← this]; exact hA a rfl
set_option maxHeartbeats 2000000 in
theorem rgaps_any (W : World) (F : Nat → Prop) (s : Nat) (st : St) (h : DSet W F s st) :
    Calls Try.prog 17 #[.pointer (some ⟨s, 0, none⟩)] W fun e w' => ∃ A c, e = .returned (.slice A st.gaps.length c) ∧ Row w' A (gs st.gaps) ∧ Below W.heap.size W w' := by
  obtain ⟨vw, v, hb, hw, hv, f1, f2, f3, f4, ok⟩ := h
  obtain ⟨B, cb, rfl, hlc, hcm, hA⟩ := hw.form
  have hC : ∀ w2, Below W.heap.size W w2 → (w2.cell? ⟨s, 1, none⟩ = some (.slice B st.ws.length cb) ∧ Row w2 B (ns .i64 st.ws)) := fun w2 hw2 => by
    have hb2 : Bk w2 s _ _ := (hw2.block s hb.lt).trans hb
    exact ⟨(hb2.cell 1).trans rfl, hw.row.below hw2⟩
  have HRIS := Lib.hid ok.2.1
  have HLEN := Lib.hid (ris_len ok.2.1)
  have HGP : Hid (st.gaps = (runs st.ws).take 64) := Lib.hid rfl
  clear hb hw hv f1 f2 f3 f4 ok hA hcm
  obtain ⟨ws, hws⟩ : ∃ ws, ws = st.ws := ⟨_, rfl⟩
  rw [← hws] at hC HRIS HLEN HGP hlc
  clear hws
  generalize st.gaps = gg at HGP ⊢
  obtain ⟨nw, hnw⟩ : ∃ nw, nw = ws.length := ⟨_, rfl⟩
  rw [← hnw] at hC HLEN hlc
  have HNW := Lib.hid hnw
  have HC := Lib.hid hC
  have hnw9 := HLEN.out
  clear hnw hC
  go_enter Try.func17, Try.ntmps17
  go_wp2_with fail
  go_loopw [3, 4, 5] (fun v3 v4 _ wr => ∃ (k : Nat) (A : Option Addr) (c n : Nat) (l : List (Nat × Nat)), v4 = .int .i64 k ∧ k ≤ nw ∧ v3 = .slice A n c ∧ n ≤ k ∧ Hid (l = runs (ws.take k)) ∧ Hid (n = l.length) ∧ Hid (Gr wr (.slice A n c) l) ∧ Hid (∀ a, A = some a → W.heap.size ≤ a.block) ∧ Hid (Below W.heap.size W wr)) (fun _ v4 _ _ => nw - (iof v4).toNat)
  case atStart => exact ⟨0, none, 0, 0, [], rfl, Nat.zero_le _, rfl, Nat.le_refl _, Lib.hid (by simp [runs]), rfl, Gr.nil _, Lib.hid (fun a ha => by cases ha), Lib.hid (Below.refl _ _)⟩
  case round =>
    obtain ⟨k, A, c, n, l, rfl, hk, rfl, hn, HL, HN, HG, HA, HB⟩ := hrel
    obtain ⟨c1, hrow⟩ := HC.out wr HB.out
    have HR := Lib.hid hrow
    clear hrow
    by_cases hlt : k < nw
    · have hkl : k < ws.length := by rw [← HNW.out]; exact hlt
      have hwv := ris_at HRIS.out hkl
      obtain ⟨b, rfl, hcw⟩ := HR.out k _ (ns_get hkl)
      have HST : Hid (runs (ws.take (k + 1)) = gstep l (ws.getD k 0)) := Lib.hid (by rw [take_snoc hkl, runs_snoc, HL.out])
      have HPRE : Hid (∀ j, k = j + 1 → ∃ x : Nat, wr.cell? (b.add j) = some (.int .i64 (x : Int)) ∧ x < ws.getD k 0 ∧ ∃ m p, l = m ++ [p] ∧ p.2 = x) := Lib.hid fun j hj => by
        have hjl : j < ws.length := by omega
        obtain ⟨b', hb', hcb⟩ := HR.out j _ (ns_get hjl)
        injection hb' with hb'
        subst hb'
        refine ⟨ws.getD j 0, hcb, ris_lt HRIS.out (by omega) hkl, ?_⟩
        obtain ⟨p, hp, hp2⟩ := runs_last (ws.take j) (ws.getD j 0)
        rw [← take_snoc hjl, ← hj, ← HL.out] at hp
        obtain ⟨m, hm⟩ := List.getLast?_eq_some_iff.1 hp
        exact ⟨m, p, hm, hp2⟩
      have hL0 : Hid (k = 0 → l = []) := Lib.hid fun e => by rw [HL.out, e]; simp [runs]
      generalize ws.getD k 0 = w at hwv hcw HST HPRE
      have hw16 := wrap16 hwv.2
      clear hkl
      by_cases hk0 : k = 0
      · have hl0 := hL0.out hk0
        subst hl0
        have hn0 : n = 0 := by simpa using HN.out
        subst hn0
        subst hk0
        rw [show b.add 0 = b by simp [Addr.add]] at hcw
        go_wp2_with fail
        go_quiet (fail)
        go_wp2_with (at_builtin; refine gr_app rfl _ _ rfl (.slice A 0 c) [] rfl (HG.out.kept ((grown_drewN (grown_refl wr none) nq).trans (World.grownBy_alloc (wr.drewN nq) _ none)) (by cases hv : (Value.slice A 0 c).ownBlock <;> simp)) w w wr.heap.size 1 49 rfl (Bk.new (wr.drewN nq) _ _) (by simp) ?_; intro g' c' w2 hown2 hgr2 hat2)
        go_roundw
        case rel => exact ⟨1, some ⟨g', 0, none⟩, c', 1, [(w, w)], by go_num, by omega, rfl, by omega, Lib.hid (by rw [HST.out]; rfl), rfl, Lib.hid hown2, Lib.hid (lies_new' (n := 0) (c := c) HA.out (below_drewN HB.out nq) hat2), Lib.hid (((below_drewN HB.out nq).alloc HB.out.size _).grown hgr2 (by have := HB.out.size; simp; omega) (own_far' (n := 0) (c := c) HA.out))⟩
        case measure => simp [iof] <;> omega
      · obtain ⟨j, rfl⟩ : ∃ j, k = j + 1 := ⟨k - 1, by omega⟩
        obtain ⟨x, hcx, hxw, m, p, rfl, rfl⟩ := HPRE.out j rfl
        obtain ⟨g, rfl⟩ : ∃ g, A = some ⟨g, 0, none⟩ := by
          have hf := (World.ownsRow.form HG.out (by simp))
          obtain ⟨g, cap, he, _⟩ := hf
          simp only [Value.slice.injEq] at he
          exact ⟨g, he.1⟩
        have hnm : n = m.length + 1 := by have := HN.out; simpa using this
        obtain ⟨q, hqm⟩ : ∃ q, q = m.length := ⟨_, rfl⟩
        have hcp : wr.cell? ⟨g, q * 2 + 1, none⟩ = some (.int .u16 (p.2 : Int)) := by
          rw [World.ownsRow.cellAt (n := n) (cap := c) (by have := HG.out; unfold Gr at this; rw [← HN.out] at this; exact this) _ (by omega)]
          have := (gs_get (l := m ++ [p]) (i := m.length) (by simp)).2
          rw [hqm]
          simpa using this
        have hfz : wr.frozen? ⟨g, q * 2 + 1, none⟩ = false := World.ownsRow.frozenAt (n := n) (cap := c) (by have := HG.out; unfold Gr at this; rw [← HN.out] at this; exact this) _
        rw [← hqm] at hnm
        have HQ := Lib.hid hqm
        subst hnm
        have hcw2 : wr.cell? { block := b.block, off := b.off + (j + 1) } = some (.int .i64 (w : Int)) := by simpa [Addr.add] using hcw
        have e1 : ((j + 1 : Nat) : Int) - 1 = j := by omega
        have e2 : ((q + 1 : Nat) : Int) - 1 = q := by omega
        have hpos : (0 : Int) < ((j + 1 : Nat) : Int) := by omega
        clear hqm hk0 HPRE hL0
        by_cases hadj : p.2 + 1 = w
        · have hq : ((p.2 : Int) + 1 == (w : Int)) = true := by simp only [beq_iff_eq]; omega
          have HNEW : Hid (m ++ [(p.1, w)] = runs (ws.take (j + 1 + 1))) := Lib.hid (by rw [HST.out, gstep_on hadj])
          clear hadj
          go_wp2_with fail
          go_quiet (fail)
          go_wp2_with fail
          have hgs := (grown_drewN (grown_refl wr (some g)) nq).trans (setc_grown (wr.drewN nq) g (q * 2 + 1) (.int .u16 (w : Int)))
          have hG2 : Gr ((wr.drewN nq).setCell ⟨g, q * 2 + 1, none⟩ (.int .u16 (w : Int))) (.slice (some ⟨g, 0, none⟩) (q + 1) c) (m ++ [(p.1, w)]) := by
            have := Gr.last (W := wr.drewN nq) (g := g) (n := q + 1) (c := c) (l := m) (p := p) HG.out w
            rw [← HQ.out] at this
            exact this
          go_roundw
          case rel => exact ⟨j + 1 + 1, some ⟨g, 0, none⟩, c, q + 1, m ++ [(p.1, w)], by go_num, by omega, rfl, by omega, HNEW, Lib.hid (by simp; exact HQ.out), Lib.hid hG2, HA, Lib.hid (HB.out.grown hgs HB.out.size (fun k hk => by injection hk with e; rw [← e]; exact (HA.out _ rfl)))⟩
          case measure => simp [iof] <;> omega
        · have hq : ((p.2 : Int) + 1 == (w : Int)) = false := by simp only [beq_eq_false_iff_ne, ne_eq]; omega
          have HNEW : Hid (m ++ [p] ++ [(w, w)] = runs (ws.take (j + 1 + 1))) := Lib.hid (by rw [HST.out, gstep_new hadj])
          have HG1 : Hid (Gr wr (.slice (some ⟨g, 0, none⟩) (q + 1) c) (m ++ [p])) := HG
          clear hadj
          go_wp2_with fail
          go_quiet (fail)
          go_wp2_with (at_builtin; refine gr_app rfl _ _ rfl (.slice (some ⟨g, 0, none⟩) (q + 1) c) (m ++ [p]) rfl (HG1.out.kept ((grown_drewN (grown_refl wr none) nq).trans (World.grownBy_alloc (wr.drewN nq) _ none)) (.inr (by simp [Value.ownBlock]))) w w wr.heap.size 1 49 rfl (Bk.new (wr.drewN nq) _ _) (by simp; have := HQ.out; omega) ?_; intro g' c' w2 hown2 hgr2 hat2)
          go_roundw
          case rel => exact ⟨j + 1 + 1, some ⟨g', 0, none⟩, c', m.length + 1 + 1, m ++ [p] ++ [(w, w)], by go_num, by omega, rfl, by have := HQ.out; omega, HNEW, Lib.hid (by simp), Lib.hid (by simpa using hown2), Lib.hid (lies_new' (n := q + 1) (c := c) HA.out (below_drewN HB.out nq) hat2), Lib.hid (((below_drewN HB.out nq).alloc HB.out.size _).grown hgr2 (by have := HB.out.size; simp; omega) (own_far' (n := q + 1) (c := c) HA.out))⟩
          case measure => simp [iof] <;> omega
    · have hkn : k = nw := by omega
      have hl : l = runs ws := by rw [HL.out, hkn, HNW.out, List.take_length]
      have HLL := Lib.hid hl
      clear hkn hl
      by_cases h64 : 64 < n
      · have h64z : (64 : Int) < (n : Int) := by omega
        obtain ⟨g, rfl⟩ : ∃ g, A = some ⟨g, 0, none⟩ := by
          have hf := (World.ownsRow.form HG.out (by have := HN.out; omega))
          obtain ⟨g, cap, he, _⟩ := hf
          simp only [Value.slice.injEq] at he
          exact ⟨g, he.1⟩
        have hnc : n ≤ c := by
          rcases HG.out.2 with ⟨h1, _⟩ | ⟨g2, cap, cur, h1, _, _, h2, _⟩
          · simp at h1
          · simp only [Value.slice.injEq] at h1
            have := HN.out
            rw [h1.2.2]; omega
        have hct := cut_gaps g n c (by omega)
        have HF : Hid (gg = l.take 64) := Lib.hid (by rw [HGP.out, HLL.out])
        have HRW : Hid (Row wr (some ⟨g, 0, none⟩) (gs (l.take 64))) := Lib.hid (fun i v hv => HG.out.row i v (by
          have e : gs l = gs (l.take 64) ++ gs (l.drop 64) := by rw [gs_app, List.take_append_drop]
          rw [e, List.getElem?_append_left (List.getElem?_eq_some_iff.1 hv).1]
          exact hv))
        have H64 : Hid ((l.take 64).length = 64) := Lib.hid (by have := HN.out; simp; omega)
        clear h64 hnc
        go_wp2_with fail
        go_ret
        refine ⟨some ⟨g, 0, none⟩, c, by rw [HF.out, H64.out]; rfl, by rw [HF.out]; exact HRW.out, HB.out⟩
      · have h64z : decide ((64 : Int) < (n : Int)) = false := decide_eq_false (by omega)
        have HF : Hid (gg = l) := Lib.hid (by
          rw [HGP.out, ← HLL.out]
          exact List.take_of_length_le (by have := HN.out; omega))
        clear h64
        go_wp2_with fail
        go_ret
        refine ⟨A, c, by rw [HF.out, ← HN.out]; rfl, by rw [HF.out]; exact HG.out.row, HB.out⟩
end Go.Proofs.Ytkjepopmlpfnpaa
