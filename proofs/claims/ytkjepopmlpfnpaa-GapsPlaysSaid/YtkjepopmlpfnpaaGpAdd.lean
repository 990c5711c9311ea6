/-
  A TSN comes to the program's set: Has, Next, noteTwice, goOn, Add.
-/
import Derived.Test.YtkjepopmlpfnpaaGpRead
import Derived.Deep.CutBlock
import Derived.Deep.LoopGhost
namespace Go.Proofs.Ytkjepopmlpfnpaa
open Go.RowKit Go.Maps
set_option linter.unusedVariables false

theorem PSet.below {W W' : World} {F : Nat → Prop} {s : Nat} {st : St} (h : PSet W F s st) (hb : Below W.heap.size W W') : PSet W' F s st :=
  h.frame (F := fun _ => False) (Kp.below hb) (fun _ _ e => e)
theorem PS0.below {W W' : World} {F : Nat → Prop} {s : Nat} {st : St} (h : PS0 W F s st) (hb : Below W.heap.size W W') : PS0 W' F s st :=
  h.frame (F := fun _ => False) (Kp.below hb) (fun _ _ e => e)
theorem has_any (W : World) (F : Nat → Prop) (s t : Nat) (st : St) (h : PSet W F s st) (ht : t < 4294967296) :
    Calls Try.prog 19 #[.pointer (some ⟨s, 0, none⟩), .int .u32 (t : Int)] W fun e w' => e = .returned (.bool (st.has t)) ∧ Below W.heap.size W w' := by
  have HP := Lib.hid (passed_any W F s t st h ht)
  have HW := Lib.hid (waits_any W F s t st h.1 ht)
  have HF : Hid (st.has t = (psd st.cum t || decide (wy st.cum t ∈ st.ws))) := Lib.hid rfl
  clear h ht
  generalize st.has t = r at HF ⊢
  generalize psd st.cum t = p at HF HP
  generalize decide (wy st.cum t ∈ st.ws) = q at HF HW
  cases p
  · have HR : Hid (r = q) := Lib.hid (by rw [HF.out, Bool.false_or])
    clear HF
    go_enter Try.func19, Try.ntmps19
    go_wp2_with (first | (go_at_call 29; refine HP.out.mono ?_; rintro e w' ⟨rfl, rfl⟩) | (go_at_call 30; refine HW.out.mono ?_; rintro e w1 ⟨rfl, hb⟩))
    go_ret
    exact ⟨ret_b HR.out.symm, hb⟩
  · have HR : Hid (r = true) := Lib.hid (by rw [HF.out, Bool.true_or])
    clear HF
    go_enter Try.func19, Try.ntmps19
    go_wp2_with (first | (go_at_call 29; refine HP.out.mono ?_; rintro e w' ⟨rfl, rfl⟩) | (go_at_call 30; refine HW.out.mono ?_; rintro e w1 ⟨rfl, hb⟩))
    go_ret
    exact ⟨ret_b HR.out.symm, Below.refl _ _⟩
theorem has_nil (t : Nat) (W : World) : Calls Try.prog 19 #[.pointer none, .int .u32 (t : Int)] W fun e w' => e = .returned (.bool false) ∧ W = w' := by
  go_enter Try.func19, Try.ntmps19
  go_wp2_with fail
  go_ret
  exact ⟨rfl, rfl⟩
theorem next_any (W : World) (F : Nat → Prop) (s t : Nat) (st : St) (h : PSet W F s st) (ht : t < 4294967296) :
    Calls Try.prog 21 #[.pointer (some ⟨s, 0, none⟩), .int .u32 (t : Int)] W fun e w' => e = .returned (.bool ((t : Int) == ((up st.cum 1 : Nat) : Int))) ∧ W = w' := by
  obtain ⟨m, v, D, ⟨c0, _, _⟩, _⟩ := h.cells
  clear h
  have hw := wrap_add (a := st.cum) (b := 1)
  have hw2 : IntKind.u32.wrap ((st.cum : Int) + 1) = ((up st.cum 1 : Nat) : Int) := hw
  clear hw
  go_enter Try.func21, Try.ntmps21
  go_wp2_with fail
  go_ret
  exact ⟨rfl, rfl⟩
theorem next_nil (t : Nat) (W : World) : Calls Try.prog 21 #[.pointer none, .int .u32 (t : Int)] W fun e w' => e = .returned (.bool false) ∧ W = w' := by
  go_enter Try.func21, Try.ntmps21
  go_wp2_with fail
  go_ret
  exact ⟨rfl, rfl⟩
theorem info32 : (Try.prog.info? 22).map (fun i => (i.zero, i.size, i.bytes)) = some (some (.int .u32 0), 1, 4) := by kernel_rfl
/-- What has changed of a set: it lies in the old blocks, and in new ones. -/
theorem new_fp {W w' : World} {F : Nat → Prop} (hF : ∀ k, F k → k < W.heap.size) (hsz : W.heap.size ≤ w'.heap.size) {g : Nat} (hg : g < w'.heap.size) (k : Nat) (h : F k ∨ (k = g ∧ W.heap.size ≤ k)) : k < w'.heap.size := by
  rcases h with h | ⟨rfl, h⟩
  · exact Nat.lt_of_lt_of_le (hF k h) hsz
  · exact hg
set_option maxHeartbeats 1000000 in
theorem twice_any (W : World) (F : Nat → Prop) (s t : Nat) (st : St) (h : PSet W F s st) (ht : t < 4294967296) :
    Calls Try.prog 23 #[.pointer (some ⟨s, 0, none⟩), .int .u32 (t : Int)] W fun e w' =>
      ∃ F', e = .returned (.tuple #[]) ∧ PSet w' F' s { st with ds := if st.ds.length < 16 then st.ds ++ [t] else st.ds } ∧ Mv W F w' F' := by
  obtain ⟨⟨m, v, D, hb, hm, hM, hv, f1, f2, f3, f4⟩, ok⟩ := h
  have c2 := (hb.cell 2).trans rfl
  have z2 := hb.frozen 2
  obtain ⟨A, c, hve, hlc, hcm, hA⟩ := hv.form
  subst hve
  by_cases hl : st.ds.length < 16
  · rw [if_pos hl]
    have HB := Lib.hid hb
    have HM := Lib.hid hm
    have HV := Lib.hid hv
    have HMO := Lib.hid hM
    have HOK := Lib.hid ok
    have HA := Lib.hid hA
    clear hb hm hv hM ok hA hcm
    have HSV : Hid ((Value.slice A st.ds.length c).ownBlock ≠ some s) := Lib.hid (HV.out.off HB.out (by decide))
    have HMV : Hid ((Value.slice A st.ds.length c).ownBlock ≠ some m) := Lib.hid (by obtain ⟨es, clock, hh⟩ := owns_block HM.out; exact HV.out.offm hh)
    have HSM : Hid (s ≠ m) := Lib.hid (by obtain ⟨es, clock, hh⟩ := owns_block HM.out; intro e; subst e; rw [show W.heap[s]? = _ from HB.out] at hh; cases hh)
    obtain ⟨n, hn⟩ : ∃ n, n = st.ds.length := ⟨_, rfl⟩
    rw [← hn] at hl hlc c2 HSV HMV
    have HN := Lib.hid hn
    have hlz : decide ((n : Int) < 16) = true := decide_eq_true (by omega)
    clear hn
    go_enter Try.func23, Try.ntmps23
    go_wp2_with (at_builtin; refine ir_app (k := .u32) (E := 22) (S := 29) Try.underlying29 info32 (by omega) rfl _ _ rfl (.slice A n c) st.ds rfl (by rw [HN.out]; exact HV.out.kept (World.grownBy_alloc W _ none) (by cases hv : (Value.slice A st.ds.length c).ownBlock <;> simp)) t W.heap.size 1 22 rfl (Bk.new W _ _) (by have := HN.out; omega) ?_; intro g c' w2 hown hgr hat; have hb2 := (HB.out.kept (World.grownBy_alloc W _ none) (by simp)).kept hgr (fun e => HSV.out e.symm); have c22 := (hb2.cell 2).trans rfl; have z22 := hb2.frozen 2)
    go_end0
    have hgr1 : W.grownBy w2 (Value.slice A n c).ownBlock := (World.grownBy_alloc W _ _).trans hgr
    have hgt : g < w2.heap.size := Ir.lt hown rfl
    have hs2 := setc_grown w2 s 2 (.slice (some ⟨g, 0, none⟩) (st.ds.length + 1) c')
    have hgs : s ≠ g := fun e => by
      have := Ir.off hown hb2 (by decide)
      exact this (by rw [e]; rfl)
    have hsz : W.heap.size ≤ w2.heap.size := hgr1.size
    refine ⟨fun k => F k ∨ (k = g ∧ W.heap.size ≤ k), rfl, ⟨⟨m, .slice (some ⟨g, 0, none⟩) (st.ds.length + 1) c', D, hb2.set 2 _, ?_, HMO.out, ?_, .inl f1, .inl f2, ?_, ?_⟩, ?_⟩, ?_, ?_⟩
    · exact (HM.out.kept hgr1 (fun e => HMV.out e.symm)).kept hs2 (by simpa using HSM.out.symm)
    · have := Ir.kept hown hs2 (.inr (by simpa [Value.ownBlock] using hgs.symm))
      exact this
    · intro g2 hg2
      obtain rfl : g = g2 := by simpa [Value.ownBlock] using hg2
      rcases hat with hat | hat
      · exact .inl (f3 g (by rw [HN.out] at hat; exact hat))
      · refine .inr ⟨rfl, ?_⟩
        rw [hat]
        simp
    · exact fun k hk => Nat.lt_of_lt_of_le (new_fp f4 hsz hgt k hk) hs2.size
    · refine ⟨HOK.out.1, HOK.out.2.1, ?_, ?_⟩
      · simp
        have := HN.out
        omega
      · intro x hx
        rcases List.mem_append.1 hx with hx | hx
        · exact HOK.out.2.2.2 x hx
        · simp at hx; omega
    · refine (Kp.grown hgr1 (fun g2 hg2 => f3 g2 (by rw [HN.out] at hg2; exact hg2))).trans (F' := F) (Kp.grown hs2 (fun g2 hg2 => by injection hg2 with e; rw [← e]; exact f1)) (fun b hb => .inl hb)
    · rintro k (hk | ⟨_, hk⟩)
      · exact .inl hk
      · exact .inr hk
  · rw [if_neg hl]
    have hlz : decide ((st.ds.length : Int) < 16) = false := decide_eq_false (by omega)
    have HH : Hid (PSet W F s st) := Lib.hid ⟨⟨m, _, D, hb, hm, hM, hv, f1, f2, f3, f4⟩, ok⟩
    clear hb hm hM hv f1 f2 f3 f4 ok hA
    go_enter Try.func23, Try.ntmps23
    go_wp2_with fail
    go_end0
    exact ⟨F, rfl, HH.out, Kp.refl _ _, fun k hk => .inl hk⟩
theorem mapok_go {D : DataW Unit} {c : Nat} {l : List Nat} (h : MapOk D c (1 :: l)) (hc : c < 4294967296) (hr : Ris 1 65535 (1 :: l)) (hT : Tidy D) : MapOk (D.del (.int .u32 ((up c 1 : Nat) : Int))) (up c 1) (l.map (· - 1)) := by
  have h1 := List.pairwise_cons.1 hr.1
  refine ⟨fun t ht => ?_, ?_⟩
  · by_cases e : t = up c 1
    · subst e
      rw [has_del_same]
      symm
      simp only [decide_eq_false_iff_not]
      intro hm
      obtain ⟨x, hx, hxe⟩ := List.mem_map.1 hm
      have := h1.1 x hx
      have hz : wy (up c 1) (up c 1) = 0 := by unfold wy; have := up_lt c 1; omega
      omega
    · have hne : (Lit.int .u32 (t : Int)) ≠ Lit.int .u32 ((up c 1 : Nat) : Int) := by
        intro e2
        injection e2 with _ e3
        exact e (by exact_mod_cast e3)
      rw [has_del_other hne, h.1 t ht]
      rw [decide_eq_decide]
      by_cases hz : wy c t = 0
      · have hb := wy_back hc ht hz
        rw [hz, hb]
        constructor
        · intro hm
          rcases List.mem_cons.1 hm with hm | hm
          · omega
          · have := h1.1 0 hm; omega
        · intro hm
          obtain ⟨x, hx, hxe⟩ := List.mem_map.1 hm
          have := hr.2 x (by simp [hx])
          omega
      · have hs := wy_step hc ht (by omega)
        have hne1 : wy c t ≠ 1 := fun e1 => e (by rw [← up_wy hc ht, e1])
        rw [hs]
        constructor
        · intro hm
          rcases List.mem_cons.1 hm with hm | hm
          · exact absurd hm hne1
          · exact List.mem_map.2 ⟨_, hm, rfl⟩
        · intro hm
          obtain ⟨x, hx, hxe⟩ := List.mem_map.1 hm
          have := h1.1 x hx
          obtain rfl : x = wy c t := by omega
          exact List.mem_cons_of_mem _ hx
  · have h2 := size_del (k := .int .u32 ((up c 1 : Nat) : Int)) hT
    have h3 : Maps.has D (.int .u32 ((up c 1 : Nat) : Int)) = true := by
      rw [h.1 _ (up_lt c 1), wy_up hc (by omega)]
      simp
    rw [h3, h.2] at h2
    simp at h2 ⊢
    omega
theorem has_one {c : Nat} {l : List Nat} (hc : c < 4294967296) (hr : Ris 1 65535 l) : (decide (wy c (up c 1) ∈ l) = true ↔ l.head? = some 1) := by
  rw [wy_up hc (by omega), decide_eq_true_eq]
  cases l with
  | nil => simp
  | cons x l =>
    have h1 := List.pairwise_cons.1 hr.1
    have hx := hr.2 x (by simp)
    constructor
    · intro hm
      rcases List.mem_cons.1 hm with hm | hm
      · simp [← hm]
      · have := h1.1 1 hm; omega
    · intro he
      have : x = 1 := by simpa using he
      simp [this]
set_option maxHeartbeats 1000000 in
theorem goon_any (W : World) (F : Nat → Prop) (s : Nat) (st : St) (h : PS0 W F s st) (hc : st.cum < 4294967296) (hr : Ris 1 65535 st.ws) :
    Calls Try.prog 24 #[.pointer (some ⟨s, 0, none⟩)] W fun e w' =>
      e = .returned (.tuple #[]) ∧ PS0 w' F s { cum := (norm st.cum st.ws).1, ws := (norm st.cum st.ws).2, ds := st.ds } ∧ Kp W w' F := by
  have H := Lib.hid h
  have HC := Lib.hid hc
  have HR := Lib.hid hr
  clear h hc hr
  go_enter Try.func24, Try.ntmps24
  go_wp2
  go_loopg [8] st.ws.length (fun k _ wr => ∃ c l, Hid (l.length = k) ∧ Hid (c < 4294967296) ∧ Hid (Ris 1 65535 l) ∧ Hid (norm st.cum st.ws = norm c l) ∧ Hid (PS0 wr F s { cum := c, ws := l, ds := st.ds }) ∧ Hid (Kp W wr F))
  case atStart => exact ⟨st.cum, st.ws, rfl, HC, HR, rfl, H, Lib.hid (Kp.refl _ _)⟩
  case round =>
    obtain ⟨c, l, hk, hc, hr, hN, HP, HK⟩ := hrel
    clear H HC HR
    have hw2 : IntKind.u32.wrap ((c : Int) + 1) = ((up c 1 : Nat) : Int) := wrap_add (a := c) (b := 1)
    have HW := Lib.hid (waits_any wr F s (up c 1) _ HP.out (up_lt c 1))
    obtain ⟨m, v, D, ⟨c0, c1, _⟩, ⟨z0, _, _⟩, _⟩ := HP.out.cells
    by_cases hh : l.head? = some 1
    · have HT : Hid (decide (wy c (up c 1) ∈ l) = true) := Lib.hid ((has_one hc.out hr.out).2 hh)
      have HH := Lib.hid hh
      clear hh
      go_wp2_with fail
      refine HW.out.mono ?_
      rintro e w1 ⟨rfl, hb1⟩
      rw [HT.out]
      have HP1 := Lib.hid (HP.out.below hb1)
      have HK1 : Hid (Kp W w1 F) := Lib.hid (HK.out.trans (F' := fun _ => False) (Kp.below hb1) (fun _ e => e.elim))
      clear hb1 HW HT HP HK c0 c1 z0
      obtain ⟨m, v, D, hb, hm, hM, hv, f1, f2, f3, f4⟩ := HP1.out
      have hsm : s ≠ m := by
        obtain ⟨es, clock, hh⟩ := owns_block hm
        intro e
        subst e
        rw [show w1.heap[s]? = _ from hb] at hh
        cases hh
      have c0 := (hb.cell 0).trans rfl
      have z0 := hb.frozen 0
      have hg2 := setc_grown w1 s 0 (.int .u32 ((up c 1 : Nat) : Int))
      have hb2 := hb.set 0 (.int .u32 ((up c 1 : Nat) : Int))
      have hown := hm.kept hg2 (by simpa using hsm.symm)
      have hv2 := hv.kept hg2 (.inr (hv.off hb (by decide)))
      have HB := Lib.hid hb
      have HM := Lib.hid hM
      have HSM := Lib.hid hsm
      have HV2 := Lib.hid hv2
      have HB2 := Lib.hid hb2
      have HG2 := Lib.hid hg2
      have HO2 := Lib.hid hown
      clear hb hm hM hv hv2 hb2 hg2 hown hsm
      go_wp2_with fail
      clear c0 z0
      generalize w1.setCell ⟨s, 0, none⟩ (.int .u32 ((up c 1 : Nat) : Int)) = w2 at HB2 HG2 HO2 HV2 ⊢
      have c20 := (HB2.out.cell 0).trans rfl
      have c21 := (HB2.out.cell 1).trans rfl
      obtain ⟨w3, hd3, ho3, ht3⟩ := HO2.out.drew.drop law32 Try.underlying52 (key32 (up_lt c 1)) 0
      have HO3 := Lib.hid ho3
      have HT3 := Lib.hid ht3
      clear ho3 ht3
      go_region
      go_wp2_with fail
      obtain ⟨r, rfl⟩ : ∃ r, l = 1 :: r := by
        cases l with
        | nil => cases HH.out
        | cons x r => exact ⟨r, by have := HH.out; simp at this; rw [this]⟩
      have hgr3 : w2.grownBy w3 (some m) := ⟨HT3.out.grown.os, HT3.out.grown.tape, HT3.out.grown.output, HT3.out.grown.size, HT3.out.grown.block⟩
      have hmo := mapok_go HM.out hc.out hr.out (HO2.out.tidy law32)
      have hmap : w3.ownsMap Try.prog 22 (unitElem (H := Unit)) m (r.map (· - 1)).length (D.del (.int .u32 ((up c 1 : Nat) : Int))) := by
        rw [← hmo.2]
        exact owns_tight HO3.out
      go_roundg r.length
      case measure => have := hk.out; simp at this; omega
      case rel =>
        refine ⟨up c 1, r.map (· - 1), Lib.hid (by simp), Lib.hid (up_lt c 1), Lib.hid (ris_less hr.out), Lib.hid (by rw [hN.out, norm_go]), Lib.hid ⟨m, v, _, HB2.out.kept hgr3 (by simpa using HSM.out), hmap, hmo, HV2.out.kept hgr3 ?_, f1, f2, f3, fun k hk => Nat.lt_of_lt_of_le (f4 k hk) (Nat.le_trans HG2.out.size hgr3.size)⟩, Lib.hid ?_⟩
        · right
          obtain ⟨es, clock, hh⟩ := owns_block HO2.out
          exact HV2.out.offm hh
        · exact (HK1.out.trans (F' := F) (Kp.grown HG2.out (fun g hg => by injection hg with e; rw [← e]; exact f1)) (fun b hb => .inl hb)).trans (F' := F) (Kp.grown hgr3 (fun g hg => by injection hg with e; rw [← e]; exact f2)) (fun b hb => .inl hb)
    · have HT : Hid (decide (wy c (up c 1) ∈ l) = false) := Lib.hid (by
        cases hd : decide (wy c (up c 1) ∈ l)
        · rfl
        · exact absurd ((has_one hc.out hr.out).1 hd) hh)
      have HN2 : Hid (norm st.cum st.ws = (c, l)) := Lib.hid (by rw [hN.out, norm_stop hh])
      clear hh
      go_wp2_with fail
      refine HW.out.mono ?_
      rintro e w1 ⟨rfl, hb1⟩
      rw [HT.out]
      have HP1 := Lib.hid (HP.out.below hb1)
      have HK1 : Hid (Kp W w1 F) := Lib.hid (HK.out.trans (F' := fun _ => False) (Kp.below hb1) (fun _ e => e.elim))
      clear hb1 HW HT HP HK c0 c1 z0
      go_wp2_with fail
      go_end0
      exact ⟨rfl, by rw [HN2.out]; exact HP1.out, HK1.out⟩
theorem mapok_put {D : DataW Unit} {c t : Nat} {l : List Nat} (h : MapOk D c l) (hc : c < 4294967296) (ht : t < 4294967296) (hn : wy c t ∉ l) (hT : Tidy D) : MapOk (D.put (.int .u32 (t : Int)) (.agg [])) c (ins (wy c t) l) := by
  have hk : WideAt.IsKeyLit (.int .u32 (t : Int)) := by simp [WideAt.IsKeyLit]
  refine ⟨fun x hx => ?_, ?_⟩
  · by_cases e : x = t
    · subst e
      rw [has_put_same hT.isMap hk]
      symm
      rw [decide_eq_true_eq, mem_ins]
      exact .inl rfl
    · have hne : (Lit.int .u32 (x : Int)) ≠ Lit.int .u32 (t : Int) := by
        intro e2
        injection e2 with _ e3
        exact e (by exact_mod_cast e3)
      rw [has_put_other hne, h.1 x hx, decide_eq_decide, mem_ins]
      constructor
      · exact .inr
      · rintro (hm | hm)
        · exact absurd (by rw [← up_wy hc hx, hm, up_wy hc ht]) e
        · exact hm
  · rw [size_put hT, h.1 t ht, decide_eq_false hn, len_ins, h.2]
    simp
set_option maxHeartbeats 1000000 in
theorem add_any (W : World) (F : Nat → Prop) (s t : Nat) (st : St) (h : PSet W F s st) (ht : t < 4294967296) :
    Calls Try.prog 8 #[.pointer (some ⟨s, 0, none⟩), .int .u32 (t : Int)] W fun e w' =>
      ∃ F', e = .returned (.int .u8 ((st.add t).2 : Nat)) ∧ PSet w' F' s (st.add t).1 ∧ Mv W F w' F' := by
  have HF := Lib.hid (far_any W F s t st h ht)
  have HH := Lib.hid (has_any W F s t st h ht)
  have H := Lib.hid h
  have ok := h.2
  clear h
  by_cases hh : st.has t = true
  · have hff : far st.cum t = false := by
      cases e : far st.cum t
      · rfl
      · rw [has_far ok e] at hh; cases hh
    have HR : Hid (st.add t = ({ st with ds := if st.ds.length < 16 then st.ds ++ [t] else st.ds }, 1)) := Lib.hid (by unfold St.add; rw [if_pos hh])
    rw [hh] at HH
    rw [hff] at HF
    clear hh hff ok
    go_enter Try.func8, Try.ntmps8
    go_wp2_with (go_at_call 22; refine HF.out.mono ?_; rintro e w' ⟨rfl, rfl⟩)
    refine HH.out.mono ?_
    rintro e w1 ⟨rfl, hb1⟩
    have H1 := Lib.hid (H.out.below hb1)
    have HB1 := Lib.hid hb1
    clear hb1 HH HF
    go_wp2_with fail
    refine (twice_any w1 F s t st H1.out ht).mono ?_
    rintro e w2 ⟨F', rfl, hp2, hm2⟩
    have HP2 := Lib.hid hp2
    have HM2 := Lib.hid hm2
    clear hp2 hm2
    go_wp2_with fail
    go_ret
    refine ⟨F', by rw [HR.out]; rfl, by rw [HR.out]; exact HP2.out, ?_, ?_⟩
    · exact (Kp.below (F := F) HB1.out).trans (F' := F) HM2.out.1 (fun b hb => .inl hb)
    · intro k hk
      rcases HM2.out.2 k hk with h | h
      · exact .inl h
      · exact .inr (Nat.le_trans HB1.out.size h)
  · have hh' : st.has t = false := by simpa using hh
    have hff := far_of hh'
    by_cases hw : 65535 < wy st.cum t
    · have HR : Hid (st.add t = (st, 2)) := Lib.hid (by unfold St.add; rw [if_neg hh, if_pos hw])
      rw [hff, decide_eq_true hw] at HF
      clear hh hff ok hw hh' HH
      go_enter Try.func8, Try.ntmps8
      go_wp2_with (go_at_call 22; refine HF.out.mono ?_; rintro e w' ⟨rfl, rfl⟩)
      go_ret
      exact ⟨F, by rw [HR.out]; rfl, by rw [HR.out]; exact H.out, Kp.refl _ _, fun k hk => .inl hk⟩
    · have HR : Hid (st.add t = ({ cum := (norm st.cum (ins (wy st.cum t) st.ws)).1, ws := (norm st.cum (ins (wy st.cum t) st.ws)).2, ds := st.ds }, 0)) := Lib.hid (by unfold St.add; rw [if_neg hh, if_neg hw])
      have HOK : Hid ((st.add t).1.Ok) := Lib.hid (add_ok ok ht)
      have HRIS := Lib.hid (ins_ok ok hh' (by omega))
      have hnm : wy st.cum t ∉ st.ws := by
        unfold St.has at hh'
        simp only [Bool.or_eq_false_iff, decide_eq_false_iff_not] at hh'
        exact hh'.2
      have HNM := Lib.hid hnm
      have HC := Lib.hid ok.1
      have HLEN : Hid (st.ws.length ≤ 65534) := Lib.hid (ris_len ok.2.1)
      have hkey := Lib.hid (key32 ht)
      rw [hh'] at HH
      rw [hff, decide_eq_false hw] at HF
      clear hh hff ok hw hh' hnm
      go_enter Try.func8, Try.ntmps8
      go_wp2_with (go_at_call 22; refine HF.out.mono ?_; rintro e w' ⟨rfl, rfl⟩)
      refine HH.out.mono ?_
      rintro e w1 ⟨rfl, hb1⟩
      have H1 := Lib.hid (H.out.below hb1)
      have HB1 := Lib.hid hb1
      clear hb1 HH HF
      obtain ⟨⟨m, v, D, hb, hm, hM, hv, f1, f2, f3, f4⟩, ok1⟩ := H1.out
      have c1 := (hb.cell 1).trans rfl
      have HB := Lib.hid hb
      have HM := Lib.hid hM
      have HO := Lib.hid hm
      have HV := Lib.hid hv
      clear hb hM hm hv ok1
      go_wp2_with (at_mapUpdate; refine wpList_mapUpdate_in _ rfl _ _ _ 52 rfl 22 56 law32 Try.underlying52 (unitElem (H := Unit)) m _ D rfl HO.out (by have := HLEN.out; unfold maxLen; omega) _ _ _ rfl rfl hkey.out _ [] unitElem_mk ?_; intro w2 hown2 hturn2)
      have hg2 := hturn2.grown
      have hmo := mapok_put HM.out HC.out ht HNM.out (HO.out.tidy law32)
      have hsm : some s ≠ some m := by
        obtain ⟨es, clock, hh⟩ := owns_block HO.out
        intro e
        injection e with e
        subst e
        rw [show w1.heap[s]? = _ from HB.out] at hh
        cases hh
      have hvm : v.ownBlock ≠ some m := by
        obtain ⟨es, clock, hh⟩ := owns_block HO.out
        exact HV.out.offm hh
      have HP2 : Hid (PS0 w2 F s { cum := st.cum, ws := ins (wy st.cum t) st.ws, ds := st.ds }) := Lib.hid ⟨m, v, _, HB.out.kept hg2 hsm, by rw [← hmo.2]; exact owns_tight hown2, hmo, HV.out.kept hg2 (.inr hvm), f1, f2, f3, fun k hk => Nat.lt_of_lt_of_le (f4 k hk) hg2.size⟩
      have HK2 : Hid (Kp W w2 F) := Lib.hid ((Kp.below (F := F) HB1.out).trans (F' := F) (Kp.grown hg2 (fun g hg => by injection hg with e; rw [← e]; exact f2)) (fun b hb => .inl hb))
      clear hown2 hturn2 hg2 hmo hsm hvm
      refine (goon_any w2 F s _ HP2.out HC.out HRIS.out).mono ?_
      rintro e w3 ⟨rfl, hp3, hk3⟩
      have HP3 := Lib.hid hp3
      have HK3 := Lib.hid (HK2.out.trans (F' := F) hk3 (fun b hb => .inl hb))
      clear hp3 hk3
      go_wp2_with fail
      go_ret
      have hok := HOK.out
      rw [HR.out] at hok
      exact ⟨F, by rw [HR.out]; rfl, by rw [HR.out]; exact ⟨HP3.out, hok⟩, HK3.out, fun k hk => .inl hk⟩
theorem add_nil (t : Nat) (W : World) : Calls Try.prog 8 #[.pointer none, .int .u32 (t : Int)] W fun e w' => e = .returned (.int .u8 2) ∧ W = w' := by
  go_enter Try.func8, Try.ntmps8
  go_wp2_with fail
  go_ret
  exact ⟨rfl, rfl⟩
end Go.Proofs.Ytkjepopmlpfnpaa
