/-
  A TSN comes to the document's set: Add.
-/
import Derived.Test.YtkjepopmlpfnpaaGpRAdd
namespace Go.Proofs.Ytkjepopmlpfnpaa
open Go.RowKit Go.Maps
set_option linter.unusedVariables false

set_option maxHeartbeats 1000000 in
theorem radd_there (W : World) (F : Nat → Prop) (s t : Nat) (st : St) (h : DSet W F s st) (ht : t < 4294967296) (hh : st.has t = true) :
    Calls Try.prog 9 #[.pointer (some ⟨s, 0, none⟩), .int .u32 (t : Int)] W fun e w' =>
      ∃ F', e = .returned (.int .u8 ((st.add t).2 : Nat)) ∧ DSet w' F' s (st.add t).1 ∧ Mv W F w' F' := by
  have HH := Lib.hid (rhas_any W F s t st h ht)
  have HR : Hid (st.add t = ({ st with ds := if st.ds.length < 16 then st.ds ++ [t] else st.ds }, 1)) := Lib.hid (by unfold St.add; rw [if_pos hh])
  rw [hh] at HH
  obtain ⟨vw, v, hb, hw, hv, f1, f2, f3, f4, ok⟩ := id h
  have c2 := (hb.cell 2).trans rfl
  have z2 := hb.frozen 2
  obtain ⟨A, c, hve, hlc, hcm, hA⟩ := hv.form
  subst hve
  have H := Lib.hid h
  clear h hh
  by_cases hl : st.ds.length < 16
  · rw [if_pos hl] at HR
    have HB := Lib.hid hb
    have HM := Lib.hid hw
    have HV := Lib.hid hv
    have HOK := Lib.hid ok
    have HA := Lib.hid hA
    clear hb hw hv ok hA hcm
    have HSV : Hid ((Value.slice A st.ds.length c).ownBlock ≠ some s) := Lib.hid (HV.out.off HB.out (by decide))
    have HSM : Hid (vw.ownBlock ≠ some s) := Lib.hid (HM.out.off HB.out (by decide))
    have HMV : Hid (vw.ownBlock = none ∨ vw.ownBlock ≠ (Value.slice A st.ds.length c).ownBlock) := Lib.hid (by
      rcases HM.out.2 with ⟨rfl, _⟩ | ⟨g, cap, cur, rfl, _, hg, _⟩
      · exact .inl rfl
      · right
        intro e
        have := HV.out.off (b := g) hg (by decide)
        exact this e.symm)
    obtain ⟨n, hn⟩ : ∃ n, n = st.ds.length := ⟨_, rfl⟩
    rw [← hn] at hl hlc c2 HSV HMV
    have HN := Lib.hid hn
    have hlz : decide ((n : Int) < 16) = true := decide_eq_true (by omega)
    clear hn
    go_enter Try.func9, Try.ntmps9
    go_wp2_with fail
    refine HH.out.mono ?_
    rintro e w' ⟨rfl, rfl⟩
    go_wp2_with (at_builtin; refine ir_app (k := .u32) (E := 22) (S := 29) Try.underlying29 info32 (by omega) rfl _ _ rfl (.slice A n c) st.ds rfl (by rw [HN.out]; exact HV.out.kept (World.grownBy_alloc W _ none) (by cases hv : (Value.slice A st.ds.length c).ownBlock <;> simp)) t W.heap.size 1 22 rfl (Bk.new W _ _) (by have := HN.out; omega) ?_; intro g c' w2 hown hgr hat; have hb2 := (HB.out.kept (World.grownBy_alloc W _ none) (by simp)).kept hgr (fun e => HSV.out e.symm); have c22 := (hb2.cell 2).trans rfl; have z22 := hb2.frozen 2)
    go_ret
    have hgr1 : W.grownBy w2 (Value.slice A n c).ownBlock := (World.grownBy_alloc W _ _).trans hgr
    have hgt : g < w2.heap.size := Ir.lt hown rfl
    have hs2 := setc_grown w2 s 2 (.slice (some ⟨g, 0, none⟩) (st.ds.length + 1) c')
    have hgs : s ≠ g := fun e => by
      have := Ir.off hown hb2 (by decide)
      exact this (by rw [e]; rfl)
    have hsz : W.heap.size ≤ w2.heap.size := hgr1.size
    have HO2 := Lib.hid hown
    refine ⟨fun k => F k ∨ (k = g ∧ W.heap.size ≤ k), by rw [HR.out]; rfl, ?_, ?_, ?_⟩
    · rw [HR.out]
      refine ⟨vw, .slice (some ⟨g, 0, none⟩) (st.ds.length + 1) c', hb2.set 2 _, ?_, ?_, .inl f1, fun k hk => .inl (f2 k hk), ?_, ?_, ?_⟩
      · exact Ir.kept (HM.out.kept hgr1 HMV.out) hs2 (.inr HSM.out)
      · exact Ir.kept HO2.out hs2 (.inr (by simpa [Value.ownBlock] using hgs.symm))
      · intro g2 hg2
        obtain rfl : g = g2 := by simpa [Value.ownBlock] using hg2
        rcases hat with hat | hat
        · exact .inl (f3 g (by rw [HN.out] at hat; exact hat))
        · refine .inr ⟨rfl, ?_⟩
          rw [hat]
          simp
      · exact fun k hk => Nat.lt_of_lt_of_le (new_fp f4 hsz hgt k hk) hs2.size
      · refine ⟨HOK.out.1, HOK.out.2.1, ?_, ?_⟩
        · simp
          have := HN.out
          omega
        · intro x hx
          rcases List.mem_append.1 hx with hx | hx
          · exact HOK.out.2.2.2 x hx
          · simp at hx; omega
    · refine (Kp.grown hgr1 (fun g2 hg2 => f3 g2 (by rw [HN.out] at hg2; exact hg2))).trans (F' := F) (Kp.grown hs2 (fun g2 hg2 => by injection hg2 with e; rw [← e]; exact f1)) (fun b hb => .inl hb)
    · rintro k (hk | ⟨_, hk⟩)
      · exact .inl hk
      · exact .inr hk
  · rw [if_neg hl] at HR
    have hlz : decide ((st.ds.length : Int) < 16) = false := decide_eq_false (by omega)
    clear hb hw hv f1 f2 f3 f4 ok hA hl
    go_enter Try.func9, Try.ntmps9
    go_wp2_with fail
    refine HH.out.mono ?_
    rintro e w' ⟨rfl, rfl⟩
    go_wp2_with fail
    go_ret
    exact ⟨F, by rw [HR.out]; rfl, by rw [HR.out]; exact H.out, Kp.refl _ _, fun k hk => .inl hk⟩
theorem radd_far (W : World) (F : Nat → Prop) (s t : Nat) (st : St) (h : DSet W F s st) (ht : t < 4294967296) (hh : st.has t = false) (hw : 65535 < wy st.cum t) :
    Calls Try.prog 9 #[.pointer (some ⟨s, 0, none⟩), .int .u32 (t : Int)] W fun e w' =>
      ∃ F', e = .returned (.int .u8 ((st.add t).2 : Nat)) ∧ DSet w' F' s (st.add t).1 ∧ Mv W F w' F' := by
  have HH := Lib.hid (rhas_any W F s t st h ht)
  have HWY := Lib.hid (rw_any W F s t st h ht)
  have HR : Hid (st.add t = (st, 2)) := Lib.hid (by unfold St.add; rw [if_neg (by rw [hh]; simp), if_pos hw])
  rw [hh] at HH
  have H := Lib.hid h
  generalize wy st.cum t = y at hw HWY
  have hwz : (65535 : Int) < (y : Int) := by omega
  clear h hh hw
  go_enter Try.func9, Try.ntmps9
  go_wp2_with fail
  refine HH.out.mono ?_
  rintro e w' ⟨rfl, rfl⟩
  go_wp2_with fail
  refine HWY.out.mono ?_
  rintro e w' ⟨rfl, rfl⟩
  go_wp2_with fail
  go_ret
  exact ⟨F, by rw [HR.out]; rfl, by rw [HR.out]; exact H.out, Kp.refl _ _, fun k hk => .inl hk⟩
end Go.Proofs.Ytkjepopmlpfnpaa
