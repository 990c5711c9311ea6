/-
  The program's sets are made, copied, and what came twice is taken: New, Copy, Dups.
-/
import Derived.Test.YtkjepopmlpfnpaaGpAdd
import Derived.Shelf.SlMaps.Clone
import Derived.Deep.RegionHeld3
import Derived.Lib.SliceRun
import Derived.Laws.AppendOwnNone
namespace Go.Proofs.Ytkjepopmlpfnpaa
open Go.RowKit Go.Maps
set_option linter.unusedVariables false

theorem new_ok (c : Nat) (h : c < 4294967296) : (⟨c, [], []⟩ : St).Ok := ⟨h, ⟨by simp, by simp⟩, by simp, by simp⟩
theorem new_any (c : Nat) (W : World) (hc : c < 4294967296) :
    Calls Try.prog 7 #[.int .u32 (c : Int)] W fun e w' => ∃ s F, e = .returned (.pointer (some ⟨s, 0, none⟩)) ∧ PSet w' F s ⟨c, [], []⟩ ∧ (∀ k, F k → W.heap.size ≤ k) ∧ Below W.heap.size W w' := by
  have hmk := @run_makeMap Try.prog
  go_enter Try.func7, Try.ntmps7
  go_wp2
  go_ret
  refine ⟨W.heap.size + 1, fun k => k = W.heap.size ∨ k = W.heap.size + 1, rfl, ⟨⟨W.heap.size, .slice none 0 0, .map [], ?_, ?_, ?_, Ir.nil _ _ _, .inr rfl, .inl rfl, (fun g hg => by cases hg), fun k hk => ?_⟩, new_ok c hc⟩, fun k hk => by omega, ((Below.refl _ _).alloc (Nat.le_refl _) _).alloc (by simp) _⟩
  · have := Bk.new (W.alloc (.map #[] 0)) #[.int .u32 (c : Int), .map (some W.heap.size), .slice none 0 0] 54
    simpa using this
  · exact (World.ownsMap_made W Try.prog 22 (unitElem (H := Unit))).alloc _
  · exact ⟨fun t ht => by simp [Maps.has], rfl⟩
  · simp; omega
/-- maps.Clone. -/
theorem mclone_any (m n : Nat) (D : DataW Unit) (w : World) (hown : w.ownsMap Try.prog 22 (unitElem (H := Unit)) m n D) :
    Calls Try.prog 26 #[.map (some m)] w fun e w' => ∃ b, e = .returned (.map (some b)) ∧ w'.ownsMap Try.prog 22 (unitElem (H := Unit)) b n D ∧ w.heap.size ≤ b ∧ Below w.heap.size w w' := by
  obtain ⟨es, clock, hb, F, hs, hD⟩ := hown
  have HF := Lib.hid F
  have HS := Lib.hid hs
  have HD := Lib.hid hD
  clear F hs hD
  have hq := fun w => run_eql_map_nil_sl (P := Try.prog) w 52 _ _ (some m) Try.underlying52
  go_enter Try.func26, Try.ntmps26
  go_wp2
  rw [run_callFunc_extern Try.func34 (by kernel_rfl) (by kernel_rfl) (by kernel_rfl) (e := Extern.MapsClone.clone) (by kernel_rfl), run_maps_clone_sl w 52 hb]
  simp only [Result.andThen]
  rw [Oper.upon_value]
  go_wp2
  rw [run_typeAssert_map_sl _ 52 20 _ _ _ Try.underlying52]
  simp only [Result.andThen]
  rw [Oper.upon_value]
  go_wp2
  go_ret
  exact ⟨w.heap.size, rfl, ⟨es, clock, (MapKept.heap_alloc w _).1, HF.out, HS.out, HD.out⟩, Nat.le_refl _, (Below.refl _ w).alloc (Nat.le_refl _) _⟩
/-- slices.Clone. -/
theorem sclone_any (v : Value) (l : List Nat) (w : World) (h : Ir .u32 22 w v l) (hn : l.length ≤ 100000) :
    Calls Try.prog 27 #[v] w fun e w' => ∃ A' c', e = .returned (.slice A' l.length c') ∧ Ir .u32 22 w' (.slice A' l.length c') l ∧ (∀ g, (Value.slice A' l.length c').ownBlock = some g → w.heap.size ≤ g) ∧ Below w.heap.size w w' := by
  obtain ⟨A, c, rfl, hlc, hcm, hA⟩ := h.form
  rcases A with _ | a
  · have h0 : l = [] := by
      rcases l with _ | ⟨x, l⟩
      · rfl
      · obtain ⟨a, ha, _⟩ := h.row 0 _ (ns_get (by simp))
        cases ha
    subst h0
    clear h hlc hcm hA hn
    have hnil := fun W : World => Lib.run_eql_slice_nil (P := Try.prog) W 29 22 none 0 c 0 0 Try.underlying29
    go_enter Try.func27, Try.ntmps27
    go_wp2
    go_ret
    exact ⟨none, 0, rfl, Ir.nil _ _ _, (fun g hg => by cases hg), Below.refl _ _⟩
  · obtain ⟨i0, hi0, hz0, hz1, hz2⟩ := info_parts info32
    have HI := Lib.hid hi0
    have HZ0 := Lib.hid hz0
    have HZ1 := Lib.hid hz1
    have HZ2 := Lib.hid hz2
    have HR := Lib.hid h.row
    have HN := Lib.hid hn
    have hnil := fun W : World => Lib.run_eql_slice_nil (P := Try.prog) W 29 22 (some a) l.length c 0 0 Try.underlying29
    clear hi0 hz0 hz1 hz2 h hn hA
    obtain ⟨n, hln⟩ : ∃ n, n = l.length := ⟨_, rfl⟩
    rw [← hln] at hlc hnil ⊢
    have HLN := Lib.hid hln
    clear hln
    go_enter Try.func27, Try.ntmps27
    go_wp2_with (at_builtin; refine wpList_append_own _ rfl _ _ 29 rfl w.heap.size 22 i0 (.int .u32 0) 1 4 Try.underlying29 HI.out HZ0.out HZ1.out HZ2.out rfl (by omega) _ 0 [] rfl (World.ownsRow_made w #[] 0 (Nat.le_refl _) (by decide) rfl) a n c (ns .u32 l) rfl (by rw [ns_len, HLN.out]; omega) (fun j u hu => by obtain ⟨b, hb, hc⟩ := (HR.out.alloc _) j u hu; injection hb with hb; subst hb; exact hc) (ns_one _ l) (by have := HN.out; have := HLN.out; unfold maxLen; omega) (by have := HN.out; have := HLN.out; omega) (by simp) ?_; intro v' w2 hown hgr hv)
    go_ret
    have hlt := fun g hg => (World.ownsRow.lt hown g hg).1
    have hgr2 : (w.alloc (.cells #[] 22)).grownBy w2 (some w.heap.size) := hgr
    have hir : Ir .u32 22 w2 v' l := by
      refine ⟨by rw [ns_len]; omega, ?_⟩
      rcases hown.2 with ⟨h1, h2⟩ | ⟨g, cap, cur, h1, h2, h3, h4, h5, h6, h7⟩
      · exact .inl ⟨h1, by have := HLN.out; omega⟩
      · exact .inr ⟨g, cap, cur, by rw [h1]; simp; have := HLN.out; omega, Nat.zero_le _, h3, by have := HLN.out; omega, h5, h6, by have := HLN.out; simpa [this] using h7⟩
    obtain ⟨A', c', rfl, _, _, _⟩ := hir.form
    obtain rfl : n = l.length := HLN.out
    exact ⟨A', c', rfl, hir, hlt, ((Below.refl _ _).alloc (Nat.le_refl _) _).grown hgr2 (by simp) (fun k hk => by injection hk with e; omega)⟩
theorem copy_nil (W : World) : Calls Try.prog 13 #[.pointer none] W fun e w' => e = .returned (.pointer none) ∧ W = w' := by
  go_enter Try.func13, Try.ntmps13
  go_wp2_with fail
  go_ret
  exact ⟨rfl, rfl⟩
theorem dups_nil (W : World) : Calls Try.prog 11 #[.pointer none] W fun e w' => e = .returned (.slice none 0 0) ∧ W = w' := by
  go_enter Try.func11, Try.ntmps11
  go_wp2_with fail
  go_ret
  exact ⟨rfl, rfl⟩
theorem dups_any (W : World) (F : Nat → Prop) (s : Nat) (st : St) (h : PSet W F s st) :
    Calls Try.prog 11 #[.pointer (some ⟨s, 0, none⟩)] W fun e w' => ∃ A c, e = .returned (.slice A st.ds.length c) ∧ Row w' A (ns .u32 st.ds) ∧ (∀ a, A = some a → F a.block) ∧ PSet w' F s { st with ds := [] } ∧ Kp W w' F := by
  obtain ⟨⟨m, v, D, hb, hm, hM, hv, f1, f2, f3, f4⟩, ok⟩ := h
  obtain ⟨A, c, rfl, hlc, hcm, hA⟩ := hv.form
  have c2 := (hb.cell 2).trans rfl
  have z2 := hb.frozen 2
  have hg := setc_grown W s 2 (.slice none 0 0)
  have hsm : some m ≠ some s := by
    obtain ⟨es, clock, hh⟩ := owns_block hm
    intro e
    injection e with e
    subst e
    rw [show W.heap[m]? = _ from hb] at hh
    cases hh
  have HV := Lib.hid (Ir.kept hv hg (.inr (hv.off hb (by decide))))
  have HB := Lib.hid (hb.set 2 (.slice none 0 0))
  have HM := Lib.hid (hm.kept hg hsm)
  have HMO := Lib.hid hM
  have HOK := Lib.hid ok
  have HA := Lib.hid hA
  have HG := Lib.hid hg
  clear hb hm hM hv ok hA hg hcm hsm
  go_enter Try.func11, Try.ntmps11
  go_wp2_with fail
  go_ret
  refine ⟨A, c, rfl, HV.out.row, fun a ha => f3 _ (HA.out a ha), ⟨⟨m, _, D, HB.out, HM.out, HMO.out, Ir.nil _ _ _, f1, f2, (fun g hg => by cases hg), fun k hk => Nat.lt_of_lt_of_le (f4 k hk) HG.out.size⟩, ⟨HOK.out.1, HOK.out.2.1, by simp, by simp⟩⟩, Kp.grown HG.out (fun g hg => by injection hg with e; rw [← e]; exact f1)⟩
theorem bal {W w2 : World} {o : Obj} (h : Below W.heap.size W w2) : Below W.heap.size W (w2.alloc o) := h.alloc h.size o
set_option maxHeartbeats 1000000 in
theorem copy_any (W : World) (F : Nat → Prop) (s : Nat) (st : St) (h : PSet W F s st) :
    Calls Try.prog 13 #[.pointer (some ⟨s, 0, none⟩)] W fun e w' => ∃ s' F', e = .returned (.pointer (some ⟨s', 0, none⟩)) ∧ PSet w' F' s' st ∧ (∀ k, F' k → W.heap.size ≤ k) ∧ Below W.heap.size W w' := by
  obtain ⟨⟨m, v, D, hb, hm, hM, hv, f1, f2, f3, f4⟩, ok⟩ := h
  have hS : ∀ w2, Below W.heap.size W w2 → (w2.cell? ⟨s, 0, none⟩ = some (.int .u32 (st.cum : Int)) ∧ w2.cell? ⟨s, 1, none⟩ = some (.map (some m)) ∧ w2.cell? ⟨s, 2, none⟩ = some v) := fun w2 hw => by
    have hb2 : Bk w2 s _ _ := (hw.block s hb.lt).trans hb
    exact ⟨(hb2.cell 0).trans rfl, (hb2.cell 1).trans rfl, (hb2.cell 2).trans rfl⟩
  have HS := Lib.hid hS
  have hwd : Below W.heap.size W W.drew := (Below.refl _ _).drew
  have hs := hS _ hwd
  have CM := Lib.hid (fun w2 (hw : Below W.heap.size W w2) => mclone_any m st.ws.length D w2 (by obtain ⟨es, clock, hh, r⟩ := hm; exact ⟨es, clock, (hw.block m (f4 m f2)).trans hh, r⟩))
  have CS := Lib.hid (fun w2 (hw : Below W.heap.size W w2) => sclone_any v st.ds w2 (hv.frame (F := fun _ => False) (Kp.below hw) (fun _ _ e => e)) (by have := ok.2.2.1; omega))
  have HM := Lib.hid hM
  have HOK := Lib.hid ok
  clear hb hm hM hv ok hS
  go_enter Try.func13, Try.ntmps13
  go_wp2_with fail
  first | go_region_held3 (fun W => W.cell? ⟨s, 0, none⟩ = some (.int .u32 (st.cum : Int)) ∧ W.cell? ⟨s, 1, none⟩ = some (.map (some m)) ∧ W.cell? ⟨s, 2, none⟩ = some v) (first | exact hs | exact HS.out _ (by assumption) | exact HS.out _ (bal (by assumption))) ((first | (go_at_call 26; (with_reducible refine (CM.out _ ?_).mono ?_); assumption; rintro e w1 ⟨b, rfl, ho1, hb1, hl1⟩; have hd1 := bnext (w := W) (by assumption) hl1; clear hl1) | (go_at_call 27; (with_reducible refine (CS.out _ ?_).mono ?_); assumption; rintro e w2 ⟨A2, k2, rfl, ho2, hb2, hl2⟩; have hd2 := bnext (w := W) (by assumption) hl2))) | fail
  go_wp2_with fail
  go_ret
  have hb1' : W.heap.size ≤ b := hb1
  refine ⟨w2.heap.size, fun k => W.heap.size ≤ k ∧ k < w2.heap.size + 1, rfl, ⟨⟨b, .slice A2 st.ds.length k2, D, Bk.new w2 _ _, ?_, HM.out, ?_, ⟨hd2.size, by omega⟩, ⟨hb1', ?_⟩, fun g hg => ⟨?_, ?_⟩, fun k hk => by simpa using hk.2⟩, HOK.out⟩, fun k hk => hk.1, bal hd2⟩
  · exact (ho1.kept (row := none) ⟨hl2.os, hl2.tape, hl2.output, hl2.size, fun k hk _ => hl2.block k hk⟩ (by simp)).alloc _
  · exact ho2.kept (World.grownBy_alloc w2 _ none) (by cases hv : (Value.slice A2 st.ds.length k2).ownBlock <;> simp)
  · have := ho1.lt
    have := hl2.size
    omega
  · exact Nat.le_trans hd1.size (hb2 g hg)
  · have := Ir.lt ho2 hg
    omega
end Go.Proofs.Ytkjepopmlpfnpaa
