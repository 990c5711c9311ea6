/-
  The statements' 'known' of layer 9 answers true.
-/
import Derived.Test.YthgbngnhlgaioaaFgPiece
import Derived.Lib.SlBytesConst
namespace Go.Proofs.Ythgbngnhlgaioaa
set_option maxRecDepth 4000
open Go.RowKit Go.Maps
namespace Fg
set_option linter.unusedVariables false
set_option linter.unusedSimpArgs false

def k8 : Pc := ⟨8, 0, 0, 0, 0, [99, 100]⟩
def k9 : Pc := ⟨9, 1, 0, 0, 0, [101]⟩
def k7 : Pc := ⟨7, 2, 0, 0, 0, [97, 98]⟩
def k4 : Pc := ⟨4, 3, 0, 0, 0, [120]⟩
theorem kok8 : k8.Ok := ⟨by decide, by decide, by decide, by decide, by decide, by unfold Byt k8; decide⟩
theorem kok9 : k9.Ok := ⟨by decide, by decide, by decide, by decide, by decide, by unfold Byt k9; decide⟩
theorem kok7 : k7.Ok := ⟨by decide, by decide, by decide, by decide, by decide, by unfold Byt k7; decide⟩
theorem kok4 : k4.Ok := ⟨by decide, by decide, by decide, by decide, by decide, by unfold Byt k4; decide⟩
theorem kp8 : put [] k8 = ([k8], none) := by kernel_rfl
theorem kp9 : put [k8] k9 = ([k8, k9], none) := by kernel_rfl
theorem kp7 : put [k8, k9] k7 = ([], some (⟨0, false, 0, [97, 98, 99, 100, 101]⟩, 0)) := by kernel_rfl
theorem kp4 : put [] k4 = ([], some (⟨0, false, 0, [120]⟩, 0)) := by kernel_rfl
theorem kheld : held [k8, k9] = 3 := by kernel_rfl
theorem kcut : cutL false 3 0 [97, 98, 99, 100, 101] 2 = [⟨0, 2, 3, 0, 0, [97, 98]⟩, ⟨0, 0, 3, 0, 0, [99, 100]⟩, ⟨0, 1, 3, 0, 0, [101]⟩] := by kernel_rfl
theorem ks5 : strOf [97, 98, 99, 100, 101] = { data := #[97, 98, 99, 100, 101] } := by decide +kernel
theorem ksab : strOf [97, 98] = { data := #[97, 98] } := by decide +kernel
theorem kscd : strOf [99, 100] = { data := #[99, 100] } := by decide +kernel
theorem kse : strOf [101] = { data := #[101] } := by decide +kernel
theorem ksx : strOf [120] = { data := #[120] } := by decide +kernel
/-- The pieces that Cut makes there. -/
theorem kcut_any (w : World) (A : Option Addr) (c : Nat) (hc : 5 ≤ c) (hr : Row w A (bs [97, 98, 99, 100, 101])) :
    Calls Try.prog 8 #[.agg #[.int .u16 3, .bool false, .int .u32 0, .slice A 5 c], .int .i64 2] w fun e w' => ∃ g cap B0 c0 B1 c1 B2 c2, e = .returned (.tuple #[.slice (some ⟨g, 0, none⟩) 3 cap, .int .i64 0]) ∧
      Ps w.heap.size w' (.slice (some ⟨g, 0, none⟩) 3 cap) [(⟨0, 2, 3, 0, 0, [97, 98]⟩, (B0, 2, c0)), (⟨0, 0, 3, 0, 0, [99, 100]⟩, (B1, 2, c1)), (⟨0, 1, 3, 0, 0, [101]⟩, (B2, 1, c2))] ∧ Below w.heap.size w w' := by
  refine (cut_any 3 false 0 A 5 c [97, 98, 99, 100, 101] 2 w rfl (by omega) (by omega) hc (by omega) (by omega) hr).mono ?_
  rw [kcut]
  rintro e w' ⟨A', N, c', qs, he, hl, hm, hp, hb⟩
  match qs, hm with
  | [(q0, B0, n0, c0), (q1, B1, n1, c1), (q2, B2, n2, c2)], hm =>
    simp only [List.map_cons, List.map_nil, List.cons.injEq, and_true] at hm
    obtain ⟨rfl, rfl, rfl⟩ := hm
    have d0 := (hp.dat _ (by simp : ((⟨0, 2, 3, 0, 0, [97, 98]⟩, (B0, n0, c0)) : Pq) ∈ _)).1
    have d1 := (hp.dat ((⟨0, 0, 3, 0, 0, [99, 100]⟩, (B1, n1, c1)) : Pq) (by simp)).1
    have d2 := (hp.dat ((⟨0, 1, 3, 0, 0, [101]⟩, (B2, n2, c2)) : Pq) (by simp)).1
    obtain rfl : 2 = n0 := d0
    obtain rfl : 2 = n1 := d1
    obtain rfl : 1 = n2 := d2
    obtain rfl : 3 = N := hl
    rcases hp.own.2 with ⟨_, h0⟩ | ⟨g, cap, cur, hv, _⟩
    · simp at h0
    · simp only [Value.slice.injEq] at hv
      obtain ⟨rfl, _, _⟩ := hv
      exact ⟨g, c', B0, c0, B1, c1, B2, c2, he, hp, hb⟩
theorem pcell {B : Nat} {W : World} {g n c : Nat} {qs : List Pq} (h : Ps B W (.slice (some ⟨g, 0, none⟩) n c) qs) (hn : qs.length = n) {i : Nat} (hi : i < qs.length) {k : Nat} (hk : k < 6) : W.cell? ⟨g, i * 6 + k, none⟩ = (pcl qs[i])[k]? := by
  subst hn
  rw [World.ownsRow.cellAt h.own (i * 6 + k) (by omega), pf_get hi k hk]
theorem str_at {W : World} {A : Option Addr} {n c : Nat} {l : List Int} {s : ByteArray} (hl : l.length = n) (hr : Row W A (bs l)) (h : strOf l = s) : (convert 29 9 (.slice A n c)).run Try.prog W = .ok (.string s) W := by
  subst h
  exact run_strOf Try.underlying29 Try.underlying5 Try.underlying9 hl hr
theorem bAlloc (w : World) (o : Obj) : Below w.heap.size w (w.alloc o) := (Below.refl _ _).alloc (Nat.le_refl _) o
/-- The rows that the chapter gives are read. -/
theorem kread {B : Nat} {W : World} {g cap : Nat} {B0 B1 B2 : Option Addr} {c0 c1 c2 : Nat} (h : Ps B W (.slice (some ⟨g, 0, none⟩) 3 cap) [(⟨0, 2, 3, 0, 0, [97, 98]⟩, (B0, 2, c0)), (⟨0, 0, 3, 0, 0, [99, 100]⟩, (B1, 2, c1)), (⟨0, 1, 3, 0, 0, [101]⟩, (B2, 1, c2))]) :
    W.cell? ⟨g, 5, none⟩ = some (.slice B0 2 c0) ∧ W.cell? ⟨g, 1, none⟩ = some (.int .u8 2) ∧ W.cell? ⟨g, 11, none⟩ = some (.slice B1 2 c1) ∧ W.cell? ⟨g, 7, none⟩ = some (.int .u8 0) ∧
    W.cell? ⟨g, 17, none⟩ = some (.slice B2 1 c2) ∧ W.cell? ⟨g, 13, none⟩ = some (.int .u8 1) ∧ W.cell? ⟨g, 14, none⟩ = some (.int .u16 3) ∧
    (convert 29 9 (.slice B0 2 c0)).run Try.prog W = .ok (.string { data := #[97, 98] }) W ∧ (convert 29 9 (.slice B1 2 c1)).run Try.prog W = .ok (.string { data := #[99, 100] }) W ∧ (convert 29 9 (.slice B2 1 c2)).run Try.prog W = .ok (.string { data := #[101] }) W := by
  have d := fun q hq => row_of_own (h.dat q hq).2
  exact ⟨pcell h rfl (i := 0) (by simp) (k := 5) (by omega), pcell h rfl (i := 0) (by simp) (k := 1) (by omega), pcell h rfl (i := 1) (by simp) (k := 5) (by omega), pcell h rfl (i := 1) (by simp) (k := 1) (by omega),
    pcell h rfl (i := 2) (by simp) (k := 5) (by omega), pcell h rfl (i := 2) (by simp) (k := 1) (by omega), pcell h rfl (i := 2) (by simp) (k := 2) (by omega),
    str_at rfl (d ((⟨0, 2, 3, 0, 0, [97, 98]⟩, (B0, 2, c0)) : Pq) (by simp)) ksab, str_at rfl (d ((⟨0, 0, 3, 0, 0, [99, 100]⟩, (B1, 2, c1)) : Pq) (by simp)) kscd, str_at rfl (d ((⟨0, 1, 3, 0, 0, [101]⟩, (B2, 1, c2)) : Pq) (by simp)) kse⟩
/-- A joiner that keeps nothing is in two blocks, and no row of bytes is in them. -/
theorem shrink {j : Nat} {w : World} {F : Nat → Prop} {A : Option Addr} {l : List Int} (h : JA j [] w F) (hr : Row w A (bs l)) (hl : 0 < l.length) : ∃ F0, JA j [] w F0 ∧ (∀ k, F0 k → F k) ∧ ∀ a, A = some a → ¬ F0 a.block := by
  obtain ⟨m, hb, ⟨D, hm, hv, hfm, ha, hlt⟩, hf, hok⟩ := h
  refine ⟨fun k => k = j ∨ k = m, ⟨m, hb, ⟨D, hm, ⟨hv.1, hv.2, fun t x h => by cases h⟩, .inr rfl, ha, fun k hk => ?_⟩, .inl rfl, hok⟩, fun k hk => ?_, fun a e hk => ?_⟩
  · rcases hk with rfl | rfl
    · exact hlt _ hf
    · exact hlt _ hfm
  · rcases hk with rfl | rfl
    · exact hf
    · exact hfm
  · obtain ⟨a', e', hc⟩ := Row.byte hr (k := 0) hl
    rw [e] at e'
    injection e' with e'
    subst e'
    have e0 : a.add 0 = a := by unfold Addr.add; simp
    rw [e0] at hc
    obtain ⟨es, clock, hh⟩ := owns_block hm
    rcases hk with hk | hk
    · rcases a with ⟨b, o, p⟩
      simp only at hk
      subst hk
      unfold World.cell? at hc
      rw [show w.heap[b]? = _ from hb] at hc
      simp at hc
      rcases o with _ | _ | o <;> simp at hc
    · rcases a with ⟨b, o, p⟩
      simp only at hk
      subst hk
      unfold World.cell? at hc
      rw [hh] at hc
      simp at hc
set_option maxRecDepth 100000 in
set_option maxHeartbeats 4000000 in
theorem known_any (w0 : World) :
    Calls Try.prog 7 #[] w0 fun e w' => e = .returned (.bool true) ∧ Below w0.heap.size w0 w' := by
  have kc := fun (W : World) (C : Array Value) (n c : Nat) => Lib.run_convert_bytes_const (P := Try.prog) W 29 5 C n c Try.underlying29 Try.underlying5
  have CK := Lib.hid kcut_any
  go_enter Try.func7, Try.ntmps7
  go_upto_region 2 with fail
  refine (CK.out _ _ _ (by omega) (Row.new w0 (bs [97, 98, 99, 100, 101]) _ _)).mono ?_
  rintro e w1 ⟨g, cap, B0, c0, B1, c1, B2, c2, rfl, hp, hb⟩
  obtain ⟨r1, r2, r3, r4, r5, r6, r7, r8, r9, r10⟩ := kread hp
  have HB := Lib.hid (bnext ((Below.refl _ _).alloc (Nat.le_refl _) _) hb)
  clear CK kc hp hb
  go_upto_region 4 with fail
  have H1 := Lib.hid (Now.emp w0 w1 HB.out)
  clear r1 r2 r3 r4 r5 r6 r7 r8 r9 r10 HB
  go_wp2_with fail
  refine (s_new H1.out emp_fr).mono ?_
  rintro e w2 ⟨j, rfl, h2⟩
  have H2 := Lib.hid h2
  clear h2 H1
  go_wp2_with fail
  refine (piece_any 8 0 _ [99, 100] _ kscd kok8.d).mono ?_
  rintro e w3 ⟨A3, k3, c3, rfl, hl3, hr3, hb3⟩
  obtain rfl : 2 = k3 := hl3
  have H3 := Lib.hid (H2.out.next (star_fr (JA_fr j []) emp_fr) hb3)
  have HR3 := Lib.hid hr3
  clear hr3 hb3 H2
  go_wp2_with fail
  refine (s_put H3.out emp_fr k8 A3 2 c3 kok8 rfl (by omega) HR3.out (by simp) (by decide)).mono ?_
  rw [kp8]
  rintro e w4 ⟨h4, FF, ht⟩
  obtain rfl := told_none ht rfl
  have H4 := Lib.hid h4
  clear h4 ht H3 HR3
  go_upto_region 6 with fail
  have H5 := Lib.hid (H4.out.next (star_fr (JA_fr j [k8]) emp_fr) (bAlloc _ (.cells #[.int .u16 0, .bool false, .int .u32 0, .slice none 0 0] 31)))
  clear H4
  generalize w4.heap.size = g4 at H5 ⊢
  go_wp2_with fail
  refine (piece_any 9 1 _ [101] _ kse kok9.d).mono ?_
  rintro e w6 ⟨A6, k6, c6, rfl, hl6, hr6, hb6⟩
  obtain rfl : 1 = k6 := hl6
  have H6 := Lib.hid (H5.out.next (star_fr (JA_fr j [k8]) emp_fr) hb6)
  have HR6 := Lib.hid hr6
  clear hr6 hb6 H5
  go_wp2_with fail
  refine (s_put H6.out emp_fr k9 A6 1 c6 kok9 rfl (by omega) HR6.out (by simp) (by decide)).mono ?_
  rw [kp9]
  rintro e w7 ⟨h7, FF, ht⟩
  obtain rfl := told_none ht rfl
  have H7 := Lib.hid h7
  clear h7 ht H6 HR6
  go_upto_region 7 with fail
  have H8 := Lib.hid (H7.out.next (star_fr (JA_fr j [k8, k9]) emp_fr) (bAlloc _ (.cells #[.int .u16 0, .bool false, .int .u32 0, .slice none 0 0] 31)))
  clear H7
  generalize w7.heap.size = g7 at H8 ⊢
  go_wp2_with fail
  refine (s_held H8.out).mono ?_
  rw [kheld]
  rintro e w ⟨rfl, rfl⟩
  go_wp2_with fail
  refine (piece_any 7 2 _ [97, 98] _ ksab kok7.d).mono ?_
  rintro e w8 ⟨A8, k8', c8, rfl, hl8, hr8, hb8⟩
  obtain rfl : 2 = k8' := hl8
  have H9 := Lib.hid (H8.out.next (star_fr (JA_fr j [k8, k9]) emp_fr) hb8)
  have HR9 := Lib.hid hr8
  clear hr8 hb8 H8
  go_wp2_with fail
  refine (s_put H9.out emp_fr k7 A8 2 c8 kok7 rfl (by omega) HR9.out (by simp) (by decide)).mono ?_
  rw [kp7]
  rintro e w9 ⟨h9, FF, ht⟩
  obtain ⟨A, n, c, he, hl9, _, hr9, _⟩ := told_some ht rfl
  obtain rfl : 5 = n := hl9
  have he' : e = .returned (.tuple #[.agg #[.int .u16 0, .bool false, .int .u32 0, .slice A 5 c], .int .u16 0, .bool true]) := he
  clear he
  subst he'
  obtain ⟨F, hj, hlow, hlt, hbel⟩ := h9.left
  obtain ⟨F0, hj0, hsub, hoff⟩ := shrink hj hr9 (by simp)
  have HJ9 := Lib.hid hj0
  have HLO : Hid (∀ k, F0 k → w0.heap.size ≤ k) := Lib.hid fun k hk => hlow k (hsub k hk)
  have HOFF := Lib.hid hoff
  have HB9 := Lib.hid hbel
  have HR9' := Lib.hid hr9
  clear h9 ht hj hlow hlt hbel hj0 hsub hoff hr9 H9 HR9
  go_upto_region 9 with fail
  have HNG : Hid (¬ F0 w9.heap.size) := Lib.hid fun hk => by have := JB.lt HJ9.out hk; omega
  have HM : Hid (Bk (w9.alloc (.cells #[.int .u16 0, .bool false, .int .u32 0, .slice A 5 c] 31)) w9.heap.size #[.int .u16 0, .bool false, .int .u32 0, .slice A 5 c] 31) := Lib.hid (Bk.new _ _ _)
  have hb10 := bAlloc w9 (.cells #[.int .u16 0, .bool false, .int .u32 0, .slice A 5 c] 31)
  have HJ10 := Lib.hid (JA.next HJ9.out hb10)
  have HR10 := Lib.hid (Row.below HR9'.out hb10)
  have HB10 := Lib.hid (bnext HB9.out hb10)
  clear hb10 HJ9 HR9' HB9
  generalize hW : w9.alloc (.cells #[.int .u16 0, .bool false, .int .u32 0, .slice A 5 c] 31) = W10 at HM HJ10 HR10 HB10 ⊢
  clear hW
  generalize w9.heap.size = gm at HNG HM ⊢
  go_wp2_with fail
  refine (piece_any 4 3 _ [120] _ ksx kok4.d).mono ?_
  rintro e w11 ⟨A11, k11, c11, rfl, hl11, hr11, hb11⟩
  obtain rfl : 1 = k11 := hl11
  have HJ11 := Lib.hid (JA.next HJ10.out hb11)
  have HR11 := Lib.hid (Row.below HR10.out hb11)
  have HB11 := Lib.hid (bnext HB10.out hb11)
  have HM11 := Lib.hid (HM.out.next hb11)
  have HRX := Lib.hid hr11
  clear hr11 hb11 HJ10 HR10 HB10 HM
  go_wp2_with fail
  refine (put_any w11 F0 j [] k4 A11 1 c11 HJ11.out kok4 rfl (by omega) HRX.out (by simp) (by decide)).mono ?_
  rw [kp4]
  rintro e w12 ⟨F1, hnew, hj, hkp, ht⟩
  obtain ⟨A', n, c', he, hl12, _, hr12, _⟩ := told_some ht rfl
  obtain rfl : 1 = n := hl12
  have he' : e = .returned (.tuple #[.agg #[.int .u16 0, .bool false, .int .u32 0, .slice A' 1 c'], .int .u16 0, .bool true]) := he
  clear he
  subst he'
  have HJ12 := Lib.hid hj
  have HR12 := Lib.hid (Row.frame HR11.out hkp HOFF.out)
  have HM12 : Hid (Bk w12 gm _ _) := Lib.hid ((hkp.block gm HM11.out.lt HNG.out).trans HM11.out)
  have HB12 := Lib.hid (Kp.to_below HB11.out hkp HLO.out HB11.out.size)
  have HRN := Lib.hid hr12
  clear hnew hj hkp ht hr12 HJ11 HR11 HB11 HM11 HRX HLO HOFF HNG
  go_upto_region 11 with fail
  have HN : Hid (Bk (w12.alloc (.cells #[.int .u16 0, .bool false, .int .u32 0, .slice A' 1 c'] 31)) w12.heap.size #[.int .u16 0, .bool false, .int .u32 0, .slice A' 1 c'] 31) := Lib.hid (Bk.new _ _ _)
  have hb13 := bAlloc w12 (.cells #[.int .u16 0, .bool false, .int .u32 0, .slice A' 1 c'] 31)
  have HJ13 := Lib.hid (JA.next HJ12.out hb13)
  have HR13 := Lib.hid (Row.below HR12.out hb13)
  have HRN13 := Lib.hid (Row.below HRN.out hb13)
  have HM13 := Lib.hid (HM12.out.next hb13)
  have HB13 := Lib.hid (bnext HB12.out hb13)
  clear hb13 HJ12 HR12 HB12 HM12 HRN
  generalize hW : w12.alloc (.cells #[.int .u16 0, .bool false, .int .u32 0, .slice A' 1 c'] 31) = W13 at HN HJ13 HR13 HRN13 HM13 HB13 ⊢
  clear hW
  generalize w12.heap.size = gn at HN ⊢
  go_wp2_with fail
  refine (piece_any 4 3 _ [120] _ ksx kok4.d).mono ?_
  rintro e w14 ⟨A14, k14, c14, rfl, _, _, hb14⟩
  have HJ14 := Lib.hid (JA.next HJ13.out hb14)
  have HR14 := Lib.hid (Row.below HR13.out hb14)
  have HRN14 := Lib.hid (Row.below HRN13.out hb14)
  have HM14 := Lib.hid (HM13.out.next hb14)
  have HN14 := Lib.hid (HN.out.next hb14)
  have HB14 := Lib.hid (bnext HB13.out hb14)
  clear hb14 HJ13 HR13 HRN13 HM13 HN HB13
  go_wp2_with fail
  refine (put_nil k4 A14 k14 c14 w14).mono ?_
  rintro e w15 ⟨rfl, hb15⟩
  have hb16 := bnext' hb15 (bAlloc w15 (.cells #[.int .u16 0, .bool false, .int .u32 0, .slice none 0 0] 31))
  have HJ := Lib.hid (JA.next HJ14.out hb16)
  have HR := Lib.hid (Row.below HR14.out hb16)
  have HRN := Lib.hid (Row.below HRN14.out hb16)
  have HM := Lib.hid (HM14.out.next hb16)
  have HN := Lib.hid (HN14.out.next hb16)
  have HB := Lib.hid (bnext HB14.out hb16)
  clear hb15 hb16 HJ14 HR14 HRN14 HM14 HN14 HB14
  go_upto_region 12 with fail
  generalize w15.alloc (.cells #[.int .u16 0, .bool false, .int .u32 0, .slice none 0 0] 31) = W at HJ HR HRN HM HN HB ⊢
  have q1 := HM.out.cell 3
  have q2 := HN.out.cell 3
  simp at q1 q2
  have q3 := str_at (n := 5) rfl HR.out ks5 (c := c)
  have q4 := str_at (n := 1) rfl HRN.out ksx (c := c')
  have CH := Lib.hid (held_any W F1 j [] HJ.out)
  have CL := Lib.hid (len_any W F1 j [] HJ.out)
  go_wp2_with (first
    | (go_at_call 13; refine (held_nil _).mono ?_; rintro e w ⟨rfl, rfl⟩)
    | (go_at_call 14; refine (len_nil _).mono ?_; rintro e w ⟨rfl, rfl⟩)
    | (go_at_call 13; refine CH.out.mono ?_; rintro e w ⟨rfl, rfl⟩)
    | (go_at_call 14; refine CL.out.mono ?_; rintro e w ⟨rfl, rfl⟩))
  go_ret
  exact ⟨rfl, HB.out⟩
end Fg
end Go.Proofs.Ythgbngnhlgaioaa
