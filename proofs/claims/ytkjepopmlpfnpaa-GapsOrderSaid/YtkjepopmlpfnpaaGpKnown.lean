/-
  The rows that the chapter gives, and no set: known.
-/
import Derived.Test.YtkjepopmlpfnpaaGpSep
namespace Go.Proofs.Ytkjepopmlpfnpaa
open Go.RowKit Go.Maps
set_option linter.unusedVariables false

theorem k1 : (⟨10, [], []⟩ : St).add 12 = (⟨10, [2], []⟩, 0) := by
  have e : ins (wy 10 12) [] = [2] := by decide +kernel
  unfold St.add; rw [if_neg (by decide +kernel), if_neg (by decide +kernel)]
  show ((⟨(norm 10 (ins (wy 10 12) [])).1, (norm 10 (ins (wy 10 12) [])).2, []⟩ : St), 0) = _
  rw [e, norm_stop (by decide)]
theorem k2 : (⟨10, [2], []⟩ : St).add 13 = (⟨10, [2, 3], []⟩, 0) := by
  have e : ins (wy 10 13) [2] = [2, 3] := by decide +kernel
  unfold St.add; rw [if_neg (by decide +kernel), if_neg (by decide +kernel)]
  show ((⟨(norm 10 (ins (wy 10 13) [2])).1, (norm 10 (ins (wy 10 13) [2])).2, []⟩ : St), 0) = _
  rw [e, norm_stop (by decide)]
theorem k3 : (⟨10, [2, 3], []⟩ : St).add 15 = (⟨10, [2, 3, 5], []⟩, 0) := by
  have e : ins (wy 10 15) [2, 3] = [2, 3, 5] := by decide +kernel
  unfold St.add; rw [if_neg (by decide +kernel), if_neg (by decide +kernel)]
  show ((⟨(norm 10 (ins (wy 10 15) [2, 3])).1, (norm 10 (ins (wy 10 15) [2, 3])).2, []⟩ : St), 0) = _
  rw [e, norm_stop (by decide)]
theorem k4 : (⟨10, [2, 3, 5], []⟩ : St).add 11 = (⟨13, [2], []⟩, 0) := by
  have e : ins (wy 10 11) [2, 3, 5] = [1, 2, 3, 5] := by decide +kernel
  unfold St.add; rw [if_neg (by decide +kernel), if_neg (by decide +kernel)]
  show ((⟨(norm 10 (ins (wy 10 11) [2, 3, 5])).1, (norm 10 (ins (wy 10 11) [2, 3, 5])).2, []⟩ : St), 0) = _
  rw [e, norm_go]
  show ((⟨(norm (up 10 1) [1, 2, 4]).1, (norm (up 10 1) [1, 2, 4]).2, []⟩ : St), 0) = _
  rw [norm_go]
  show ((⟨(norm (up (up 10 1) 1) [1, 3]).1, (norm (up (up 10 1) 1) [1, 3]).2, []⟩ : St), 0) = _
  rw [norm_go]
  show ((⟨(norm (up (up (up 10 1) 1) 1) [2]).1, (norm (up (up (up 10 1) 1) 1) [2]).2, []⟩ : St), 0) = _
  rw [norm_stop (by decide)]
  rfl
theorem k5 : (⟨13, [2], []⟩ : St).add 12 = (⟨13, [2], [12]⟩, 1) := by
  unfold St.add; rw [if_pos (by decide +kernel)]; rfl
theorem k6 : (⟨13, [2], [12]⟩ : St).add 15 = (⟨13, [2], [12, 15]⟩, 1) := by
  unfold St.add; rw [if_pos (by decide +kernel)]; rfl
theorem k7 : (⟨13, [2], []⟩ : St).add 65549 = (⟨13, [2], []⟩, 2) := by
  unfold St.add; rw [if_neg (by decide +kernel), if_pos (by decide +kernel)]
theorem k8 : (⟨10, [2, 3, 5], []⟩ : St).gaps = [(2, 3), (5, 5)] := by decide +kernel
theorem k9 : (⟨13, [2], []⟩ : St).gaps = [(2, 2)] := by decide +kernel
theorem k10 : (⟨13, [2], []⟩ : St).has 15 = true := by decide +kernel
theorem k11 : (⟨13, [2], []⟩ : St).has 14 = false := by decide +kernel
theorem gs_new (w : World) (l : List (Nat × Nat)) (t : TypeId) : Row (w.alloc (.cells (gs l).toArray t)) (some ⟨w.heap.size, 0, none⟩) (gs l) := Row.new w (gs l) t (0, 0)
theorem ns_new (w : World) (k : IntKind) (l : List Nat) (t : TypeId) : Row (w.alloc (.cells (ns k l).toArray t)) (some ⟨w.heap.size, 0, none⟩) (ns k l) := Row.new w (ns k l) t (0, 0)
theorem bAlloc (w : World) (o : Obj) : Below w.heap.size w (w.alloc o) := (Below.refl _ _).alloc (Nat.le_refl _) o
theorem sgaps_same (A B : Option Addr) (n c d : Nat) (l : List (Nat × Nat)) (W : World) (hl : l.length = n) (hn : n ≤ 100000) (ha : Row W A (gs l)) (hb : Row W B (gs l)) :
    Calls Try.prog 15 #[.slice A n c, .slice B n d] W fun e w' => e = .returned (.bool true) ∧ Below W.heap.size W w' :=
  (sgaps_any A B n n c d l l W hl hl hn hn ha hb).mono fun e w' ⟨he, hb⟩ => ⟨by rw [he, decide_eq_true rfl], hb⟩
theorem tsns_same (A B : Option Addr) (n c d : Nat) (l : List Nat) (W : World) (hl : l.length = n) (hn : n ≤ 100000) (ha : Row W A (ns .u32 l)) (hb : Row W B (ns .u32 l)) :
    Calls Try.prog 10 #[.slice A n c, .slice B n d] W fun e w' => e = .returned (.bool true) ∧ Below W.heap.size W w' :=
  (tsns_any A B n n c d l l W hl hl hn hn ha hb).mono fun e w' ⟨he, hb⟩ => ⟨by rw [he, decide_eq_true rfl], hb⟩
set_option maxHeartbeats 4000000 in
theorem known_any (W : World) : Calls Try.prog 6 #[] W fun e w' => e = .returned (.bool true) ∧ Below W.heap.size W w' := by
  have H0 := Lib.hid (Now.emp W W (Below.refl _ _))
  go_enter Try.func6, Try.ntmps6
  go_wp2_with fail
  refine (s_new 10 H0.out emp_fr (by omega)).mono ?_
  rintro e w1 ⟨s, rfl, h1⟩
  have H1 := Lib.hid h1
  clear h1
  go_wp2_with fail
  refine (s_add 12 H1.out emp_fr (by omega)).mono ?_
  rw [k1]
  rintro e w2 ⟨rfl, h2⟩
  have H2 := Lib.hid h2
  clear h2
  go_wp2_with fail
  refine (s_add 13 H2.out emp_fr (by omega)).mono ?_
  rw [k2]
  rintro e w3 ⟨rfl, h3⟩
  have H3 := Lib.hid h3
  clear h3
  go_wp2_with fail
  refine (s_add 15 H3.out emp_fr (by omega)).mono ?_
  rw [k3]
  rintro e w4 ⟨rfl, h4⟩
  have H4 := Lib.hid h4
  clear h4
  go_wp2_with fail
  refine (s_gaps H4.out emp_fr).mono ?_
  rw [k8]
  rintro e w5 ⟨A5, c5, rfl, hr5, hb5, h5⟩
  have H5 := Lib.hid h5
  have HR5 := Lib.hid hr5
  clear h5 hr5 hb5
  go_wp2_with fail
  refine (sgaps_same A5 _ 2 c5 2 [(2, 3), (5, 5)] _ rfl (by omega) (HR5.out.alloc _) (Row.new w5 (gs [(2, 3), (5, 5)]) _ _)).mono ?_
  rintro e w6 ⟨rfl, hb6⟩
  have H6 := Lib.hid ((H5.out.next (star_fr (PA_fr s _) emp_fr) (bAlloc _ _)).next (star_fr (PA_fr s _) emp_fr) hb6)
  clear hb6
  go_wp2_with fail
  refine (s_cum H6.out).mono ?_
  rintro e w ⟨rfl, rfl⟩
  go_wp2_with fail
  refine (s_add 11 H6.out emp_fr (by omega)).mono ?_
  rw [k4]
  rintro e w7 ⟨rfl, h7⟩
  have H7 := Lib.hid h7
  clear h7
  go_wp2_with fail
  refine (s_cum H7.out).mono ?_
  rintro e w ⟨rfl, rfl⟩
  go_wp2_with fail
  refine (s_gaps H7.out emp_fr).mono ?_
  rw [k9]
  rintro e w8 ⟨A8, c8, rfl, hr8, hb8, h8⟩
  have H8 := Lib.hid h8
  have HR8 := Lib.hid hr8
  clear h8 hr8 hb8
  go_wp2_with fail
  refine (sgaps_same A8 _ 1 c8 1 [(2, 2)] _ rfl (by omega) (HR8.out.alloc _) (Row.new w8 (gs [(2, 2)]) _ _)).mono ?_
  rintro e w9 ⟨rfl, hb9⟩
  have H9 := Lib.hid ((H8.out.next (star_fr (PA_fr s _) emp_fr) (bAlloc _ _)).next (star_fr (PA_fr s _) emp_fr) hb9)
  clear hb9
  go_wp2_with fail
  refine (s_add 12 H9.out emp_fr (by omega)).mono ?_
  rw [k5]
  rintro e w10 ⟨rfl, h10⟩
  have H10 := Lib.hid h10
  clear h10
  go_wp2_with fail
  refine (s_add 15 H10.out emp_fr (by omega)).mono ?_
  rw [k6]
  rintro e w11 ⟨rfl, h11⟩
  have H11 := Lib.hid h11
  clear h11
  go_wp2_with fail
  refine (s_dups H11.out emp_fr).mono ?_
  rintro e w12 ⟨A12, c12, rfl, h12⟩
  have H12 := Lib.hid h12
  clear h12
  go_wp2_with fail
  refine (tsns_same A12 _ 2 c12 2 [12, 15] _ rfl (by omega) (H12.out.row.alloc _) (Row.new w12 (ns .u32 [12, 15]) _ _)).mono ?_
  rintro e w13 ⟨rfl, hb13⟩
  have H13 := Lib.hid ((H12.out.unrow.next (star_fr (PA_fr s _) emp_fr) (bAlloc _ _)).next (star_fr (PA_fr s _) emp_fr) hb13)
  clear hb13
  go_wp2_with fail
  refine (s_dups H13.out emp_fr).mono ?_
  rintro e w14 ⟨A14, c14, rfl, h14⟩
  have H14 := Lib.hid h14.unrow
  clear h14
  go_wp2_with fail
  refine (s_add 65549 H14.out emp_fr (by omega)).mono ?_
  rw [k7]
  rintro e w15 ⟨rfl, h15⟩
  have H15 := Lib.hid h15
  clear h15
  go_wp2_with fail
  refine (s_has 15 H15.out emp_fr (by omega)).mono ?_
  rw [k10]
  rintro e w16 ⟨rfl, h16⟩
  have H16 := Lib.hid h16
  clear h16
  go_wp2_with fail
  refine (s_has 14 H16.out emp_fr (by omega)).mono ?_
  rw [k11]
  rintro e w17 ⟨rfl, h17⟩
  have H17 := Lib.hid h17
  clear h17
  go_wp2_with fail
  refine (s_next 14 H17.out (by omega)).mono ?_
  rintro e w ⟨rfl, rfl⟩
  go_wp2_with fail
  refine (s_len H17.out).mono ?_
  rintro e w ⟨rfl, rfl⟩
  go_wp2_with (first
    | (go_at_call 8; refine (add_nil 1 _).mono ?_; rintro e w ⟨rfl, rfl⟩)
    | (go_at_call 14; refine (cum_nil _).mono ?_; rintro e w ⟨rfl, rfl⟩)
    | (go_at_call 16; refine (gaps_nil _).mono ?_; rintro e w ⟨rfl, rfl⟩)
    | (go_at_call 11; refine (dups_nil _).mono ?_; rintro e w ⟨rfl, rfl⟩)
    | (go_at_call 18; refine (len_nil _).mono ?_; rintro e w ⟨rfl, rfl⟩)
    | (go_at_call 19; refine (has_nil 0 _).mono ?_; rintro e w ⟨rfl, rfl⟩)
    | (go_at_call 21; refine (next_nil 1 _).mono ?_; rintro e w ⟨rfl, rfl⟩)
    | (go_at_call 13; refine (copy_nil _).mono ?_; rintro e w ⟨rfl, rfl⟩))
  go_ret
  exact ⟨rfl, H17.out.below⟩
end Go.Proofs.Ytkjepopmlpfnpaa
