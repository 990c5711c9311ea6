/-
  What putting does, on both sides.
-/
import Derived.Test.YtgepmicodfhhmaaHeadMid
import Derived.Deep.RegionLaw
import Derived.Deep.CutRange
namespace Go.Proofs.Ytgepmicodfhhmaa
open Go.RowKit Crc Head

/-- Block N (the first new one) holds a head, and what stood before is as it was. -/
def Kh (w : World) (f t g : Nat) (W : World) : Prop := W.heap[w.heap.size]? = some (.cells #[.int .u16 (f : Int), .int .u16 (t : Int), .int .u32 (g : Int)] 25 (0, 0)) ∧ Below w.heap.size w W
theorem Kh.next {w W W' : World} {f t g : Nat} (h : Kh w f t g W) (hb : Below W.heap.size W W') : Kh w f t g W' :=
  ⟨(hb.block _ (Array.getElem?_eq_some_iff.1 h.1).1).trans h.1, h.2.trans (hb.mono (Nat.le_of_lt (Array.getElem?_eq_some_iff.1 h.1).1))⟩
theorem Kh.drew {w W : World} {f t g : Nat} (h : Kh w f t g W) : Kh w f t g W.drew := ⟨h.1, h.2.drew⟩
theorem Kh.alloc {w W : World} {f t g : Nat} (h : Kh w f t g W) (o : Obj) : Kh w f t g (W.alloc o) := h.next ((Below.refl _ _).alloc (Nat.le_refl _) _)
theorem kh_new (w : World) (f t g : Nat) : Kh w f t g (w.alloc (.cells #[.int .u16 (f : Int), .int .u16 (t : Int), .int .u32 (g : Int)] 25)) := ⟨heap_alloc_new _ _, (Below.refl _ _).alloc (Nat.le_refl _) _⟩
theorem Kh.c0 {w W : World} {f t g : Nat} (h : Kh w f t g W) : W.cell? ⟨w.heap.size, 0, none⟩ = some (.int .u16 (f : Int)) := cell_of_row _ _ 0 _ _ _ h.1
theorem Kh.c1 {w W : World} {f t g : Nat} (h : Kh w f t g W) : W.cell? ⟨w.heap.size, 1, none⟩ = some (.int .u16 (t : Int)) := cell_of_row _ _ 1 _ _ _ h.1
theorem Kh.c2 {w W : World} {f t g : Nat} (h : Kh w f t g W) : W.cell? ⟨w.heap.size, 2, none⟩ = some (.int .u32 (g : Int)) := cell_of_row _ _ 2 _ _ _ h.1
theorem Kh.lt {w W : World} {f t g : Nat} (h : Kh w f t g W) : w.heap.size + 1 ≤ W.heap.size := (Array.getElem?_eq_some_iff.1 h.1).1
theorem own_base {W : World} {b b' : Nat} {e : TypeId} {s : Nat} {v : Value} {n : Nat} {xs : List Value} (h : W.ownsRow b e s v n xs) (hb : b' ≤ b) : W.ownsRow b' e s v n xs := by
  refine ⟨h.1, ?_⟩
  rcases h.2 with h2 | ⟨g, cap, cur, hv, hg, r⟩
  · exact Or.inl h2
  · exact Or.inr ⟨g, cap, cur, hv, Nat.le_trans hb hg, r⟩
theorem own_below {W W' : World} {b : Nat} {e : TypeId} {s : Nat} {v : Value} {n : Nat} {xs : List Value} (h : W.ownsRow b e s v n xs) (hb : Below W.heap.size W W') : W'.ownsRow b e s v n xs :=
  h.kept (row := none) ⟨hb.os, hb.tape, hb.output, hb.size, fun k hk _ => hb.block k hk⟩ (by cases v.ownBlock <;> simp)
theorem bytes_gh2 {w : World} {f t g : Nat}(x : Nat) (hx : x < 4294967296) :
    ∀ W, Kh w f t g W → Calls Try.prog 20 #[.int .u64 (x : Int), .int .i64 2] W fun e w' => ∃ b, e = .returned (.slice (some ⟨b, 0, none⟩) 2 2) ∧
      w'.ownsRow (w.heap.size + 1) 5 1 (.slice (some ⟨b, 0, none⟩) 2 2) 2 (bs (be 2 x)) ∧ Below W.heap.size W w' ∧ Kh w f t g w' := fun W h =>
  (bytes_any x 2 W hx (by omega)).mono fun _ _ ⟨he, ho⟩ => ⟨_, he, own_base ho.1 h.lt, ho.2, h.next ho.2⟩
theorem bytes_gh4 {w : World} {f t g : Nat}(x : Nat) (hx : x < 4294967296) :
    ∀ W, Kh w f t g W → Calls Try.prog 20 #[.int .u64 (x : Int), .int .i64 4] W fun e w' => ∃ b, e = .returned (.slice (some ⟨b, 0, none⟩) 4 4) ∧
      w'.ownsRow (w.heap.size + 1) 5 1 (.slice (some ⟨b, 0, none⟩) 4 4) 4 (bs (be 4 x)) ∧ Below W.heap.size W w' ∧ Kh w f t g w' := fun W h =>
  (bytes_any x 4 W hx (by omega)).mono fun _ _ ⟨he, ho⟩ => ⟨_, he, own_base ho.1 h.lt, ho.2, h.next ho.2⟩
theorem Kh.grown_ {w W W' : World} {f t g : Nat} {v : Value} {n : Nat} {xs : List Value} (h : Kh w f t g W) (ho : W.ownsRow (w.heap.size + 1) 5 1 v n xs) (hgr : W.grownBy W' v.ownBlock) : Kh w f t g W' := by
  have hb : Below (w.heap.size + 1) W W' := (Below.refl _ _).grown hgr h.lt (fun k hk => (ho.lt k hk).1)
  exact ⟨(hb.block _ (by omega)).trans h.1, h.2.trans (hb.mono (by omega))⟩
theorem wrap_u64_of {x : Nat} (h : x < 4294967296) : IntKind.u64.wrap (x : Int) = (x : Int) := by rw [IntKind.wrap_u64]; omega
set_option maxRecDepth 100000 in
set_option maxHeartbeats 1000000 in
theorem with_any (f t g s : Nat) (A : Option Addr) (n c : Nat) (l : List Int) (w : World) (hf : f < 65536) (ht : t < 65536) (hg : g < 4294967296) (hs : s < 4294967296) (hl : l.length = n) (hn : n ≤ 100000) (hr : Row w A (bs l)) (hz : A = none → n = 0 ∧ c = 0) :
    Calls Try.prog 13 #[.agg #[.int .u16 (f : Int), .int .u16 (t : Int), .int .u32 (g : Int)], .int .u32 (s : Int), .slice A n c] w fun e w' => ∃ A' c', e = .returned (.slice A' (12 + n) c') ∧ Own w w' A' (12 + n) c' (pk f t g s l) := by
  obtain ⟨i0, hi0, hz0, hz1, hz2⟩ := info_parts Try_info8
  have HI := Lib.hid hi0
  have HZ0 := Lib.hid hz0
  have HZ1 := Lib.hid hz1
  have HZ2 := Lib.hid hz2
  have hg0 : Kh w f t g (w.alloc (.cells #[.int .u16 (f : Int), .int .u16 (t : Int), .int .u32 (g : Int)] 25)) := kh_new w f t g
  have HF := Lib.hid (bytes_gh2 (w := w) (f := f) (t := t) (g := g) f (by omega))
  have HT := Lib.hid (bytes_gh2 (w := w) (f := f) (t := t) (g := g) t (by omega))
  have HG4 := Lib.hid (bytes_gh4 (w := w) (f := f) (t := t) (g := g) g hg)
  have HS4 := Lib.hid (bytes_gh4 (w := w) (f := f) (t := t) (g := g) s hs)
  have HL := Lib.hid hl
  have HR := Lib.hid hr
  have HZ := Lib.hid hz
  have wf := wrap_u64_of (show f < 4294967296 by omega)
  have wt := wrap_u64_of (show t < 4294967296 by omega)
  have wg := wrap_u64_of hg
  have ws := wrap_u64_of hs
  clear hi0 hz0 hz1 hz2 hr hl hz
  go_enter Try.func13, Try.ntmps13
  go_wp2_with fail
  go_cut [7] from 8 to 16 (fun v7 W => ∃ b c', v7 = .slice (some ⟨b, 0, none⟩) 4 c' ∧ Hid (W.ownsRow (w.heap.size + 1) 5 1 (.slice (some ⟨b, 0, none⟩) 4 c') 4 (bs (be 2 f ++ be 2 t))) ∧ Hid (Kh w f t g W))
  case first =>
    have hg1 : Kh w f t g (w.alloc (.cells #[.int .u16 (f : Int), .int .u16 (t : Int), .int .u32 (g : Int)] 25)).drew := hg0.drew
    go_region_law (first
      | (refine step_append_lies _ rfl (.tmp 11) (.tmp 15) 26 rfl (w.heap.size + 1) 5 i0 (.int .u8 0) 1 1 Try.underlying26 HI.out HZ0.out HZ1.out HZ2.out rfl (by decide) _ _ _ rfl (own_below ho1 hb2) ⟨b2, 0, none⟩ 2 2 (bs (be 2 t)) rfl (by rw [bs_len, be_len]) (bcells (row_of_own ho2)) (bs_one _) (by omega) (by unfold maxLen; omega) (by omega) hg3.lt _ rfl ?_; intro b3 cap3 w3 hown3 hgrow3 _ _)
      | (go_simp; go_at_call 20; (with_reducible refine (HF.out _ ?_).mono ?_); assumption; rintro e w1 ⟨b1, rfl, ho1, hb1, hg2⟩; have c1 := hg2.c1)
      | (go_simp; go_at_call 20; (with_reducible refine (HT.out _ ?_).mono ?_); assumption; rintro e w2 ⟨b2, rfl, ho2, hb2, hg3⟩))
    all_goals
      rw [bs_app] at hown3
      have hz := hg3.grown_ (own_below ho1 hb2) hgrow3
      go_wp2_with fail
      go_meet
      case rel => exact ⟨b3, cap3, rfl, hown3, hz⟩
  case rest =>
    obtain ⟨b, c', rfl, ho, hgh⟩ := hcut
    have c2 := hgh.out.c2
    go_wp2_with fail
    (with_reducible refine (HG4.out _ hgh.out).mono ?_)
    rintro e w4 ⟨b4, rfl, ho4, hb4, hg4⟩
    have HO4 := Lib.hid ho4
    have HB4 := Lib.hid hb4
    have HG5 := Lib.hid hg4
    clear ho4 hb4 hg4 c2
    go_wp2_with (at_builtin; refine wpList_append_lies _ rfl (.tmp 17) (.tmp 21) 26 rfl (w.heap.size + 1) 5 i0 (.int .u8 0) 1 1 Try.underlying26 HI.out HZ0.out HZ1.out HZ2.out rfl (by decide) _ _ _ rfl (own_below ho.out HB4.out) ⟨b4, 0, none⟩ 4 4 (bs (be 4 g)) rfl (by rw [bs_len, be_len]) (bcells (row_of_own HO4.out)) (bs_one _) (by omega) (by unfold maxLen; omega) (by omega) HG5.out.lt _ rfl ?_; intro b5 cap5 w5 hown5 hgrow5 _ _)
    rw [bs_app] at hown5
    have HO5 := Lib.hid hown5
    have HK5 := Lib.hid (HG5.out.grown_ (own_below ho.out HB4.out) hgrow5)
    clear hown5 hgrow5
    go_wp2_with fail
    (with_reducible refine (HS4.out _ HK5.out).mono ?_)
    rintro e w6 ⟨b6, rfl, ho6, hb6, hg6⟩
    have HO6 := Lib.hid ho6
    have HB6 := Lib.hid hb6
    have HG6 := Lib.hid hg6
    clear ho6 hb6 hg6
    go_upto_region 4 with (at_builtin; refine wpList_append_lies _ rfl (.tmp 23) (.tmp 26) 26 rfl (w.heap.size + 1) 5 i0 (.int .u8 0) 1 1 Try.underlying26 HI.out HZ0.out HZ1.out HZ2.out rfl (by decide) _ _ _ rfl (own_below HO5.out HB6.out) ⟨b6, 0, none⟩ 4 4 (bs (be 4 s)) rfl (by rw [bs_len, be_len]) (bcells (row_of_own HO6.out)) (bs_one _) (by omega) (by unfold maxLen; omega) (by omega) HG6.out.lt _ rfl ?_; intro b7 cap7 w7 hown7 hgrow7 _ _)
    rw [bs_app] at hown7
    have HO7 := Lib.hid hown7
    have HK7 := Lib.hid (HG6.out.grown_ (own_below HO5.out HB6.out) hgrow7)
    have HR7 := Lib.hid (HR.out.below HK7.out.2)
    have hpk : ∀ m : List Int, be 2 f ++ be 2 t ++ be 4 g ++ be 4 s ++ m = pk f t g s m := fun m => by unfold pk; simp only [List.append_assoc]
    have HPK := Lib.hid hpk
    clear hown7 hgrow7 hpk
    rcases A with _ | a
    · obtain ⟨rfl, rfl⟩ := HZ.out rfl
      have hl0 : l = [] := List.eq_nil_of_length_eq_zero HL.out
      subst hl0
      go_wp2_with (at_builtin; refine wpList_append_own_none rfl (.tmp 28) (.tmp 29) 26 rfl (w.heap.size + 1) 5 i0 1 Try.underlying26 HI.out _ 12 _ rfl HO7.out rfl ?_)
      go_wp2_with fail
      go_ret
      have e := HPK.out []
      rw [List.append_nil] at e
      rw [← e]
      exact ⟨_, _, rfl, own_base HO7.out (Nat.le_succ _), HK7.out.2⟩
    · go_wp2_with (at_builtin; refine wpList_append_own _ rfl (.tmp 28) (.tmp 29) 26 rfl (w.heap.size + 1) 5 i0 (.int .u8 0) 1 1 Try.underlying26 HI.out HZ0.out HZ1.out HZ2.out rfl (by decide) _ 12 _ rfl HO7.out a n c (bs l) rfl (by rw [bs_len, HL.out]; omega) (bcells HR7.out) (bs_one l) (by unfold maxLen; omega) (by omega) HK7.out.lt ?_; intro v' w8 hown hgr hv)
      rw [bs_app, HPK.out] at hown
      have HK8 := Lib.hid (HK7.out.grown_ HO7.out hgr)
      have HO8 := Lib.hid hown
      clear hown hgr hv
      obtain ⟨A', c', rfl⟩ := own_form HO8.out
      go_wp2_with fail
      go_ret
      exact ⟨_, _, rfl, own_base HO8.out (Nat.le_succ _), HK8.out.2⟩
end Go.Proofs.Ytgepmicodfhhmaa
