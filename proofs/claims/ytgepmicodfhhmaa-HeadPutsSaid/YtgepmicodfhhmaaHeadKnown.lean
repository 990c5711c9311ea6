/-
  The statements' 'known' of layer 3 answers true.
-/
import Derived.Test.YtgepmicodfhhmaaHeadTake
namespace Go.Proofs.Ytgepmicodfhhmaa
open Go.RowKit Crc Head

/-- The chapter's packet. -/
def kpk : List Int := (pt 1 2 3 []).1
theorem kpt : pt 1 2 3 [] = (kpk, 0) := by decide +kernel
theorem kpk_len : kpk.length = 12 := by decide +kernel
theorem kpk_byt : Byt kpk := by unfold Byt; decide +kernel
theorem kpk_8 : strOf (kpk.take 8) = { data := #[0, 1, 0, 2, 0, 0, 0, 3] } := by decide +kernel
theorem ktk : tk kpk = ⟨1, 2, 3, [], 0⟩ := by decide +kernel
theorem ktk11 : tk (kpk.take 11) = ⟨0, 0, 0, [], 30⟩ := by decide +kernel
theorem ktk14 : tk (kpk ++ [0, 0]) = ⟨0, 0, 0, [], 32⟩ := by decide +kernel
theorem ktk0 : tk (List.replicate 12 0) = ⟨0, 0, 0, [], 31⟩ := by decide +kernel
theorem kpt3 : pt 1 2 3 (List.replicate 3 0) = ([], 32) := by decide +kernel
theorem kpt1492 : pt 1 2 3 (List.replicate 1492 0) = ([], 3) := by
  unfold pt
  rw [List.length_replicate]
  rfl
theorem rep_byt (n : Nat) : Byt (List.replicate n 0) := fun c h => by rw [List.eq_of_mem_replicate h]; omega

theorem ktake0 {A : Option Addr} {n c : Nat} {l : List Int} (h : tk l = ⟨1, 2, 3, [], 0⟩) (W : World) (hl : l.length = n) (hn : n ≤ 100000) (hnc : n ≤ c) (hcm : c ≤ maxLen) (hb : Byt l) (hr : Row W A (bs l)) :
    Calls Try.prog 9 #[.slice A n c] W fun e w' => ∃ A' c', e = .returned (.tuple #[.agg #[.int .u16 1, .int .u16 2, .int .u32 3], .slice A' 0 c', .int .i64 0]) ∧ Below W.heap.size W w' := by
  refine (htake_any A n c l W hl hn hnc hcm hb hr).mono ?_
  rw [h]
  rintro e w' ⟨A', n', c', he, ho⟩
  obtain rfl : n' = 0 := by rw [← ho.len]; rfl
  exact ⟨A', c', he, ho.2⟩
theorem ktakeE {A : Option Addr} {n c : Nat} {l : List Int} {err : Int} (h : tk l = ⟨0, 0, 0, [], err⟩) (W : World) (hl : l.length = n) (hn : n ≤ 100000) (hnc : n ≤ c) (hcm : c ≤ maxLen) (hb : Byt l) (hr : Row W A (bs l)) :
    Calls Try.prog 9 #[.slice A n c] W fun e w' => ∃ A' c', e = .returned (.tuple #[.agg #[.int .u16 0, .int .u16 0, .int .u32 0], .slice A' 0 c', .int .i64 err]) ∧ Below W.heap.size W w' := by
  refine (htake_any A n c l W hl hn hnc hcm hb hr).mono ?_
  rw [h]
  rintro e w' ⟨A', n', c', he, ho⟩
  obtain rfl : n' = 0 := by rw [← ho.len]; rfl
  exact ⟨A', c', he, ho.2⟩
theorem kputE {A : Option Addr} {n c : Nat} {l : List Int} {err : Int} (h : pt 1 2 3 l = ([], err)) (W : World) (hl : l.length = n) (hn : n ≤ 100000) (hb : Byt l) (hr : Row W A (bs l)) (hz : A = none → n = 0 ∧ c = 0) :
    Calls Try.prog 7 #[.agg #[.int .u16 1, .int .u16 2, .int .u32 3], .slice A n c] W fun e w' => ∃ A' c', e = .returned (.tuple #[.slice A' 0 c', .int .i64 err]) ∧ Below W.heap.size W w' := by
  refine (hput_any 1 2 3 A n c l W (by omega) (by omega) (by omega) hl hn hb hr hz).mono ?_
  rw [h]
  rintro e w' ⟨A', n', c', he, ho⟩
  obtain rfl : n' = 0 := by rw [← ho.len]; rfl
  exact ⟨A', c', he, ho.2⟩
theorem row_vb (W : World) (l : List Int) : Row (W.alloc (.cells (vb l) 5)) (some ⟨W.heap.size, 0, none⟩) (bs l) := Row.new W (bs l) _ _
theorem row_vbd (W : World) (l : List Int) : Row (W.alloc (.cells (vb l) 5)).drew (some ⟨W.heap.size, 0, none⟩) (bs l) := Row.new W (bs l) _ _
/-- The two heads that are kept. -/
def Gk (w : World) (b : Nat) (W : World) : Prop := Kh w 1 2 3 W ∧ W.heap[b]? = some (.cells #[.int .u16 1, .int .u16 2, .int .u32 3] 25 (0, 0))
theorem Gk.next {w W W' : World} {b : Nat} (h : Gk w b W) (hb : Below W.heap.size W W') : Gk w b W' := ⟨h.1.next hb, (hb.block _ (Array.getElem?_eq_some_iff.1 h.2).1).trans h.2⟩
theorem Gk.drew {w W : World} {b : Nat} (h : Gk w b W) : Gk w b W.drew := ⟨h.1.drew, h.2⟩
theorem Gk.alloc {w W : World} {b : Nat} (h : Gk w b W) (o : Obj) : Gk w b (W.alloc o) := h.next ((Below.refl _ _).alloc (Nat.le_refl _) _)
theorem Gk.grown_ {w W W' : World} {b g n : Nat} {A c : Nat} {xs : List Value} (h : Gk w b W) (ho : W.ownsRow (w.heap.size + 1) 5 1 (.slice (some ⟨g, 0, none⟩) A c) n xs) (hgr : W.grownBy W' (Value.ownBlock (.slice (some ⟨g, 0, none⟩) A c))) (hne : b ≠ g) : Gk w b W' :=
  ⟨h.1.grown_ ho hgr, (hgr.block _ (Array.getElem?_eq_some_iff.1 h.2).1 (by simp only [Value.ownBlock, ne_eq, Option.some.injEq]; exact hne)).trans h.2⟩
theorem Gk.a0 {w W : World} {b : Nat} (h : Gk w b W) : W.cell? ⟨w.heap.size, 0, none⟩ = some (.int .u16 1) := cell_of_row _ _ 0 _ _ _ h.1.1
theorem Gk.a1 {w W : World} {b : Nat} (h : Gk w b W) : W.cell? ⟨w.heap.size, 1, none⟩ = some (.int .u16 2) := cell_of_row _ _ 1 _ _ _ h.1.1
theorem Gk.a2 {w W : World} {b : Nat} (h : Gk w b W) : W.cell? ⟨w.heap.size, 2, none⟩ = some (.int .u32 3) := cell_of_row _ _ 2 _ _ _ h.1.1
theorem Gk.b0 {w W : World} {b : Nat} (h : Gk w b W) : W.cell? ⟨b, 0, none⟩ = some (.int .u16 1) := cell_of_row _ _ 0 _ _ _ h.2
theorem Gk.b1 {w W : World} {b : Nat} (h : Gk w b W) : W.cell? ⟨b, 1, none⟩ = some (.int .u16 2) := cell_of_row _ _ 1 _ _ _ h.2
theorem Gk.b2 {w W : World} {b : Nat} (h : Gk w b W) : W.cell? ⟨b, 2, none⟩ = some (.int .u32 3) := cell_of_row _ _ 2 _ _ _ h.2

set_option maxRecDepth 100000 in
set_option maxHeartbeats 1000000 in
theorem known_any (w : World) :
    Calls Try.prog 6 #[] w fun e w' => e = .returned (.bool true) ∧ Below w.heap.size w w' := by
  obtain ⟨i0, hi0, hz0, hz1, hz2⟩ := info_parts Try_info8
  have HI := Lib.hid hi0
  have HZ0 := Lib.hid hz0
  have HZ1 := Lib.hid hz1
  have HZ2 := Lib.hid hz2
  clear hi0 hz0 hz1 hz2
  have k1 : ∀ W, Kh w 1 2 3 W → Calls Try.prog 7 #[.agg #[.int .u16 1, .int .u16 2, .int .u32 3], .slice none 0 0] W fun e w' => ∃ g c, e = .returned (.tuple #[.slice (some ⟨g, 0, none⟩) 12 c, .int .i64 0]) ∧ Hid (w'.ownsRow (w.heap.size + 1) 5 1 (.slice (some ⟨g, 0, none⟩) 12 c) 12 (bs kpk)) ∧ Hid (Kh w 1 2 3 w') := fun W h => by
    refine (hput_any 1 2 3 none 0 0 [] W (by omega) (by omega) (by omega) rfl (by omega) (fun c h => by simp at h) (Row.nil_ _ _) (fun _ => ⟨rfl, rfl⟩)).mono ?_
    rw [kpt]
    rintro e w' ⟨A, n, c, he, ho⟩
    have hn : n = 12 := by rw [← ho.len]; exact kpk_len
    subst hn
    obtain ⟨g, c', hv, _, _⟩ := ho.1.form (by omega)
    simp only [Value.slice.injEq] at hv
    obtain ⟨rfl, _, rfl⟩ := hv
    exact ⟨g, c, he, own_base ho.1 h.lt, h.next ho.2⟩
  have K1 := Lib.hid k1
  clear k1
  have hmk3 : ∀ W, (Instr.makeSlice 26 (.int .i64 3) (.int .i64 3)).run Try.prog W = .ok (.slice (some ⟨W.heap.size, 0, none⟩) 3 3) (W.alloc (.cells (vb (List.replicate 3 0)) 5)) := fun W => run_make_bytes 3 (by omega) W
  have hmk1492 : ∀ W, (Instr.makeSlice 26 (.int .i64 1492) (.int .i64 1492)).run Try.prog W = .ok (.slice (some ⟨W.heap.size, 0, none⟩) 1492 1492) (W.alloc (.cells (vb (List.replicate 1492 0)) 5)) := fun W => run_make_bytes 1492 (by omega) W
  have hmk12 : ∀ W, (Instr.makeSlice 26 (.int .i64 12) (.int .i64 12)).run Try.prog W = .ok (.slice (some ⟨W.heap.size, 0, none⟩) 12 12) (W.alloc (.cells (vb (List.replicate 12 0)) 5)) := fun W => run_make_bytes 12 (by omega) W
  have p3 : ∀ w4 W, Hid (Gk w w4 W) → Calls Try.prog 7 #[.agg #[.int .u16 1, .int .u16 2, .int .u32 3], .slice (some ⟨W.heap.size, 0, none⟩) 3 3] (W.alloc (.cells (vb (List.replicate 3 0)) 5)).drew fun e w' => ∃ A' c', e = .returned (.tuple #[.slice A' 0 c', .int .i64 32]) ∧ Hid (Gk w w4 w') := fun w4 W h =>
    (kputE kpt3 (W.alloc (.cells (vb (List.replicate 3 0)) 5)).drew List.length_replicate (by omega) (rep_byt 3) (row_vbd W _) (fun h => by cases h)).mono fun _ _ ⟨A', c', he, hb⟩ => ⟨A', c', he, (h.out.alloc _).drew.next hb⟩
  have p1492 : ∀ w4 W, Hid (Gk w w4 W) → Calls Try.prog 7 #[.agg #[.int .u16 1, .int .u16 2, .int .u32 3], .slice (some ⟨W.heap.size, 0, none⟩) 1492 1492] (W.alloc (.cells (vb (List.replicate 1492 0)) 5)).drew fun e w' => ∃ A' c', e = .returned (.tuple #[.slice A' 0 c', .int .i64 3]) ∧ Hid (Gk w w4 w') := fun w4 W h =>
    (kputE kpt1492 (W.alloc (.cells (vb (List.replicate 1492 0)) 5)).drew List.length_replicate (by omega) (rep_byt 1492) (row_vbd W _) (fun h => by cases h)).mono fun _ _ ⟨A', c', he, hb⟩ => ⟨A', c', he, (h.out.alloc _).drew.next hb⟩
  have t12 : ∀ w4 W, Hid (Gk w w4 W) → Calls Try.prog 9 #[.slice (some ⟨W.heap.size, 0, none⟩) 12 12] (W.alloc (.cells (vb (List.replicate 12 0)) 5)) fun e w' => ∃ A' c', e = .returned (.tuple #[.agg #[.int .u16 0, .int .u16 0, .int .u32 0], .slice A' 0 c', .int .i64 31]) ∧ Hid (Gk w w4 w') := fun w4 W h =>
    (ktakeE ktk0 (W.alloc (.cells (vb (List.replicate 12 0)) 5)) List.length_replicate (by omega) (by omega) (by decide) (rep_byt 12) (row_vb W _)).mono fun _ _ ⟨A', c', he, hb⟩ => ⟨A', c', he, (h.out.alloc _).next hb⟩
  generalize vb (List.replicate 3 0) = z3 at hmk3 p3
  generalize vb (List.replicate 1492 0) = z1492 at hmk1492 p1492
  generalize vb (List.replicate 12 0) = z12 at hmk12 t12
  have P3 := Lib.hid p3
  have P1492 := Lib.hid p1492
  have T12 := Lib.hid t12
  have HM3 := Lib.hid hmk3
  have HM1492 := Lib.hid hmk1492
  have HM12 := Lib.hid hmk12
  clear p3 p1492 t12 hmk3 hmk1492 hmk12
  go_enter Try.func6, Try.ntmps6
  go_wp2_with fail
  refine (K1.out _ (kh_new w 1 2 3)).mono ?_
  rintro e w1 ⟨g, c, rfl, ho1, hk1⟩
  have hcap : 12 ≤ c ∧ c ≤ maxLen := by
    obtain ⟨_, _, _, _, _, h1, h2⟩ := own_cells ho1.out
    exact ⟨h1, h2⟩
  have hc12 := hcap.1
  have HCM := Lib.hid hcap.2
  have hrow := row_of_own ho1.out
  have hr8 : Row w1 (some ⟨g, 0, none⟩) (bs (kpk.take 8)) := by have := hrow.take 8; simpa [bs] using this
  have cv : (convert 26 9 (.slice (some ⟨g, 0, none⟩) 8 c)).run Try.prog w1 = .ok (.string { data := #[0, 1, 0, 2, 0, 0, 0, 3] }) w1 := by
    rw [← kpk_8]
    exact run_strOf Try.underlying26 Try.underlying5 Try.underlying9 (by rw [List.length_take, kpk_len]; rfl) hr8
  have HROW := Lib.hid hrow
  clear hr8 hrow hcap
  go_wp2_with fail
  clear cv
  refine (ktake0 ktk w1 kpk_len (by omega) hc12 HCM.out kpk_byt HROW.out).mono ?_
  rintro e w3 ⟨A3, c3, rfl, hb3⟩
  have HO3 := Lib.hid (own_below (own_below ho1.out hb3) ((Below.refl _ _).alloc (Nat.le_refl _) (.cells #[.int .u16 1, .int .u16 2, .int .u32 3] 25)))
  have HG3 : Hid (Gk w w3.heap.size (w3.alloc (.cells #[.int .u16 1, .int .u16 2, .int .u32 3] 25))) := ⟨(hk1.out.next hb3).alloc _, (kh_new w3 1 2 3).1⟩
  have hg3 : g < w3.heap.size := ((own_below ho1.out hb3).lt g rfl).2
  have HGN : Hid (w3.heap.size ≠ g) := by show w3.heap.size ≠ g; omega
  clear hb3 ho1 hk1 HROW
  go_wp2_with fail
  have hr11 : Row (w3.alloc (.cells #[.int .u16 1, .int .u16 2, .int .u32 3] 25)) (some ⟨g, 0, none⟩) (bs (kpk.take 11)) := by have := (row_of_own HO3.out).take 11; simpa [bs] using this
  refine (ktakeE ktk11 _ (by rw [List.length_take, kpk_len]; rfl) (by omega) (by omega) HCM.out (Byt.take kpk_byt 11) hr11).mono ?_
  rintro e w5 ⟨A5, c5, rfl, hb5⟩
  have HG5 : Hid (Gk w w3.heap.size w5) := HG3.out.next hb5
  have HO5 := Lib.hid (own_below HO3.out hb5)
  have HG6 : Hid (Gk w w3.heap.size (w5.alloc (.cells #[.int .u16 0, .int .u16 0, .int .u32 0] 25))) := HG5.out.alloc _
  have HO6 := Lib.hid (HO5.out.alloc (.cells #[.int .u16 0, .int .u16 0, .int .u32 0] 25))
  have HG7 : Hid (Gk w w3.heap.size ((w5.alloc (.cells #[.int .u16 0, .int .u16 0, .int .u32 0] 25)).alloc (.cells #[.int .u8 0, .int .u8 0] 5))) := HG6.out.alloc _
  have HO7 := Lib.hid (HO6.out.alloc (.cells #[.int .u8 0, .int .u8 0] 5))
  have hnew : ∀ j u, (bs [0, 0])[j]? = some u → ((w5.alloc (.cells #[.int .u16 0, .int .u16 0, .int .u32 0] 25)).alloc (.cells #[.int .u8 0, .int .u8 0] 5)).cell? ((⟨w5.heap.size + 1, 0, none⟩ : Addr).add j) = some u := by
    have := bcells (Row.new (w5.alloc (.cells #[.int .u16 0, .int .u16 0, .int .u32 0] 25)) (bs [0, 0]) 5 (0, 0))
    rw [World.size_alloc] at this
    exact this
  have HNW := Lib.hid hnew
  have hs7 : w.heap.size + 1 ≤ ((w5.alloc (.cells #[.int .u16 0, .int .u16 0, .int .u32 0] 25)).alloc (.cells #[.int .u8 0, .int .u8 0] 5)).heap.size := HG7.out.1.lt
  have HS7 := Lib.hid hs7
  clear hb5 hnew hs7 hr11 hg3
  go_wp2_with (at_builtin; refine wpList_append_lies _ rfl (.tmp 52) (.tmp 53) 26 rfl (w.heap.size + 1) 5 i0 (.int .u8 0) 1 1 Try.underlying26 HI.out HZ0.out HZ1.out HZ2.out rfl (by decide) _ 12 _ rfl HO7.out ⟨w5.heap.size + 1, 0, none⟩ 2 2 (bs [0, 0]) rfl rfl HNW.out (bs_one _) (by omega) (by decide) (by decide) HS7.out _ rfl ?_; intro g8 c8 w8 hown8 hgrow8 _ _)
  have HG8 : Hid (Gk w w3.heap.size w8) := HG7.out.grown_ HO7.out hgrow8 HGN.out
  rw [bs_app] at hown8
  have HO8 := Lib.hid hown8
  clear hown8 hgrow8
  have hcap8 : 14 ≤ c8 ∧ c8 ≤ maxLen := by
    obtain ⟨_, _, _, _, _, h1, h2⟩ := own_cells HO8.out
    exact ⟨h1, h2⟩
  refine (ktakeE ktk14 w8 (by rw [List.length_append, kpk_len]; rfl) (by omega) hcap8.1 hcap8.2 (byt_app kpk_byt (by intro c hc; simp at hc; omega)) (row_of_own HO8.out)).mono ?_
  rintro e w9 ⟨A9, c9, rfl, hb9⟩
  have HG9 : Hid (Gk w w3.heap.size w9) := HG8.out.next hb9
  have HG10 : Hid (Gk w w3.heap.size (w9.alloc (.cells #[.int .u16 0, .int .u16 0, .int .u32 0] 25))) := HG9.out.alloc _
  clear hb9 hcap8 HG8 HG7 HG6 HG5 HG3 HO8 HO7 HO6 HO5 HO3 HNW HS7
  go_upto_region 8 with fail
  generalize w9.alloc (.cells #[.int .u16 0, .int .u16 0, .int .u32 0] 25) = W10 at HG10 ⊢
  go_cut [12, 13] from 59 to 64 (fun v12 v13 W => ∃ A c, v12 = .slice A 0 c ∧ v13 = .int .i64 32 ∧ Hid (Gk w w3.heap.size W))
  case first =>
    have e0 := HG10.out.a0
    have e1 := HG10.out.a1
    have e2 := HG10.out.a2
    have hmk := HM3.out
    have hgd := (HG10.out.alloc (.cells z3 5)).drew
    have e3 := hgd.a0
    have e4 := hgd.a1
    have e5 := hgd.a2
    clear hgd
    go_region_with (first
      | (go_at_call 7; (with_reducible refine (P3.out w3.heap.size W10 HG10).mono ?_); rintro e w11 ⟨A11, c11, rfl, hk11⟩))
    all_goals
      go_wp2_with fail
      go_meet
      case rel => exact ⟨_, _, rfl, rfl, hk11⟩
  case rest =>
    obtain ⟨A12, c12, rfl, rfl, hg12⟩ := hcut
    have HG12 : Hid (Gk w w3.heap.size wc) := hg12
    clear hg12 HG10
    go_upto_region 9 with fail
    go_cut [14, 15] from 65 to 70 (fun v14 v15 W => ∃ A c, v14 = .slice A 0 c ∧ v15 = .int .i64 3 ∧ Hid (Gk w w3.heap.size W))
    case first =>
      have e0 := HG12.out.a0
      have e1 := HG12.out.a1
      have e2 := HG12.out.a2
      have hmk := HM1492.out
      have hgd := (HG12.out.alloc (.cells z1492 5)).drew
      have e3 := hgd.a0
      have e4 := hgd.a1
      have e5 := hgd.a2
      clear hgd
      go_region_with (first
        | (go_at_call 7; (with_reducible refine (P1492.out w3.heap.size wc HG12).mono ?_); rintro e w11 ⟨A11, c11, rfl, hk11⟩))
      all_goals
        go_wp2_with fail
        go_meet
        case rel => exact ⟨_, _, rfl, rfl, hk11⟩
    case rest =>
      obtain ⟨A14, c14, rfl, rfl, hg14⟩ := hcut
      have hmk := HM12.out
      go_wp2_with fail
      clear hmk
      refine (T12.out w3.heap.size _ hg14).mono ?_
      rintro e w16 ⟨A16, c16, rfl, hg16⟩
      have HG16 : Hid (Gk w w3.heap.size w16) := hg16
      have HG17 : Hid (Gk w w3.heap.size (w16.alloc (.cells #[.int .u16 0, .int .u16 0, .int .u32 0] 25))) := HG16.out.alloc _
      clear hg14 hg16
      go_upto_region 11 with fail
      generalize w16.alloc (.cells #[.int .u16 0, .int .u16 0, .int .u32 0] 25) = W17 at HG17 ⊢
      have e0 := HG17.out.a0
      have e1 := HG17.out.a1
      have e2 := HG17.out.a2
      have e3 := HG17.out.b0
      have e4 := HG17.out.b1
      have e5 := HG17.out.b2
      go_wp2_with fail
      go_ret
      exact ⟨rfl, HG17.out.1.2⟩
end Go.Proofs.Ytgepmicodfhhmaa
