/-
  ChunkBack: the walk.
-/
import Derived.Test.YtbliipjiilmbcaaZP1h
import Derived.Test.YtbliipjiilmbcaaZP2f
import Derived.Test.YtbliipjiilmbcaaZP2b
import Derived.Test.YtbliipjiilmbcaaZP2a
import Derived.Deep.RegionHeld3
set_option linter.unusedVariables false
set_option linter.unusedSimpArgs false
namespace Go.Proofs.Ytbliipjiilmbcaa
open Go.RowKit Wire Tlv Chunk

/-- The blocks of the chunk and of the thing that were handed in. -/
def CB (w : World) (cs xv : Array Value) (W : World) : Prop := Bk W w.heap.size cs 32 ∧ Bk W (w.heap.size + 1) xv 25 ∧ Below w.heap.size w W
theorem CB.new (w : World) (cs xv : Array Value) : CB w cs xv ((w.alloc (.cells cs 32)).alloc (.cells xv 25)) := by
  refine ⟨(Bk.new w cs _).alloc _, ?_, ((Below.refl _ _).alloc (Nat.le_refl _) _).alloc (by simp) _⟩
  have := Bk.new (w.alloc (.cells cs 32)) xv 25
  rw [World.size_alloc] at this
  exact this
theorem CB.next {w W W' : World} {cs xv : Array Value} (h : CB w cs xv W) (hb : Below W.heap.size W W') : CB w cs xv W' := ⟨h.1.next hb, h.2.1.next hb, bnext' h.2.2 hb⟩
theorem tlist_tb {y : Tv} (hy : y.ok) (hf : fit true y) (hl : y.v.length ≤ 65531) : tlist true (tb true y) = ([y], 0) := by
  have h := tl_cat (ch := true) (xs := [y]) [] (fun x hx => by
    simp at hx
    subst hx
    exact ⟨hy, hf, hl⟩)
  simp only [cat, List.flatMap_cons, List.flatMap_nil, List.append_nil, tl_nil] at h
  unfold tlist
  rw [h]
  rfl
theorem one_of {qs : List Q} {y : Tv} (h : qs.map (·.1) = [y]) : ∃ u, qs = [(y, u)] := by
  match qs, h with
  | [(z, u)], h =>
    simp at h
    exact ⟨u, by rw [h]⟩
theorem ckSame_lit (c : Ck) (s s' : Ls) (w : World) (h : Ch w c s) (h' : Ch w c s') : Calls Try.prog 14 #[.agg #[.int .u8 (c.kd : Int), .int .u8 (c.fl : Int), .int .u32 (c.tag : Int), .int .u32 (c.rw : Int), .int .u32 (c.tsn : Int), .int .u16 (c.out : Int), .int .u16 (c.inn : Int), .int .u16 (c.sid : Int), .int .u16 (c.ssn : Int), .int .u32 (c.ppid : Int), .slice s.dA s.dn s.dc, .slice s.aA s.an s.ac, .slice s.gA s.gn s.gc, .slice s.uA s.un s.uc, .slice s.cA s.cn s.cc], .agg #[.int .u8 (c.kd : Int), .int .u8 (c.fl : Int), .int .u32 (c.tag : Int), .int .u32 (c.rw : Int), .int .u32 (c.tsn : Int), .int .u16 (c.out : Int), .int .u16 (c.inn : Int), .int .u16 (c.sid : Int), .int .u16 (c.ssn : Int), .int .u32 (c.ppid : Int), .slice s'.dA s'.dn s'.dc, .slice s'.aA s'.an s'.ac, .slice s'.gA s'.gn s'.gc, .slice s'.uA s'.un s'.uc, .slice s'.cA s'.cn s'.cc]] w fun e w' => e = .returned (.bool true) ∧ Below w.heap.size w w' := ckSame_any c s s' w h h'
theorem ckSame_zl (c : Ck) (s : Ls) (w : World) (h : Ch w c s) (hc : c = zero) : Calls Try.prog 14 #[.agg #[.int .u8 (c.kd : Int), .int .u8 (c.fl : Int), .int .u32 (c.tag : Int), .int .u32 (c.rw : Int), .int .u32 (c.tsn : Int), .int .u16 (c.out : Int), .int .u16 (c.inn : Int), .int .u16 (c.sid : Int), .int .u16 (c.ssn : Int), .int .u32 (c.ppid : Int), .slice s.dA s.dn s.dc, .slice s.aA s.an s.ac, .slice s.gA s.gn s.gc, .slice s.uA s.un s.uc, .slice s.cA s.cn s.cc], .agg zlit] w fun e w' => e = .returned (.bool true) ∧ Below w.heap.size w w' := by
  subst hc
  exact ckSame_any zero s nol w h (ch_none (W := w) 0 zero_ok rfl rfl rfl rfl rfl).ch
theorem ckMay_cv (c : Ck) (s : Ls) (w : World) (h : Ch w c s) : Calls Try.prog 18 #[.agg (cv c s)] w fun e w' => e = .returned (.bool (mayB c)) ∧ Below w.heap.size w w' := ckMay_lit c s w h
theorem add_zero' (a : Addr) : a.add (0 * 3) = a := by
  unfold Addr.add
  split <;> simp_all
/-- What is asked of what was taken. -/
theorem taken_says {x : Tv} {d : Ck} (hx : x.ok) (hl : x.v.length ≤ 5000) (h : take x = some d) : may d ∧ cput d = (tb true ⟨d.kd, d.fl, val d⟩, 0) ∧ (d.kd ≠ 1 → d.kd ≠ 2 → tp true x = (tb true ⟨d.kd, d.fl, val d⟩, 0)) := by
  have h255 : x.k ≤ 255 := by
    refine Nat.le_of_not_lt fun hh => ?_
    unfold take at h
    rw [if_pos hh] at h
    cases h
  have hm : may d := by
    rw [take_mayO h255] at h
    obtain ⟨c, _, hm⟩ := Option.bind_eq_some_iff.1 h
    by_cases hmay : may c
    · rw [mayO, if_pos hmay] at hm; rw [← Option.some.inj hm]; exact hmay
    · rw [mayO, if_neg hmay] at hm; cases hm
  by_cases hk : x.k = 1 ∨ x.k = 2
  · have h1 := val_side hx h hk
    refine ⟨hm, cput_ok hm (by omega), fun h2 h3 => ?_⟩
    rw [h1.2] at h2 h3
    omega
  · obtain ⟨h1, h2, h3⟩ := val_taken hx h hk
    refine ⟨hm, cput_ok hm (by rw [h1]; omega), fun _ _ => ?_⟩
    rw [h1, h2, h3, tp_true (by omega), if_neg (by omega)]
set_option maxRecDepth 100000 in
set_option maxHeartbeats 4000000 in
theorem chunkBack_main (c : Ck) (s : Ls) (x : Tv) (A : Option Addr) (n cp : Nat) (w : World) (h : Ch w c s) (hx : x.ok) (hl : x.v.length = n) (hle : n ≤ cp) (hcm : cp ≤ maxLen) (hr : Row w A (bs x.v)) :
    Calls Try.prog 4 #[.agg (cv c s), .agg #[.int .u16 (x.k : Int), .int .u8 (x.f : Int), .slice A n cp]] w fun e w' => e = .returned (.bool true) ∧ Below w.heap.size w w' := by
  have HB : Hid (CB w (cv c s) #[.int .u16 (x.k : Int), .int .u8 (x.f : Int), .slice A n cp] _) := Lib.hid (CB.new w (cv c s) #[.int .u16 (x.k : Int), .int .u8 (x.f : Int), .slice A n cp])
  have HC : Hid (Ch _ c s) := Lib.hid ((h.alloc (.cells (cv c s) 32)).alloc (.cells #[.int .u16 (x.k : Int), .int .u8 (x.f : Int), .slice A n cp] 25))
  have HOK := Lib.hid h.ok
  have HCI := Lib.hid (cv_info c s)
  have HK := Lib.hid known_any
  have CG := Lib.hid fun W (hW : Ch W c s) => rGreat_any c s W hW
  have CP := Lib.hid fun W (hW : Ch W c s) => ckPut_any c s W hW
  have CM := Lib.hid fun W (hW : Ch W c s) => ckMay_cv c s W hW
  have CX := Lib.hid fun (h5 : n ≤ 5000) W (hW : Below w.heap.size w W) => (ckTake_all x A n cp W hx hl (by omega) hle hcm (hr.below hW)).mono fun _ _ h => h.one
  have CT := Lib.hid fun (h5 : n ≤ 5000) W (hW : Below w.heap.size w W) => tput_any true x A n cp W hx hl (by omega) (hr.below hW)
  have HSAY := Lib.hid fun (h5 : n ≤ 5000) d => taken_says (d := d) hx (by omega)
  generalize take x = tx at CX HSAY
  generalize tp true x = px at CT HSAY
  obtain ⟨Lx, ex⟩ := px
  generalize x.k = k at *
  generalize x.f = f at *
  have hk8 := h.ok.kd
  have wk : IntKind.u16.wrap (c.kd : Int) = (c.kd : Int) := by rw [IntKind.wrap_u16]; omega
  clear h hx hl hr hle hcm hk8
  go_enter Try.func4, Try.ntmps4
  go_upto_region 1 with fail
  generalize World.alloc (World.alloc w _) _ = W1 at HB HC ⊢
  go_wp2_with fail
  refine (HK.out _).mono ?_
  rintro e W2 ⟨rfl, hb2⟩
  have HB2 := Lib.hid (HB.out.next hb2)
  have HC2 := Lib.hid (HC.out.next hb2)
  clear hb2 HB HC
  have p2 := HB2.out.2.1.cell 2
  simp at p2
  go_wp2_with (refine wpList_load_row rfl 32 (.tmp 2) rfl w.heap.size rfl 32 (cv c s) (0, 0) _ HB2.out.1 Try.underlying32 rfl HCI.out ?_)
  (with_reducible refine (CG.out _ HC2.out).mono ?_)
  rintro e W3 ⟨bg, rfl, hcn, hb3⟩
  have HB3 := Lib.hid (HB2.out.next hb3)
  have HC3 := Lib.hid (HC2.out.next hb3)
  clear hb3 HB2 HC2 hcn CG p2
  cases bg with
  | true =>
    go_wp2_with fail
    go_ret
    exact ⟨rfl, HB3.out.2.2⟩
  | false =>
    have p2 := HB3.out.2.1.cell 2
    simp at p2
    by_cases h5 : 5000 < n
    · have d5 : decide ((5000 : Int) < (n : Int)) = true := by simp; omega
      clear h5
      go_wp2_with fail
      go_ret
      exact ⟨rfl, HB3.out.2.2⟩
    have d5 : decide ((5000 : Int) < (n : Int)) = false := by simp; omega
    have h5' : n ≤ 5000 := by omega
    have CX := Lib.hid (CX.out h5')
    have CT := Lib.hid (CT.out h5')
    have HSAY := Lib.hid (HSAY.out h5')
    clear h5 h5'
    go_wp2_with (refine wpList_load_row rfl 32 (.tmp 2) rfl w.heap.size rfl 32 (cv c s) (0, 0) _ HB3.out.1 Try.underlying32 rfl HCI.out ?_)
    clear d5 p2
    by_cases hm : may c
    · by_cases hlong : 65531 < (val c).length
      · have CP := Lib.hid (CP.out _ HC3.out)
        rw [cput_long hm hlong] at CP
        rw [mayB_true hm] at CM
        clear hm hlong
        (with_reducible refine CP.out.mono ?_)
        rintro e W4 ⟨A4, n4, c4, rfl, ho4⟩
        have HB4 := Lib.hid (HB3.out.next ho4.2)
        have HC4 := Lib.hid (HC3.out.next ho4.2)
        clear ho4 HB3 HC3
        go_wp2_with (refine wpList_load_row rfl 32 (.tmp 2) rfl w.heap.size rfl 32 (cv c s) (0, 0) _ HB4.out.1 Try.underlying32 rfl HCI.out ?_)
        (with_reducible refine (CM.out _ HC4.out).mono ?_)
        rintro e W5 ⟨rfl, hb5⟩
        have HBZ := Lib.hid (HB4.out.next hb5)
        clear hb5 HB4 HC4 CM
        go_upto_region 15 with fail
        as_aux_lemma =>
          have p0 := HBZ.out.2.1.cell 0
          have p1 := HBZ.out.2.1.cell 1
          have p2 := HBZ.out.2.1.cell 2
          simp at p0 p1 p2
          go_wp2_with fail
          have hbz := HBZ.out.2.2
          (with_reducible refine (CX.out _ hbz).mono ?_)
          clear hbz
          rintro e V1 ⟨sd, rfl, hcd, hbd⟩
          have hst := store_new (tx.getD zero) sd V1
          go_upto_region 16 with fail
          clear hst p0 p1 p2
          have hb2 : Below V1.heap.size V1 (V1.alloc (.cells (cv (tx.getD zero) sd) 32)) := (Below.refl _ _).alloc (Nat.le_refl _) _
          have HB2 := Lib.hid ((HBZ.out.next hbd).next hb2)
          have HD2 := Lib.hid (hcd.next hb2)
          have HE2 : Hid (Bk (V1.alloc (.cells (cv (tx.getD zero) sd) 32)) V1.heap.size (cv (tx.getD zero) sd) 32) := Lib.hid (Bk.new _ _ _)
          clear hb2 hbd hcd HBZ
          generalize hV2 : V1.alloc (.cells (cv (tx.getD zero) sd) 32) = V2 at HB2 HD2 HE2 ⊢
          clear hV2
          generalize V1.heap.size = gd at HE2 ⊢
          cases tx with
          | none =>
            have HE2 : Hid (Bk V2 gd (cv zero sd) 32) := HE2
            have HD2 : Hid (Ch V2 zero sd) := HD2
            obtain ⟨cz, hcz⟩ : ∃ cz : Ck, cz = zero := ⟨_, rfl⟩
            rw [← hcz] at HE2 HD2
            have HS := Lib.hid (ckSame_zl cz sd V2 HD2.out hcz)
            have t0 := HE2.out.c0
            have t1 := HE2.out.c1
            have t2 := HE2.out.c2
            have t3 := HE2.out.c3
            have t4 := HE2.out.c4
            have t5 := HE2.out.c5
            have t6 := HE2.out.c6
            have t7 := HE2.out.c7
            have t8 := HE2.out.c8
            have t9 := HE2.out.c9
            have t10 := HE2.out.c10
            have t11 := HE2.out.c11
            have t12 := HE2.out.c12
            have t13 := HE2.out.c13
            have t14 := HE2.out.c14
            clear HD2 hcz
            have e50 : terr none = 50 := rfl
            rw [e50]
            clear e50
            go_wp2_with fail
            (with_reducible refine HS.out.mono ?_)
            rintro e V3 ⟨rfl, hb3⟩
            have HB3 := Lib.hid (HB2.out.next hb3)
            clear hb3
            go_wp2_with fail
            go_ret
            exact ⟨rfl, HB3.out.2.2⟩
          | some d =>
            have HE2 : Hid (Bk V2 gd (cv d sd) 32) := HE2
            have HD2 : Hid (Ch V2 d sd) := HD2
            obtain ⟨hmd, hpd, hsd⟩ := HSAY.out d rfl
            have e50 : terr (some d) = 0 := rfl
            rw [e50]
            clear e50
            have HSI := Lib.hid (cv_info d sd)
            have CPD := Lib.hid (ckPut_any d sd V2 HD2.out)
            rw [hpd] at CPD
            have CMD := Lib.hid fun W (hW : Ch W d sd) => ckMay_cv d sd W hW
            rw [mayB_true hmd] at CMD
            generalize tb true ⟨d.kd, d.fl, val d⟩ = Ld at CPD hsd
            have HSD := Lib.hid hsd
            clear hmd hpd hsd
            go_wp2_with (refine wpList_load_row rfl 32 (.tmp 10) rfl gd rfl 32 (cv d sd) (0, 0) _ HE2.out Try.underlying32 rfl HSI.out ?_)
            (with_reducible refine CPD.out.mono ?_)
            rintro e V3 ⟨A3, n3, c3, rfl, ho3⟩
            have HB3 := Lib.hid (HB2.out.next ho3.2)
            have HD3 := Lib.hid (HD2.out.next ho3.2)
            have HE3 := Lib.hid (HE2.out.next ho3.2)
            have HO3 := Lib.hid ho3
            clear ho3 HB2 HD2 HE2 CPD
            go_wp2_with (refine wpList_load_row rfl 32 (.tmp 10) rfl gd rfl 32 (cv d sd) (0, 0) _ HE3.out Try.underlying32 rfl HSI.out ?_)
            (with_reducible refine (CMD.out _ HD3.out).mono ?_)
            rintro e V4 ⟨rfl, hb4⟩
            have HB4 := Lib.hid (HB3.out.next hb4)
            have HE4 := Lib.hid (HE3.out.next hb4)
            have HO4 := Lib.hid (HO3.out.next hb4)
            clear hb4 HB3 HD3 HE3 HO3 CMD
            have p0 := HB4.out.2.1.cell 0
            have p1 := HB4.out.2.1.cell 1
            have p2 := HB4.out.2.1.cell 2
            simp at p0 p1 p2
            go_wp2_with fail
            have hbz := HB4.out.2.2
            (with_reducible refine (CT.out _ hbz).mono ?_)
            clear hbz
            rintro e V5 ⟨A5, n5, c5, rfl, ho5⟩
            have HB5 := Lib.hid (HB4.out.next ho5.2)
            have HE5 := Lib.hid (HE4.out.next ho5.2)
            have HO5 := Lib.hid (HO4.out.next ho5.2)
            have HOx := Lib.hid ho5
            clear ho5 HB4 HE4 HO4 p0 p1 p2
            have k0 : V5.cell? ⟨gd, 0, none⟩ = some (.int .u8 (d.kd : Int)) := HE5.out.c0
            by_cases h1 : d.kd = 1
            · have d1 : ((d.kd : Int) == 1) = true := by simp; omega
              clear h1
              go_wp2_with fail
              go_ret
              exact ⟨rfl, HB5.out.2.2⟩
            have d1 : ((d.kd : Int) == 1) = false := by simp; omega
            by_cases h2 : d.kd = 2
            · have d2 : ((d.kd : Int) == 2) = true := by simp; omega
              clear h1 h2
              go_wp2_with fail
              go_ret
              exact ⟨rfl, HB5.out.2.2⟩
            have d2 : ((d.kd : Int) == 2) = false := by simp; omega
            have hs := HSD.out h1 h2
            injection hs with hs1 hs2
            subst hs1 hs2
            have cv1 := run_strOf (P := Try.prog) (src := 23) (dst := 9) (c := c3) Try.underlying23 Try.underlying5 Try.underlying9 HO5.out.len HO5.out.row
            have cv2 := run_strOf (P := Try.prog) (src := 23) (dst := 9) (c := c5) Try.underlying23 Try.underlying5 Try.underlying9 HOx.out.len HOx.out.row
            generalize strOf Lx = str at cv1 cv2
            clear h1 h2 HSD HOx HO5
            go_wp2_with fail
            go_ret
            exact ⟨rfl, HB5.out.2.2⟩
      · have hlong : (val c).length ≤ 65531 := by omega
        have CP := Lib.hid (CP.out _ HC3.out)
        rw [cput_ok hm (by omega)] at CP
        have hyok : (⟨c.kd, c.fl, val c⟩ : Tv).ok := ⟨by have := HOK.out.kd; show c.kd < 65536; omega, HOK.out.fl, val_byt HOK.out⟩
        have hyf : fit true ⟨c.kd, c.fl, val c⟩ := by have := HOK.out.kd; show c.kd ≤ 255; omega
        have hyt := tlist_tb hyok hyf hlong
        have hyp := take_put HOK.out hm hlong
        have hyb := tb_byt hyok hyf
        have hyn := tb_len true ⟨c.kd, c.fl, val c⟩
        have hyw := whl_le (4 + (val c).length)
        obtain ⟨y, hy⟩ : ∃ y : Tv, y = ⟨c.kd, c.fl, val c⟩ := ⟨_, rfl⟩
        have hyk : y.k = c.kd ∧ y.f = c.fl ∧ y.v.length ≤ 65531 := by rw [hy]; exact ⟨rfl, rfl, hlong⟩
        rw [← hy] at CP hyok hyt hyp hyb
        obtain ⟨Ly, hLy⟩ : ∃ L, tb true y = L := ⟨_, rfl⟩
        have hln : Ly.length ≤ 100000 := by rw [← hLy, hy, hyn]; simp only; omega
        rw [hLy] at CP hyt hyb
        have HY := Lib.hid (show y.ok ∧ take y = some c ∧ y.k = c.kd ∧ y.f = c.fl ∧ y.v.length ≤ 65531 from ⟨hyok, hyp, hyk⟩)
        have HLY := Lib.hid (show Byt Ly ∧ tlist true Ly = ([y], 0) ∧ Ly.length ≤ 100000 from ⟨hyb, hyt, hln⟩)
        clear hyok hyf hyt hyp hyb hyn hyw hy hyk hLy hln hm hlong
        (with_reducible refine CP.out.mono ?_)
        rintro e W4 ⟨A4, n4, c4, rfl, ho4⟩
        have HB4 := Lib.hid (HB3.out.next ho4.2)
        have HC4 := Lib.hid (HC3.out.next ho4.2)
        have hll : Ly.length = n4 := ho4.len
        have CL := Lib.hid (list_any true A4 n4 c4 Ly W4 hll (by rw [← hll]; exact HLY.out.2.2) HLY.out.1 ho4.row)
        rw [HLY.out.2.1] at CL
        clear ho4 hll HB3 HC3 CP HLY
        go_wp2_with fail
        (with_reducible refine CL.out.mono ?_)
        rintro e W5 ⟨A5, n5, c5, qs, rfl, hqs, hto⟩
        obtain ⟨u, rfl⟩ := one_of hqs
        obtain rfl : 1 = n5 := hto.1
        have HB5 := Lib.hid (HB4.out.next hto.2.2.2)
        have HC5 := Lib.hid (HC4.out.next hto.2.2.2)
        obtain ⟨a, B6, n6, c6, rfl, s3, s4, s5, e6, hl6, hle6, hcm6, hn6, hok6, hr6, hz6⟩ := hto.ths.at (i := 0) (by simp)
        rw [add_zero'] at s3 s4 s5
        simp only [List.getElem_cons_zero] at s3 s4 e6 hl6 hok6 hr6
        subst e6
        have CY : Hid (∀ W, Below W5.heap.size W5 W → Calls Try.prog 12 #[.agg #[.int .u16 (c.kd : Int), .int .u8 (c.fl : Int), .slice B6 n6 c6]] W fun e w' => ∃ s, e = .returned (.tuple #[.agg (cv c s), .int .i64 0]) ∧ Ch w' c s ∧ Below W.heap.size W w') := Lib.hid fun W hW => by
          have h1 := ckTake_all y B6 n6 c6 W HY.out.1 hl6 (by rw [← hl6]; exact HY.out.2.2.2.2) hle6 hcm6 (hr6.below hW)
          rw [HY.out.2.1, HY.out.2.2.1, HY.out.2.2.2.1] at h1
          exact h1
        rw [HY.out.2.2.1] at s3
        rw [HY.out.2.2.2.1] at s4
        have s1 : W5.cell? ⟨w.heap.size, 0, none⟩ = some (.int .u8 (c.kd : Int)) := HB5.out.1.c0
        have s2 : W5.cell? ⟨w.heap.size, 1, none⟩ = some (.int .u8 (c.fl : Int)) := HB5.out.1.c1
        clear hqs hto hl6 hle6 hcm6 hn6 hok6 hr6 hz6 HB4 HC4 CL HY
        go_upto_region 8 with fail
        refine wp_region_held_drew (S := (fun W => W.cell? ⟨w.heap.size, 0, none⟩ = some (.int .u8 (c.kd : Int)) ∧ W.cell? ⟨w.heap.size, 1, none⟩ = some (.int .u8 (c.fl : Int)) ∧ W.cell? a = some (.int .u16 (c.kd : Int)) ∧ W.cell? { block := a.block, off := a.off + 1 } = some (.int .u8 (c.fl : Int)))) (by kernel_rfl) (⟨s1, s2, s3, s4⟩) (fun hHeld => ?_)
        refine wpAnyH_take (i := 0) (v := ?_) rfl (by kernel_rfl) (by kernel_rfl) (by kernel_rfl) (fun _ _ _ h => h) (Or.inl ⟨by rfl, ?_⟩) (by first | assumption | trivial) ?_
        rotate_left 1
        · (intro w9 hSw; obtain ⟨s1, s2, s3, s4⟩ := hSw; go_simp; try (with_reducible rfl))
        try simp only [Act.put, List.setIfInBounds_toArray, List.set_cons_zero, List.set_cons_succ, List.getElem_toArray, List.getElem_cons_zero, List.getElem_cons_succ]
        refine wpAnyH_take (i := 1) (v := ?_) rfl (by kernel_rfl) (by kernel_rfl) (by kernel_rfl) (fun _ _ _ h => h) (Or.inl ⟨by rfl, ?_⟩) (by first | assumption | trivial) ?_
        rotate_left 1
        · (intro w9 hSw; obtain ⟨s1, s2, s3, s4⟩ := hSw; go_simp; try (with_reducible rfl))
        try simp only [Act.put, List.setIfInBounds_toArray, List.set_cons_zero, List.set_cons_succ, List.getElem_toArray, List.getElem_cons_zero, List.getElem_cons_succ]
        refine wpAnyH_take (i := 2) (v := ?_) rfl (by kernel_rfl) (by kernel_rfl) (by kernel_rfl) (fun _ _ _ h => h) (Or.inl ⟨by rfl, ?_⟩) (by first | assumption | trivial) ?_
        rotate_left 1
        · (intro w9 hSw; obtain ⟨s1, s2, s3, s4⟩ := hSw; go_simp; try (with_reducible rfl))
        try simp only [Act.put, List.setIfInBounds_toArray, List.set_cons_zero, List.set_cons_succ, List.getElem_toArray, List.getElem_cons_zero, List.getElem_cons_succ]
        refine wpAnyH_take (i := 3) (v := ?_) rfl (by kernel_rfl) (by kernel_rfl) (by kernel_rfl) (fun _ _ _ h => h) (Or.inl ⟨by rfl, ?_⟩) (by first | assumption | trivial) ?_
        rotate_left 1
        · (intro w9 hSw; obtain ⟨s1, s2, s3, s4⟩ := hSw; go_simp; try (with_reducible rfl))
        try simp only [Act.put, List.setIfInBounds_toArray, List.set_cons_zero, List.set_cons_succ, List.getElem_toArray, List.getElem_cons_zero, List.getElem_cons_succ]
        refine wpAnyH_take (i := 4) (v := ?_) rfl (by kernel_rfl) (by kernel_rfl) (by kernel_rfl) (fun _ _ _ h => h) (Or.inl ⟨by rfl, ?_⟩) (by first | assumption | trivial) ?_
        rotate_left 1
        · (intro w9 hSw; obtain ⟨s1, s2, s3, s4⟩ := hSw; go_simp; try (with_reducible rfl))
        try simp only [Act.put, List.setIfInBounds_toArray, List.set_cons_zero, List.set_cons_succ, List.getElem_toArray, List.getElem_cons_zero, List.getElem_cons_succ]
        refine wpAnyH_take (i := 5) (v := ?_) rfl (by kernel_rfl) (by kernel_rfl) (by kernel_rfl) (fun _ _ _ h => h) (Or.inl ⟨by rfl, ?_⟩) (by first | assumption | trivial) ?_
        rotate_left 1
        · (intro w9 hSw; obtain ⟨s1, s2, s3, s4⟩ := hSw; go_simp; try (with_reducible rfl))
        try simp only [Act.put, List.setIfInBounds_toArray, List.set_cons_zero, List.set_cons_succ, List.getElem_toArray, List.getElem_cons_zero, List.getElem_cons_succ]
        refine wpAnyH_take (i := 6) (v := ?_) rfl (by kernel_rfl) (by kernel_rfl) (by kernel_rfl) (fun _ _ _ h => h) (Or.inl ⟨by rfl, ?_⟩) (by first | assumption | trivial) ?_
        rotate_left 1
        · (intro w9 hSw; obtain ⟨s1, s2, s3, s4⟩ := hSw; go_simp; try (with_reducible rfl))
        try simp only [Act.put, List.setIfInBounds_toArray, List.set_cons_zero, List.set_cons_succ, List.getElem_toArray, List.getElem_cons_zero, List.getElem_cons_succ]
        refine wpAnyH_take (i := 7) (v := ?_) rfl (by kernel_rfl) (by kernel_rfl) (by kernel_rfl) (fun _ _ _ h => h) (Or.inl ⟨by rfl, ?_⟩) (by first | assumption | trivial) ?_
        rotate_left 1
        · (intro w9 hSw; obtain ⟨s1, s2, s3, s4⟩ := hSw; go_simp; try (with_reducible rfl))
        try simp only [Act.put, List.setIfInBounds_toArray, List.set_cons_zero, List.set_cons_succ, List.getElem_toArray, List.getElem_cons_zero, List.getElem_cons_succ]
        refine wpAnyH_take (i := 8) (v := ?_) rfl (by kernel_rfl) (by kernel_rfl) (by kernel_rfl) (fun _ _ _ h => h) (Or.inl ⟨by rfl, ?_⟩) (by first | assumption | trivial) ?_
        rotate_left 1
        · (intro w9 hSw; obtain ⟨s1, s2, s3, s4⟩ := hSw; go_simp; try (with_reducible rfl))
        try simp only [Act.put, List.setIfInBounds_toArray, List.set_cons_zero, List.set_cons_succ, List.getElem_toArray, List.getElem_cons_zero, List.getElem_cons_succ]
        refine wpAnyH_take (i := 9) (v := ?_) rfl (by kernel_rfl) (by kernel_rfl) (by kernel_rfl) (fun _ _ _ h => h) (Or.inl ⟨by rfl, ?_⟩) (by first | assumption | trivial) ?_
        rotate_left 1
        · (intro w9 hSw; obtain ⟨s1, s2, s3, s4⟩ := hSw; go_simp; try (with_reducible rfl))
        try simp only [Act.put, List.setIfInBounds_toArray, List.set_cons_zero, List.set_cons_succ, List.getElem_toArray, List.getElem_cons_zero, List.getElem_cons_succ]
        refine wpAnyH_take (i := 10) (v := ?_) rfl (by kernel_rfl) (by kernel_rfl) (by kernel_rfl) (fun _ _ _ h => h) (Or.inl ⟨by rfl, ?_⟩) (by first | assumption | trivial) ?_
        rotate_left 1
        · (intro w9 hSw; obtain ⟨s1, s2, s3, s4⟩ := hSw; go_simp; try (with_reducible rfl))
        try simp only [Act.put, List.setIfInBounds_toArray, List.set_cons_zero, List.set_cons_succ, List.getElem_toArray, List.getElem_cons_zero, List.getElem_cons_succ]
        refine wpAnyH_take (i := 11) (v := ?_) rfl (by kernel_rfl) (by kernel_rfl) (by kernel_rfl) (fun _ _ _ h => h) (Or.inl ⟨by rfl, ?_⟩) (by first | assumption | trivial) ?_
        rotate_left 1
        · (intro w9 hSw; obtain ⟨s1, s2, s3, s4⟩ := hSw; go_simp; try (with_reducible rfl))
        try simp only [Act.put, List.setIfInBounds_toArray, List.set_cons_zero, List.set_cons_succ, List.getElem_toArray, List.getElem_cons_zero, List.getElem_cons_succ]
        refine wpAnyH_take (i := 12) (v := ?_) rfl (by kernel_rfl) (by kernel_rfl) (by kernel_rfl) (fun _ _ _ h => h) (Or.inl ⟨by rfl, ?_⟩) (by first | assumption | trivial) ?_
        rotate_left 1
        · (intro w9 hSw; obtain ⟨s1, s2, s3, s4⟩ := hSw; go_simp; try (with_reducible rfl))
        try simp only [Act.put, List.setIfInBounds_toArray, List.set_cons_zero, List.set_cons_succ, List.getElem_toArray, List.getElem_cons_zero, List.getElem_cons_succ]
        refine wpAnyH_take (i := 13) (v := ?_) rfl (by kernel_rfl) (by kernel_rfl) (by kernel_rfl) (fun _ _ _ h => h) (Or.inl ⟨by rfl, ?_⟩) (by first | assumption | trivial) ?_
        rotate_left 1
        · (intro w9 hSw; obtain ⟨s1, s2, s3, s4⟩ := hSw; go_simp; try (with_reducible rfl))
        try simp only [Act.put, List.setIfInBounds_toArray, List.set_cons_zero, List.set_cons_succ, List.getElem_toArray, List.getElem_cons_zero, List.getElem_cons_succ]
        refine wpAnyH_take (i := 14) (v := ?_) rfl (by kernel_rfl) (by kernel_rfl) (by kernel_rfl) (fun _ _ _ h => h) (Or.inl ⟨by rfl, ?_⟩) (by first | assumption | trivial) ?_
        rotate_left 1
        · (intro w9 hSw; obtain ⟨s1, s2, s3, s4⟩ := hSw; go_simp; try (with_reducible rfl))
        try simp only [Act.put, List.setIfInBounds_toArray, List.set_cons_zero, List.set_cons_succ, List.getElem_toArray, List.getElem_cons_zero, List.getElem_cons_succ]
        refine wpAnyH_take (i := 15) (v := ?_) rfl (by kernel_rfl) (by kernel_rfl) (by kernel_rfl) (fun _ _ _ h => h) (Or.inl ⟨by rfl, ?_⟩) (by first | assumption | trivial) ?_
        rotate_left 1
        · (intro w9 hSw; obtain ⟨s1, s2, s3, s4⟩ := hSw; go_simp; try (with_reducible rfl))
        try simp only [Act.put, List.setIfInBounds_toArray, List.set_cons_zero, List.set_cons_succ, List.getElem_toArray, List.getElem_cons_zero, List.getElem_cons_succ]
        refine wpAnyH_take (i := 16) (v := ?_) rfl (by kernel_rfl) (by kernel_rfl) (by kernel_rfl) (fun _ _ _ h => h) (Or.inl ⟨by rfl, ?_⟩) (by first | assumption | trivial) ?_
        rotate_left 1
        · (intro w9 hSw; obtain ⟨s1, s2, s3, s4⟩ := hSw; go_simp; try (with_reducible rfl))
        try simp only [Act.put, List.setIfInBounds_toArray, List.set_cons_zero, List.set_cons_succ, List.getElem_toArray, List.getElem_cons_zero, List.getElem_cons_succ]
        refine wpAnyH_take (i := 17) (v := ?_) rfl (by kernel_rfl) (by kernel_rfl) (by kernel_rfl) (fun _ _ _ h => h) (Or.inl ⟨by rfl, ?_⟩) (by first | assumption | trivial) ?_
        rotate_left 1
        · (intro w9 hSw; obtain ⟨s1, s2, s3, s4⟩ := hSw; go_simp; try (with_reducible rfl))
        try simp only [Act.put, List.setIfInBounds_toArray, List.set_cons_zero, List.set_cons_succ, List.getElem_toArray, List.getElem_cons_zero, List.getElem_cons_succ]
        refine wpAnyH_take (i := 18) (v := ?_) rfl (by kernel_rfl) (by kernel_rfl) (by kernel_rfl) (fun _ _ _ h => h) (Or.inl ⟨by rfl, ?_⟩) (by first | assumption | trivial) ?_
        rotate_left 1
        · (intro w9 hSw; obtain ⟨s1, s2, s3, s4⟩ := hSw; go_simp; try (with_reducible rfl))
        try simp only [Act.put, List.setIfInBounds_toArray, List.set_cons_zero, List.set_cons_succ, List.getElem_toArray, List.getElem_cons_zero, List.getElem_cons_succ]
        refine wpAnyH_take (i := 19) (v := ?_) rfl (by kernel_rfl) (by kernel_rfl) (by kernel_rfl) (fun _ _ _ h => h) (Or.inl ⟨by rfl, ?_⟩) (by first | assumption | trivial) ?_
        rotate_left 1
        · (intro w9 hSw; obtain ⟨s1, s2, s3, s4⟩ := hSw; go_simp; try (with_reducible rfl))
        try simp only [Act.put, List.setIfInBounds_toArray, List.set_cons_zero, List.set_cons_succ, List.getElem_toArray, List.getElem_cons_zero, List.getElem_cons_succ]
        refine wpAnyH_take (i := 20) (v := ?_) rfl (by kernel_rfl) (by kernel_rfl) (by kernel_rfl) (fun _ _ _ h => h) (Or.inl ⟨by rfl, ?_⟩) (by first | assumption | trivial) ?_
        rotate_left 1
        · (intro w9 hSw; obtain ⟨s1, s2, s3, s4⟩ := hSw; go_simp; try (with_reducible rfl))
        try simp only [Act.put, List.setIfInBounds_toArray, List.set_cons_zero, List.set_cons_succ, List.getElem_toArray, List.getElem_cons_zero, List.getElem_cons_succ]
        refine wpAnyH_take (i := 21) (v := ?_) rfl (by kernel_rfl) (by kernel_rfl) (by kernel_rfl) (fun _ _ _ h => h) (Or.inl ⟨by rfl, ?_⟩) (by first | assumption | trivial) ?_
        rotate_left 1
        · (intro w9 hSw; obtain ⟨s1, s2, s3, s4⟩ := hSw; go_simp; try (with_reducible rfl))
        try simp only [Act.put, List.setIfInBounds_toArray, List.set_cons_zero, List.set_cons_succ, List.getElem_toArray, List.getElem_cons_zero, List.getElem_cons_succ]
        refine wpAnyH_take (i := 22) (v := ?_) rfl (by kernel_rfl) (by kernel_rfl) (by kernel_rfl) (fun _ _ _ h => h) (Or.inl ⟨by rfl, ?_⟩) (by first | assumption | trivial) ?_
        rotate_left 1
        · (intro w9 hSw; obtain ⟨s1, s2, s3, s4⟩ := hSw; go_simp; try (with_reducible rfl))
        try simp only [Act.put, List.setIfInBounds_toArray, List.set_cons_zero, List.set_cons_succ, List.getElem_toArray, List.getElem_cons_zero, List.getElem_cons_succ]
        refine wpAnyH_take (i := 23) (v := ?_) rfl (by kernel_rfl) (by kernel_rfl) (by kernel_rfl) (fun _ _ _ h => h) (Or.inl ⟨by rfl, ?_⟩) (by first | assumption | trivial) ?_
        rotate_left 1
        · (intro w9 hSw; obtain ⟨s1, s2, s3, s4⟩ := hSw; go_simp; try (with_reducible rfl))
        try simp only [Act.put, List.setIfInBounds_toArray, List.set_cons_zero, List.set_cons_succ, List.getElem_toArray, List.getElem_cons_zero, List.getElem_cons_succ]
        refine wpAnyH_take (i := 24) (v := ?_) rfl (by kernel_rfl) (by kernel_rfl) (by kernel_rfl) (fun _ _ _ h => h) (Or.inl ⟨by rfl, ?_⟩) (by first | assumption | trivial) ?_
        rotate_left 1
        · (intro w9 hSw; obtain ⟨s1, s2, s3, s4⟩ := hSw; go_simp; try (with_reducible rfl))
        try simp only [Act.put, List.setIfInBounds_toArray, List.set_cons_zero, List.set_cons_succ, List.getElem_toArray, List.getElem_cons_zero, List.getElem_cons_succ]
        refine wpAnyH_take (i := 25) (v := ?_) rfl (by kernel_rfl) (by kernel_rfl) (by kernel_rfl) (fun _ _ _ h => h) (Or.inl ⟨by rfl, ?_⟩) (by first | assumption | trivial) ?_
        rotate_left 1
        · (intro w9 hSw; obtain ⟨s1, s2, s3, s4⟩ := hSw; go_simp; try (with_reducible rfl))
        try simp only [Act.put, List.setIfInBounds_toArray, List.set_cons_zero, List.set_cons_succ, List.getElem_toArray, List.getElem_cons_zero, List.getElem_cons_succ]
        refine wpAnyH_done (by kernel_rfl) ?_ _
        have p0 : W5.drew.cell? a = some (.int .u16 (c.kd : Int)) := s3
        have p1 : W5.drew.cell? { block := a.block, off := a.off + 1 } = some (.int .u8 (c.fl : Int)) := s4
        have p2 : W5.drew.cell? { block := a.block, off := a.off + 2 } = some (.slice B6 n6 c6) := s5
        go_wp2_with fail
        (with_reducible refine (CY.out _ (Below.refl _ _).drew).mono ?_)
        rintro e V1 ⟨sd, rfl, hcd, hbd⟩
        have hst := store_new c sd V1
        go_upto_region 11 with fail
        clear hst p0 p1 p2 s1 s2 s3 s4 s5
        have hbd : Below W5.heap.size W5 V1 := (Below.refl _ _).drew.trans hbd
        have hb2 : Below V1.heap.size V1 (V1.alloc (.cells (cv c sd) 32)) := (Below.refl _ _).alloc (Nat.le_refl _) _
        have HB6 := Lib.hid ((HB5.out.next hbd).next hb2)
        have HC6 := Lib.hid ((HC5.out.next hbd).next hb2)
        have HD6 := Lib.hid (hcd.next hb2)
        have HE6 : Hid (Bk (V1.alloc (.cells (cv c sd) 32)) V1.heap.size (cv c sd) 32) := Lib.hid (Bk.new _ _ _)
        clear hb2 hbd hcd HB5 HC5 CY
        generalize hV2 : V1.alloc (.cells (cv c sd) 32) = V2 at HB6 HC6 HD6 HE6 ⊢
        clear hV2
        generalize V1.heap.size = gy at HE6 ⊢
        have HS := Lib.hid (ckSame_lit c s sd V2 HC6.out HD6.out)
        have t0 := HE6.out.c0
        have t1 := HE6.out.c1
        have t2 := HE6.out.c2
        have t3 := HE6.out.c3
        have t4 := HE6.out.c4
        have t5 := HE6.out.c5
        have t6 := HE6.out.c6
        have t7 := HE6.out.c7
        have t8 := HE6.out.c8
        have t9 := HE6.out.c9
        have t10 := HE6.out.c10
        have t11 := HE6.out.c11
        have t12 := HE6.out.c12
        have t13 := HE6.out.c13
        have t14 := HE6.out.c14
        have q0 := HB6.out.1.c0
        have q1 := HB6.out.1.c1
        have q2 := HB6.out.1.c2
        have q3 := HB6.out.1.c3
        have q4 := HB6.out.1.c4
        have q5 := HB6.out.1.c5
        have q6 := HB6.out.1.c6
        have q7 := HB6.out.1.c7
        have q8 := HB6.out.1.c8
        have q9 := HB6.out.1.c9
        have q10 := HB6.out.1.c10
        have q11 := HB6.out.1.c11
        have q12 := HB6.out.1.c12
        have q13 := HB6.out.1.c13
        have q14 := HB6.out.1.c14
        clear HC6 HD6
        go_wp2_with fail
        (with_reducible refine HS.out.mono ?_)
        rintro e V3 ⟨rfl, hb3⟩
        have HBZ := Lib.hid (HB6.out.next hb3)
        clear hb3 HB6 HE6 HS
        clear t0 t1 t2 t3 t4 t5 t6 t7 t8 t9 t10 t11 t12 t13 t14 q0 q1 q2 q3 q4 q5 q6 q7 q8 q9 q10 q11 q12 q13 q14
        go_upto_region 15 with fail
        as_aux_lemma =>
          have p0 := HBZ.out.2.1.cell 0
          have p1 := HBZ.out.2.1.cell 1
          have p2 := HBZ.out.2.1.cell 2
          simp at p0 p1 p2
          go_wp2_with fail
          have hbz := HBZ.out.2.2
          (with_reducible refine (CX.out _ hbz).mono ?_)
          clear hbz
          rintro e V1 ⟨sd, rfl, hcd, hbd⟩
          have hst := store_new (tx.getD zero) sd V1
          go_upto_region 16 with fail
          clear hst p0 p1 p2
          have hb2 : Below V1.heap.size V1 (V1.alloc (.cells (cv (tx.getD zero) sd) 32)) := (Below.refl _ _).alloc (Nat.le_refl _) _
          have HB2 := Lib.hid ((HBZ.out.next hbd).next hb2)
          have HD2 := Lib.hid (hcd.next hb2)
          have HE2 : Hid (Bk (V1.alloc (.cells (cv (tx.getD zero) sd) 32)) V1.heap.size (cv (tx.getD zero) sd) 32) := Lib.hid (Bk.new _ _ _)
          clear hb2 hbd hcd HBZ
          generalize hV2 : V1.alloc (.cells (cv (tx.getD zero) sd) 32) = V2 at HB2 HD2 HE2 ⊢
          clear hV2
          generalize V1.heap.size = gd at HE2 ⊢
          cases tx with
          | none =>
            have HE2 : Hid (Bk V2 gd (cv zero sd) 32) := HE2
            have HD2 : Hid (Ch V2 zero sd) := HD2
            obtain ⟨cz, hcz⟩ : ∃ cz : Ck, cz = zero := ⟨_, rfl⟩
            rw [← hcz] at HE2 HD2
            have HS := Lib.hid (ckSame_zl cz sd V2 HD2.out hcz)
            have t0 := HE2.out.c0
            have t1 := HE2.out.c1
            have t2 := HE2.out.c2
            have t3 := HE2.out.c3
            have t4 := HE2.out.c4
            have t5 := HE2.out.c5
            have t6 := HE2.out.c6
            have t7 := HE2.out.c7
            have t8 := HE2.out.c8
            have t9 := HE2.out.c9
            have t10 := HE2.out.c10
            have t11 := HE2.out.c11
            have t12 := HE2.out.c12
            have t13 := HE2.out.c13
            have t14 := HE2.out.c14
            clear HD2 hcz
            have e50 : terr none = 50 := rfl
            rw [e50]
            clear e50
            go_wp2_with fail
            (with_reducible refine HS.out.mono ?_)
            rintro e V3 ⟨rfl, hb3⟩
            have HB3 := Lib.hid (HB2.out.next hb3)
            clear hb3
            go_wp2_with fail
            go_ret
            exact ⟨rfl, HB3.out.2.2⟩
          | some d =>
            have HE2 : Hid (Bk V2 gd (cv d sd) 32) := HE2
            have HD2 : Hid (Ch V2 d sd) := HD2
            obtain ⟨hmd, hpd, hsd⟩ := HSAY.out d rfl
            have e50 : terr (some d) = 0 := rfl
            rw [e50]
            clear e50
            have HSI := Lib.hid (cv_info d sd)
            have CPD := Lib.hid (ckPut_any d sd V2 HD2.out)
            rw [hpd] at CPD
            have CMD := Lib.hid fun W (hW : Ch W d sd) => ckMay_cv d sd W hW
            rw [mayB_true hmd] at CMD
            generalize tb true ⟨d.kd, d.fl, val d⟩ = Ld at CPD hsd
            have HSD := Lib.hid hsd
            clear hmd hpd hsd
            go_wp2_with (refine wpList_load_row rfl 32 (.tmp 10) rfl gd rfl 32 (cv d sd) (0, 0) _ HE2.out Try.underlying32 rfl HSI.out ?_)
            (with_reducible refine CPD.out.mono ?_)
            rintro e V3 ⟨A3, n3, c3, rfl, ho3⟩
            have HB3 := Lib.hid (HB2.out.next ho3.2)
            have HD3 := Lib.hid (HD2.out.next ho3.2)
            have HE3 := Lib.hid (HE2.out.next ho3.2)
            have HO3 := Lib.hid ho3
            clear ho3 HB2 HD2 HE2 CPD
            go_wp2_with (refine wpList_load_row rfl 32 (.tmp 10) rfl gd rfl 32 (cv d sd) (0, 0) _ HE3.out Try.underlying32 rfl HSI.out ?_)
            (with_reducible refine (CMD.out _ HD3.out).mono ?_)
            rintro e V4 ⟨rfl, hb4⟩
            have HB4 := Lib.hid (HB3.out.next hb4)
            have HE4 := Lib.hid (HE3.out.next hb4)
            have HO4 := Lib.hid (HO3.out.next hb4)
            clear hb4 HB3 HD3 HE3 HO3 CMD
            have p0 := HB4.out.2.1.cell 0
            have p1 := HB4.out.2.1.cell 1
            have p2 := HB4.out.2.1.cell 2
            simp at p0 p1 p2
            go_wp2_with fail
            have hbz := HB4.out.2.2
            (with_reducible refine (CT.out _ hbz).mono ?_)
            clear hbz
            rintro e V5 ⟨A5, n5, c5, rfl, ho5⟩
            have HB5 := Lib.hid (HB4.out.next ho5.2)
            have HE5 := Lib.hid (HE4.out.next ho5.2)
            have HO5 := Lib.hid (HO4.out.next ho5.2)
            have HOx := Lib.hid ho5
            clear ho5 HB4 HE4 HO4 p0 p1 p2
            have k0 : V5.cell? ⟨gd, 0, none⟩ = some (.int .u8 (d.kd : Int)) := HE5.out.c0
            by_cases h1 : d.kd = 1
            · have d1 : ((d.kd : Int) == 1) = true := by simp; omega
              clear h1
              go_wp2_with fail
              go_ret
              exact ⟨rfl, HB5.out.2.2⟩
            have d1 : ((d.kd : Int) == 1) = false := by simp; omega
            by_cases h2 : d.kd = 2
            · have d2 : ((d.kd : Int) == 2) = true := by simp; omega
              clear h1 h2
              go_wp2_with fail
              go_ret
              exact ⟨rfl, HB5.out.2.2⟩
            have d2 : ((d.kd : Int) == 2) = false := by simp; omega
            have hs := HSD.out h1 h2
            injection hs with hs1 hs2
            subst hs1 hs2
            have cv1 := run_strOf (P := Try.prog) (src := 23) (dst := 9) (c := c3) Try.underlying23 Try.underlying5 Try.underlying9 HO5.out.len HO5.out.row
            have cv2 := run_strOf (P := Try.prog) (src := 23) (dst := 9) (c := c5) Try.underlying23 Try.underlying5 Try.underlying9 HOx.out.len HOx.out.row
            generalize strOf Lx = str at cv1 cv2
            clear h1 h2 HSD HOx HO5
            go_wp2_with fail
            go_ret
            exact ⟨rfl, HB5.out.2.2⟩
    · have CP := Lib.hid (CP.out _ HC3.out)
      rw [cput_no hm] at CP
      rw [mayB_false hm] at CM
      clear hm
      (with_reducible refine CP.out.mono ?_)
      rintro e W4 ⟨A4, n4, c4, rfl, ho4⟩
      have HB4 := Lib.hid (HB3.out.next ho4.2)
      have HC4 := Lib.hid (HC3.out.next ho4.2)
      clear ho4 HB3 HC3
      go_wp2_with (refine wpList_load_row rfl 32 (.tmp 2) rfl w.heap.size rfl 32 (cv c s) (0, 0) _ HB4.out.1 Try.underlying32 rfl HCI.out ?_)
      (with_reducible refine (CM.out _ HC4.out).mono ?_)
      rintro e W5 ⟨rfl, hb5⟩
      have HBZ := Lib.hid (HB4.out.next hb5)
      clear hb5 HB4 HC4 CM
      go_upto_region 15 with fail
      as_aux_lemma =>
        have p0 := HBZ.out.2.1.cell 0
        have p1 := HBZ.out.2.1.cell 1
        have p2 := HBZ.out.2.1.cell 2
        simp at p0 p1 p2
        go_wp2_with fail
        have hbz := HBZ.out.2.2
        (with_reducible refine (CX.out _ hbz).mono ?_)
        clear hbz
        rintro e V1 ⟨sd, rfl, hcd, hbd⟩
        have hst := store_new (tx.getD zero) sd V1
        go_upto_region 16 with fail
        clear hst p0 p1 p2
        have hb2 : Below V1.heap.size V1 (V1.alloc (.cells (cv (tx.getD zero) sd) 32)) := (Below.refl _ _).alloc (Nat.le_refl _) _
        have HB2 := Lib.hid ((HBZ.out.next hbd).next hb2)
        have HD2 := Lib.hid (hcd.next hb2)
        have HE2 : Hid (Bk (V1.alloc (.cells (cv (tx.getD zero) sd) 32)) V1.heap.size (cv (tx.getD zero) sd) 32) := Lib.hid (Bk.new _ _ _)
        clear hb2 hbd hcd HBZ
        generalize hV2 : V1.alloc (.cells (cv (tx.getD zero) sd) 32) = V2 at HB2 HD2 HE2 ⊢
        clear hV2
        generalize V1.heap.size = gd at HE2 ⊢
        cases tx with
        | none =>
          have HE2 : Hid (Bk V2 gd (cv zero sd) 32) := HE2
          have HD2 : Hid (Ch V2 zero sd) := HD2
          obtain ⟨cz, hcz⟩ : ∃ cz : Ck, cz = zero := ⟨_, rfl⟩
          rw [← hcz] at HE2 HD2
          have HS := Lib.hid (ckSame_zl cz sd V2 HD2.out hcz)
          have t0 := HE2.out.c0
          have t1 := HE2.out.c1
          have t2 := HE2.out.c2
          have t3 := HE2.out.c3
          have t4 := HE2.out.c4
          have t5 := HE2.out.c5
          have t6 := HE2.out.c6
          have t7 := HE2.out.c7
          have t8 := HE2.out.c8
          have t9 := HE2.out.c9
          have t10 := HE2.out.c10
          have t11 := HE2.out.c11
          have t12 := HE2.out.c12
          have t13 := HE2.out.c13
          have t14 := HE2.out.c14
          clear HD2 hcz
          have e50 : terr none = 50 := rfl
          rw [e50]
          clear e50
          go_wp2_with fail
          (with_reducible refine HS.out.mono ?_)
          rintro e V3 ⟨rfl, hb3⟩
          have HB3 := Lib.hid (HB2.out.next hb3)
          clear hb3
          go_wp2_with fail
          go_ret
          exact ⟨rfl, HB3.out.2.2⟩
        | some d =>
          have HE2 : Hid (Bk V2 gd (cv d sd) 32) := HE2
          have HD2 : Hid (Ch V2 d sd) := HD2
          obtain ⟨hmd, hpd, hsd⟩ := HSAY.out d rfl
          have e50 : terr (some d) = 0 := rfl
          rw [e50]
          clear e50
          have HSI := Lib.hid (cv_info d sd)
          have CPD := Lib.hid (ckPut_any d sd V2 HD2.out)
          rw [hpd] at CPD
          have CMD := Lib.hid fun W (hW : Ch W d sd) => ckMay_cv d sd W hW
          rw [mayB_true hmd] at CMD
          generalize tb true ⟨d.kd, d.fl, val d⟩ = Ld at CPD hsd
          have HSD := Lib.hid hsd
          clear hmd hpd hsd
          go_wp2_with (refine wpList_load_row rfl 32 (.tmp 10) rfl gd rfl 32 (cv d sd) (0, 0) _ HE2.out Try.underlying32 rfl HSI.out ?_)
          (with_reducible refine CPD.out.mono ?_)
          rintro e V3 ⟨A3, n3, c3, rfl, ho3⟩
          have HB3 := Lib.hid (HB2.out.next ho3.2)
          have HD3 := Lib.hid (HD2.out.next ho3.2)
          have HE3 := Lib.hid (HE2.out.next ho3.2)
          have HO3 := Lib.hid ho3
          clear ho3 HB2 HD2 HE2 CPD
          go_wp2_with (refine wpList_load_row rfl 32 (.tmp 10) rfl gd rfl 32 (cv d sd) (0, 0) _ HE3.out Try.underlying32 rfl HSI.out ?_)
          (with_reducible refine (CMD.out _ HD3.out).mono ?_)
          rintro e V4 ⟨rfl, hb4⟩
          have HB4 := Lib.hid (HB3.out.next hb4)
          have HE4 := Lib.hid (HE3.out.next hb4)
          have HO4 := Lib.hid (HO3.out.next hb4)
          clear hb4 HB3 HD3 HE3 HO3 CMD
          have p0 := HB4.out.2.1.cell 0
          have p1 := HB4.out.2.1.cell 1
          have p2 := HB4.out.2.1.cell 2
          simp at p0 p1 p2
          go_wp2_with fail
          have hbz := HB4.out.2.2
          (with_reducible refine (CT.out _ hbz).mono ?_)
          clear hbz
          rintro e V5 ⟨A5, n5, c5, rfl, ho5⟩
          have HB5 := Lib.hid (HB4.out.next ho5.2)
          have HE5 := Lib.hid (HE4.out.next ho5.2)
          have HO5 := Lib.hid (HO4.out.next ho5.2)
          have HOx := Lib.hid ho5
          clear ho5 HB4 HE4 HO4 p0 p1 p2
          have k0 : V5.cell? ⟨gd, 0, none⟩ = some (.int .u8 (d.kd : Int)) := HE5.out.c0
          by_cases h1 : d.kd = 1
          · have d1 : ((d.kd : Int) == 1) = true := by simp; omega
            clear h1
            go_wp2_with fail
            go_ret
            exact ⟨rfl, HB5.out.2.2⟩
          have d1 : ((d.kd : Int) == 1) = false := by simp; omega
          by_cases h2 : d.kd = 2
          · have d2 : ((d.kd : Int) == 2) = true := by simp; omega
            clear h1 h2
            go_wp2_with fail
            go_ret
            exact ⟨rfl, HB5.out.2.2⟩
          have d2 : ((d.kd : Int) == 2) = false := by simp; omega
          have hs := HSD.out h1 h2
          injection hs with hs1 hs2
          subst hs1 hs2
          have cv1 := run_strOf (P := Try.prog) (src := 23) (dst := 9) (c := c3) Try.underlying23 Try.underlying5 Try.underlying9 HO5.out.len HO5.out.row
          have cv2 := run_strOf (P := Try.prog) (src := 23) (dst := 9) (c := c5) Try.underlying23 Try.underlying5 Try.underlying9 HOx.out.len HOx.out.row
          generalize strOf Lx = str at cv1 cv2
          clear h1 h2 HSD HOx HO5
          go_wp2_with fail
          go_ret
          exact ⟨rfl, HB5.out.2.2⟩
theorem chunkBack_walk (c : Ck) (s : Ls) (x0 x1 : Int) (A : Option Addr) (n cp : Nat) (z : List Int) (w : World) (h : Ch w c s) (h0 : (Lit.int .u16 x0).wf = true) (h1 : (Lit.int .u8 x1).wf = true) (hz : IsRow .u8 w A n cp z) :
    Calls Try.prog 4 #[.agg (cv c s), .agg #[.int .u16 x0, .int .u8 x1, .slice A n cp]] w fun e w' => e = .returned (.bool true) ∧ Below w.heap.size w w' := by
  have b0 := wf_u16 h0
  have b1 := wf_u8 h1
  obtain ⟨k, rfl⟩ := Int.eq_ofNat_of_zero_le b0.1
  obtain ⟨f, rfl⟩ := Int.eq_ofNat_of_zero_le b1.1
  obtain ⟨l, hl, hlc, hcm, hb, hr⟩ := hz.bytes
  exact chunkBack_main c s ⟨k, f, l⟩ A n cp w h ⟨by show k < 65536; omega, by show f < 256; omega, hb⟩ hl hlc hcm hr
end Go.Proofs.Ytbliipjiilmbcaa
