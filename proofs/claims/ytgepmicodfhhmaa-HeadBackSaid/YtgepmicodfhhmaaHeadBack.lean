/-
  The walk of HeadBack.
-/
import Derived.Test.YtgepmicodfhhmaaHeadPuts
import Derived.BigRegion
import Derived.Deep.RegionWith
import Derived.RegionTactic
namespace Go.Proofs.Ytgepmicodfhhmaa
open Go.RowKit Crc Head

theorem Own.none_ {w W : World} {A : Option Addr} {n c : Nat} {l : List Int} (h : Own w W A n c l) : A = none → n = 0 ∧ c = 0 := by
  intro hA
  rcases h.1.2 with ⟨h1, h2⟩ | ⟨g, cap, cur, h1, _⟩
  · simp only [Value.slice.injEq] at h1
    exact ⟨h2, h1.2.2⟩
  · simp only [Value.slice.injEq] at h1
    rw [hA] at h1
    cases h1.1
theorem pt_ways (f t g : Nat) (l : List Int) : ((pt f t g l).2 ≠ 0 ∧ (pt f t g l).1 = []) ∨ ((pt f t g l).2 = 0 ∧ 12 ≤ (pt f t g l).1.length ∧ (pt f t g l).1.length ≤ 1500) := by
  unfold pt
  split
  · exact .inl ⟨by simp, rfl⟩
  · split
    · exact .inl ⟨by simp, rfl⟩
    · exact .inr ⟨rfl, by simp only [pk_len]; omega, by simp only [pk_len]; omega⟩
theorem pt_byt (f t g : Nat) {l : List Int} (h : Byt l) : Byt (pt f t g l).1 := by
  have hn : Byt ([] : List Int) := fun c h => by simp at h
  unfold pt
  split
  · exact hn
  · split
    · exact hn
    · exact pk_byt _ _ _ _ h
/-- Behind k rounds: the row has the bytes with the low k bits turned; what the two flags don't tell has not turned. -/
def TRel (w : World) (b c n : Nat) (L : List Int) (p t k : Nat) (s r : Bool) (wr : World) : Prop :=
  ∃ d : List Int, d.length = n ∧ Byt d ∧ num d = num L ^^^ 2 ^ p * (t % 2 ^ k) ∧ (s = false → ∀ i, 8 ≤ i → i < 12 → d.getD i 0 = L.getD i 0) ∧ (r = false → ∀ i, i < 8 ∨ 12 ≤ i → d.getD i 0 = L.getD i 0) ∧
    wr.ownsRow (w.heap.size + 1) 5 1 (.slice (some ⟨b, 0, none⟩) n c) n (bs d) ∧ Below w.heap.size w wr
theorem bit_of (t k : Nat) (ht : t < 4294967296) : bits .and .u32 ((t : Int) / 2 ^ k) 1 = ((t / 2 ^ k % 2 : Nat) : Int) := by
  have h1 : ((t : Int) / 2 ^ k) = ((t / 2 ^ k : Nat) : Int) := by rw [Int.natCast_ediv, Int.natCast_pow]; rfl
  have h2 : t / 2 ^ k < 4294967296 := Nat.lt_of_le_of_lt (Nat.div_le_self _ _) ht
  rw [h1, show (1 : Int) = ((1 : Nat) : Int) from rfl, u32_and_nat (t / 2 ^ k) 1 h2 (by omega), Nat.and_one_is_mod]
theorem trel_zero {w w6 : World} {b c n : Nat} {L : List Int} (hl : L.length = n) (hb : Byt L) (p t : Nat) (ho : w6.ownsRow (w.heap.size + 1) 5 1 (.slice (some ⟨b, 0, none⟩) n c) n (bs L)) (hw : Below w.heap.size w w6) : TRel w b c n L p t 0 false false w6 :=
  ⟨L, hl, hb, by rw [Nat.pow_zero, Nat.mod_one]; simp, fun _ _ _ _ => rfl, fun _ _ _ => rfl, ho, hw⟩
theorem trel_skip {w wr : World} {b c n p t k : Nat} {L : List Int} {s r : Bool} (h : TRel w b c n L p t k s r wr) (h0 : t / 2 ^ k % 2 = 0) : TRel w b c n L p t (k + 1) s r wr := by
  obtain ⟨d, h1, h2, h3, h4⟩ := h
  refine ⟨d, h1, h2, ?_, h4⟩
  rw [h3, mod_succ_xor, h0]
  simp
theorem turned_byte {u s : Nat} (hu : u < 256) (hs : s < 8) : bits .xor .u8 (u : Int) (2 ^ s % 256) = ((u ^^^ 2 ^ s : Nat) : Int) := by
  have h4 : 2 ^ s < 256 := by
    have b : 2 ^ s ≤ 2 ^ 7 := Nat.pow_le_pow_right (by omega) (by omega)
    omega
  have h5 : ((2 : Int) ^ s % 256) = ((2 ^ s : Nat) : Int) := by
    rw [show ((2 : Int) ^ s) = ((2 ^ s : Nat) : Int) by rw [Int.natCast_pow]; rfl]
    generalize 2 ^ s = y at h4 ⊢
    omega
  rw [h5]
  exact u8_xor_nat u _ hu h4
theorem getD_set_other {d : List Int} {i j : Nat} (h : i ≠ j) (x : Int) : (d.set j x).getD i 0 = d.getD i 0 := by
  rw [List.getD_eq_getElem?_getD, List.getD_eq_getElem?_getD, List.getElem?_set_ne (fun e => h e.symm)]
theorem trel_step {w wr : World} {b c n p t k u : Nat} {L d : List Int} {s r s' r' : Bool} (hd : d.length = n) (hb : Byt d) (hu : d.getD ((p + k) / 8) 0 = u) (hu2 : u < 256) (h1 : t / 2 ^ k % 2 = 1)
    (hx : num (d.set ((p + k) / 8) (((d.getD ((p + k) / 8) 0).toNat ^^^ (t / 2 ^ k % 2 * 2 ^ ((p + k) % 8)) : Nat) : Int)) = num L ^^^ 2 ^ p * (t % 2 ^ (k + 1)))
    (hs : s = false → ∀ i, 8 ≤ i → i < 12 → d.getD i 0 = L.getD i 0) (hr : r = false → ∀ i, i < 8 ∨ 12 ≤ i → d.getD i 0 = L.getD i 0)
    (ho : wr.ownsRow (w.heap.size + 1) 5 1 (.slice (some ⟨b, 0, none⟩) n c) n (bs d)) (hbe : Below w.heap.size w wr)
    (hs' : s' = false → s = false ∧ ¬ (8 ≤ (p + k) / 8 ∧ (p + k) / 8 < 12)) (hr' : r' = false → r = false ∧ ¬ ((p + k) / 8 < 8 ∨ 12 ≤ (p + k) / 8)) :
    Hid (TRel w b c n L p t (k + 1) s' r' (wr.setCell ⟨b, (p + k) / 8, none⟩ (.int .u8 (bits .xor .u8 (u : Int) (2 ^ ((p + k) % 8) % 256)))).drew) := by
  have hb7 := Nat.mod_lt (p + k) (show 8 > 0 by omega)
  rw [turned_byte hu2 hb7]
  rw [hu, Int.toNat_natCast, h1, Nat.one_mul] at hx
  have hst := ho.stored ((p + k) / 8) (.int .u8 ((u ^^^ 2 ^ ((p + k) % 8) : Nat) : Int))
  rw [bs_set] at hst
  have h4 : 2 ^ ((p + k) % 8) < 256 := by
    have b : 2 ^ ((p + k) % 8) ≤ 2 ^ 7 := Nat.pow_le_pow_right (by omega) (by omega)
    omega
  refine ⟨_, by rw [List.length_set, hd], Byt.set hb _ (xor_lt8 hu2 h4), hx, fun h i h8 h12 => ?_, fun h i hi => ?_, hst.1.drew, (hbe.setCell (p := ⟨b, (p + k) / 8, none⟩) (Nat.le_trans (Nat.le_succ _) (ho.lt b rfl).1) _).drew⟩
  · obtain ⟨e1, e2⟩ := hs' h
    rw [getD_set_other (by omega)]
    exact hs e1 i h8 h12
  · obtain ⟨e1, e2⟩ := hr' h
    rw [getD_set_other (by omega)]
    exact hr e1 i hi
set_option maxRecDepth 100000 in
set_option maxHeartbeats 4000000 in
theorem headBack_main (f t g : Nat) (a1 : Option Addr) (len1 cap1 : Nat) (l : List Int) (a2 : Option Addr) (len2 cap2 : Nat) (m : List Int) (at_ : Int) (tu : Nat) (w : World) (hf : f < 65536) (ht : t < 65536) (hg : g < 4294967296)
    (hl : l.length = len1) (hb : Byt l) (hr : Row w a1 (bs l)) (hz : a1 = none → len1 = 0 ∧ cap1 = 0) (hm : m.length = len2) (hmc : len2 ≤ cap2) (hmm : cap2 ≤ maxLen) (hmb : Byt m) (hmr : Row w a2 (bs m)) (hn1 : len1 ≤ 1500) (hn2 : len2 ≤ 1500)
    (hat : -9223372036854775808 ≤ at_ ∧ at_ < 9223372036854775808) (htu : tu < 4294967296) :
    Calls Try.prog 5 #[.agg #[.int .u16 (f : Int), .int .u16 (t : Int), .int .u32 (g : Int)], .slice a1 len1 cap1, .slice a2 len2 cap2, .int .i64 at_, .int .u32 (tu : Int)] w fun e w' => e = .returned (.bool true) ∧ Below w.heap.size w w' := by
  have HK := Lib.hid known_any
  have HR := Lib.hid hr
  have HB := Lib.hid hb
  have HL := Lib.hid hl
  have HZ := Lib.hid hz
  have HM := Lib.hid hm
  have HMC := Lib.hid hmc
  have HMM := Lib.hid hmm
  have HMB := Lib.hid hmb
  have HMR := Lib.hid hmr
  have HAT := Lib.hid hat
  have hk0 := kh_new w f t g
  have HK0 := Lib.hid hk0
  have d1 : decide ((1500 : Int) < (len1 : Int)) = false := by simp; omega
  have d2 : decide ((1500 : Int) < (len2 : Int)) = false := by simp; omega
  clear hr hb hl hz hm hmc hmm hmb hmr hk0 hat
  go_enter Try.func5, Try.ntmps5
  go_wp2_with fail
  refine (HK.out _).mono ?_
  rintro e w1 ⟨rfl, hb1⟩
  have HK1 := Lib.hid (HK0.out.next hb1)
  clear hb1
  go_wp2_with fail
  refine (htake_any a2 len2 cap2 m _ HM.out (by omega) HMC.out HMM.out HMB.out (HMR.out.below HK1.out.2)).mono ?_
  rintro e w2 ⟨A2, n2, c2, rfl, ho2⟩
  have HK2 := Lib.hid (HK1.out.next ho2.2)
  have HO2 := Lib.hid ho2
  have hk2 : Kh w2 (tk m).f (tk m).t (tk m).g (w2.alloc (.cells #[.int .u16 ((tk m).f : Int), .int .u16 ((tk m).t : Int), .int .u32 ((tk m).g : Int)] 25)) := kh_new _ _ _ _
  have HH2 := Lib.hid hk2
  have htl := tk_lt HMB.out
  have HTL := Lib.hid htl
  have HTK : Hid ((tk m).err = 0 → pt (tk m).f (tk m).t (tk m).g (tk m).body = (m, 0)) := forth HMB.out
  clear ho2 hk2 htl
  obtain ⟨f2, hf2⟩ : ∃ f2, (tk m).f = f2 := ⟨_, rfl⟩
  obtain ⟨t2, ht2⟩ : ∃ t2, (tk m).t = t2 := ⟨_, rfl⟩
  obtain ⟨g2, hg2⟩ : ∃ g2, (tk m).g = g2 := ⟨_, rfl⟩
  rw [hf2, ht2, hg2] at HH2 HTL HTK
  rw [hf2, ht2, hg2]
  clear hf2 ht2 hg2
  generalize (tk m).body = x2 at HO2 HTL HTK
  generalize (tk m).err = err2 at HTK ⊢
  go_upto_if 41 with fail
  go_cut [14, 15] from 42 to 56 (fun _ _ W => Hid (Kh w f t g W))
  case first =>
    by_cases he : err2 = 0
    · subst he
      have hpt := HTK.out rfl
      have hl2 := HO2.out.len
      have htl := HTL.out
      have hml := HM.out
      have hc := hput_any f2 t2 g2 A2 n2 c2 x2 (w2.alloc (.cells #[.int .u16 (f2 : Int), .int .u16 (t2 : Int), .int .u32 (g2 : Int)] 25)) htl.1 htl.2.1 htl.2.2.1 hl2 (by omega) htl.2.2.2.1 (HO2.out.row.alloc _) HO2.out.none_
      rw [hpt] at hc
      have HC := Lib.hid hc
      clear hpt hl2 htl hml hc
      go_wp2_with fail
      refine HC.out.mono ?_
      rintro e w3 ⟨A3, n3, c3, rfl, ho3⟩
      have HK3 := Lib.hid ((HK2.out.alloc (.cells #[.int .u16 (f2 : Int), .int .u16 (t2 : Int), .int .u32 (g2 : Int)] 25)).next ho3.2)
      have cv1 := run_strOf (P := Try.prog) (w := w3) (src := 26) (dst := 9) (c := c3) Try.underlying26 Try.underlying5 Try.underlying9 ho3.len ho3.row
      have cv2 := run_strOf (P := Try.prog) (w := w3) (src := 26) (dst := 9) (c := cap2) Try.underlying26 Try.underlying5 Try.underlying9 HM.out (HMR.out.below HK3.out.2)
      clear ho3
      generalize strOf m = str at cv1 cv2
      go_wp2_with fail
      go_meet
      case rel => exact HK3
    · have hne : (err2 == 0) = false := by simpa using he
      clear he
      go_wp2_with fail
      go_meet
      case rel => exact HK2.out.alloc _
  case rest =>
    have HKc : Hid (Kh w f t g wc) := hcut
    clear hcut HH2 HO2 HTL HTK HK2 HK1 HK0 HM HMC HMM HMB HMR
    have e0 := HKc.out.c0
    have e1 := HKc.out.c1
    have e2 := HKc.out.c2
    go_wp2_with fail
    clear e0 e1 e2
    refine (hput_any f t g a1 len1 cap1 l _ hf ht hg HL.out (by omega) HB.out (HR.out.below HKc.out.2) HZ.out).mono ?_
    rintro e w4 ⟨A4, n4, c4, rfl, ho4⟩
    have HK4 := Lib.hid (HKc.out.next ho4.2)
    have ho5 := own_base ho4.1 HKc.out.lt
    rcases pt_ways f t g l with ⟨hp1, hp2⟩ | ⟨hp1, hp2, hp3⟩
    · have hn0 : n4 = 0 := by rw [← ho4.len, hp2]; rfl
      subst hn0
      have hne : ((pt f t g l).2 != 0) = true := by simpa using hp1
      clear ho4 ho5 hp1 hp2
      generalize (pt f t g l).2 = err at hne ⊢
      go_wp2_with fail
      go_ret
      exact ⟨rfl, HK4.out.2⟩
    · have hback := back hf ht hg HB.out hp1
      have hLb := pt_byt f t g HB.out
      have hLl := ho4.len
      rw [hp1]
      have HO4 := Lib.hid ho5
      clear ho4 ho5 hp1
      generalize (pt f t g l).1 = L at hp2 hp3 hback hLb hLl HO4
      have h12 : 12 ≤ n4 := by omega
      have h15 : n4 ≤ 1500 := by omega
      obtain ⟨b4, c4', hv, _, hb4⟩ := HO4.out.form (by omega)
      simp only [Value.slice.injEq] at hv
      obtain ⟨rfl, _, rfl⟩ := hv
      have hcap := own_cells HO4.out
      obtain ⟨_, _, _, _, _, hcn, hcm⟩ := hcap
      have HBK := Lib.hid hback
      have HLB := Lib.hid hLb
      have HLL := Lib.hid hLl
      have HCN := Lib.hid hcn
      have HCM := Lib.hid hcm
      have hHB4 := Lib.hid hb4
      clear hp2 hp3 hback hLb hLl hcn hcm hb4
      go_wp2_with fail
      have hT := htake_any (some ⟨b4, 0, none⟩) n4 c4 L w4 HLL.out (by omega) HCN.out HCM.out HLB.out (row_of_own HO4.out)
      rw [HBK.out] at hT
      have HT := Lib.hid hT
      clear hT
      refine HT.out.mono ?_
      rintro e w5 ⟨A5, n5, c5, rfl, ho5⟩
      have HK5 := Lib.hid (HK4.out.next ho5.2)
      have hk6 : Kh w f t g (w5.alloc (.cells #[.int .u16 (f : Int), .int .u16 (t : Int), .int .u32 (g : Int)] 25)) := HK5.out.alloc _
      have HK6 := Lib.hid hk6
      have HO6 := Lib.hid ((own_below HO4.out ho5.2).alloc (.cells #[.int .u16 (f : Int), .int .u16 (t : Int), .int .u32 (g : Int)] 25))
      have e0 := hk6.c0
      have e1 := hk6.c1
      have e2 := hk6.c2
      have cv1 := run_strOf (P := Try.prog) (w := w5.alloc (.cells #[.int .u16 (f : Int), .int .u16 (t : Int), .int .u32 (g : Int)] 25)) (src := 26) (dst := 9) (c := c5) Try.underlying26 Try.underlying5 Try.underlying9 ho5.len (ho5.row.alloc _)
      have cv2 := run_strOf (P := Try.prog) (w := w5.alloc (.cells #[.int .u16 (f : Int), .int .u16 (t : Int), .int .u32 (g : Int)] 25)) (src := 26) (dst := 9) (c := cap1) Try.underlying26 Try.underlying5 Try.underlying9 HL.out (HR.out.below hk6.2)
      simp only at cv1
      clear ho5 hk6
      generalize strOf l = str at cv1 cv2
      go_upto_region 16 with fail
      clear e0 e1 e2 cv1 cv2
      generalize w5.alloc (.cells #[.int .u16 (f : Int), .int .u16 (t : Int), .int .u32 (g : Int)] 25) = w6 at HK6 HO6 ⊢
      by_cases t0 : tu = 0
      · subst t0
        go_wp2_with fail
        go_ret
        exact ⟨rfl, HK6.out.2⟩
      have d3 : ((tu : Int) == 0) = false := by simp; omega
      by_cases a0 : at_ < 0
      · have d4 : decide (at_ < 0) = true := by simpa using a0
        go_wp2_with fail
        go_ret
        exact ⟨rfl, HK6.out.2⟩
      have d4 : decide (at_ < 0) = false := by simpa using a0
      by_cases a2 : 8 * (n4 : Int) - 32 < at_
      · have d5 : decide (8 * (n4 : Int) - 32 < at_) = true := by simpa using a2
        go_wp2_with fail
        go_ret
        exact ⟨rfl, HK6.out.2⟩
      obtain ⟨p, rfl⟩ := Int.eq_ofNat_of_zero_le (show 0 ≤ at_ by omega)
      have d5 : decide (8 * (n4 : Int) - 32 < (p : Int)) = false := by simpa using a2
      have hp : p + 32 ≤ 8 * n4 := by omega
      clear a0 a2
      go_wp2_with fail
      clear d3 d4 d5
      have HR6 := Lib.hid (trel_zero HLL.out HLB.out p tu HO6.out HK6.out.2)
      clear HO6 HK6 HK5 HT HK4 HO4 HKc HR
      go_loopw [20, 21, 102] (fun vs vr i wr => ∃ (k : Nat) (s r : Bool), k ≤ 32 ∧ i = .int .i64 k ∧ vs = .bool s ∧ vr = .bool r ∧ Hid (TRel w b4 c4 n4 L p tu k s r wr)) (fun _ _ i _ => 32 - (intOf i).toNat)
      case atStart => exact ⟨0, false, false, by omega, rfl, rfl, rfl, HR6⟩
      case round =>
        clear HR6
        obtain ⟨k, s, r, hk, rfl, rfl, rfl, hrl⟩ := hrel
        by_cases hlt : k < 32
        · have hbit := bit_of tu k htu
          by_cases h1 : tu / 2 ^ k % 2 = 1
          · rw [h1] at hbit
            obtain ⟨d, hdl, hdb, hdx, hds, hdr, hown, hbw⟩ := hrl.out
            have hj : (p + k) / 8 < n4 := by omega
            have hf8 := hown.frozenAt ((p + k) / 8)
            have hc := (hown.cellAt ((p + k) / 8) (by omega)).trans (bs_get (show (p + k) / 8 < d.length by omega))
            obtain ⟨u, hu, hu2⟩ := Byt.at hdb (show (p + k) / 8 < d.length by omega)
            have HX := Lib.hid (turn_round hdx (show (p + k) / 8 < d.length by omega))
            rw [hu] at hc
            have HU := Lib.hid hu
            have HD := Lib.hid hdl
            have HDB := Lib.hid hdb
            have HO := Lib.hid hown
            have HDS := Lib.hid hds
            have HDR := Lib.hid hdr
            have HBW := Lib.hid hbw
            have H1 := Lib.hid h1
            clear hu hdl hdb hdx hown hds hdr hbw h1
            go_wp2_with fail
            go_region
            cases s <;> cases r <;> by_cases j8 : (8 : Int) ≤ ((p : Int) + (k : Int)) / 8 <;> by_cases j12 : ((p : Int) + (k : Int)) / 8 < 12
            all_goals (first | (exfalso; omega) | skip)
            all_goals
              go_wp2_with fail
              go_roundw
              case rel => exact ⟨k + 1, _, _, by omega, by go_num, rfl, rfl, trel_step HD.out HDB.out HU.out hu2 H1.out HX.out HDS.out HDR.out HO.out HBW.out (by intro h; first | (cases h; done) | exact ⟨rfl, by omega⟩) (by intro h; first | (cases h; done) | exact ⟨rfl, by omega⟩ | (simp at h; exact ⟨rfl, by omega⟩))⟩
              case measure => simp [intOf]; omega
          · have h0 : tu / 2 ^ k % 2 = 0 := by omega
            rw [h0] at hbit
            have HN := Lib.hid (trel_skip hrl.out h0)
            clear h1 h0
            go_wp2_with fail
            go_roundw
            case rel => exact ⟨k + 1, s, r, by omega, by go_num, rfl, rfl, HN⟩
            case measure => simp [intOf]; omega
        · have hk32 : k = 32 := by omega
          subst hk32
          obtain ⟨d, hdl, hdb, hdx, hds, hdr, hown, hbw⟩ := hrl.out
          rw [Nat.mod_eq_of_lt (show tu < 2 ^ 32 by omega)] at hdx
          by_cases hsr : s = true ∧ r = true
          · obtain ⟨rfl, rfl⟩ := hsr
            clear hdl hdb hdx hds hdr hown
            go_wp2_with fail
            go_ret
            exact ⟨rfl, hbw⟩
          · have hwy : (∀ i, i < 8 ∨ 12 ≤ i → d.getD i 0 = L.getD i 0) ∨ (∀ i, 8 ≤ i → i < 12 → d.getD i 0 = L.getD i 0) := by
              cases s
              · exact .inr (hds rfl)
              · cases r
                · exact .inl (hdr rfl)
                · exact absurd ⟨rfl, rfl⟩ hsr
            have h31 := otherwise_ HLB.out hdb (by rw [hdl, HLL.out]) (by rw [HBK.out]) t0 htu (by rw [HLL.out]; exact hp) hdx hwy
            have hT := htake_any (some ⟨b4, 0, none⟩) n4 c4 d wr hdl (by omega) HCN.out HCM.out hdb (row_of_own hown)
            have HT := Lib.hid hT
            have H31 := Lib.hid h31
            clear hdl hdb hdx hds hdr hown hwy h31 hT hrl
            cases s <;> cases r
            all_goals (first | (exact absurd ⟨rfl, rfl⟩ hsr) | skip)
            all_goals
              clear hsr
              go_wp2_with fail
              refine HT.out.mono ?_
              rintro e w9 ⟨A9, n9, c9, rfl, ho9⟩
              rw [H31.out]
              have HB9 := Lib.hid (hbw.trans (ho9.2.mono hbw.size))
              clear ho9
              go_wp2_with fail
              go_ret
              exact ⟨rfl, HB9.out⟩

set_option maxRecDepth 100000 in
set_option maxHeartbeats 1000000 in
theorem headBack_walk (x0 x1 x2 : Int) (a1 : Option Addr) (len1 cap1 : Nat) (z1 : List Int) (a2 : Option Addr) (len2 cap2 : Nat) (z2 : List Int) (a3 a4 : Int) (w : World) (h0 : (Lit.int .u16 x0).wf = true) (h1 : (Lit.int .u16 x1).wf = true) (h2 : (Lit.int .u32 x2).wf = true)
    (w1 : IsRow .u8 w a1 len1 cap1 z1) (w2 : IsRow .u8 w a2 len2 cap2 z2) (w3 : (Lit.int .i64 a3).wf = true) (w4 : (Lit.int .u32 a4).wf = true) :
    Calls Try.prog 5 #[.agg #[.int .u16 x0, .int .u16 x1, .int .u32 x2], .slice a1 len1 cap1, .slice a2 len2 cap2, .int .i64 a3, .int .u32 a4] w fun e w' => e = .returned (.bool true) ∧ Below w.heap.size w w' := by
  have b0 := wf_u16 h0
  have b1 := wf_u16 h1
  have b2 := wf_u32 h2
  have b3 := wf_i64 w3
  have b4 := wf_u32 w4
  obtain ⟨f, rfl⟩ := Int.eq_ofNat_of_zero_le b0.1
  obtain ⟨t, rfl⟩ := Int.eq_ofNat_of_zero_le b1.1
  obtain ⟨g, rfl⟩ := Int.eq_ofNat_of_zero_le b2.1
  obtain ⟨tu, rfl⟩ := Int.eq_ofNat_of_zero_le b4.1
  have hz := w1.none_
  obtain ⟨l, hl, hlc, hcm, hb, hr⟩ := w1.bytes
  obtain ⟨m, hm, hmc, hmm, hmb, hmr⟩ := w2.bytes
  by_cases hn : len1 ≤ 1500 ∧ len2 ≤ 1500
  · exact headBack_main f t g a1 len1 cap1 l a2 len2 cap2 m a3 tu w (by omega) (by omega) (by omega) hl hb hr hz hm hmc hmm hmb hmr hn.1 hn.2 b3 (by omega)
  have hm1 : len1 ≤ 9223372036854775807 := by unfold maxLen at hcm; omega
  have hm2 : len2 ≤ 9223372036854775807 := by unfold maxLen at hmm; omega
  have HK := Lib.hid known_any
  have hk0 := kh_new w f t g
  have HK0 := Lib.hid hk0
  clear hr hb hl hz hm hmc hmm hmb hmr hk0 b0 b1 b2 b3 b4 h0 h1 h2 w1 w2 w3 w4 hlc hcm
  by_cases h1 : 1500 < len1
  · have d1 : decide ((1500 : Int) < (len1 : Int)) = true := by simp; omega
    clear hn hm1 hm2
    go_enter Try.func5, Try.ntmps5
    go_wp2_with fail
    refine (HK.out _).mono ?_
    rintro e w1 ⟨rfl, hb1⟩
    have HK1 := Lib.hid (HK0.out.next hb1)
    clear hb1
    go_wp2_with fail
    go_ret
    exact ⟨rfl, HK1.out.2⟩
  · have d1 : decide ((1500 : Int) < (len1 : Int)) = false := by simp; omega
    have d2 : decide ((1500 : Int) < (len2 : Int)) = true := by simp; omega
    clear hn hm1 hm2
    go_enter Try.func5, Try.ntmps5
    go_wp2_with fail
    refine (HK.out _).mono ?_
    rintro e w1 ⟨rfl, hb1⟩
    have HK1 := Lib.hid (HK0.out.next hb1)
    clear hb1
    go_wp2_with fail
    go_ret
    exact ⟨rfl, HK1.out.2⟩
end Go.Proofs.Ytgepmicodfhhmaa
