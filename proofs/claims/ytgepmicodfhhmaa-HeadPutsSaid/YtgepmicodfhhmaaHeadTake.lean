/-
  What head.Take does.
-/
import Derived.Test.YtgepmicodfhhmaaHeadPutOwn
namespace Go.Proofs.Ytgepmicodfhhmaa
open Go.RowKit Crc Head

/-- A head by value. -/
def hv (f t g : Nat) : Value := .agg #[.int .u16 (f : Int), .int .u16 (t : Int), .int .u32 (g : Int)]
/-- What a call that takes leaves. -/
def TakeOut (w : World) (p : Tk) (e : Ending) (w' : World) : Prop := ∃ A n c, e = .returned (.tuple #[.agg #[.int .u16 (p.f : Int), .int .u16 (p.t : Int), .int .u32 (p.g : Int)], .slice A n c, .int .i64 p.err]) ∧ Own w w' A n c p.body
theorem Kh.f0 {w W : World} {f t g : Nat} (h : Kh w f t g W) (i : Nat) : W.frozen? ⟨w.heap.size, i, none⟩ = false := by simp [World.frozen?, h.1]
theorem kh_stored {w W : World} {f t g : Nat} (h : Kh w f t g W) (f' t' g' : Nat) : Kh w f' t' g' (((W.setCell ⟨w.heap.size, 0, none⟩ (.int .u16 (f' : Int))).setCell ⟨w.heap.size, 1, none⟩ (.int .u16 (t' : Int))).setCell ⟨w.heap.size, 2, none⟩ (.int .u32 (g' : Int))) := by
  refine ⟨?_, ((h.2.setCell (Nat.le_refl _) _).setCell (Nat.le_refl _) _).setCell (Nat.le_refl _) _⟩
  simp [World.setCell, Array.getElem?_modify, h.1]
theorem kh_own {w W : World} {f t g : Nat} (h : Kh w f t g W) {A : Option Addr} {n c : Nat} {l : List Int} (ho : W.ownsRow (w.heap.size + 1) 5 1 (.slice A n c) n (bs l)) (f' t' g' : Nat) :
    Own w (((W.setCell ⟨w.heap.size, 0, none⟩ (.int .u16 (f' : Int))).setCell ⟨w.heap.size, 1, none⟩ (.int .u16 (t' : Int))).setCell ⟨w.heap.size, 2, none⟩ (.int .u32 (g' : Int))) A n c l :=
  ⟨own_base (ownsRow_setCell_below (ownsRow_setCell_below (ownsRow_setCell_below ho (by simp) _) (by simp) _) (by simp) _) (Nat.le_succ _), (kh_stored h f' t' g').2⟩
theorem take4 {l : List Int} (h : 12 ≤ l.length) (hb : Byt l) : nu (l.take 4) = fr l * 65536 + to_ l := by
  obtain ⟨h1, h2, _⟩ := parts_lt h hb
  have e : l.take 4 = be 4 (fr l * 65536 + to_ l) := by
    rw [be4_split _ _ h2, cut_app l 2 4 (by omega)]
    unfold fr to_
    rw [be_nu 2 _ (by simp; omega) (Byt.take hb 2), be_nu 2 _ (by simp; omega) (Byt.drop (Byt.take hb 4) 2)]
  rw [e, nu_be 4 _ (by omega)]
theorem tg_eq (l : List Int) : nu ((l.drop 4).take 4) = tg l := by unfold tg; rw [List.drop_take]
theorem su_eq (l : List Int) : nu ((l.drop 8).take 4) = su l := by unfold su; rw [List.drop_take]
theorem row_drop {W : World} {A : Option Addr} {l : List Int} {n c k : Nat} (hl : l.length = n) (hnc : n ≤ c) (hr : Row W A (bs l)) : Row W (cutA A c k) (bs (l.drop k)) := by
  have := hr.cut (c := c) (lo := k) hnc
  rw [List.take_of_length_le (by simp [bs]; omega)] at this
  simpa [bs] using this

set_option maxRecDepth 100000 in
set_option maxHeartbeats 1000000 in
theorem take_bad (A : Option Addr) (n c : Nat) (l : List Int) (w : World) (hl : l.length = n) (hn : n ≤ 100000) (hbad : 1500 < n ∨ n < 12 ∨ n % 4 ≠ 0) :
    Calls Try.prog 9 #[.slice A n c] w (TakeOut w (tk l)) := by
  have hnb : Own w (w.alloc (.cells #[.int .u16 0, .int .u16 0, .int .u32 0] 25)) none 0 0 [] := ⟨World.ownsRow_nil _ _ _ _, (Below.refl _ _).alloc (Nat.le_refl _) _⟩
  have HNB := Lib.hid hnb
  have htk : tk l = if 1500 < n then ⟨0, 0, 0, [], 3⟩ else if n < 12 then ⟨0, 0, 0, [], 30⟩ else if n % 4 ≠ 0 then ⟨0, 0, 0, [], 32⟩ else tk l := by
    conv => lhs; unfold tk
    rw [hl]
    split
    · rfl
    split
    · rfl
    split
    · rfl
    · omega
  by_cases h1 : 1500 < n
  · rw [if_pos h1] at htk
    rw [htk]
    have d1 : decide ((1500 : Int) < (n : Int)) = true := by simp; omega
    clear hnb htk hl hbad
    go_enter Try.func9, Try.ntmps9
    go_wp2_with fail
    go_returns
    exact ⟨_, _, _, rfl, HNB.out⟩
  rw [if_neg h1] at htk
  have d1 : decide ((1500 : Int) < (n : Int)) = false := by simp; omega
  by_cases h2 : n < 12
  · rw [if_pos h2] at htk
    rw [htk]
    have d2 : decide ((n : Int) < 12) = true := by simp; omega
    clear hnb htk hl hbad
    go_enter Try.func9, Try.ntmps9
    go_wp2_with fail
    go_returns
    exact ⟨_, _, _, rfl, HNB.out⟩
  rw [if_neg h2] at htk
  have d2 : decide ((n : Int) < 12) = false := by simp; omega
  have h3 : n % 4 ≠ 0 := by omega
  rw [if_pos h3] at htk
  rw [htk]
  have d3 : ((n : Int) % 4 != 0) = true := by simp only [bne_iff_ne, ne_eq]; omega
  clear hnb htk hl hbad
  go_enter Try.func9, Try.ntmps9
  go_wp2_with fail
  go_returns
  exact ⟨_, _, _, rfl, HNB.out⟩

set_option maxRecDepth 100000 in
set_option maxHeartbeats 1000000 in
theorem take_good (A : Option Addr) (n c : Nat) (l : List Int) (w : World) (hl : l.length = n) (hn : n ≤ 100000) (hnc : n ≤ c) (hcm : c ≤ maxLen) (hb : Byt l) (hr : Row w A (bs l)) (h1 : ¬ 1500 < n) (h2 : ¬ n < 12) (h3 : n % 4 = 0) :
    Calls Try.prog 9 #[.slice A n c] w (TakeOut w (tk l)) := by
  have htk : tk l = if su l ≠ sm l then ⟨0, 0, 0, [], 31⟩ else ⟨fr l, to_ l, tg l, l.drop 12, 0⟩ := by
    unfold tk
    rw [hl, if_neg h1, if_neg h2, if_neg (by omega)]
  have d1 : decide ((1500 : Int) < (n : Int)) = false := by simp; omega
  have d2 : decide ((n : Int) < 12) = false := by simp; omega
  have d3 : ((n : Int) % 4 != 0) = false := by simp only [bne_eq_false_iff_eq]; omega
  have sz : (Try.prog.info? 5).map (·.size) = some 1 := by kernel_rfl
  have q8 : ∀ W, (Instr.slice 26 (.slice A n c) (some (.int .i64 8)) none none).run Try.prog W = .ok (.slice (cutA A c 8) (n - 8) (c - 8)) W := fun W => run_cut_l (P := Try.prog) Try.underlying26 sz (k := .i64) A n c 8 (by omega) W
  have q4 : ∀ W, (Instr.slice 26 (.slice A n c) (some (.int .i64 4)) none none).run Try.prog W = .ok (.slice (cutA A c 4) (n - 4) (c - 4)) W := fun W => run_cut_l (P := Try.prog) Try.underlying26 sz (k := .i64) A n c 4 (by omega) W
  have q12 : ∀ W, (Instr.slice 26 (.slice A n c) (some (.int .i64 12)) none none).run Try.prog W = .ok (.slice (cutA A c 12) (n - 12) (c - 12)) W := fun W => run_cut_l (P := Try.prog) Try.underlying26 sz (k := .i64) A n c 12 (by omega) W
  obtain ⟨p1, p2, p3, p4⟩ := parts_lt (l := l) (by omega) hb
  have c8 : ∀ W, Row W A (bs l) → Calls Try.prog 15 #[.slice (cutA A c 8) (n - 8) (c - 8)] W fun e w' => e = .returned (.int .u32 (su l : Nat)) ∧ ∃ q, w' = W.drewN q := fun W h =>
    (number_any (cutA A c 8) (n - 8) (c - 8) (l.drop 8) W (by simp; omega) (by omega) (Byt.drop hb 8) (row_drop hl hnc h)).mono fun _ _ ⟨he, hw⟩ => ⟨by rw [he, su_eq], hw⟩
  have c4 : ∀ W, Row W A (bs l) → Calls Try.prog 15 #[.slice (cutA A c 4) (n - 4) (c - 4)] W fun e w' => e = .returned (.int .u32 (tg l : Nat)) ∧ ∃ q, w' = W.drewN q := fun W h =>
    (number_any (cutA A c 4) (n - 4) (c - 4) (l.drop 4) W (by simp; omega) (by omega) (Byt.drop hb 4) (row_drop hl hnc h)).mono fun _ _ ⟨he, hw⟩ => ⟨by rw [he, tg_eq], hw⟩
  have c0 : ∀ W, Row W A (bs l) → Calls Try.prog 15 #[.slice A n c] W fun e w' => e = .returned (.int .u32 (fr l * 65536 + to_ l : Nat)) ∧ ∃ q, w' = W.drewN q := fun W h =>
    (number_any A n c l W hl (by omega) hb h).mono fun _ _ ⟨he, hw⟩ => ⟨by rw [he, take4 (by omega) hb], hw⟩
  have cs : ∀ W, Row W A (bs l) → Calls Try.prog 12 #[.slice A n c] W fun e w' => e = .returned (.int .u32 (sm l : Nat)) ∧ Below W.heap.size W w' := fun W h =>
    hsum_any A n c l W hl (by omega) hnc hcm hb h
  have cc : ∀ W, Row W A (bs l) → Calls Try.prog 16 #[.slice (cutA A c 12) (n - 12) (c - 12)] W fun e w' => ∃ A' c', e = .returned (.slice A' (n - 12) c') ∧ Own W w' A' (n - 12) c' (l.drop 12) := fun W h =>
    clone_any (cutA A c 12) (n - 12) (c - 12) (l.drop 12) W (by simp; omega) (by omega) (row_drop hl hnc h)
  have hk0 : Kh w 0 0 0 (w.alloc (.cells #[.int .u16 0, .int .u16 0, .int .u32 0] 25)) := kh_new w 0 0 0
  have C8 := Lib.hid c8
  have C4 := Lib.hid c4
  have C0 := Lib.hid c0
  have CS := Lib.hid cs
  have CC := Lib.hid cc
  have HR := Lib.hid hr
  have HK0 := Lib.hid hk0
  have HS := Lib.hid (sm_lt l)
  clear c8 c4 c0 cs cc hr hk0 sz hl hnc hcm hb h1 h2 h3
  by_cases h4 : su l = sm l
  case neg =>
    rw [if_pos h4] at htk
    rw [htk]
    have hne : ((su l : Int) != (sm l : Int)) = true := by simp only [bne_iff_ne, ne_eq]; omega
    clear htk h4
    generalize su l = s1 at C8 hne
    generalize sm l = s2 at CS hne
    go_enter Try.func9, Try.ntmps9
    go_wp2_with fail
    refine (C8.out _ (HR.out.below HK0.out.2)).mono ?_
    rintro e w1 ⟨rfl, q, rfl⟩
    have hk1 : Kh w 0 0 0 ((w.alloc (.cells #[.int .u16 0, .int .u16 0, .int .u32 0] 25)).drewN q) := ⟨HK0.out.1, below_drewN HK0.out.2 q⟩
    have HK1 := Lib.hid hk1
    clear hk1
    go_wp2_with fail
    refine (CS.out _ (HR.out.below HK1.out.2)).mono ?_
    rintro e w2 ⟨rfl, hb2⟩
    have hk2 := HK1.out.next hb2
    have e0 := hk2.c0
    have e1 := hk2.c1
    have e2 := hk2.c2
    have f0 := hk2.f0
    have HK2 := Lib.hid hk2
    clear hk2 hb2
    have hk3 := kh_stored HK2.out 0 0 0
    have g0 := hk3.c0
    have g1 := hk3.c1
    have g2 := hk3.c2
    have HO := Lib.hid (kh_own (l := []) HK2.out (World.ownsRow_nil w2 (w.heap.size + 1) 5 1) 0 0 0)
    clear hk3
    go_wp2_with fail
    generalize World.setCell (World.setCell (World.setCell w2 _ _) _ _) _ _ = W9 at g0 g1 g2 HO ⊢
    refine bodyPost_ret (v := .tuple #[.agg #[.int .u16 0, .int .u16 0, .int .u32 0], .slice none 0 0, .int .i64 31]) (by simp [results, Try.results9, go_sem, g0, g1, g2]) rfl ⟨_, _, _, rfl, HO.out⟩
  case pos =>
    rw [if_neg (by simpa using h4)] at htk
    rw [htk]
    have hne : ((su l : Int) != (sm l : Int)) = false := by rw [h4]; simp
    rw [h4] at C8 hne
    clear htk h4
    generalize sm l = s2 at CS C8 hne HS
    obtain ⟨X, hX⟩ : ∃ X, fr l * 65536 + to_ l = X := ⟨_, rfl⟩
    have hX1 : (X : Int) / 65536 = (fr l : Int) := by omega
    have hX2 : (X : Int) % 65536 = (to_ l : Int) := by omega
    have hXl : X < 4294967296 := by omega
    rw [hX] at C0
    clear hX
    have hX3 : IntKind.u16.wrap (X : Int) = (to_ l : Int) := by rw [IntKind.wrap_u16]; exact hX2
    clear hX2
    generalize fr l = f at *
    generalize to_ l = t at *
    generalize tg l = g at *
    go_enter Try.func9, Try.ntmps9
    go_wp2_with fail
    refine (C8.out _ (HR.out.below HK0.out.2)).mono ?_
    rintro e w1 ⟨rfl, q, rfl⟩
    have hk1 : Kh w 0 0 0 ((w.alloc (.cells #[.int .u16 0, .int .u16 0, .int .u32 0] 25)).drewN q) := ⟨HK0.out.1, below_drewN HK0.out.2 q⟩
    have HK1 := Lib.hid hk1
    clear hk1
    go_wp2_with fail
    refine (CS.out _ (HR.out.below HK1.out.2)).mono ?_
    rintro e w2 ⟨rfl, hb2⟩
    have HK2 := Lib.hid (HK1.out.next hb2)
    clear hb2
    go_wp2_with fail
    refine (C0.out _ (HR.out.below HK2.out.2)).mono ?_
    rintro e w3 ⟨rfl, q3, rfl⟩
    go_wp2_with fail
    refine (C4.out _ (HR.out.below (below_drewN HK2.out.2 _))).mono ?_
    rintro e w4 ⟨rfl, q5, rfl⟩
    have HK5 : Hid (Kh w 0 0 0 ((w2.drewN q3).drewN q5)) := ⟨HK2.out.1, below_drewN (below_drewN HK2.out.2 _) _⟩
    generalize (w2.drewN q3).drewN q5 = w5 at HK5 ⊢
    have hcc : ∀ W, Hid (Kh w5 f t g W ∧ Kh w 0 0 0 W) → Calls Try.prog 16 #[.slice (cutA A c 12) (n - 12) (c - 12)] W fun e w' => ∃ A' c', e = .returned (.slice A' (n - 12) c') ∧ Hid (w'.ownsRow (w.heap.size + 1) 5 1 (.slice A' (n - 12) c') (n - 12) (bs (l.drop 12))) ∧ Hid (Kh w5 f t g w' ∧ Kh w 0 0 0 w') := fun W h =>
      (CC.out W (HR.out.below h.out.2.2)).mono fun _ _ ⟨A', c', he, ho⟩ => ⟨A', c', he, own_base ho.1 h.out.2.lt, h.out.1.next ho.2, h.out.2.next ho.2⟩
    have HCC := Lib.hid hcc
    have hk6 : Hid (Kh w5 f t g (w5.alloc (.cells #[.int .u16 (f : Int), .int .u16 (t : Int), .int .u32 (g : Int)] 25)).drew ∧ Kh w 0 0 0 (w5.alloc (.cells #[.int .u16 (f : Int), .int .u16 (t : Int), .int .u32 (g : Int)] 25)).drew) :=
      ⟨(kh_new w5 f t g).drew, (HK5.out.alloc _).drew⟩
    clear hcc CC HK5 HK2 HK1 HK0 CS C8 C4 C0
    go_wp2_with fail
    go_region_with (first
      | (go_at_call 16; (with_reducible refine (HCC.out _ ?_).mono ?_); assumption; rintro e w7 ⟨A7, c7, rfl, ho7, hk7⟩; have e0 := hk7.out.1.c0; have e1 := hk7.out.1.c1; have e2 := hk7.out.1.c2; have z0 := hk7.out.2.c0; have z1 := hk7.out.2.c1; have z2 := hk7.out.2.c2; have fz := hk7.out.2.f0))
    all_goals
      clear e0 e1 e2 z0 z1 z2 fz
      have hk8 := kh_stored hk7.out.2 f t g
      have g0 := hk8.c0
      have g1 := hk8.c1
      have g2 := hk8.c2
      have HO := Lib.hid (kh_own hk7.out.2 ho7.out f t g)
      clear hk8
      go_wp2_with fail
      generalize World.setCell (World.setCell (World.setCell w7 _ _) _ _) _ _ = W9 at g0 g1 g2 HO ⊢
      refine bodyPost_ret (v := .tuple #[.agg #[.int .u16 (f : Int), .int .u16 (t : Int), .int .u32 (g : Int)], .slice A7 (n - 12) c7, .int .i64 0]) (by simp [results, Try.results9, go_sem, g0, g1, g2]) rfl ⟨_, _, _, rfl, HO.out⟩

theorem htake_any (A : Option Addr) (n c : Nat) (l : List Int) (w : World) (hl : l.length = n) (hn : n ≤ 100000) (hnc : n ≤ c) (hcm : c ≤ maxLen) (hb : Byt l) (hr : Row w A (bs l)) :
    Calls Try.prog 9 #[.slice A n c] w (TakeOut w (tk l)) := by
  by_cases h : 1500 < n ∨ n < 12 ∨ n % 4 ≠ 0
  · exact take_bad A n c l w hl hn h
  · exact take_good A n c l w hl hn hnc hcm hb hr (by omega) (by omega) (by omega)
end Go.Proofs.Ytgepmicodfhhmaa
