/-
  What tlv.Put does.
-/
import Derived.Test.YtjlemghkaodkkaaTlvRead
namespace Go.Proofs.Ytjlemghkaodkkaa
open Go.RowKit Wire Tlv

/-- What a call that puts leaves. -/
def PutOut (w : World) (p : List Int × Int) (e : Ending) (w' : World) : Prop := ∃ A n c, e = .returned (.tuple #[.slice A n c, .int .i64 p.2]) ∧ Own w w' A n c p.1
/-- The thing's block, and the row that is filled. -/
def Pt (w : World) (g : Nat) (x : Array Value) (xs : List Int) (W : World) : Prop := Bk W w.heap.size x 36 ∧ Bk W g (vb xs) 5 ∧ Below w.heap.size w W ∧ w.heap.size < g
theorem Pt.drew {w W : World} {g : Nat} {x : Array Value} {xs : List Int} (h : Pt w g x xs W) : Pt w g x xs W.drew := ⟨h.1, h.2.1, h.2.2.1.drew, h.2.2.2⟩
theorem Pt.set {w W : World} {g : Nat} {x : Array Value} {xs : List Int} (h : Pt w g x xs W) (i : Nat) (c : Int) : Pt w g x (xs.set i c) (W.setCell ⟨g, i, none⟩ (.int .u8 c)) :=
  ⟨h.1.other (Nat.ne_of_lt h.2.2.2) _ _, by have := h.2.1.set i (.int .u8 c); rwa [vb_set] at this, h.2.2.1.setCell (p := ⟨g, i, none⟩) (Nat.le_of_lt h.2.2.2) _, h.2.2.2⟩
theorem Pt.at {w W : World} {g : Nat} {x : Array Value} {xs : List Int} (h : Pt w g x xs W) {i : Nat} (hi : i < xs.length) : ∃ v, W.cell? ⟨g, i, none⟩ = some v := ⟨_, (h.2.1.cell i).trans (vb_get hi)⟩
theorem fill {s : Nat} (h : 4 ≤ s) (a b c d : Int) : ((((List.replicate s 0).set 0 a).set 1 b).set 2 c).set 3 d = a :: b :: c :: d :: List.replicate (s - 4) 0 := by
  obtain ⟨m, rfl⟩ : ∃ m, s = m + 4 := ⟨s - 4, by omega⟩
  simp [List.replicate_succ]
theorem spliced {a b c d : Int} {m : Nat} (l : List Int) (_h : l.length ≤ m) : splice (bs (a :: b :: c :: d :: List.replicate m 0)) 4 (bs l) = bs ([a, b] ++ ([c, d] ++ (l ++ List.replicate (m - l.length) 0))) := by
  unfold splice
  have e : (bs (a :: b :: c :: d :: List.replicate m 0)).drop (4 + (bs l).length) = bs (List.replicate (m - l.length) 0) := by
    rw [bs_len, Nat.add_comm]
    simp [bs]
  rw [e]
  simp [bs]
theorem be2 (x : Nat) : be 2 x = [((x / 256 % 256 : Nat) : Int), ((x % 256 : Nat) : Int)] := rfl
theorem own_made4 {w W : World} {g n : Nat} {xs : List Int} (h : Bk W g (vb xs) 5) (hb : Below w.heap.size w W) (hg : w.heap.size ≤ g) (hn : xs.length = n) (hm : n ≤ maxLen) : Own w W (some ⟨g, 0, none⟩) n n xs :=
  ⟨⟨by rw [bs_len, hn, Nat.mul_one], .inr ⟨g, n, vb xs, rfl, hg, h, Nat.le_refl _, hm, by rw [vb_size, hn, Nat.mul_one], by rw [show (vb xs).toList = bs xs by simp [vb]]; exact List.take_of_length_le (by rw [bs_len]; omega)⟩⟩, hb⟩

set_option maxRecDepth 100000 in
set_option maxHeartbeats 1000000 in
theorem tput_bad (ch : Bool) (x : Tv) (A : Option Addr) (n c : Nat) (w : World) (hx : x.ok) (hl : x.v.length = n) (hn : n ≤ 140737488355328) (hbad : ¬ fit ch x ∨ 65531 < n) :
    Calls Try.prog 22 #[.bool ch, .agg #[.int .u16 (x.k : Int), .int .u8 (x.f : Int), .slice A n c]] w (PutOut w (tp ch x)) := by
  have hk := hx.1
  have hf := hx.2.1
  have HNB : Hid (Own w (w.alloc (.cells #[.int .u16 (x.k : Int), .int .u8 (x.f : Int), .slice A n c] 36)) none 0 0 []) := ⟨World.ownsRow_nil _ _ _ _, (Below.refl _ _).alloc (Nat.le_refl _) _⟩
  by_cases h1 : fit ch x
  · have h2 : 65531 < n := hbad.resolve_left (fun h => h h1)
    have htp : tp ch x = ([], 3) := by unfold tp; rw [if_neg (by simpa using h1), if_pos (by omega)]
    rw [htp]
    have d1 : decide ((65535 : Int) < 4 + (n : Int)) = true := by simp; omega
    unfold fit at h1
    clear htp hbad hl hx
    generalize x.k = k at *
    generalize x.f = f at *
    cases ch
    · simp only [Bool.false_eq_true, if_false] at h1
      have d2 : ((f : Int) != 0) = false := by simp; omega
      clear h1
      go_enter Try.func22, Try.ntmps22
      go_wp2_with fail
      go_ret2
      exact ⟨_, _, _, rfl, HNB.out⟩
    · simp only [if_true] at h1
      have d2 : decide ((255 : Int) < (k : Int)) = false := by simp; omega
      clear h1
      go_enter Try.func22, Try.ntmps22
      go_wp2_with fail
      go_ret2
      exact ⟨_, _, _, rfl, HNB.out⟩
  · have htp : tp ch x = ([], 2) := by unfold tp; rw [if_pos (by simpa using h1)]
    rw [htp]
    unfold fit at h1
    clear htp hbad hl hx
    generalize x.k = k at *
    generalize x.f = f at *
    cases ch
    · simp only [Bool.false_eq_true, if_false] at h1
      have d2 : ((f : Int) != 0) = true := by simp; omega
      clear h1
      go_enter Try.func22, Try.ntmps22
      go_wp2_with fail
      go_ret2
      exact ⟨_, _, _, rfl, HNB.out⟩
    · simp only [if_true] at h1
      have d2 : decide ((255 : Int) < (k : Int)) = true := by simp; omega
      clear h1
      go_enter Try.func22, Try.ntmps22
      go_wp2_with fail
      go_ret2
      exact ⟨_, _, _, rfl, HNB.out⟩

set_option maxRecDepth 100000 in
set_option maxHeartbeats 1000000 in
theorem tput_good (ch : Bool) (x : Tv) (A : Option Addr) (n c : Nat) (w : World) (hx : x.ok) (hl : x.v.length = n) (hn : n ≤ 65531) (hfit : fit ch x) (hr : Row w A (bs x.v)) :
    Calls Try.prog 22 #[.bool ch, .agg #[.int .u16 (x.k : Int), .int .u8 (x.f : Int), .slice A n c]] w (PutOut w (tp ch x)) := by
  have hk := hx.1
  have hf := hx.2.1
  have htp : tp ch x = (tb ch x, 0) := by unfold tp; rw [if_neg (by simpa using hfit), if_neg (by omega)]
  rw [htp]
  have htb : tb ch x = hd ch x.k x.f ++ (be 2 (n + 4) ++ (x.v ++ List.replicate (whl (4 + n) - (4 + n)) 0)) := by unfold tb; rw [hl]
  have hw := whl_le (4 + n)
  have HSZ := Lib.hid fun (k f : Nat) W => size_any k f A n c W (by omega)
  have hmk := fun W => run_make_bytes (whl (4 + n)) (by omega) W
  obtain ⟨s, hs⟩ : ∃ s, whl (4 + n) = s := ⟨_, rfl⟩
  rw [hs] at htb hw hmk
  have sz : (Try.prog.info? 5).map (·.size) = some 1 := by kernel_rfl
  have hq4 : ∀ (g : Nat) W, (Instr.slice 24 (.slice (some ⟨g, 0, none⟩) s s) (some (.int .i64 4)) none none).run Try.prog W = .ok (.slice (cutA (some ⟨g, 0, none⟩) s 4) (s - 4) (s - 4)) W := fun g W => run_cut_l (P := Try.prog) Try.underlying24 sz (k := .i64) _ s s 4 (by omega) W
  have SZ := Lib.hid sz
  have HS := Lib.hid hs
  have HTB := Lib.hid htb
  have HL := Lib.hid hl
  have HR := Lib.hid hr
  have HP0 : Hid (Bk (w.alloc (.cells #[.int .u16 (x.k : Int), .int .u8 (x.f : Int), .slice A n c] 36)) w.heap.size #[.int .u16 (x.k : Int), .int .u8 (x.f : Int), .slice A n c] 36) := Bk.new _ _ _
  have d1 : decide ((65535 : Int) < 4 + (n : Int)) = false := by simp; omega
  have l0 : 0 < s := by omega
  have l1 : (1 : Int) < (s : Int) := by omega
  have l2 : (2 : Int) < (s : Int) := by omega
  have l3 : (3 : Int) < (s : Int) := by omega
  unfold fit at hfit
  clear hx htp htb hs hl hr sz
  obtain ⟨k, hke⟩ : ∃ k, x.k = k := ⟨_, rfl⟩
  obtain ⟨f, hfe⟩ : ∃ f, x.f = f := ⟨_, rfl⟩
  obtain ⟨l, hle⟩ : ∃ l, x.v = l := ⟨_, rfl⟩
  rw [hke, hfe] at HP0 
  rw [hke] at hk hfit
  rw [hfe] at hf hfit
  rw [hke, hfe, hle] at HTB
  rw [hke, hfe]
  rw [hle] at HL HR
  generalize tb ch x = tbx at HTB ⊢
  clear hke hfe hle
  cases ch
  · simp only [Bool.false_eq_true, if_false] at hfit
    have d2 : ((f : Int) != 0) = false := by simp; omega
    clear hfit
    have w1 : IntKind.u8.wrap ((k : Int) / 256) = (k : Int) / 256 := by rw [IntKind.wrap_u8]; omega
    have w2 : IntKind.u8.wrap (k : Int) = (k : Int) % 256 := by rw [IntKind.wrap_u8]
    go_enter Try.func22, Try.ntmps22
    go_wp2_with fail
    (with_reducible refine (HSZ.out _ _ _).mono ?_)
    rintro e w2 ⟨rfl, hb2⟩
    have hp2 := HP0.out.next hb2
    rw [HS.out]
    have hW : ∀ W3, W3 = w2.alloc (.cells (vb (List.replicate s 0)) 5) → Hid (Pt w w2.heap.size #[.int .u16 (k : Int), .int .u8 (f : Int), .slice A n c] (List.replicate s 0) W3) := fun W3 e => by
      subst e
      exact ⟨hp2.alloc _, Bk.new _ _ _, (((Below.refl _ _).alloc (Nat.le_refl _) _).trans (hb2.mono (by simp))).alloc (by have := hb2.size; simp at this; omega) _, hp2.lt⟩
    have HW := Lib.hid hW
    clear hW hp2 hb2
    go_upto_region 10 with fail
    obtain ⟨g, hg⟩ : ∃ g, w2.heap.size = g := ⟨_, rfl⟩
    have hP := HW.out _ rfl
    rw [hg] at hP
    rw [hg]
    clear hg HW
    generalize w2.alloc (.cells (vb (List.replicate s 0)) 5) = W3 at hP ⊢
    have p0 := hP.out.1.cell 0
    have p1 := hP.out.1.cell 1
    simp at p0 p1
    obtain ⟨v0, c0⟩ := hP.out.at (i := 0) (by simp; omega)
    obtain ⟨v1, c1⟩ := hP.out.at (i := 1) (by simp; omega)
    have f0 := hP.out.2.1.frozen 0
    have f1 := hP.out.2.1.frozen 1
    have z0 := (hP.out.set 0 ((k : Int) / 256)).1.cell 0
    have z1 := (hP.out.set 0 ((k : Int) / 256)).1.cell 1
    simp at z0 z1
    have HP5 := Lib.hid ((hP.out.set 0 ((k : Int) / 256)).set 1 ((k : Int) % 256)).drew
    go_region
    generalize World.drew (World.setCell (World.setCell W3 _ _) _ _) = W5 at HP5 ⊢
    clear p0 p1 c0 c1 f0 f1 z0 z1
    obtain ⟨v2, c2⟩ := HP5.out.at (i := 2) (by simp; omega)
    obtain ⟨v3, c3⟩ := HP5.out.at (i := 3) (by simp; omega)
    have f2 := HP5.out.2.1.frozen 2
    have f3 := HP5.out.2.1.frozen 3
    have e2 : IntKind.u8.wrap ((4 + (n : Int)) / 256) = (((n : Int) + 4) / 256 % 256) := by rw [IntKind.wrap_u8]; omega
    have e3 : IntKind.u8.wrap (4 + (n : Int)) = (((n : Int) + 4) % 256) := by rw [IntKind.wrap_u8]; omega
    have HP7 := Lib.hid ((HP5.out.set 2 (((n : Int) + 4) / 256 % 256)).set 3 (((n : Int) + 4) % 256))
    rw [fill (by omega)] at HP7
    go_upto_region 12 with fail
    generalize World.setCell (World.setCell W5 _ _) _ _ = W7 at HP7 ⊢
    clear c2 c3 f2 f3
    have p2 := HP7.out.1.cell 2
    simp at p2
    have hR7 := HR.out.below HP7.out.2.2.1
    have HR7 := Lib.hid hR7
    clear hR7
    obtain ⟨xs, hxs⟩ : ∃ xs, bs ((k : Int) / 256 :: (k : Int) % 256 :: (((n : Int) + 4) / 256 % 256) :: (((n : Int) + 4) % 256) :: List.replicate (s - 4) 0) = xs := ⟨_, rfl⟩
    have hxl : xs.length = s := by rw [← hxs, bs_len]; simp; omega
    have hB7 : Bk W7 g xs.toArray 5 := by rw [← hxs]; exact HP7.out.2.1
    have HB7 := Lib.hid hB7
    have HXS := Lib.hid hxs
    have HXL := Lib.hid hxl
    clear hB7 hxs hxl
    have q4 := hq4 g
    have hnA : 0 < n → A = some (A.getD ⟨0, 0, none⟩) := fun h => by
      obtain ⟨a, ha, _⟩ := Row.byte HR.out (k := 0) (by rw [HL.out]; exact h)
      rw [ha]; rfl
    have HNA := Lib.hid hnA
    clear hnA
    go_region_law (first
      | (refine step_copy_splice rfl (.tmp 63) (.tmp 65) 24 24 rfl 5 Try.underlying24 SZ.out _ _ _ _ _ _ rfl rfl g 4 xs 5 HB7.out (bs l) (by rw [bs_len, HL.out]; simp only [Nat.min_def]; split <;> omega) (fun h => ⟨by rw [bs_len, HL.out] at h; unfold cutA; rw [if_neg (by omega)]; simp [Addr.add], _, HNA.out (by rw [bs_len, HL.out] at h; exact h), bcells (by rw [← HNA.out (by rw [bs_len, HL.out] at h; exact h)]; exact HR7.out)⟩) (by rw [bs_len, HL.out, HXL.out]; omega) (bs_one _) w.heap.size w HP7.out.2.2.1.drew (Nat.le_of_lt HP7.out.2.2.2) ?_; intro w9 hc9 hb9))
    all_goals
      have hfin : splice xs 4 (bs l) = bs tbx := by
        rw [← HXS.out, spliced l (by rw [HL.out]; omega), HTB.out, HL.out, show s - 4 - n = s - (4 + n) by omega, be2]
        simp only [hd, Bool.false_eq_true, if_false, be2]
        rw [show ((k / 256 % 256 : Nat) : Int) = (k : Int) / 256 by omega, show ((k % 256 : Nat) : Int) = (k : Int) % 256 by omega]
        simp
      have ho := own_made4 (g := g) (n := s) (xs := tbx) (by have := hc9.out; rw [hfin] at this; exact this) hb9 (Nat.le_of_lt HP7.out.2.2.2) (by have := congrArg List.length hfin; rw [length_splice _ _ _ (by rw [bs_len, HL.out, HXL.out]; omega), HXL.out, bs_len] at this; exact this.symm) (by unfold maxLen; omega)
      have HO := Lib.hid ho
      clear hfin ho hc9
      go_wp2_with fail
      go_ret2
      exact ⟨_, _, _, rfl, HO.out⟩
  · simp only [if_true] at hfit
    have d2 : decide ((255 : Int) < (k : Int)) = false := by simp; omega
    have w1 : IntKind.u8.wrap (k : Int) = (k : Int) := by rw [IntKind.wrap_u8]; omega
    go_enter Try.func22, Try.ntmps22
    go_wp2_with fail
    (with_reducible refine (HSZ.out _ _ _).mono ?_)
    rintro e w2 ⟨rfl, hb2⟩
    have hp2 := HP0.out.next hb2
    rw [HS.out]
    have hW : ∀ W3, W3 = w2.alloc (.cells (vb (List.replicate s 0)) 5) → Hid (Pt w w2.heap.size #[.int .u16 (k : Int), .int .u8 (f : Int), .slice A n c] (List.replicate s 0) W3) := fun W3 e => by
      subst e
      exact ⟨hp2.alloc _, Bk.new _ _ _, (((Below.refl _ _).alloc (Nat.le_refl _) _).trans (hb2.mono (by simp))).alloc (by have := hb2.size; simp at this; omega) _, hp2.lt⟩
    have HW := Lib.hid hW
    clear hW hp2 hb2
    go_upto_region 9 with fail
    obtain ⟨g, hg⟩ : ∃ g, w2.heap.size = g := ⟨_, rfl⟩
    have hP := HW.out _ rfl
    rw [hg] at hP
    rw [hg]
    clear hg HW
    generalize w2.alloc (.cells (vb (List.replicate s 0)) 5) = W3 at hP ⊢
    have p0 := hP.out.1.cell 0
    have p1 := hP.out.1.cell 1
    simp at p0 p1
    obtain ⟨v0, c0⟩ := hP.out.at (i := 0) (by simp; omega)
    obtain ⟨v1, c1⟩ := hP.out.at (i := 1) (by simp; omega)
    have f0 := hP.out.2.1.frozen 0
    have f1 := hP.out.2.1.frozen 1
    have HP5 := Lib.hid ((hP.out.set 0 (k : Int)).set 1 (f : Int)).drew
    go_region
    generalize World.drew (World.setCell (World.setCell W3 _ _) _ _) = W5 at HP5 ⊢
    clear p0 p1 c0 c1 f0 f1
    obtain ⟨v2, c2⟩ := HP5.out.at (i := 2) (by simp; omega)
    obtain ⟨v3, c3⟩ := HP5.out.at (i := 3) (by simp; omega)
    have f2 := HP5.out.2.1.frozen 2
    have f3 := HP5.out.2.1.frozen 3
    have e2 : IntKind.u8.wrap ((4 + (n : Int)) / 256) = (((n : Int) + 4) / 256 % 256) := by rw [IntKind.wrap_u8]; omega
    have e3 : IntKind.u8.wrap (4 + (n : Int)) = (((n : Int) + 4) % 256) := by rw [IntKind.wrap_u8]; omega
    have HP7 := Lib.hid ((HP5.out.set 2 (((n : Int) + 4) / 256 % 256)).set 3 (((n : Int) + 4) % 256))
    rw [fill (by omega)] at HP7
    go_upto_region 12 with fail
    generalize World.setCell (World.setCell W5 _ _) _ _ = W7 at HP7 ⊢
    clear c2 c3 f2 f3
    have p2 := HP7.out.1.cell 2
    simp at p2
    have hR7 := HR.out.below HP7.out.2.2.1
    have HR7 := Lib.hid hR7
    clear hR7
    obtain ⟨xs, hxs⟩ : ∃ xs, bs ((k : Int) :: (f : Int) :: (((n : Int) + 4) / 256 % 256) :: (((n : Int) + 4) % 256) :: List.replicate (s - 4) 0) = xs := ⟨_, rfl⟩
    have hxl : xs.length = s := by rw [← hxs, bs_len]; simp; omega
    have hB7 : Bk W7 g xs.toArray 5 := by rw [← hxs]; exact HP7.out.2.1
    have HB7 := Lib.hid hB7
    have HXS := Lib.hid hxs
    have HXL := Lib.hid hxl
    clear hB7 hxs hxl
    have q4 := hq4 g
    have hnA : 0 < n → A = some (A.getD ⟨0, 0, none⟩) := fun h => by
      obtain ⟨a, ha, _⟩ := Row.byte HR.out (k := 0) (by rw [HL.out]; exact h)
      rw [ha]; rfl
    have HNA := Lib.hid hnA
    clear hnA
    go_region_law (first
      | (refine step_copy_splice rfl (.tmp 63) (.tmp 65) 24 24 rfl 5 Try.underlying24 SZ.out _ _ _ _ _ _ rfl rfl g 4 xs 5 HB7.out (bs l) (by rw [bs_len, HL.out]; simp only [Nat.min_def]; split <;> omega) (fun h => ⟨by rw [bs_len, HL.out] at h; unfold cutA; rw [if_neg (by omega)]; simp [Addr.add], _, HNA.out (by rw [bs_len, HL.out] at h; exact h), bcells (by rw [← HNA.out (by rw [bs_len, HL.out] at h; exact h)]; exact HR7.out)⟩) (by rw [bs_len, HL.out, HXL.out]; omega) (bs_one _) w.heap.size w HP7.out.2.2.1.drew (Nat.le_of_lt HP7.out.2.2.2) ?_; intro w9 hc9 hb9))
    all_goals
      have hfin : splice xs 4 (bs l) = bs tbx := by
        rw [← HXS.out, spliced l (by rw [HL.out]; omega), HTB.out, HL.out, show s - 4 - n = s - (4 + n) by omega, be2]
        simp only [hd]
        simp
      have ho := own_made4 (g := g) (n := s) (xs := tbx) (by have := hc9.out; rw [hfin] at this; exact this) hb9 (Nat.le_of_lt HP7.out.2.2.2) (by have := congrArg List.length hfin; rw [length_splice _ _ _ (by rw [bs_len, HL.out, HXL.out]; omega), HXL.out, bs_len] at this; exact this.symm) (by unfold maxLen; omega)
      have HO := Lib.hid ho
      clear hfin ho hc9
      go_wp2_with fail
      go_ret2
      exact ⟨_, _, _, rfl, HO.out⟩
end Go.Proofs.Ytjlemghkaodkkaa
