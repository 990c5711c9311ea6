/-
  What the document's Put does.
-/
import Derived.Test.YtgepmicodfhhmaaHeadPut
namespace Go.Proofs.Ytgepmicodfhhmaa
open Go.RowKit Crc Head

/-- What a call that puts leaves. -/
def PutOut (w : World) (p : List Int × Int) (e : Ending) (w' : World) : Prop := ∃ A n c, e = .returned (.tuple #[.slice A n c, .int .i64 p.2]) ∧ Own w w' A n c p.1
theorem kh_row {w W : World} {f t g : Nat} {A : Option Addr} {l : List Int} (hr : Row w A (bs l)) (h : Kh w f t g W) : Row W A (bs l) := hr.below h.2

set_option maxRecDepth 100000 in
set_option maxHeartbeats 1000000 in
theorem rput_any (f t g : Nat) (A : Option Addr) (n c : Nat) (l : List Int) (w : World) (hf : f < 65536) (ht : t < 65536) (hg : g < 4294967296) (hl : l.length = n) (hn : n ≤ 100000) (hb : Byt l) (hr : Row w A (bs l)) (hz : A = none → n = 0 ∧ c = 0) :
    Calls Try.prog 8 #[.agg #[.int .u16 (f : Int), .int .u16 (t : Int), .int .u32 (g : Int)], .slice A n c] w (PutOut w (pt f t g l)) := by
  have hk0 := kh_new w f t g
  have hpt : pt f t g l = if n % 4 ≠ 0 then ([], 32) else if 1488 < n then ([], 3) else (pk f t g (more 0 (pk f t g 0 l)) l, 0) := by unfold pt; rw [hl]
  have hnb : Own w (w.alloc (.cells #[.int .u16 (f : Int), .int .u16 (t : Int), .int .u32 (g : Int)] 25)) none 0 0 [] := ⟨World.ownsRow_nil _ _ _ _, (Below.refl _ _).alloc (Nat.le_refl _) _⟩
  have HK0 := Lib.hid hk0
  have HNB := Lib.hid hnb
  by_cases h1 : n % 4 = 0
  case neg =>
    rw [if_pos h1] at hpt
    rw [hpt]
    have d1 : ((n : Int) % 4 != 0) = true := by simp only [bne_iff_ne, ne_eq]; omega
    clear hk0 hpt hnb hr hz hb hl
    go_enter Try.func8, Try.ntmps8
    go_wp2_with fail
    go_ret2
    exact ⟨_, _, _, rfl, HNB.out⟩
  case pos =>
    have d1 : ((n : Int) % 4 != 0) = false := by simp only [bne_eq_false_iff_eq]; omega
    rw [if_neg (by omega)] at hpt
    by_cases h2 : 1488 < n
    · rw [if_pos h2] at hpt
      rw [hpt]
      have d2 : decide ((1500 : Int) < (n : Int) + 12) = true := by simp; omega
      clear hk0 hpt hnb hr hz hb hl
      go_enter Try.func8, Try.ntmps8
      go_wp2_with fail
      go_ret2
      exact ⟨_, _, _, rfl, HNB.out⟩
    · rw [if_neg h2] at hpt
      rw [hpt]
      have d2 : decide ((1500 : Int) < (n : Int) + 12) = false := by simp; omega
      have hs := more_lt 0 (pk f t g 0 l)
      have c1 : ∀ W, Kh w f t g W → Calls Try.prog 13 #[.agg #[.int .u16 (f : Int), .int .u16 (t : Int), .int .u32 (g : Int)], .int .u32 0, .slice A n c] W fun e w' => ∃ A' c', e = .returned (.slice A' (12 + n) c') ∧ Row w' A' (bs (pk f t g 0 l)) ∧ Kh w f t g w' := fun W h =>
        (with_any f t g 0 A n c l W hf ht hg (by omega) hl hn (hr.below h.2) hz).mono fun _ _ ⟨A', c', he, ho⟩ => ⟨A', c', he, ho.row, h.next ho.2⟩
      have c2 : ∀ W (A' : Option Addr) (c' : Nat), Row W A' (bs (pk f t g 0 l)) → Calls Try.prog 14 #[.slice A' (12 + n) c'] W fun e w' => e = .returned (.int .u32 (more 0 (pk f t g 0 l) : Nat)) ∧ W = w' := fun W A' c' h =>
        rsum_any A' (12 + n) c' (pk f t g 0 l) W (by rw [pk_len, hl]) (by unfold maxLen; omega) (pk_byt _ _ _ _ hb) h
      have c3 : ∀ W, Kh w f t g W → Calls Try.prog 13 #[.agg #[.int .u16 (f : Int), .int .u16 (t : Int), .int .u32 (g : Int)], .int .u32 (more 0 (pk f t g 0 l) : Nat), .slice A n c] W fun e w' => ∃ A' c', e = .returned (.slice A' (12 + n) c') ∧ Hid (Own w w' A' (12 + n) c' (pk f t g (more 0 (pk f t g 0 l)) l)) := fun W h =>
        (with_any f t g _ A n c l W hf ht hg hs hl hn (hr.below h.2) hz).mono fun _ _ ⟨A', c', he, ho⟩ => ⟨A', c', he, own_base ho.1 h.2.size, bnext' h.2 ho.2⟩
      have C1 := Lib.hid c1
      have C2 := Lib.hid c2
      have C3 := Lib.hid c3
      clear hk0 hpt hnb hr hz hb hl c1 c2 c3 hs
      obtain ⟨S, hS⟩ : ∃ S, more 0 (pk f t g 0 l) = S := ⟨_, rfl⟩
      rw [hS] at C2 C3
      rw [hS]
      clear hS
      go_enter Try.func8, Try.ntmps8
      go_wp2_with fail
      have hk1 := HK0.out.drew
      go_region_with (first
        | (go_at_call 13; (with_reducible refine (C1.out _ ?_).mono ?_); assumption; rintro e w1 ⟨A1, c1, rfl, hr1, hk2⟩; have e10 := hk2.c0; have e11 := hk2.c1; have e12 := hk2.c2)
        | (go_at_call 14; (with_reducible refine (C2.out _ _ _ ?_).mono ?_); assumption; rintro e w2 ⟨rfl, rfl⟩)
        | (go_at_call 13; (with_reducible refine (C3.out _ ?_).mono ?_); assumption; rintro e w3 ⟨A3, c3, rfl, ho3⟩))
      all_goals
        go_wp2_with fail
        go_ret2
        exact ⟨_, _, _, rfl, ho3.out⟩
end Go.Proofs.Ytgepmicodfhhmaa
