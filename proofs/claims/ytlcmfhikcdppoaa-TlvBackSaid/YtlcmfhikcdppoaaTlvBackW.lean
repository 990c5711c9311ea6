/-
  TlvBack: whatever the arguments are.
-/
import Derived.Test.YtlcmfhikcdppoaaTlvBack
import Derived.Test.YtlcmfhikcdppoaaTlvThings
namespace Go.Proofs.Ytlcmfhikcdppoaa
open Go.RowKit Wire Tlv Go.Shelf

set_option maxRecDepth 100000 in
set_option maxHeartbeats 1000000 in
theorem tlvBack_walk (ch : Bool) (A : Option Addr) (N c : Nat) (qs : List Q) (A2 : Option Addr) (n2 c2 : Nat) (z : List Int) (w : World) (hp : ThsIn w A N c qs) (hz : IsRow .u8 w A2 n2 c2 z) :
    Calls Try.prog 5 #[.bool ch, .slice A N c, .slice A2 n2 c2] w fun e w' => e = .returned (.bool true) ∧ Below w.heap.size w w' := by
  obtain ⟨b, hl, hlc, hcm, hb, hr⟩ := hz.bytes
  obtain ⟨p1, p2, p3, p4, p5⟩ := hp
  by_cases hn : N ≤ 100 ∧ n2 ≤ 5000
  · refine tlvBack_main ch A N c qs A2 n2 c2 b w hn.1 p1 p4 hl hn.2 hlc hcm hb hr ?_
    rintro rfl
    rcases hz with ⟨_, h1, h2, _⟩ | ⟨x, hx, _⟩
    · exact ⟨h1, h2⟩
    · cases hx
  have HK := Lib.hid known_any
  have hm1 : n2 ≤ 9223372036854775807 := by unfold maxLen at hcm; omega
  have hm2 : N ≤ 9223372036854775807 := by unfold maxLen at p3; omega
  have hb0 : Below w.heap.size w ((w.alloc (.cells #[.slice A N c] 32)).alloc (.cells #[.bool false] 4)) := ((Below.refl _ _).alloc (Nat.le_refl _) _).alloc (by simp) _
  have hp0 : Bk ((w.alloc (.cells #[.slice A N c] 32)).alloc (.cells #[.bool false] 4)) (w.heap.size + 1) #[.bool false] 4 := by
    have e2 := Bk.new (w.alloc (.cells #[.slice A N c] 32)) #[.bool false] 4
    rw [World.size_alloc] at e2
    exact e2
  have hp9 : Bk ((w.alloc (.cells #[.slice A N c] 32)).alloc (.cells #[.bool false] 4)) w.heap.size #[.slice A N c] 32 := (Bk.new w _ _).alloc _
  have HP0 := Lib.hid hp0
  have HP9 := Lib.hid hp9
  have HB0 := Lib.hid hb0
  clear hl hlc hcm hb hr hb0 hp0 hz hp9 p1 p2 p3 p4 p5
  go_enter Try.func5, Try.ntmps5
  go_wp2_with fail
  refine (HK.out _).mono ?_
  rintro e w1 ⟨rfl, hb1⟩
  have HB1 := Lib.hid (bnext' HB0.out hb1)
  have HP1 := Lib.hid (HP0.out.next hb1)
  have HP8 := Lib.hid (HP9.out.next hb1)
  have r1 := HP1.out.cell 0
  have f1 := HP1.out.frozen 0
  have r0 := HP8.out.cell 0
  simp at r1 r0
  have hs := HP1.out.set 0 (.bool true)
  have hsb := HB1.out.setCell (p := ⟨w.heap.size + 1, 0, none⟩) (by simp) (.bool true)
  simp at hs
  have HS := Lib.hid hs
  have HSB := Lib.hid hsb
  clear hb1 hs hsb
  have hor : N ≤ 100 → decide ((5000 : Int) < (n2 : Int)) = true := fun h => by simp; omega
  by_cases hN : N ≤ 100
  · have d0 : decide ((100 : Int) < (N : Int)) = false := by simp; omega
    have d1 := hor hN
    clear hor hn
    go_wp2_with fail
    have g0 := HS.out.cell 0
    simp at g0
    clear r1 f1
    generalize World.setCell w1 _ _ = W9 at g0 HSB ⊢
    exact bodyPost_ret (v := .bool true) (by simp [results, Try.results5, go_sem, g0]) rfl ⟨rfl, HSB.out⟩
  · have d0 : decide ((100 : Int) < (N : Int)) = true := by simp; omega
    clear hor hn
    go_wp2_with fail
    have g0 := HS.out.cell 0
    simp at g0
    clear r1 f1
    generalize World.setCell w1 _ _ = W9 at g0 HSB ⊢
    exact bodyPost_ret (v := .bool true) (by simp [results, Try.results5, go_sem, g0]) rfl ⟨rfl, HSB.out⟩
end Go.Proofs.Ytlcmfhikcdppoaa
