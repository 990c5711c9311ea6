/-
  TlvGoes: whatever the arguments are.
-/
import Derived.Test.YtlcmfhikcdppoaaTlvGoes
namespace Go.Proofs.Ytlcmfhikcdppoaa
open Go.RowKit Wire Tlv Go.Shelf

set_option maxRecDepth 100000 in
set_option maxHeartbeats 1000000 in
theorem tlvGoes_walk (ch : Bool) (A : Option Addr) (n c : Nat) (z : List Int) (most : Int) (w : World) (hz : IsRow .u8 w A n c z) (hm : (Lit.int .i64 most).wf = true) :
    Calls Try.prog 4 #[.bool ch, .slice A n c, .int .i64 most] w fun e w' => e = .returned (.bool true) ∧ Below w.heap.size w w' := by
  obtain ⟨l, hl, hlc, hcm, hb, hr⟩ := hz.bytes
  by_cases hn : n ≤ 5000
  · exact tlvGoes_main ch A n c l most w hl hn hlc hcm hb hr (wf_i64 hm)
  have HK := Lib.hid known_any
  have hm1 : n ≤ 9223372036854775807 := by unfold maxLen at hcm; omega
  have d1 : decide ((5000 : Int) < (n : Int)) = true := by simp; omega
  have hb0 : Below w.heap.size w ((w.alloc (.cells #[.int .i64 most] 3)).alloc (.cells #[.bool false] 4)) := ((Below.refl _ _).alloc (Nat.le_refl _) _).alloc (by simp) _
  have hp0 : Bk ((w.alloc (.cells #[.int .i64 most] 3)).alloc (.cells #[.bool false] 4)) (w.heap.size + 1) #[.bool false] 4 := by
    have e2 := Bk.new (w.alloc (.cells #[.int .i64 most] 3)) #[.bool false] 4
    rw [World.size_alloc] at e2
    exact e2
  have HP0 := Lib.hid hp0
  have HB0 := Lib.hid hb0
  clear hl hlc hcm hb hr hb0 hm hp0 hz hn
  go_enter Try.func4, Try.ntmps4
  go_wp2_with fail
  refine (HK.out _).mono ?_
  rintro e w1 ⟨rfl, hb1⟩
  have HB1 := Lib.hid (bnext' HB0.out hb1)
  have HP1 := Lib.hid (HP0.out.next hb1)
  have r1 := HP1.out.cell 0
  have f1 := HP1.out.frozen 0
  simp at r1
  have hs := HP1.out.set 0 (.bool true)
  have hsb := HB1.out.setCell (p := ⟨w.heap.size + 1, 0, none⟩) (by simp) (.bool true)
  simp at hs
  have HS := Lib.hid hs
  have HSB := Lib.hid hsb
  clear hb1 hs hsb
  go_wp2_with fail
  have g0 := HS.out.cell 0
  simp at g0
  clear r1 f1
  generalize World.setCell w1 _ _ = W9 at g0 HSB ⊢
  exact bodyPost_ret (v := .bool true) (by simp [results, Try.results4, go_sem, g0]) rfl ⟨rfl, HSB.out⟩
end Go.Proofs.Ytlcmfhikcdppoaa
