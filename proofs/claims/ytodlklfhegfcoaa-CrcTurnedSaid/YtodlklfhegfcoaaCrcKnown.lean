/-
  The statements' 'known' answers true.
-/
import Derived.Test.YtodlklfhegfcoaaCrcMore
import Derived.Lib.SlBytesConst
namespace Go.Proofs.Ytodlklfhegfcoaa
open Go.RowKit Crc

def digits : List Int := [49, 50, 51, 52, 53, 54, 55, 56, 57]
theorem digits_sum : more 0 digits = 3808858755 := by decide +kernel
theorem digits_byt : Byt digits := by unfold Byt digits; decide
theorem nil_sum : more 0 [] = 0 := rfl
theorem nil_more : more 5 [] = 5 := rfl
theorem nil_byt : Byt [] := fun c h => by simp at h

set_option maxRecDepth 100000 in
set_option maxHeartbeats 400000 in
theorem known_any (w : World) :
    Calls Try.prog 7 #[] w fun e w' => e = .returned (.bool true) ∧ Below w.heap.size w w' := by
  have h1 := fun W hr => sum_any (some ⟨w.heap.size, 0, none⟩) 9 9 digits W rfl (by decide) digits_byt hr
  have h2 := fun W => sum_any none 0 0 [] W rfl (by decide) nil_byt (Row.nil_ _ _)
  have h3 := fun W => more_any 5 none 0 0 [] W (by omega) rfl (by decide) nil_byt (Row.nil_ _ _)
  rw [digits_sum] at h1
  rw [nil_sum] at h2
  rw [nil_more] at h3
  have H1 := Lib.hid h1
  have H2 := Lib.hid h2
  have H3 := Lib.hid h3
  clear h1 h2 h3
  have kc := fun (W : World) (C : Array Value) (n c : Nat) => Lib.run_convert_bytes_const (P := Try.prog) W 23 5 C n c Try.underlying23 Try.underlying5
  go_enter Try.func7, Try.ntmps7
  go_wp2_with fail
  refine (H1.out _ (Row.new w (bs digits) _ _)).mono ?_
  rintro e w1 ⟨rfl, hb1⟩
  go_wp2_with fail
  refine (H2.out _).mono ?_
  rintro e w2 ⟨rfl, hb2⟩
  go_wp2_with fail
  refine (H3.out _).mono ?_
  rintro e w3 ⟨rfl, hb3⟩
  go_wp2_with fail
  go_ret
  exact ⟨rfl, bnext (bnext (((Below.refl _ _).alloc (Nat.le_refl _) _).trans (hb1.mono (by simp))) hb2) hb3⟩
end Go.Proofs.Ytodlklfhegfcoaa
