/-
  The walks of the statements of layer 1.
-/
import Derived.Test.YtodlklfhegfcoaaCrcKnown
namespace Go.Proofs.Ytodlklfhegfcoaa
open Go.RowKit Crc

set_option maxRecDepth 100000 in
set_option maxHeartbeats 400000 in
theorem crcSums_walk (a0 : Int) (a1 : Option Addr) (len1 cap1 : Nat) (z1 : List Int) (w : World) (w0 : (Lit.int .u32 a0).wf = true) (w1 : IsRow .u8 w a1 len1 cap1 z1) :
    Calls Try.prog 3 #[.int .u32 a0, .slice a1 len1 cap1] w fun e w' => e = .returned (.bool true) ∧ Below w.heap.size w w' := by
  obtain ⟨b1, b2⟩ := wf_u32 w0
  obtain ⟨s, rfl⟩ := Int.eq_ofNat_of_zero_le b1
  obtain ⟨l, hl, hlc, hcm, hb, hr⟩ := w1.bytes
  have hs : s < 4294967296 := by omega
  have hm : len1 ≤ maxLen := by omega
  have HK := Lib.hid known_any
  have H1 := Lib.hid fun W hr => sum_any a1 len1 cap1 l W hl hm hb hr
  have H2 := Lib.hid fun W hr => rsum_any a1 len1 cap1 l W hl hm hb hr
  have H3 := Lib.hid fun W hr => more_any s a1 len1 cap1 l W hs hl hm hb hr
  have H4 := Lib.hid fun W hr => rmore_any s a1 len1 cap1 l W hs hl hm hb hr
  have HR := Lib.hid hr
  have hm9 : len1 ≤ 9223372036854775807 := hm
  clear hl hb hr hlc hcm hm w0 w1 b1 b2
  go_enter Try.func3, Try.ntmps3
  go_wp2_with fail
  refine (HK.out _).mono ?_
  rintro e w1 ⟨rfl, hb1⟩
  by_cases hn : (5000 : Int) < (len1 : Int)
  · go_wp2_with fail
    go_ret
    exact ⟨rfl, hb1⟩
  · go_wp2_with fail
    refine (H1.out _ (HR.out.below hb1)).mono ?_
    rintro e w2 ⟨rfl, hb2⟩
    go_wp2_with fail
    refine (H2.out _ ((HR.out.below hb1).below hb2)).mono ?_
    rintro e w' ⟨rfl, rfl⟩
    go_wp2_with fail
    refine (H3.out _ ((HR.out.below hb1).below hb2)).mono ?_
    rintro e w3 ⟨rfl, hb3⟩
    go_wp2_with fail
    refine (H4.out _ (((HR.out.below hb1).below hb2).below hb3)).mono ?_
    rintro e w' ⟨rfl, rfl⟩
    go_wp2_with fail
    go_ret
    exact ⟨rfl, bnext (bnext hb1 hb2) hb3⟩
end Go.Proofs.Ytodlklfhegfcoaa
