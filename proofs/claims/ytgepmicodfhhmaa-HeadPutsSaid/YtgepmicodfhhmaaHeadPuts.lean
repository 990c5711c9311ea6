/-
  The walk of HeadPuts.
-/
import Derived.Test.YtgepmicodfhhmaaHeadKnown
namespace Go.Proofs.Ytgepmicodfhhmaa
open Go.RowKit Crc Head

theorem IsRow.none_ {k : IntKind} {w : World} {a : Option Addr} {len cap : Nat} {zs : List Int} (h : IsRow k w a len cap zs) : a = none → len = 0 ∧ cap = 0 := by
  rcases h with ⟨_, h1, h2, _⟩ | ⟨x, h1, _⟩
  · exact fun _ => ⟨h1, h2⟩
  · intro h; rw [h] at h1; cases h1

set_option maxRecDepth 100000 in
set_option maxHeartbeats 1000000 in
theorem headPuts_walk (x0 x1 x2 : Int) (a1 : Option Addr) (len1 cap1 : Nat) (z1 : List Int) (w : World) (h0 : (Lit.int .u16 x0).wf = true) (h1 : (Lit.int .u16 x1).wf = true) (h2 : (Lit.int .u32 x2).wf = true) (w1 : IsRow .u8 w a1 len1 cap1 z1) :
    Calls Try.prog 3 #[.agg #[.int .u16 x0, .int .u16 x1, .int .u32 x2], .slice a1 len1 cap1] w fun e w' => e = .returned (.bool true) ∧ Below w.heap.size w w' := by
  have b0 := wf_u16 h0
  have b1 := wf_u16 h1
  have b2 := wf_u32 h2
  obtain ⟨f, rfl⟩ := Int.eq_ofNat_of_zero_le b0.1
  obtain ⟨t, rfl⟩ := Int.eq_ofNat_of_zero_le b1.1
  obtain ⟨g, rfl⟩ := Int.eq_ofNat_of_zero_le b2.1
  have hf : f < 65536 := by omega
  have ht : t < 65536 := by omega
  have hg : g < 4294967296 := by omega
  have hz := w1.none_
  obtain ⟨l, hl, hlc, hcm, hb, hr⟩ := w1.bytes
  have hm9 : len1 ≤ 9223372036854775807 := by unfold maxLen at hcm; omega
  have HK := Lib.hid known_any
  have HR := Lib.hid hr
  have HB := Lib.hid hb
  have HL := Lib.hid hl
  have HZ := Lib.hid hz
  have hk0 := kh_new w f t g
  have HK0 := Lib.hid hk0
  clear h0 h1 h2 w1 b0 b1 b2 hr hb hl hz hlc hcm hk0
  by_cases hn : (5000 : Int) < (len1 : Int)
  · go_enter Try.func3, Try.ntmps3
    go_wp2_with fail
    refine (HK.out _).mono ?_
    rintro e w1 ⟨rfl, hb1⟩
    have hk1 := HK0.out.next hb1
    go_wp2_with fail
    go_ret
    exact ⟨rfl, hk1.2⟩
  · have hn2 : len1 ≤ 100000 := by omega
    have d1 : decide ((5000 : Int) < (len1 : Int)) = false := by simpa using hn
    clear hn hm9
    go_enter Try.func3, Try.ntmps3
    go_wp2_with fail
    refine (HK.out _).mono ?_
    rintro e w1 ⟨rfl, hb1⟩
    have HK1 := Lib.hid (HK0.out.next hb1)
    have e0 := HK1.out.c0
    have e1 := HK1.out.c1
    have e2 := HK1.out.c2
    clear hb1
    go_wp2_with fail
    clear e0 e1 e2
    refine (hput_any f t g a1 len1 cap1 l _ hf ht hg HL.out hn2 HB.out (HR.out.below HK1.out.2) HZ.out).mono ?_
    rintro e w2 ⟨A2, n2, c2, rfl, ho2⟩
    have HK2 := Lib.hid (HK1.out.next ho2.2)
    have HO2 := Lib.hid ho2
    have e0 := HK2.out.c0
    have e1 := HK2.out.c1
    have e2 := HK2.out.c2
    clear ho2
    go_wp2_with fail
    clear e0 e1 e2
    refine (rput_any f t g a1 len1 cap1 l _ hf ht hg HL.out hn2 HB.out (HR.out.below HK2.out.2) HZ.out).mono ?_
    rintro e w3 ⟨A3, n3, c3, rfl, ho3⟩
    have HK3 := Lib.hid (HK2.out.next ho3.2)
    have cv1 := run_strOf (P := Try.prog) (w := w3) (src := 26) (dst := 9) (c := c2) Try.underlying26 Try.underlying5 Try.underlying9 HO2.out.len (HO2.out.row.below ho3.2)
    have cv2 := run_strOf (P := Try.prog) (w := w3) (src := 26) (dst := 9) (c := c3) Try.underlying26 Try.underlying5 Try.underlying9 ho3.len ho3.row
    clear ho3
    generalize strOf (pt f t g l).1 = str at cv1 cv2
    generalize (pt f t g l).2 = err
    go_wp2_with fail
    go_ret
    exact ⟨rfl, HK3.out.2⟩
end Go.Proofs.Ytgepmicodfhhmaa
