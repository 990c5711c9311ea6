/-
  The walk of HeadTakes.
-/
import Derived.Test.YtgepmicodfhhmaaHeadKnown
import Derived.Test.YtgepmicodfhhmaaHeadTakeRef
namespace Go.Proofs.Ytgepmicodfhhmaa
open Go.RowKit Crc Head

set_option maxRecDepth 100000 in
set_option maxHeartbeats 1000000 in
theorem headTakes_walk (a0 : Option Addr) (len0 cap0 : Nat) (z0 : List Int) (w : World) (w0 : IsRow .u8 w a0 len0 cap0 z0) :
    Calls Try.prog 4 #[.slice a0 len0 cap0] w fun e w' => e = .returned (.bool true) ∧ Below w.heap.size w w' := by
  obtain ⟨l, hl, hlc, hcm, hb, hr⟩ := w0.bytes
  have hm9 : len0 ≤ 9223372036854775807 := by unfold maxLen at hcm; omega
  have HK := Lib.hid known_any
  have HR := Lib.hid hr
  have HB := Lib.hid hb
  have HL := Lib.hid hl
  have HLC := Lib.hid hlc
  have HCM := Lib.hid hcm
  clear w0 hr hb hl hlc hcm
  by_cases hn : (5000 : Int) < (len0 : Int)
  · go_enter Try.func4, Try.ntmps4
    go_wp2_with fail
    refine (HK.out _).mono ?_
    rintro e w1 ⟨rfl, hb1⟩
    go_wp2_with fail
    go_ret
    exact ⟨rfl, hb1⟩
  · have hn2 : len0 ≤ 100000 := by omega
    have d1 : decide ((5000 : Int) < (len0 : Int)) = false := by simpa using hn
    clear hn hm9
    go_enter Try.func4, Try.ntmps4
    go_wp2_with fail
    refine (HK.out _).mono ?_
    rintro e w1 ⟨rfl, hb1⟩
    have HB1 := Lib.hid hb1
    clear hb1
    go_wp2_with fail
    refine (htake_any a0 len0 cap0 l _ HL.out hn2 HLC.out HCM.out HB.out (HR.out.below HB1.out)).mono ?_
    rintro e w2 ⟨A2, n2, c2, rfl, ho2⟩
    have HO2 := Lib.hid ho2
    have hk2 : Kh w2 (tk l).f (tk l).t (tk l).g (w2.alloc (.cells #[.int .u16 ((tk l).f : Int), .int .u16 ((tk l).t : Int), .int .u32 ((tk l).g : Int)] 25)) := kh_new _ _ _ _
    have HK2 := Lib.hid hk2
    have HB2 := Lib.hid (bnext HB1.out ho2.2)
    clear ho2 hk2
    obtain ⟨f, hf⟩ : ∃ f, (tk l).f = f := ⟨_, rfl⟩
    obtain ⟨t, ht⟩ : ∃ t, (tk l).t = t := ⟨_, rfl⟩
    obtain ⟨g, hg⟩ : ∃ g, (tk l).g = g := ⟨_, rfl⟩
    rw [hf, ht, hg] at HK2
    rw [hf, ht, hg]
    go_wp2_with fail
    refine (rtake_any a0 len0 cap0 l _ HL.out hn2 HLC.out HCM.out HB.out (HR.out.below (HB2.out.alloc HB2.out.size _))).mono ?_
    rintro e w3 ⟨A3, n3, c3, rfl, ho3⟩
    have HK3 := Lib.hid (HK2.out.next ho3.2)
    have HO3 := Lib.hid ho3
    rw [hf, ht, hg]
    clear ho3 hf ht hg
    have HB3 := Lib.hid (bnext HB2.out HK3.out.2)
    have HB4 := Lib.hid (HB3.out.alloc HB3.out.size (.cells #[.int .u16 (f : Int), .int .u16 (t : Int), .int .u32 (g : Int)] 25))
    have cv1 := run_strOf (P := Try.prog) (w := w3.alloc (.cells #[.int .u16 (f : Int), .int .u16 (t : Int), .int .u32 (g : Int)] 25)) (src := 26) (dst := 9) (c := c2) Try.underlying26 Try.underlying5 Try.underlying9 HO2.out.len ((HO2.out.row.below HK3.out.2).alloc _)
    have cv2 := run_strOf (P := Try.prog) (w := w3.alloc (.cells #[.int .u16 (f : Int), .int .u16 (t : Int), .int .u32 (g : Int)] 25)) (src := 26) (dst := 9) (c := c3) Try.underlying26 Try.underlying5 Try.underlying9 HO3.out.len (HO3.out.row.alloc _)
    have hk4 := HK3.out.alloc (.cells #[.int .u16 (f : Int), .int .u16 (t : Int), .int .u32 (g : Int)] 25)
    have e0 := hk4.c0
    have e1 := hk4.c1
    have e2 := hk4.c2
    clear hk4
    generalize strOf (tk l).body = str at cv1 cv2
    generalize (tk l).err = err
    go_wp2_with fail
    go_ret
    exact ⟨rfl, HB4.out⟩
end Go.Proofs.Ytgepmicodfhhmaa
