/-
  TlvPuts: the walk.
-/
import Derived.Test.YtlcmfhikcdppoaaTlvKnown
namespace Go.Proofs.Ytlcmfhikcdppoaa
open Go.RowKit Wire Tlv

theorem tp_len {ch : Bool} {x : Tv} (h : (tp ch x).2 = 0) : (tp ch x).1.length = whl (4 + x.v.length) := by
  unfold tp at *
  split at h
  · cases h
  split at h
  · cases h
  · rename_i h1 h2
    rw [if_neg h1, if_neg h2]
    exact tb_len _ _
set_option maxRecDepth 100000 in
set_option maxHeartbeats 1000000 in
theorem tlvPuts_main (ch : Bool) (x : Tv) (A : Option Addr) (n c : Nat) (w : World) (hx : x.ok) (hl : x.v.length = n) (hn : n ≤ 70000) (hg : n ≤ 2000 ∨ 65500 ≤ n) (hr : Row w A (bs x.v)) (hz : A = none → n = 0 ∧ c = 0) :
    Calls Try.prog 3 #[.bool ch, .agg #[.int .u16 (x.k : Int), .int .u8 (x.f : Int), .slice A n c]] w fun e w' => e = .returned (.bool true) ∧ Below w.heap.size w w' := by
  have HK := Lib.hid known_any
  have hk0 : Hid (Kx w #[.int .u16 (x.k : Int), .int .u8 (x.f : Int), .slice A n c] (w.alloc (.cells #[.int .u16 (x.k : Int), .int .u8 (x.f : Int), .slice A n c] 25))) := Kx.new _ _
  have c1 : ∀ W, Hid (Kx w #[.int .u16 (x.k : Int), .int .u8 (x.f : Int), .slice A n c] W) → Calls Try.prog 7 #[.bool ch, .agg #[.int .u16 (x.k : Int), .int .u8 (x.f : Int), .slice A n c]] W (PutOut W (tp ch x)) := fun W h => tput_any ch x A n c W hx hl (by omega) (hr.below h.out.2)
  have c2 : ∀ W, Hid (Kx w #[.int .u16 (x.k : Int), .int .u8 (x.f : Int), .slice A n c] W) → Calls Try.prog 8 #[.bool ch, .agg #[.int .u16 (x.k : Int), .int .u8 (x.f : Int), .slice A n c]] W (PutOut W (tp ch x)) := fun W h => trput_any ch x A n c W hx hl (by omega) (hr.below h.out.2) hz
  have c3 := fun W => size_any x.k x.f A n c W (by omega)
  have hlen := tp_len (ch := ch) (x := x)
  rw [hl] at hlen
  have C1 := Lib.hid c1
  have C2 := Lib.hid c2
  have C3 := Lib.hid c3
  have HLEN := Lib.hid hlen
  clear c1 c2 c3 hlen hr hz hl hx
  generalize tp ch x = p at C1 C2 HLEN
  obtain ⟨L, err⟩ := p
  simp only at HLEN
  generalize x.k = k at *
  generalize x.f = f at *
  generalize whl (4 + n) = s at C3 HLEN
  have d2 : decide ((70000 : Int) < (n : Int)) = false := by simp; omega
  have HG := Lib.hid hg
  have HN := Lib.hid hn
  clear hg hn
  go_enter Try.func3, Try.ntmps3
  go_wp2_with fail
  refine (HK.out _).mono ?_
  rintro e w1 ⟨rfl, hb1⟩
  have hk1 := Lib.hid (hk0.out.next hb1)
  have p0 := hk1.out.1.cell 0
  have p1 := hk1.out.1.cell 1
  have p2 := hk1.out.1.cell 2
  simp at p0 p1 p2
  clear hb1
  have hcase : ∃ b d : Bool, decide ((2000 : Int) < (n : Int)) = b ∧ decide ((n : Int) < 65500) = d ∧ (b && d) = false := ⟨_, _, rfl, rfl, by have := HG.out; simp; omega⟩
  obtain ⟨b, d, hd1, hd3, hbd⟩ := hcase
  cases b <;> cases d <;> first | (cases hbd; done) | skip
  all_goals
    clear hbd
    go_wp2_with fail
    clear hd1 hd3
    refine (C1.out _ hk1).mono ?_
    rintro e w2 ⟨A2, n2, c2, rfl, ho2⟩
    have hk2 := Lib.hid (hk1.out.next ho2.2)
    have HO2 := Lib.hid ho2
    clear ho2 p0 p1 p2
    have p0 := hk2.out.1.cell 0
    have p1 := hk2.out.1.cell 1
    have p2 := hk2.out.1.cell 2
    simp at p0 p1 p2
    go_wp2_with fail
    refine (C2.out _ hk2).mono ?_
    rintro e w3 ⟨A3, n3, c3, rfl, ho3⟩
    have hk3 := Lib.hid (hk2.out.next ho3.2)
    have HO2' := Lib.hid (HO2.out.next ho3.2)
    have HO3 := Lib.hid ho3
    clear p0 p1 p2 ho3
    have p0 := hk3.out.1.cell 0
    have p1 := hk3.out.1.cell 1
    have p2 := hk3.out.1.cell 2
    simp at p0 p1 p2
    have cv1 := run_strOf (P := Try.prog) (src := 23) (dst := 9) (c := c2) Try.underlying23 Try.underlying5 Try.underlying9 HO2'.out.len HO2'.out.row
    have cv2 := run_strOf (P := Try.prog) (src := 23) (dst := 9) (c := c3) Try.underlying23 Try.underlying5 Try.underlying9 HO3.out.len HO3.out.row
    have hlen3 := HO3.out.len
    have HL3 := Lib.hid hlen3
    clear hlen3
    generalize strOf L = str at cv1 cv2
    by_cases he : err = 0
    · have d3 : (err != 0) = false := by simpa using he
      have hs3 : s = n3 := by rw [← HL3.out]; exact (HLEN.out he).symm
      subst hs3
      clear he
      go_wp2_with fail
      refine (C3.out _).mono ?_
      rintro e w4 ⟨rfl, hb4⟩
      have hk4 := Lib.hid (hk3.out.next hb4)
      clear hb4 p0 p1 p2 cv1 cv2
      go_wp2_with fail
      go_ret
      exact ⟨rfl, hk4.out.2⟩
    · have d3 : (err != 0) = true := by simpa using he
      clear he
      go_wp2_with fail
      go_ret
      exact ⟨rfl, hk3.out.2⟩
set_option maxRecDepth 100000 in
set_option maxHeartbeats 1000000 in
theorem tlvPuts_walk (ch : Bool) (x0 x1 : Int) (A : Option Addr) (n c : Nat) (z : List Int) (w : World) (h0 : (Lit.int .u16 x0).wf = true) (h1 : (Lit.int .u8 x1).wf = true) (hz : IsRow .u8 w A n c z) :
    Calls Try.prog 3 #[.bool ch, .agg #[.int .u16 x0, .int .u8 x1, .slice A n c]] w fun e w' => e = .returned (.bool true) ∧ Below w.heap.size w w' := by
  have b0 := wf_u16 h0
  have b1 := wf_u8 h1
  obtain ⟨k, rfl⟩ := Int.eq_ofNat_of_zero_le b0.1
  obtain ⟨f, rfl⟩ := Int.eq_ofNat_of_zero_le b1.1
  have hnone : A = none → n = 0 ∧ c = 0 := by
    rcases hz with ⟨_, h2, h3, _⟩ | ⟨x, hx, _⟩
    · exact fun _ => ⟨h2, h3⟩
    · intro h; rw [h] at hx; cases hx
  obtain ⟨l, hl, hlc, hcm, hb, hr⟩ := hz.bytes
  by_cases hg : n ≤ 70000 ∧ (n ≤ 2000 ∨ 65500 ≤ n)
  · exact tlvPuts_main ch ⟨k, f, l⟩ A n c w ⟨by show k < 65536; omega, by show f < 256; omega, hb⟩ hl hg.1 hg.2 hr hnone
  have hm1 : n ≤ 9223372036854775807 := by unfold maxLen at hcm; omega
  have HK := Lib.hid known_any
  have hk0 : Hid (Kx w #[.int .u16 (k : Int), .int .u8 (f : Int), .slice A n c] (w.alloc (.cells #[.int .u16 (k : Int), .int .u8 (f : Int), .slice A n c] 25))) := Kx.new _ _
  have hcase : ∃ b d e : Bool, decide ((2000 : Int) < (n : Int)) = b ∧ decide ((n : Int) < 65500) = d ∧ decide ((70000 : Int) < (n : Int)) = e ∧ ((b && d) || e) = true := ⟨_, _, _, rfl, rfl, rfl, by simp; omega⟩
  obtain ⟨b, d, e, hd1, hd3, hd2, hbd⟩ := hcase
  clear hr hb hl hlc hcm hnone hg b0 b1 h0 h1 hz hm1
  cases b <;> cases d <;> cases e <;> first | (cases hbd; done) | skip
  all_goals
    clear hbd
    go_enter Try.func3, Try.ntmps3
    go_wp2_with fail
    refine (HK.out _).mono ?_
    rintro e w1 ⟨rfl, hb1⟩
    have hk1 := Lib.hid (hk0.out.next hb1)
    have p2 := hk1.out.1.cell 2
    simp at p2
    clear hb1
    go_wp2_with fail
    go_ret
    exact ⟨rfl, hk1.out.2⟩
end Go.Proofs.Ytlcmfhikcdppoaa
