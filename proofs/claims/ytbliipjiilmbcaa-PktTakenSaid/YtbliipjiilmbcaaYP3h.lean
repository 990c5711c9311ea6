/-
  The walk of PktTaken.
-/
import Derived.Test.YtbliipjiilmbcaaYP1h
import Derived.Test.YtbliipjiilmbcaaYP1f
import Derived.Test.YtbliipjiilmbcaaYP3f
namespace Go.Proofs.Ytbliipjiilmbcaa
open Go.RowKit Wire Tlv Chunk Pkt

theorem ptk_err {l : List Int} (h : (ptk l).err ≠ 0) : ptk l = ⟨0, 0, 0, [], (ptk l).err⟩ := by
  unfold ptk at h ⊢
  split
  · rfl
  split
  · rfl
  split
  · rename_i h1 h2 h3
    rw [if_neg h1, if_neg h2, if_pos h3] at h
    exact absurd rfl h
  · rfl
theorem ptk_lt {l : List Int} (hb : Byt l) : (ptk l).f < 65536 ∧ (ptk l).t < 65536 ∧ (ptk l).g < 4294967296 := by
  obtain ⟨h1, h2, h3, _⟩ := Head.tk_lt hb
  unfold ptk
  split
  · exact ⟨by simp, by simp, by simp⟩
  split
  · exact ⟨by simp, by simp, by simp⟩
  split
  · exact ⟨h1, h2, h3⟩
  · exact ⟨by simp, by simp, by simp⟩
set_option maxRecDepth 100000 in
set_option maxHeartbeats 4000000 in
theorem pktTaken_walk (a0 : Option Addr) (len0 cap0 : Nat) (z0 : List Int) (w : World) (w0 : IsRow .u8 w a0 len0 cap0 z0) :
    Calls Try.prog 10 #[.slice a0 len0 cap0] w fun e w' => e = .returned (.bool true) ∧ Below w.heap.size w w' := by
  obtain ⟨l, hl, hlc, hcm, hb, hr⟩ := w0.bytes
  have hm9 : len0 ≤ 9223372036854775807 := by unfold maxLen at hcm; omega
  have HK := Lib.hid pkknown_any
  by_cases hn : (5000 : Int) < (len0 : Int)
  · clear w0 hr hb hl hlc hcm
    go_enter Try.func10, Try.ntmps10
    go_wp2_with fail
    refine (HK.out _).mono ?_
    rintro e w1 ⟨rfl, hb1⟩
    go_wp2_with fail
    go_ret
    exact ⟨rfl, hb1⟩
  · have hn2 : len0 ≤ 100000 := by omega
    have d1 : decide ((5000 : Int) < (len0 : Int)) = false := by simpa using hn
    have CT := Lib.hid fun W (hW : Below w.heap.size w W) => pTake_any a0 len0 cap0 l W hl hn2 hlc hcm hb (hr.below hW)
    have hag := fun h0 => ptk_again (l := l) hb h0
    have her := ptk_err (l := l)
    obtain ⟨hf, ht, hg⟩ := ptk_lt hb
    have HLL := Lib.hid hl
    generalize ptk l = p at CT hag her hf ht hg
    have HAG := Lib.hid hag
    have HER := Lib.hid her
    have HLT := Lib.hid (And.intro hf (And.intro ht hg))
    clear hn w0 hr hb hl hlc hcm hag her hf ht hg
    go_enter Try.func10, Try.ntmps10
    go_wp2_with fail
    refine (HK.out _).mono ?_
    rintro e w1 ⟨rfl, hb1⟩
    have HB1 := Lib.hid hb1
    clear hb1
    go_wp2_with fail
    (with_reducible refine (CT.out _ HB1.out).mono ?_)
    rintro e w2 ⟨A2, n2, c2, k2, rfl, hk2, hl2, hr2, hm2, hb2⟩
    have HK2 := Lib.hid hk2
    have HL2 := Lib.hid hl2
    have HM2 := Lib.hid hm2
    have hst := pkstore_new p.f p.t p.g A2 n2 c2 w2
    have hal : Below w2.heap.size w2 (w2.alloc (.cells (pkl p.f p.t p.g A2 n2 c2) 52)) := (Below.refl _ _).alloc (Nat.le_refl _) _
    have HR2 := Lib.hid (hr2.next hal)
    have HB2 := Lib.hid (bnext' (bnext' HB1.out hb2) hal)
    have HQ2 : Hid (Bk (w2.alloc (.cells (pkl p.f p.t p.g A2 n2 c2) 52)) w2.heap.size (pkl p.f p.t p.g A2 n2 c2) 52) := Lib.hid (Bk.new _ _ _)
    clear hk2 hl2 hr2 hm2 hb2 hal HB1
    go_upto_region 6 with fail
    clear hst
    generalize hW3 : w2.alloc (.cells (pkl p.f p.t p.g A2 n2 c2) 52) = W3 at HR2 HB2 HQ2 ⊢
    clear hW3
    generalize w2.heap.size = g2 at HQ2 ⊢
    by_cases herr : p.err = 0
    case neg =>
      have hd : (p.err != 0) = true := by simpa using herr
      have hp := HER.out herr
      have hz : n2 = 0 := by
        rw [len_of HK2.out HL2.out, hp]
        rfl
      subst hz
      have hq := HQ2.out
      rw [hp] at hq
      have f2 := (mem_cell hq).1
      have f3 := (mem_cell hq).2
      have f0 := (mem_head hq).1
      have f1 := (mem_head hq).2
      simp only at f0 f1 f2
      clear hq hp herr
      go_wp2_with fail
      go_ret
      exact ⟨rfl, HB2.out⟩
    have hok : ∀ c ∈ p.ks, c.ok := fun c hc => by
      rw [← HK2.out] at hc
      obtain ⟨q, hq, rfl⟩ := List.mem_map.1 hc
      exact (HR2.out.2 q hq).ok
    obtain ⟨ha1, ha2, ha3, ha4⟩ := HAG.out herr hok
    have hpl := (pput_len ha2).2
    have hpb := pput_byt p.f p.t p.g hok
    have CP := Lib.hid (pktPut_any p.f p.t p.g k2 A2 n2 c2 W3 HLT.out.1 HLT.out.2.1 HLT.out.2.2 HR2.out HL2.out (by have := HM2.out; omega))
    have CM := Lib.hid fun W (hW : Below W3.heap.size W3 W) => pktMay_any p.f p.t p.g k2 A2 n2 c2 W (HR2.out.next hW) HL2.out (by have := HM2.out; omega)
    rw [HK2.out, ha1] at CM
    rw [HK2.out] at CP
    obtain ⟨b, hbd⟩ : ∃ b, pput p.f p.t p.g p.ks = b := ⟨_, rfl⟩
    rw [hbd] at CP ha2 ha3 ha4 hpl hpb
    obtain ⟨bl, be⟩ := b
    simp only at CP ha2 ha3 ha4 hpl hpb
    subst ha2
    have HA3 := Lib.hid ha3
    have HA4 := Lib.hid ha4
    have HPL := Lib.hid hpl
    have HPB := Lib.hid hpb
    clear hbd ha1 ha3 ha4 hok hpl hpb HAG HER
    rw [herr]
    go_wp2_with (refine wpList_load_row rfl 52 (.tmp 3) rfl g2 rfl 52 (pkl p.f p.t p.g A2 n2 c2) (0, 0) _ HQ2.out Try.underlying52 rfl (pk_info _ _ _ _ _ _) ?_)
    (with_reducible refine CP.out.mono ?_)
    rintro e w4 ⟨A4, n4, c4, rfl, ho4⟩
    have HO4 := Lib.hid ho4
    have HQ4 := Lib.hid (HQ2.out.next ho4.2)
    have HR4 := Lib.hid (HR2.out.next ho4.2)
    have HB4 := Lib.hid (bnext' HB2.out ho4.2)
    clear ho4 HQ2 HB2
    go_wp2_with (refine wpList_load_row rfl 52 (.tmp 3) rfl g2 rfl 52 (pkl p.f p.t p.g A2 n2 c2) (0, 0) _ HQ4.out Try.underlying52 rfl (pk_info _ _ _ _ _ _) ?_)
    have hbw := HO4.out.2
    (with_reducible refine (CM.out _ hbw).mono ?_)
    clear hbw
    rintro e w5 ⟨rfl, hb5⟩
    have HO5 := Lib.hid (HO4.out.next hb5)
    have HQ5 := Lib.hid (HQ4.out.next hb5)
    have HR5 := Lib.hid (HR4.out.next hb5)
    have HB5 := Lib.hid (bnext' HB4.out hb5)
    clear hb5 HO4 HQ4 HR4 HB4 CM CP
    have hln : n4 ≤ len0 := by rw [← HO5.out.len, ← HLL.out]; exact HA3.out
    have d4 : decide (len0 < n4) = false := by simp; omega
    have h4n : n4 ≤ 100000 := by omega
    have CT2 := Lib.hid fun W (hW : Below w5.heap.size w5 W) => pTake_any A4 n4 c4 bl W HO5.out.len h4n HO5.out.cap.1 HO5.out.cap.2 HPB.out (HO5.out.row.below hW)
    rw [HA4.out] at CT2
    clear hln
    go_wp2_with fail
    (with_reducible refine (CT2.out _ (Below.refl _ _)).mono ?_)
    rintro e w6 ⟨A6, n6, c6, k6, rfl, hk6, hl6, hr6, hm6, hb6⟩
    have hnn : n2 = n6 := (len_of HK2.out HL2.out).trans (len_of hk6 hl6).symm
    subst hnn
    have HK6 := Lib.hid hk6
    have hst := pkstore_new p.f p.t p.g A6 n2 c6 w6
    have hal : Below w6.heap.size w6 (w6.alloc (.cells (pkl p.f p.t p.g A6 n2 c6) 52)) := (Below.refl _ _).alloc (Nat.le_refl _) _
    have HR6 := Lib.hid (hr6.next hal)
    have HR7 := Lib.hid ((HR5.out.next hb6).next hal)
    have HB6 := Lib.hid (bnext' (bnext' HB5.out hb6) hal)
    have HQ7 := Lib.hid ((HQ5.out.next hb6).next hal)
    have HQ6 : Hid (Bk (w6.alloc (.cells (pkl p.f p.t p.g A6 n2 c6) 52)) w6.heap.size (pkl p.f p.t p.g A6 n2 c6) 52) := Lib.hid (Bk.new _ _ _)
    clear hk6 hl6 hr6 hm6 hb6 hal HB5 HR5 HQ5
    rw [herr]
    go_upto_region 12 with fail
    clear hst
    generalize hW7 : w6.alloc (.cells (pkl p.f p.t p.g A6 n2 c6) 52) = W7 at HR6 HR7 HB6 HQ7 HQ6 ⊢
    clear hW7
    generalize w6.heap.size = g6 at HQ6 ⊢
    have HS : Hid (Calls Try.prog 28 #[.agg #[.int .u16 (p.f : Int), .int .u16 (p.t : Int), .int .u32 (p.g : Int), .slice A2 n2 c2], .agg #[.int .u16 (p.f : Int), .int .u16 (p.t : Int), .int .u32 (p.g : Int), .slice A6 n2 c6]] W7 fun e w' => e = .returned (.bool true) ∧ Below W7.heap.size W7 w') := Lib.hid (pSame_any p.f p.t p.g k2 k6 A2 A6 n2 c2 c6 W7 HR7.out HR6.out HL2.out (HK2.out.trans HK6.out.symm) (by have := HM2.out; omega))
    obtain ⟨q2, q3⟩ := mem_cell HQ7.out
    obtain ⟨q0, q1⟩ := mem_head HQ7.out
    obtain ⟨r2, r3⟩ := mem_cell HQ6.out
    obtain ⟨r0, r1⟩ := mem_head HQ6.out
    go_wp2_with fail
    (with_reducible refine HS.out.mono ?_)
    rintro e w8 ⟨rfl, hb8⟩
    clear q0 q1 q2 q3 r0 r1 r2 r3
    have HB8 := Lib.hid (bnext' HB6.out hb8)
    clear hb8
    go_wp2_with fail
    go_ret
    exact ⟨rfl, HB8.out⟩
end Go.Proofs.Ytbliipjiilmbcaa
