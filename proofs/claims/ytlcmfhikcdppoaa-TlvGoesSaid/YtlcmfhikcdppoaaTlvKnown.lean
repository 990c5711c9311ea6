/-
  The statements' 'known' of layer 4 answers true.
-/
import Derived.Test.YtlcmfhikcdppoaaTlvList
namespace Go.Proofs.Ytlcmfhikcdppoaa
open Go.RowKit Wire Tlv

theorem tput_any (ch : Bool) (x : Tv) (A : Option Addr) (n c : Nat) (w : World) (hx : x.ok) (hl : x.v.length = n) (hn : n ≤ 140737488351232) (hr : Row w A (bs x.v)) :
    Calls Try.prog 7 #[.bool ch, .agg #[.int .u16 (x.k : Int), .int .u8 (x.f : Int), .slice A n c]] w (PutOut w (tp ch x)) := by
  by_cases h : ¬ fit ch x ∨ 65531 < n
  · exact tput_bad ch x A n c w hx hl hn h
  · by_cases hf : fit ch x
    · exact tput_good ch x A n c w hx hl (by omega) hf hr
    · exact absurd (.inl hf) h
theorem trput_any (ch : Bool) (x : Tv) (A : Option Addr) (n c : Nat) (w : World) (hx : x.ok) (hl : x.v.length = n) (hn : n ≤ 140737488351232) (hr : Row w A (bs x.v)) (hz : A = none → n = 0 ∧ c = 0) :
    Calls Try.prog 8 #[.bool ch, .agg #[.int .u16 (x.k : Int), .int .u8 (x.f : Int), .slice A n c]] w (PutOut w (tp ch x)) := by
  by_cases h : ¬ fit ch x ∨ 65531 < n
  · exact trput_bad ch x A n c w hx hl hn h
  · by_cases hf : fit ch x
    · exact trput_good ch x A n c w hx hl (by omega) hf hr hz
    · exact absurd (.inl hf) h

def kb : List Int := [3, 1, 0, 9, 9, 9, 9, 9, 9, 0, 0, 0]
def kx : Tv := ⟨3, 1, [9, 9, 9, 9, 9]⟩
theorem ktp : tp true kx = (kb, 0) := by decide +kernel
theorem kstr : strOf kb = { data := #[3, 1, 0, 9, 9, 9, 9, 9, 9, 0, 0, 0] } := by decide +kernel
def kl : List Int := [128, 5, 0, 4, 0, 7, 0, 5, 1, 0, 0, 0]
theorem ktl : tlist false kl = ([⟨32773, 0, []⟩, ⟨7, 0, [1]⟩], 0) := by decide +kernel
theorem kl_byt : Byt kl := by unfold Byt kl; decide
theorem kx_ok : kx.ok := ⟨by decide, by decide, by unfold Byt kx; decide⟩
theorem kt1 : tlist false [0, 0, 0] = ([], 40) := by decide +kernel
theorem kt2 : tlist false [0, 7, 0, 3] = ([], 40) := by decide +kernel
theorem kt3 : tlist false [0, 7, 0, 5, 1, 0, 0] = ([], 40) := by decide +kernel
theorem kt4 : tlist false [0, 7, 0, 5, 1, 0, 0, 1] = ([], 40) := by decide +kernel
theorem klistE {A : Option Addr} {n c : Nat} {l : List Int} (h : tlist false l = ([], 40)) (W : World) (hl : l.length = n) (hn : n ≤ 100000) (hb : Byt l) (hr : Row W A (bs l)) :
    Calls Try.prog 13 #[.bool false, .slice A n c] W fun e w' => ∃ A' c', e = .returned (.tuple #[.slice A' 0 c', .int .i64 40]) ∧ Below W.heap.size W w' := by
  refine (list_any false A n c l W hl hn hb hr).mono ?_
  rw [h]
  rintro e w' ⟨A', n', c', qs, he, hq, ht⟩
  have hq0 : qs = [] := by simpa using hq
  subst hq0
  obtain rfl : n' = 0 := by rw [← ht.1]; rfl
  exact ⟨A', c', he, ht.2.2.2⟩
/-- The four rows of bytes and the list of them. -/
def Kl (w : World) (h : Nat) (W : World) : Prop := Bk W h (vb [0, 0, 0]) 5 ∧ Bk W (h + 1) (vb [0, 7, 0, 3]) 5 ∧ Bk W (h + 1 + 1) (vb [0, 7, 0, 5, 1, 0, 0]) 5 ∧ Bk W (h + 1 + 1 + 1) (vb [0, 7, 0, 5, 1, 0, 0, 1]) 5 ∧
  Bk W (h + 1 + 1 + 1 + 1) #[.slice (some ⟨h, 0, none⟩) 3 3, .slice (some ⟨h + 1, 0, none⟩) 4 4, .slice (some ⟨h + 1 + 1, 0, none⟩) 7 7, .slice (some ⟨h + 1 + 1 + 1, 0, none⟩) 8 8] 23 ∧ Below w.heap.size w W
theorem Kl.next {w W W' : World} {h : Nat} (k : Kl w h W) (hb : Below W.heap.size W W') : Kl w h W' := ⟨k.1.next hb, k.2.1.next hb, k.2.2.1.next hb, k.2.2.2.1.next hb, k.2.2.2.2.1.next hb, bnext' k.2.2.2.2.2 hb⟩
theorem Bk.rowb {W : World} {b : Nat} {l : List Int} (h : Bk W b (vb l) 5) : Row W (some ⟨b, 0, none⟩) (bs l) := h.row
theorem kl_new {w w3 : World} (hb : Below w.heap.size w w3) : Kl w w3.heap.size (((((w3.alloc (.cells (vb [0, 0, 0]) 5)).alloc (.cells (vb [0, 7, 0, 3]) 5)).alloc (.cells (vb [0, 7, 0, 5, 1, 0, 0]) 5)).alloc (.cells (vb [0, 7, 0, 5, 1, 0, 0, 1]) 5)).alloc
    (.cells #[.slice (some ⟨w3.heap.size, 0, none⟩) 3 3, .slice (some ⟨w3.heap.size + 1, 0, none⟩) 4 4, .slice (some ⟨w3.heap.size + 1 + 1, 0, none⟩) 7 7, .slice (some ⟨w3.heap.size + 1 + 1 + 1, 0, none⟩) 8 8] 23)) := by
  have e1 := Bk.new (w3.alloc (.cells (vb [0, 0, 0]) 5)) (vb [0, 7, 0, 3]) 5
  have e2 := Bk.new ((w3.alloc (.cells (vb [0, 0, 0]) 5)).alloc (.cells (vb [0, 7, 0, 3]) 5)) (vb [0, 7, 0, 5, 1, 0, 0]) 5
  have e3 := Bk.new (((w3.alloc (.cells (vb [0, 0, 0]) 5)).alloc (.cells (vb [0, 7, 0, 3]) 5)).alloc (.cells (vb [0, 7, 0, 5, 1, 0, 0]) 5)) (vb [0, 7, 0, 5, 1, 0, 0, 1]) 5
  have e4 := Bk.new ((((w3.alloc (.cells (vb [0, 0, 0]) 5)).alloc (.cells (vb [0, 7, 0, 3]) 5)).alloc (.cells (vb [0, 7, 0, 5, 1, 0, 0]) 5)).alloc (.cells (vb [0, 7, 0, 5, 1, 0, 0, 1]) 5)) #[.slice (some ⟨w3.heap.size, 0, none⟩) 3 3, .slice (some ⟨w3.heap.size + 1, 0, none⟩) 4 4, .slice (some ⟨w3.heap.size + 1 + 1, 0, none⟩) 7 7, .slice (some ⟨w3.heap.size + 1 + 1 + 1, 0, none⟩) 8 8] 23
  simp only [World.size_alloc] at e1 e2 e3 e4
  have hs := hb.size
  exact ⟨((((Bk.new w3 _ _).alloc _).alloc _).alloc _).alloc _, ((e1.alloc _).alloc _).alloc _, (e2.alloc _).alloc _, e3.alloc _, e4, ((((hb.alloc hs _).alloc (by simp; omega) _).alloc (by simp; omega) _).alloc (by simp; omega) _).alloc (by simp; omega) _⟩
set_option maxRecDepth 100000 in
set_option maxHeartbeats 1000000 in
theorem known_any (w : World) :
    Calls Try.prog 6 #[] w fun e w' => e = .returned (.bool true) ∧ Below w.heap.size w w' := by
  have k1 : Calls Try.prog 7 #[.bool true, .agg #[.int .u16 3, .int .u8 1, .slice (some ⟨w.heap.size, 0, none⟩) 5 5]] (w.alloc (.cells #[.int .u8 9, .int .u8 9, .int .u8 9, .int .u8 9, .int .u8 9] 5)) fun e w' => ∃ A c, e = .returned (.tuple #[.slice A 12 c, .int .i64 0]) ∧ Own w w' A 12 c kb := by
    refine (tput_any true kx (some ⟨w.heap.size, 0, none⟩) 5 5 _ kx_ok rfl (by omega) (Row.new w (bs kx.v) _ _)).mono ?_
    rw [ktp]
    rintro e w' ⟨A, n, c, he, ho⟩
    have hn : n = 12 := by rw [← ho.len]; rfl
    subst hn
    exact ⟨A, c, he, own_up ho⟩
  have k2 : ∀ W, Calls Try.prog 13 #[.bool false, .slice (some ⟨W.heap.size, 0, none⟩) 12 12] (W.alloc (.cells #[.int .u8 128, .int .u8 5, .int .u8 0, .int .u8 4, .int .u8 0, .int .u8 7, .int .u8 0, .int .u8 5, .int .u8 1, .int .u8 0, .int .u8 0, .int .u8 0] 5)) fun e w' => ∃ A c qs, e = .returned (.tuple #[.slice A 2 c, .int .i64 0]) ∧ qs.map (·.1) = [(⟨32773, 0, []⟩ : Tv), ⟨7, 0, [1]⟩] ∧ Ths w' A qs ∧ Below W.heap.size W w' := fun W => by
    refine (list_any false (some ⟨W.heap.size, 0, none⟩) 12 12 kl _ rfl (by omega) kl_byt (Row.new W (bs kl) _ _)).mono ?_
    rw [ktl]
    rintro e w' ⟨A', n', c', qs, he, hq, ht⟩
    obtain rfl : n' = 2 := by rw [← ht.1]; have := congrArg List.length hq; simpa using this
    exact ⟨A', c', qs, he, hq, ht.ths, ((Below.refl _ _).alloc (Nat.le_refl _) _).trans (ht.2.2.2.mono (by simp))⟩
  have K1 := Lib.hid k1
  have K2 := Lib.hid k2
  clear k1 k2
  go_enter Try.func6, Try.ntmps6
  go_wp2_with fail
  refine K1.out.mono ?_
  rintro e w1 ⟨A1, c1, rfl, ho1⟩
  have HO1 := Lib.hid ho1
  clear ho1
  go_wp2_with fail
  refine (K2.out w1).mono ?_
  rintro e w2 ⟨A2, c2, qs, rfl, hqs, ht2, hb2⟩
  have HO2 := Lib.hid (HO1.out.next hb2)
  have HQS := Lib.hid hqs
  have HT2 := Lib.hid ht2
  have cv : (convert 23 9 (.slice A1 12 c1)).run Try.prog w2 = .ok (.string { data := #[3, 1, 0, 9, 9, 9, 9, 9, 9, 0, 0, 0] }) w2 := by
    rw [← kstr]
    exact run_strOf Try.underlying23 Try.underlying5 Try.underlying9 rfl HO2.out.row
  have hbel : Below w2.heap.size w2 ((w2.alloc (.cells #[.int .u8 1] 5)).alloc (.cells #[.int .u16 32773, .int .u8 0, .slice none 0 0, .int .u16 7, .int .u8 0, .slice (some ⟨w2.heap.size, 0, none⟩) 1 1] 25)) := ((Below.refl _ _).alloc (Nat.le_refl _) _).alloc (by simp) _
  have hths : Ths ((w2.alloc (.cells #[.int .u8 1] 5)).alloc (.cells #[.int .u16 32773, .int .u8 0, .slice none 0 0, .int .u16 7, .int .u8 0, .slice (some ⟨w2.heap.size, 0, none⟩) 1 1] 25)) (some ⟨w2.heap.size + 1, 0, none⟩) [((⟨32773, 0, []⟩ : Tv), .slice none 0 0), (⟨7, 0, [1]⟩, .slice (some ⟨w2.heap.size, 0, none⟩) 1 1)] := by
    refine ⟨?_, fun q hq => ?_⟩
    · have := Row.new (w2.alloc (.cells #[.int .u8 1] 5)) (tf [((⟨32773, 0, []⟩ : Tv), .slice none 0 0), (⟨7, 0, [1]⟩, .slice (some ⟨w2.heap.size, 0, none⟩) 1 1)]) 25 (0, 0)
      rw [World.size_alloc] at this
      exact this
    · simp only [List.mem_cons, List.not_mem_nil, or_false] at hq
      rcases hq with rfl | rfl
      · exact ⟨none, 0, 0, rfl, rfl, by omega, by unfold maxLen; omega, by omega, ⟨by decide, by decide, fun c h => by simp at h⟩, Row.nil_ _ _, fun _ => ⟨rfl, rfl⟩⟩
      · exact ⟨some ⟨w2.heap.size, 0, none⟩, 1, 1, rfl, rfl, by omega, by unfold maxLen; omega, by omega, (⟨by decide, by decide, fun c h => by simp at h; omega⟩ : (⟨7, 0, [1]⟩ : Tv).ok), (Row.new w2 (bs [1]) _ _).alloc _, fun h => by cases h⟩
  have hsame := sameAll_any A2 2 c2 qs (some ⟨w2.heap.size + 1, 0, none⟩) 2 2 [((⟨32773, 0, []⟩ : Tv), .slice none 0 0), (⟨7, 0, [1]⟩, .slice (some ⟨w2.heap.size, 0, none⟩) 1 1)] _ (by omega) (by have := congrArg List.length hqs; simpa using this) rfl hqs (ht2.next hbel) hths
  have HSA := Lib.hid hsame
  have HB2 := Lib.hid (HO2.out.2.trans (hbel.mono HO2.out.2.size))
  clear hqs ht2 hb2 hbel hths hsame
  go_wp2_with fail
  refine HSA.out.mono ?_
  rintro e w3 ⟨rfl, hb3⟩
  have HB3 := Lib.hid (bnext' HB2.out hb3)
  clear hb3 cv
  have HKL := Lib.hid (kl_new HB3.out)
  go_wp2_with fail
  go_loopw [46] (fun i wr => ∃ k : Nat, k ≤ 4 ∧ i = .int .i64 (k : Int) ∧ Hid (Kl w w3.heap.size wr)) (fun i _ => 4 - (intOf i).toNat)
  case atStart => exact ⟨0, by omega, rfl, HKL⟩
  case round =>
    obtain ⟨k, hk, rfl, hkl⟩ := hrel
    rcases (show k = 0 ∨ k = 1 ∨ k = 2 ∨ k = 3 ∨ k = 4 by omega) with rfl | rfl | rfl | rfl | rfl
    · have g0 := hkl.out.2.2.2.2.1.cell 0
      simp at g0
      have hL := klistE kt1 wr (n := 3) (c := 3) rfl (by omega) (by unfold Byt; decide) hkl.out.1.rowb
      have HL := Lib.hid hL
      clear hL
      go_wp2_with fail
      refine HL.out.mono ?_
      rintro e w5 ⟨A5, c5, rfl, hb5⟩
      have hk5 : Hid (Kl w w3.heap.size w5) := hkl.out.next hb5
      clear hb5 g0
      go_wp2_with fail
      go_roundw
      case rel => exact ⟨1, by omega, rfl, hk5⟩
      case measure => simp [intOf]
    · have g1 := hkl.out.2.2.2.2.1.cell 1
      simp at g1
      have hL := klistE kt2 wr (n := 4) (c := 4) rfl (by omega) (by unfold Byt; decide) hkl.out.2.1.rowb
      have HL := Lib.hid hL
      clear hL
      go_wp2_with fail
      refine HL.out.mono ?_
      rintro e w5 ⟨A5, c5, rfl, hb5⟩
      have hk5 : Hid (Kl w w3.heap.size w5) := hkl.out.next hb5
      clear hb5 g1
      go_wp2_with fail
      go_roundw
      case rel => exact ⟨2, by omega, rfl, hk5⟩
      case measure => simp [intOf]
    · have g2 := hkl.out.2.2.2.2.1.cell 2
      simp at g2
      have hL := klistE kt3 wr (n := 7) (c := 7) rfl (by omega) (by unfold Byt; decide) hkl.out.2.2.1.rowb
      have HL := Lib.hid hL
      clear hL
      go_wp2_with fail
      refine HL.out.mono ?_
      rintro e w5 ⟨A5, c5, rfl, hb5⟩
      have hk5 : Hid (Kl w w3.heap.size w5) := hkl.out.next hb5
      clear hb5 g2
      go_wp2_with fail
      go_roundw
      case rel => exact ⟨3, by omega, rfl, hk5⟩
      case measure => simp [intOf]
    · have g3 := hkl.out.2.2.2.2.1.cell 3
      simp at g3
      have hL := klistE kt4 wr (n := 8) (c := 8) rfl (by omega) (by unfold Byt; decide) hkl.out.2.2.2.1.rowb
      have HL := Lib.hid hL
      clear hL
      go_wp2_with fail
      refine HL.out.mono ?_
      rintro e w5 ⟨A5, c5, rfl, hb5⟩
      have hk5 : Hid (Kl w w3.heap.size w5) := hkl.out.next hb5
      clear hb5 g3
      go_wp2_with fail
      go_roundw
      case rel => exact ⟨4, by omega, rfl, hk5⟩
      case measure => simp [intOf]
    · go_wp2_with fail
      go_ret
      exact ⟨rfl, hkl.out.2.2.2.2.2⟩
end Go.Proofs.Ytlcmfhikcdppoaa
