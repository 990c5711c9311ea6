/-
  The reader of layer 5: causes, as it reads a value.
-/
import Derived.Test.YtbliipjiilmbcaaZChunkCs2
import Derived.Test.YtbliipjiilmbcaaZChunkTkAny
namespace Go.Proofs.Ytbliipjiilmbcaa
open Go.RowKit Wire Tlv Chunk Go.Shelf

/-- What is asked of causes' function. -/
theorem causes_asks (w W : World) (b bx : Nat) (c0 : Ck) (hbx : Bk W bx #[.pointer (some ⟨b, 0, none⟩)] 93) (hne : bx ≠ b) (hbW : b < W.heap.size) (hws : w.heap.size ≤ W.heap.size) :
    Asks w W b 94 #[.pointer (some ⟨bx, 0, none⟩)] cst (XC c0) where
  enters := enters_of Try.func94 (by kernel_rfl) rfl
  calm := fun W0 k c s A B _ ⟨cA, cc, q, h1, h2, h3, h4⟩ hc => ⟨cA, cc, q, h1, h2, h3, h4.calm hc⟩
  set_ := fun W0 k c s A i v hb ⟨cA, cc, q, h1, h2, h3, h4⟩ => ⟨cA, cc, q, h1, h2, h3, h4.put (Nat.lt_of_lt_of_le hbW hb.size)⟩
  more := fun W0 k c s A ⟨cA, cc, q, h1, h2, ⟨h3, h30⟩, h4⟩ => ⟨cA, cc, q, h1, h2, ⟨Nat.le_succ_of_le h3, h30⟩, h4⟩
  call := fun W0 k r' q W1 hB hk hp hv hs => causes_call c0 w W W0 b bx k r' q W1 hbx hne hbW hws hB hk hp hv hs
theorem causes_fin {x : Tv} (hx : x.ok) (hk : x.k = 6 ∨ x.k = 9) (w W Wc W0 W' : World) (b k : Nat) (s' : Ls) (hot : Ot W Wc b) (hB : Below Wc.heap.size Wc W0) (hk2 : k ≤ 20000)
    (hr : Rr w b ⟨[], (gone cst (r0 x) (ev false (r0 x).l)).c, (gone cst (r0 x) (ev false (r0 x).l)).bad⟩ s' none 0 0 W') (ho : Ot Wc W' b) (hX : XC (r0 x).c W0 k (gone cst (r0 x) (ev false (r0 x).l)).c s' W') : FOut w b x W (.returned (.tuple #[])) W' := by
  refine ⟨rfl, _, _, _, _, _, hr, hot.trans ho, fun hb _ => ?_, ?_⟩
  · obtain ⟨cA, cc, q, rfl, hc, ⟨h1, h2⟩, h3⟩ := hX
    have hbo := bare_ok hx (by omega)
    refine (ch_cause ?_ (by rw [hc]; rfl) (by rw [hc]; rfl) (by rw [hc]; rfl) (by rw [hc]; rfl) (by show (gone cst (r0 x) (ev false (r0 x).l)).c.ca.length ≤ 65536; omega) (fun y hy => (h2 y hy).2.2) h3).lower (Nat.le_trans hot.size hB.size)
    show Ck.ok (gone cst (r0 x) (ev false (r0 x).l)).c
    rw [hc]
    exact { hbo with ca := fun y hy => ⟨(h2 y hy).1, (h2 y hy).2.1⟩ }
  · rw [take_mayO (by omega), raw_cause hk]
    obtain ⟨e1, e2⟩ := gone_ev x.v (r0 x) rfl
    show fin ⟨[], (gone cst (r0 x) (ev false x.v)).c, (gone cst (r0 x) (ev false x.v)).bad⟩ = _
    rw [e2, e1]
    cases (tl false x.v).2
    · rw [fin_bad rfl]; rfl
    · rw [fin_ok rfl rfl, if_pos rfl]
      rfl
set_option maxRecDepth 100000 in
set_option maxHeartbeats 4000000 in
theorem causes_f (w W : World) (b : Nat) (x : Tv) (A : Option Addr) (n cap : Nat) (hx : x.ok) (hk : x.k = 6 ∨ x.k = 9) (h : Rr w b (r0 x) nol A n cap W) :
    Calls Try.prog 64 #[.pointer (some ⟨b, 0, none⟩)] W (FOut w b x W) := by
  have hlt := h.bk.lt
  have hal : Below W.heap.size W (W.alloc (.cells #[.pointer (some ⟨b, 0, none⟩)] 93)) := (Below.refl _ _).alloc (Nat.le_refl _) _
  have HS0 : Hid (Rr w b (r0 x) nol A n cap (W.alloc (.cells #[.pointer (some ⟨b, 0, none⟩)] 93)) ∧ Ot W (W.alloc (.cells #[.pointer (some ⟨b, 0, none⟩)] 93)) b ∧ Bk (W.alloc (.cells #[.pointer (some ⟨b, 0, none⟩)] 93)) W.heap.size #[.pointer (some ⟨b, 0, none⟩)] 93) := Lib.hid ⟨h.next hal, Ot.below b hal, Bk.new W _ _⟩
  have HFIN := Lib.hid (fun Wc W0 W' k s' => causes_fin hx hk w W Wc W0 W' b k s')
  have hne : W.heap.size ≠ b := by omega
  clear h hal hk hx
  go_enter Try.func64, Try.ntmps64
  go_upto_region 1 with fail
  generalize World.alloc W _ = wc at HS0 ⊢
  obtain ⟨bx, hbx⟩ : ∃ bx, W.heap.size = bx := ⟨_, rfl⟩
  rw [hbx] at HS0 hne
  rw [hbx]
  clear hbx
  obtain ⟨hrr, hot, hbk⟩ := HS0.out
  have hbW := hrr.bk.lt
  have x0 := hbk.cell 0
  simp at x0
  have HOT := Lib.hid hot
  have HQ5C : Hid (∀ W0, XC (r0 x).c W0 0 (r0 x).c nol W0) := Lib.hid fun W0 => ⟨none, 0, [], rfl, rfl, ⟨Nat.le_refl _, fun a ha => by simp [r0, bare, zero] at ha⟩, Cr.nil _ _⟩
  have HPA := Lib.hid (params_r w wc b (r0 x) nol A n cap hrr 94 #[.pointer (some ⟨bx, 0, none⟩)] cst (XC (r0 x).c) (fun W0 _ => HQ5C.out W0) (causes_asks w wc b bx (r0 x).c hbk hne hbW hrr.bl.size))
  clear hrr hot hbk HS0
  go_wp2_with fail
  (with_reducible refine HPA.out.mono ?_)
  rintro e W9 ⟨rfl, W0, k, s', hB, hk2, hr9, ho9, hX9⟩
  have HF := Lib.hid (HFIN.out wc W0 W9 k s' HOT.out hB hk2 hr9 ho9 hX9)
  clear hB hr9 ho9 hX9 HPA HFIN
  go_wp2_with fail
  go_end0
  exact HF.out
end Go.Proofs.Ytbliipjiilmbcaa
/-
  What chunk.Take does.
-/
namespace Go.Proofs.Ytbliipjiilmbcaa
open Go.RowKit Wire Tlv Chunk Go.Shelf

theorem ckTake_all (x : Tv) (A : Option Addr) (n cp : Nat) (w : World) (hx : x.ok) (hl : x.v.length = n) (hn : n ≤ 65531) (hle : n ≤ cp) (hcm : cp ≤ maxLen) (hr : Row w A (bs x.v)) :
    Calls Try.prog 12 #[.agg #[.int .u16 (x.k : Int), .int .u8 (x.f : Int), .slice A n cp]] w (TakeOut w (take x)) := by
  by_cases h255 : 255 < x.k
  · exact ckTake_no x A n cp w h255
  have hk : x.k ≤ 255 := by omega
  by_cases h0 : x.k = 0
  · exact ckTake_any x A n cp w hx hk hl hn hle hcm hr 61 (enters_of Try.func61 (by kernel_rfl) rfl) (by unfold rk; rw [if_pos h0]) fun W b A n cp h => piece_f w W b x A n cp hx h0 h
  by_cases h1 : x.k = 1 ∨ x.k = 2
  · exact ckTake_any x A n cp w hx hk hl hn hle hcm hr 62 (enters_of Try.func62 (by kernel_rfl) rfl) (by unfold rk; rw [if_neg h0, if_pos h1]) fun W b A n cp h => side_f w W b x A n cp hx h1 h
  by_cases h3 : x.k = 3
  · exact ckTake_any x A n cp w hx hk hl hn hle hcm hr 63 (enters_of Try.func63 (by kernel_rfl) rfl) (by unfold rk; rw [if_neg h0, if_neg h1, if_pos h3]) fun W b A n cp h => came_f w W b x A n cp hx h3 h
  by_cases h6 : x.k = 6 ∨ x.k = 9
  · exact ckTake_any x A n cp w hx hk hl hn hle hcm hr 64 (enters_of Try.func64 (by kernel_rfl) rfl) (by unfold rk; rw [if_neg h0, if_neg h1, if_neg h3, if_pos h6]) fun W b A n cp h => causes_f w W b x A n cp hx h6 h
  by_cases h7 : x.k = 7
  · exact ckTake_any x A n cp w hx hk hl hn hle hcm hr 65 (enters_of Try.func65 (by kernel_rfl) rfl) (by unfold rk; rw [if_neg h0, if_neg h1, if_neg h3, if_neg h6, if_pos h7]) fun W b A n cp h => last_f w W b x A n cp hx h7 h
  by_cases h8 : x.k = 8 ∨ x.k = 11 ∨ x.k = 14
  · exact ckTake_any x A n cp w hx hk hl hn hle hcm hr 66 (enters_of Try.func66 (by kernel_rfl) rfl) (by unfold rk; rw [if_neg h0, if_neg h1, if_neg h3, if_neg h6, if_neg h7, if_pos h8]) fun W b A n cp h => nothing_f w W b x A n cp hx h8 h
  exact ckTake_any x A n cp w hx hk hl hn hle hcm hr 67 (enters_of Try.func67 (by kernel_rfl) rfl) (by unfold rk; rw [if_neg h0, if_neg h1, if_neg h3, if_neg h6, if_neg h7, if_neg h8]) fun W b A n cp h => data_f w W b x A n cp hx hk (by omega) h
end Go.Proofs.Ytbliipjiilmbcaa
