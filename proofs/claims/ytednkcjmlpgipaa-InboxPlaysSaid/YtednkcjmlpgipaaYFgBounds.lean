/-
  The first and the last piece of the message that a kept one is in: bounds, walked.
-/
import Derived.Test.YtednkcjmlpgipaaYP1a
import Derived.Deep.CutBlock
import Derived.Deep.LoopGhost
namespace Go.Proofs.Ytednkcjmlpgipaa
set_option maxRecDepth 4000
open Go.RowKit Go.Maps
namespace Fg
set_option linter.unusedVariables false

def bres (t : Nat) : Option (Nat × Nat) → Array Value
  | some (a, b) => #[.int .u32 (bw t a : Int), .int .u32 (fw t b : Int), .bool true]
  | none => #[.int .u32 0, .int .u32 0, .bool false]
theorem beg_of {K : List Pc} {t : Nat} {x : Pc} (h : look K t = some x) : begs K t = bg x.f := by unfold begs; rw [h]
theorem end_of {K : List Pc} {t : Nat} {x : Pc} (h : look K t = some x) : ends K t = en x.f := by unfold ends; rw [h]
theorem chain_ends {K : List Pc} {t a b : Nat} (ht : t < 4294967296) (h : Chain K t a b) (hab : a + b < 4294967296) : (∃ x, look K (bw t a) = some x) ∧ ∃ x, look K (fw t b) = some x := by
  have h1 := chain_some ht h hab 0 (by omega)
  have h2 := chain_some ht h hab (a + b) (by omega)
  rw [show fw (bw t a) 0 = bw t a by unfold fw bw; omega] at h1
  rw [show fw (bw t a) (a + b) = fw t b by unfold fw bw; omega] at h2
  exact ⟨Option.isSome_iff_exists.1 h1, Option.isSome_iff_exists.1 h2⟩
set_option maxHeartbeats 1000000 in
theorem bounds_any (W : World) (F : Nat → Prop) (j t : Nat) (K : List Pc) (h : JA j K W F) (hok : ∀ x ∈ K, x.Ok) (ht : t < 4294967296) (hin : (look K t).isSome = true) (hlen : K.length < 1000000000) :
    Calls Try.prog 84 #[.pointer (some ⟨j, 0, none⟩), .int .u32 (t : Int)] W fun e w' => e = .returned (.tuple (bres t (bnd K t K.length 0 0))) ∧ Below W.heap.size W w' := by
  have H := Lib.hid h
  have HOK := Lib.hid hok
  have HT := Lib.hid ht
  have HIN := Lib.hid (chain_start hin)
  have HLEN := Lib.hid hlen
  have HAP : Hid (Apart K) := Lib.hid (by obtain ⟨m, _, ⟨D, _, _, _, ha, _⟩, _⟩ := h; exact ha)
  have htt : bw t 0 = t ∧ fw t 0 = t := by unfold bw fw; omega
  have HTT := Lib.hid htt
  clear h hok hin hlen htt
  go_enter Try.func84, Try.ntmps84
  go_upto_region 2 with fail
  have HB : Hid (Bk (W.alloc (.cells #[.pointer (some ⟨j, 0, none⟩)] 97)) W.heap.size #[.pointer (some ⟨j, 0, none⟩)] 97) := Lib.hid (Bk.new _ _ _)
  have HJ : Hid (JA j K (W.alloc (.cells #[.pointer (some ⟨j, 0, none⟩)] 97)) F) := Lib.hid (H.out.next ((Below.refl _ _).alloc (Nat.le_refl _) _))
  have HW : Hid (Below W.heap.size W (W.alloc (.cells #[.pointer (some ⟨j, 0, none⟩)] 97))) := Lib.hid ((Below.refl _ _).alloc (Nat.le_refl _) _)
  generalize W.alloc (.cells #[.pointer (some ⟨j, 0, none⟩)] 97) = w1 at HB HJ HW ⊢
  obtain ⟨b0, hb0⟩ : ∃ b0, W.heap.size = b0 := ⟨_, rfl⟩
  rw [hb0] at HB ⊢
  clear hb0 H
  go_wp2_with fail
  go_loopg [4, 5] K.length (fun g v4 v5 wr => ∃ a b : Nat, v4 = .int .u32 (bw t a : Int) ∧ v5 = .int .u32 (fw t b : Int) ∧ Hid (bnd K t K.length 0 0 = bnd K t g a b) ∧ Hid (Chain K t a b) ∧ a + b + 1 ≤ K.length ∧ K.length ≤ g + a + b ∧ Hid (Bk wr b0 #[.pointer (some ⟨j, 0, none⟩)] 97 ∧ JA j K wr F ∧ Below W.heap.size W wr))
  case atStart => exact ⟨0, 0, by rw [HTT.out.1], by rw [HTT.out.2], Lib.hid rfl, HIN, chain_len HT.out HAP.out HIN.out (by omega), by omega, Lib.hid ⟨HB.out, HJ.out, HW.out⟩⟩
  case round =>
    obtain ⟨a, b, rfl, rfl, hbd, hch, hab, hg, hw⟩ := hrel
    obtain ⟨gg, rfl⟩ : ∃ gg, gk = gg + 1 := ⟨gk - 1, by omega⟩
    have HBD : Hid (bnd K t K.length 0 0 = if begs K (bw t a) && ends K (fw t b) then some (a, b)
      else if (!begs K (bw t a) && !goes K (bw t (a + 1))) || (!ends K (fw t b) && !goes K (fw t b)) then none
      else bnd K t gg (if begs K (bw t a) then a else a + 1) (if ends K (fw t b) then b else b + 1)) := Lib.hid hbd.out
    clear hbd HB HJ HW
    obtain ⟨⟨x, hx⟩, ⟨y, hy⟩⟩ := chain_ends HT.out hch.out (by have := HLEN.out; omega)
    obtain ⟨m, c0, _, hm, _⟩ := hw.out.2.1.cells
    have hc := hw.out.1.cell 0
    simp only [Array.getElem?_singleton, if_true] at hc
    obtain ⟨A1, k1, cc1, _, hr1, _⟩ := mk_some hm (bw_lt t a) hx
    obtain ⟨A2, k2, cc2, _, hr2, _⟩ := mk_some hm (fw_lt t b) hy
    have z1 := n_bg (HOK.out x (look_mem hx).1).f
    have z2 := n_en (HOK.out y (look_mem hy).1).f
    rw [← beg_of hx] at z1
    rw [← end_of hy] at z2
    have C1 : Hid (∀ W', Bk W' b0 #[.pointer (some ⟨j, 0, none⟩)] 97 ∧ JA j K W' F ∧ Below W.heap.size W W' → Calls Try.prog 109 #[.int .u32 (bw t (a + 1) : Int), .pointer (some ⟨b0, 0, none⟩)] W' fun e w' => e = .returned (.bool (goes K (bw t (a + 1)))) ∧ Hid (Bk w' b0 #[.pointer (some ⟨j, 0, none⟩)] 97 ∧ JA j K w' F ∧ Below W.heap.size W w')) :=
      Lib.hid fun W' h => (goes_any W' F b0 j _ K h.2.1 HOK.out h.1 (bw_lt _ _)).mono fun e w' ⟨he, hb⟩ => ⟨he, Lib.hid ⟨h.1.next hb, h.2.1.next hb, bnext h.2.2 hb⟩⟩
    have C2 : Hid (∀ W', Bk W' b0 #[.pointer (some ⟨j, 0, none⟩)] 97 ∧ JA j K W' F ∧ Below W.heap.size W W' → Calls Try.prog 109 #[.int .u32 (fw t b : Int), .pointer (some ⟨b0, 0, none⟩)] W' fun e w' => e = .returned (.bool (goes K (fw t b))) ∧ Hid (Bk w' b0 #[.pointer (some ⟨j, 0, none⟩)] 97 ∧ JA j K w' F ∧ Below W.heap.size W w')) :=
      Lib.hid fun W' h => (goes_any W' F b0 j _ K h.2.1 HOK.out h.1 (fw_lt _ _)).mono fun e w' ⟨he, hb⟩ => ⟨he, Lib.hid ⟨h.1.next hb, h.2.1.next hb, bnext h.2.2 hb⟩⟩
    have q1 : ((bw t a : Int) - 1) % 4294967296 = (bw t (a + 1) : Int) := by have := HLEN.out; unfold bw; omega
    have q2 : ((fw t b : Int) + 1) % 4294967296 = (fw t (b + 1) : Int) := by unfold fw; omega
    have HCL : Hid (goes K (bw t (a + 1)) = true → Chain K t (a + 1) b) := Lib.hid fun h => chain_left hch.out h
    have HCR : Hid (goes K (fw t b) = true → ∀ a', Chain K t a' b → Chain K t a' (b + 1)) := Lib.hid fun h a' hc => chain_right hc h
    have HCLEN : Hid (∀ a' b', Chain K t a' b' → a' + b' ≤ a + b + 2 → a' + b' + 1 ≤ K.length) := Lib.hid fun a' b' hc hl => chain_len HT.out HAP.out hc (by have := HLEN.out; omega)
    unfold pv at hr1 hr2
    clear hx hy hm HOK HIN HTT
    generalize goes K (bw t (a + 1)) = G1 at C1 HBD HCL
    generalize goes K (fw t b) = G2 at C2 HBD HCR
    generalize begs K (bw t a) = B1 at z1 HBD
    generalize ends K (fw t b) = B2 at z2 HBD
    obtain ⟨fa, hfa⟩ : ∃ fa, bw t a = fa := ⟨_, rfl⟩
    obtain ⟨fb, hfb⟩ : ∃ fb, fw t b = fb := ⟨_, rfl⟩
    have HFA := Lib.hid hfa
    have HFB := Lib.hid hfb
    rw [hfa] at hr1 q1 ⊢
    rw [hfb] at hr2 q2 C2 ⊢
    clear hfa hfb
    obtain ⟨ya, hya⟩ : ∃ ya, bw t (a + 1) = ya := ⟨_, rfl⟩
    obtain ⟨yb, hyb⟩ : ∃ yb, fw t (b + 1) = yb := ⟨_, rfl⟩
    have HYA := Lib.hid hya
    have HYB := Lib.hid hyb
    rw [hya] at C1 q1
    rw [hyb] at q2
    clear hya hyb
    obtain ⟨xt, xf, xs, xn, xp, xd⟩ := x
    obtain ⟨yt, yf, ys, yn, yp, yd⟩ := y
    simp only at hr1 hr2 z1 z2
    have qf1 := fun (W : World) => field1 W (.int .u32 (xt : Int)) (.int .u8 (xf : Int)) (.int .u16 (xs : Int)) (.int .u16 (xn : Int)) (.int .u32 (xp : Int)) (.slice A1 k1 cc1) rfl
    have qf2 := fun (W : World) => field1 W (.int .u32 (yt : Int)) (.int .u8 (yf : Int)) (.int .u16 (ys : Int)) (.int .u16 (yn : Int)) (.int .u32 (yp : Int)) (.slice A2 k2 cc2) rfl
    go_upto_region 5 with fail
    clear z1 z2 hr1 hr2 c0 qf1 qf2
    cases B1 with
    | true =>
      cases B2 with
      | true =>
        have HR : Hid (bnd K t K.length 0 0 = some (a, b)) := Lib.hid HBD.out
        go_wp2_with fail
        go_ret3
        exact ⟨by rw [HR.out, bres, HFA.out, HFB.out]; rfl, hw.out.2.2⟩
      | false =>
        clear C1 q1 HYA HCL
        cases G2 with
        | false =>
          have HR : Hid (bnd K t K.length 0 0 = none) := Lib.hid HBD.out
          go_wp2_with (go_at_call 109; (with_reducible refine (C2.out _ hw.out).mono ?_); rintro e w2 ⟨rfl, h2⟩)
          go_ret3
          exact ⟨by rw [HR.out]; rfl, h2.out.2.2⟩
        | true =>
          have HR : Hid (bnd K t K.length 0 0 = bnd K t gg a (b + 1)) := Lib.hid HBD.out
          have hc2 := HCR.out rfl a hch.out
          have hl2 := HCLEN.out _ _ hc2 (by omega)
          have HC2 := Lib.hid hc2
          clear hc2 HCR HCLEN hch HBD
          go_wp2_with (go_at_call 109; (with_reducible refine (C2.out _ hw.out).mono ?_); rintro e w2 ⟨rfl, h2⟩)
          go_roundg gg
          case measure => omega
          case rel => exact ⟨a, b + 1, by rw [HFA.out], by rw [HYB.out]; go_num, HR, HC2, by omega, by omega, h2⟩
    | false =>
      cases B2 with
      | true =>
        clear C2 q2 HYB HCR
        cases G1 with
        | false =>
          have HR : Hid (bnd K t K.length 0 0 = none) := Lib.hid HBD.out
          go_wp2_with (go_at_call 109; (with_reducible refine (C1.out _ hw.out).mono ?_); rintro e w2 ⟨rfl, h2⟩)
          go_ret3
          exact ⟨by rw [HR.out]; rfl, h2.out.2.2⟩
        | true =>
          have HR : Hid (bnd K t K.length 0 0 = bnd K t gg (a + 1) b) := Lib.hid HBD.out
          have hc2 := HCL.out rfl
          have hl2 := HCLEN.out _ _ hc2 (by omega)
          have HC2 := Lib.hid hc2
          clear hc2 HCL HCLEN hch HBD
          go_wp2_with (go_at_call 109; (with_reducible refine (C1.out _ hw.out).mono ?_); rintro e w2 ⟨rfl, h2⟩)
          go_roundg gg
          case measure => omega
          case rel => exact ⟨a + 1, b, by rw [HYA.out]; go_num, by rw [HFB.out], HR, HC2, by omega, by omega, h2⟩
      | false =>
        cases G1 with
        | false =>
          have HR : Hid (bnd K t K.length 0 0 = none) := Lib.hid HBD.out
          go_wp2_with (go_at_call 109; (with_reducible refine (C1.out _ hw.out).mono ?_); rintro e w2 ⟨rfl, h2⟩)
          go_ret3
          exact ⟨by rw [HR.out]; rfl, h2.out.2.2⟩
        | true =>
          have hc2 := HCL.out rfl
          have HC2 := Lib.hid hc2
          clear hc2 HCL hch
          cases G2 with
          | false =>
            have HR : Hid (bnd K t K.length 0 0 = none) := Lib.hid HBD.out
            go_wp2_with (go_at_call 109; first | ((with_reducible refine (C1.out _ hw.out).mono ?_); rintro e w2 ⟨rfl, h2⟩) | ((with_reducible refine (C2.out _ h2.out).mono ?_); rintro e w3 ⟨rfl, h3⟩))
            go_ret3
            exact ⟨by rw [HR.out]; rfl, h3.out.2.2⟩
          | true =>
            have HR : Hid (bnd K t K.length 0 0 = bnd K t gg (a + 1) (b + 1)) := Lib.hid HBD.out
            have hc3 := HCR.out rfl _ HC2.out
            have hl3 := HCLEN.out _ _ hc3 (by omega)
            have HC3 := Lib.hid hc3
            clear hc3 HCR HCLEN HBD
            go_wp2_with (go_at_call 109; first | ((with_reducible refine (C1.out _ hw.out).mono ?_); rintro e w2 ⟨rfl, h2⟩) | ((with_reducible refine (C2.out _ h2.out).mono ?_); rintro e w3 ⟨rfl, h3⟩))
            go_roundg gg
            case measure => omega
            case rel => exact ⟨a + 1, b + 1, by rw [HYA.out]; go_num, by rw [HYB.out]; go_num, HR, HC3, by omega, by omega, h3⟩
end Fg
end Go.Proofs.Ytednkcjmlpgipaa
