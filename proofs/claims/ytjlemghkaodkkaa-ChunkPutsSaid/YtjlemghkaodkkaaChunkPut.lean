/-
  What chunk.Put does.
-/
import Derived.Test.YtjlemghkaodkkaaChunkVal
import Derived.Test.YtjlemghkaodkkaaChunkMay4
namespace Go.Proofs.Ytjlemghkaodkkaa
open Go.RowKit Wire Tlv Chunk

theorem body_le {c : Ck} (h : may c) (hp : pars c ≠ []) : (body c).length ≤ 400 := by
  have hn := nums_le h.1.ga64 h.1.du16
  obtain ⟨⟨f1, f2, f3, f4, f5, f6, f7, f8, f9, f10, f11, f12⟩, _⟩ := h
  simp only [hDa, hIn, hCa] at f4 f6 f8
  unfold body
  by_cases h2 : c.kd = 2
  · rw [if_pos h2, List.append_nil]
    exact hn
  · rw [if_neg h2, List.length_append]
    have : c.da.length = 0 := by
      rcases f4 with f4 | f4
      · exfalso
        apply hp
        unfold pars
        rw [if_neg h2]
        have e1 : c.ad.length = 0 := by omega
        have e2 : c.ca.length = 0 := by omega
        rw [List.eq_nil_of_length_eq_zero e1, List.eq_nil_of_length_eq_zero e2]
        rfl
      · exact f4
    omega
theorem cput_no {c : Ck} (h : ¬ may c) : cput c = ([], 50) := by unfold cput; rw [if_neg h]
theorem cput_long {c : Ck} (h : may c) (hl : 65531 < (val c).length) : cput c = ([], 3) := by unfold cput; rw [if_pos h, if_pos hl]
theorem cput_ok {c : Ck} (h : may c) (hl : ¬ 65531 < (val c).length) : cput c = (tb true ⟨c.kd, c.fl, val c⟩, 0) := by unfold cput; rw [if_pos h, if_neg hl]
theorem tp_true {k f : Nat} {l : List Int} (hk : k < 256) : tp true ⟨k, f, l⟩ = if 65531 < l.length then ([], 3) else (tb true ⟨k, f, l⟩, 0) := by
  unfold tp
  rw [if_neg (by simp [fit]; omega)]
theorem tp_cput {c : Ck} (h : may c) (hok : c.ok) : tp true ⟨c.kd, c.fl, val c⟩ = cput c := by
  rw [tp_true hok.kd]
  split
  · rename_i hl
    rw [cput_long h hl]
  · rename_i hl
    rw [cput_ok h hl]
set_option maxRecDepth 100000 in
set_option maxHeartbeats 1000000 in
theorem ckPut_any (c : Ck) (s : Ls) (w : World) (h : Ch w c s) :
    Calls Try.prog 10 #[.agg (cv c s)] w (PutOut w (cput c)) := by
  have HU : Hid (U1 w (cv c s) _) := Lib.hid (U1.new w (cv c s))
  have HC : Hid (Ch _ c s) := Lib.hid (h.alloc (.cells (cv c s) 29))
  have HCI := Lib.hid (cv_info c s)
  by_cases hm : may c
  · have CM := Lib.hid fun W (hW : Ch W c s) => ckMay_any c s W hW
    rw [mayB_true hm] at CM
    have hf := hm.1
    have hz := h.z
    have CV := Lib.hid fun W (hW : Ch W c s) => value_any c s W hW (by have := hf.ad3; have := hz.a; omega) (by have := hf.ga64; have := hz.g; omega) (by have := hf.du16; have := hz.u; omega) (body_le hm)
    have HM := Lib.hid hm
    have HOK := Lib.hid h.ok
    have wk : IntKind.u16.wrap (c.kd : Int) = (c.kd : Int) := by rw [IntKind.wrap_u16]; have := h.ok.kd; omega
    clear hm hf hz h
    go_enter Try.func10, Try.ntmps10
    go_upto_region 1 with fail
    generalize World.alloc w _ = W1 at HU HC ⊢
    have hlt := HU.out.1.lt
    go_wp2_with ((refine wpList_load_row rfl 29 (.tmp 1) rfl w.heap.size rfl 29 (cv c s) (0, 0) _ HU.out.1 Try.underlying29 rfl HCI.out ?_))
    (with_reducible refine (CM.out _ HC.out).mono ?_)
    rintro e W2 ⟨rfl, hb2⟩
    have HC2 := Lib.hid (HC.out.next hb2)
    have HU2 := Lib.hid (HU.out.next hb2)
    clear hb2
    go_wp2_with ((refine wpList_load_row rfl 29 (.tmp 1) rfl w.heap.size rfl 29 (cv c s) (0, 0) _ HU2.out.1 Try.underlying29 rfl HCI.out ?_))
    (with_reducible refine (CV.out _ HC2.out).mono ?_)
    rintro e W3 ⟨A, n, c', l, er, rfl, ho, her, hn⟩
    have HU3 := Lib.hid (HU2.out.next ho.2)
    rcases her with ⟨rfl, hl⟩ | ⟨rfl, hl⟩
    · have hP := tput_any true ⟨c.kd, c.fl, l⟩ A n c' W3 ⟨by have := HOK.out.kd; show c.kd < 65536; omega, HOK.out.fl, by rw [hl]; exact val_byt HOK.out⟩ ho.len (by omega) ho.row
      have hk : Hid (tp true ⟨c.kd, c.fl, l⟩ = cput c) := Lib.hid (by rw [hl]; exact tp_cput HM.out HOK.out)
      rw [hk.out] at hP
      have HP := Lib.hid hP
      have g0 := HU3.out.1.c0
      have g1 := HU3.out.1.c1
      clear hP hk hl ho
      go_wp2_with fail
      (with_reducible refine HP.out.mono ?_)
      rintro e W4 ⟨A4, n4, c4, rfl, ho4⟩
      have HO4 : Hid (Own w W4 A4 n4 c4 (cput c).1) := Lib.hid ⟨own_base ho4.1 HU3.out.2.size, HU3.out.2.trans (ho4.2.mono HU3.out.2.size)⟩
      clear ho4 g0 g1
      go_wp2_with fail
      go_ret2
      exact ⟨_, _, _, rfl, HO4.out⟩
    · have hk := Lib.hid (cput_long HM.out hl)
      clear hl ho
      go_wp2_with fail
      go_ret2
      refine ⟨none, 0, 0, ?_, ?_⟩
      · rw [hk.out]
        rfl
      · rw [hk.out]
        exact ⟨World.ownsRow_nil _ _ _ _, HU3.out.2⟩
  · have CM := Lib.hid fun W (hW : Ch W c s) => ckMay_any c s W hW
    rw [mayB_false hm] at CM
    have hk := Lib.hid (cput_no hm)
    clear hm h
    go_enter Try.func10, Try.ntmps10
    go_upto_region 1 with fail
    generalize World.alloc w _ = W1 at HU HC ⊢
    go_wp2_with ((refine wpList_load_row rfl 29 (.tmp 1) rfl w.heap.size rfl 29 (cv c s) (0, 0) _ HU.out.1 Try.underlying29 rfl HCI.out ?_))
    (with_reducible refine (CM.out _ HC.out).mono ?_)
    rintro e W2 ⟨rfl, hb2⟩
    have HU2 := Lib.hid (HU.out.next hb2)
    clear hb2
    go_wp2_with fail
    go_ret2
    refine ⟨none, 0, 0, ?_, ?_⟩
    · rw [hk.out]
      rfl
    · rw [hk.out]
      exact ⟨World.ownsRow_nil _ _ _ _, HU2.out.2⟩
end Go.Proofs.Ytjlemghkaodkkaa
