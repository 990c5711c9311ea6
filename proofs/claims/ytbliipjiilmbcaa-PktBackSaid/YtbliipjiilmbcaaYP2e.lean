/-
  What the document's Put does.
-/
import Derived.Test.YtbliipjiilmbcaaYChunkRVal3
import Derived.Test.YtbliipjiilmbcaaYChunkRVal4
import Derived.Test.YtbliipjiilmbcaaYChunkRMay
namespace Go.Proofs.Ytbliipjiilmbcaa
open Go.RowKit Wire Tlv Chunk

theorem rvalue_any (c : Ck) (s : Ls) (w : World) (hm : may c) (hcn : s.cn ≤ 1048576) (h : Ch w c s) :
    Calls Try.prog 59 #[.agg (cv c s)] w (RvOut w c) := by
  by_cases hk : c.kd = 0 ∨ c.kd = 1 ∨ c.kd = 2 ∨ c.kd = 3 ∨ c.kd = 6 ∨ c.kd = 9 ∨ c.kd = 7
  · rcases hk with hk | hk | hk | hk | hk | hk | hk
    · exact rvalue0 c s w hk hm h
    · exact rvalue1 c s w hk hm h
    · exact rvalue2 c s w hk hm h
    · exact rvalue3 c s w hk hm h
    · exact rvalue6 c s w hk hm h hcn
    · exact rvalue9 c s w hk hm h hcn
    · exact rvalue7 c s w hk hm h
  · exact rvalueN c s w hk hm h
set_option maxRecDepth 100000 in
set_option maxHeartbeats 1000000 in
theorem rfPut_up (c : Ck) (s : Ls) (w : World) (h : Ch w c s) (hcn : s.cn ≤ 1048576) :
    Calls Try.prog 29 #[.agg (cv c s)] w (PutOut w (cput c)) := by
  have HU : Hid (U1 w (cv c s) _) := Lib.hid (U1.new w (cv c s))
  have HC : Hid (Ch _ c s) := Lib.hid (h.alloc (.cells (cv c s) 32))
  have HCI := Lib.hid (cv_info c s)
  by_cases hm : may c
  · have CM := Lib.hid fun W (hW : Ch W c s) => rfMay_any c s W hW
    rw [mayB_true hm] at CM
    have CV := Lib.hid fun W (hW : Ch W c s) => rvalue_any c s W hm hcn hW
    have HM := Lib.hid hm
    have HOK := Lib.hid h.ok
    have wk : IntKind.u16.wrap (c.kd : Int) = (c.kd : Int) := by rw [IntKind.wrap_u16]; have := h.ok.kd; omega
    clear hm h
    go_enter Try.func29, Try.ntmps29
    go_upto_region 1 with fail
    generalize World.alloc w _ = W1 at HU HC ⊢
    have hlt := HU.out.1.lt
    go_wp2_with ((refine wpList_load_row rfl 32 (.tmp 1) rfl w.heap.size rfl 32 (cv c s) (0, 0) _ HU.out.1 Try.underlying32 rfl HCI.out ?_))
    (with_reducible refine (CM.out _ HC.out).mono ?_)
    rintro e W2 ⟨rfl, hb2⟩
    have HC2 := Lib.hid (HC.out.next hb2)
    have HU2 := Lib.hid (HU.out.next hb2)
    clear hb2
    go_wp2_with ((refine wpList_load_row rfl 32 (.tmp 1) rfl w.heap.size rfl 32 (cv c s) (0, 0) _ HU2.out.1 Try.underlying32 rfl HCI.out ?_))
    (with_reducible refine (CV.out _ HC2.out).mono ?_)
    rintro e W3 ⟨A, n, c', l, er, rfl, ho, her, hn, hzc⟩
    have HU3 := Lib.hid (HU2.out.next ho.2)
    rcases her with ⟨rfl, hl⟩ | ⟨rfl, hl⟩
    · have hP := trput_any true ⟨c.kd, c.fl, l⟩ A n c' W3 ⟨by have := HOK.out.kd; show c.kd < 65536; omega, HOK.out.fl, by rw [hl]; exact val_byt HOK.out⟩ ho.len hn ho.row hzc
      have hk : Hid (tp true ⟨c.kd, c.fl, l⟩ = cput c) := Lib.hid (by rw [hl]; exact tp_cput HM.out HOK.out)
      rw [hk.out] at hP
      have HP := Lib.hid hP
      have g0 := HU3.out.1.c0
      have g1 := HU3.out.1.c1
      clear hP hk hl ho hzc
      go_wp2_with fail
      (with_reducible refine HP.out.mono ?_)
      rintro e W4 ⟨A4, n4, c4, rfl, ho4⟩
      have HO4 : Hid (Own w W4 A4 n4 c4 (cput c).1) := Lib.hid ⟨own_base ho4.1 HU3.out.2.size, HU3.out.2.trans (ho4.2.mono HU3.out.2.size)⟩
      clear ho4 g0 g1
      go_wp2_with fail
      go_ret2
      exact ⟨_, _, _, rfl, HO4.out⟩
    · have hk := Lib.hid (cput_long HM.out hl)
      clear hl ho hzc
      go_wp2_with fail
      go_ret2
      refine ⟨none, 0, 0, ?_, ?_⟩
      · rw [hk.out]
        rfl
      · rw [hk.out]
        exact ⟨World.ownsRow_nil _ _ _ _, HU3.out.2⟩
  · have CM := Lib.hid fun W (hW : Ch W c s) => rfMay_any c s W hW
    rw [mayB_false hm] at CM
    have hk := Lib.hid (cput_no hm)
    clear hm h
    go_enter Try.func29, Try.ntmps29
    go_upto_region 1 with fail
    generalize World.alloc w _ = W1 at HU HC ⊢
    go_wp2_with ((refine wpList_load_row rfl 32 (.tmp 1) rfl w.heap.size rfl 32 (cv c s) (0, 0) _ HU.out.1 Try.underlying32 rfl HCI.out ?_))
    (with_reducible refine (CM.out _ HC.out).mono ?_)
    rintro e W2 ⟨rfl, hb2⟩
    have HU2 := Lib.hid (HU.out.next hb2)
    clear hb2
    go_wp2_with fail
    go_ret2
    refine ⟨none, 0, 0, ?_, ?_⟩
    · rw [hk.out]
      rfl
    · rw [hk.out]
      exact ⟨World.ownsRow_nil _ _ _ _, HU2.out.2⟩
theorem rfPut_any (c : Ck) (s : Ls) (w : World) (h : Ch w c s) (hcn : s.cn ≤ 5000) :
    Calls Try.prog 29 #[.agg (cv c s)] w (PutOut w (cput c)) := rfPut_up c s w h (Nat.le_trans hcn (by decide))
end Go.Proofs.Ytbliipjiilmbcaa
