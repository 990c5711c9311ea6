/-
  RtoChecks: the walk.
-/
import Derived.Test.YtfjeoioejdkdpaaRtMay
import Derived.Test.YtfjeoioejdkdpaaRtWorks
import Derived.Test.YtfjeoioejdkdpaaRtArg
namespace Go.Proofs.Ytfjeoioejdkdpaa
set_option maxRecDepth 4000
open Go.RowKit Rt
set_option linter.unusedVariables false
set_option linter.unusedSimpArgs false

set_option maxHeartbeats 2000000 in
theorem rtoChecks_walk (c : Cf) (w0 : World) (hc : c.Wf) : Calls Try.prog 7 #[.agg (cv c)] w0 fun e w' => e = .returned (.bool true) ∧ Below w0.heap.size w0 w' := by
  have hk := chk_may c hc
  have HB0 : Hid (Bk (w0.alloc (.cells (cv c) 78)) w0.heap.size (cv c) 78 ∧ Below w0.heap.size w0 (w0.alloc (.cells (cv c) 78))) := Lib.hid ⟨Bk.new _ _ _, (Below.refl _ _).alloc (Nat.le_refl _) _⟩
  have CM := Lib.hid (may_any c hc)
  have CC := Lib.hid (check_any c hc)
  obtain ⟨b, hb⟩ : ∃ b, may c = b := ⟨_, rfl⟩
  rw [hb] at hk CM
  rw [hk] at CC
  cases b
  · have CN := Lib.hid fun W => new_bad c hc W 2 hk (by decide)
    clear hk hb hc
    simp only [Bool.false_eq_true, if_false] at CC
    go_enter Try.func7, Try.ntmps7
    unfold cv at HB0 CN CM CC ⊢
    go_wp2_with fail
    refine (CN.out _).mono ?_
    rintro e w1 ⟨rfl, h1⟩
    have H1 : Hid (Bk w1 w0.heap.size (cv c) 78 ∧ Below w0.heap.size w0 w1) := Lib.hid ⟨HB0.out.1.next h1, bnext HB0.out.2 h1⟩
    clear HB0 h1 CN
    obtain ⟨c0, c1, c2, c3, c4, c5, c6, c7, c8, c9, c10, c11, c12⟩ := Bk.cfg H1.out.1
    go_wp2_with fail
    refine (CM.out _).mono ?_
    rintro e w2 ⟨rfl, h2⟩
    have H2 : Hid (Bk w2 w0.heap.size (cv c) 78 ∧ Below w0.heap.size w0 w2) := Lib.hid ⟨H1.out.1.next h2, bnext H1.out.2 h2⟩
    clear H1 h2 CM c0 c1 c2 c3 c4 c5 c6 c7 c8 c9 c10 c11 c12
    obtain ⟨c0, c1, c2, c3, c4, c5, c6, c7, c8, c9, c10, c11, c12⟩ := Bk.cfg H2.out.1
    go_wp2_with fail
    refine (CC.out _).mono ?_
    rintro e w3 ⟨rfl, h3⟩
    have H3 := Lib.hid (bnext H2.out.2 h3)
    clear H2 h3 CC c0 c1 c2 c3 c4 c5 c6 c7 c8 c9 c10 c11 c12
    go_wp2_with fail
    refine (works_any _).mono ?_
    rintro e w4 ⟨rfl, h4⟩
    have H4 := Lib.hid (bnext H3.out h4)
    clear H3 h4
    go_wp2_with fail
    go_ret
    exact ⟨rfl, H4.out⟩
  · have CN := Lib.hid fun W => new_ok c hc W hk
    clear hk hb hc
    simp only [if_true] at CC
    go_enter Try.func7, Try.ntmps7
    unfold cv at HB0 CN CM CC ⊢
    go_wp2_with fail
    refine (CN.out _).mono ?_
    rintro e w1 ⟨g, rfl, _, _, h1⟩
    have H1 : Hid (Bk w1 w0.heap.size (cv c) 78 ∧ Below w0.heap.size w0 w1) := Lib.hid ⟨HB0.out.1.next h1, bnext HB0.out.2 h1⟩
    clear HB0 h1 CN
    obtain ⟨c0, c1, c2, c3, c4, c5, c6, c7, c8, c9, c10, c11, c12⟩ := Bk.cfg H1.out.1
    go_wp2_with fail
    refine (CM.out _).mono ?_
    rintro e w2 ⟨rfl, h2⟩
    have H2 : Hid (Bk w2 w0.heap.size (cv c) 78 ∧ Below w0.heap.size w0 w2) := Lib.hid ⟨H1.out.1.next h2, bnext H1.out.2 h2⟩
    clear H1 h2 CM c0 c1 c2 c3 c4 c5 c6 c7 c8 c9 c10 c11 c12
    obtain ⟨c0, c1, c2, c3, c4, c5, c6, c7, c8, c9, c10, c11, c12⟩ := Bk.cfg H2.out.1
    go_wp2_with fail
    refine (CC.out _).mono ?_
    rintro e w3 ⟨rfl, h3⟩
    have H3 := Lib.hid (bnext H2.out.2 h3)
    clear H2 h3 CC c0 c1 c2 c3 c4 c5 c6 c7 c8 c9 c10 c11 c12
    go_wp2_with fail
    refine (works_any _).mono ?_
    rintro e w4 ⟨rfl, h4⟩
    have H4 := Lib.hid (bnext H3.out h4)
    clear H3 h4
    go_wp2_with fail
    go_ret
    exact ⟨rfl, H4.out⟩
end Go.Proofs.Ytfjeoioejdkdpaa
