/-
  CwndKnown: the walk.
-/
import Derived.Test.YthdhkjbfhbkdjaaCwHead
namespace Go.Proofs.Ythdhkjbfhbkdjaa
set_option maxRecDepth 4000
open Go.RowKit Cw
set_option linter.unusedVariables false
set_option linter.unusedSimpArgs false

namespace Cw
/-- The document's examples: the calls, the windows behind them, the sizes. -/
def ks : List Q3 := [(0, 70, true), (0, 300, true), (0, 50, false), (1, 0, false), (0, 300, true), (0, 200, true), (0, 200, true), (0, 200, true), (0, 200, true), (2, 0, false)]
def pls : List T := [k0, ⟨100, 270, 65536, 0⟩, ⟨100, 370, 65536, 0⟩, ⟨100, 370, 65536, 0⟩, ⟨100, 400, 400, 0⟩, ⟨100, 500, 400, 0⟩, ⟨100, 500, 400, 200⟩, ⟨100, 500, 400, 400⟩, ⟨100, 600, 400, 100⟩, ⟨100, 600, 400, 300⟩, ⟨100, 100, 400, 0⟩]
def ss : List Nat := [270, 370, 370, 400, 500, 500, 500, 600, 600, 100]
def pl (k : Nat) : T := pls.getD k k0
theorem pl_ok (k : Nat) : (pl k).Ok 1000 := by
  have h : ∀ t ∈ pls, t.m ≤ 1500 ∧ t.sz ≤ 1048576 ∧ t.th ≤ 1048576 ∧ t.pt ≤ 1000 := by simp [pls, k0]
  unfold pl
  by_cases hk : k < pls.length
  · rw [List.getD, List.getElem?_eq_getElem hk]
    exact h _ (List.getElem_mem hk)
  · rw [List.getD, List.getElem?_eq_none (by omega)]
    exact ⟨by decide, by decide, by decide, by decide⟩
theorem pl_step (k : Nat) (hk : k < 10) : ∃ q0 q1 q2, ks[k]? = some (q0, q1, q2) ∧ (pl k).tell q0 q1 q2 = pl (k + 1) ∧ ss.take k ++ [(pl (k + 1)).sz] = ss.take (k + 1) :=
  match k, hk with
  | 0, _ => ⟨_, _, _, rfl, rfl, rfl⟩
  | 1, _ => ⟨_, _, _, rfl, rfl, rfl⟩
  | 2, _ => ⟨_, _, _, rfl, rfl, rfl⟩
  | 3, _ => ⟨_, _, _, rfl, rfl, rfl⟩
  | 4, _ => ⟨_, _, _, rfl, rfl, rfl⟩
  | 5, _ => ⟨_, _, _, rfl, rfl, rfl⟩
  | 6, _ => ⟨_, _, _, rfl, rfl, rfl⟩
  | 7, _ => ⟨_, _, _, rfl, rfl, rfl⟩
  | 8, _ => ⟨_, _, _, rfl, rfl, rfl⟩
  | 9, _ => ⟨_, _, _, rfl, rfl, rfl⟩
theorem kn_len (k : Nat) (hk : k ≤ 10) : (ss.take k).length = k := by simp [ss]; omega
def lit : Array Value := #[.int .i64 0, .int .i64 70, .bool true, .int .i64 0, .int .i64 300, .bool true, .int .i64 0, .int .i64 50, .bool false, .int .i64 1, .int .i64 0, .bool false, .int .i64 0, .int .i64 300, .bool true, .int .i64 0, .int .i64 200, .bool true, .int .i64 0, .int .i64 200, .bool true, .int .i64 0, .int .i64 200, .bool true, .int .i64 0, .int .i64 200, .bool true, .int .i64 2, .int .i64 0, .bool false]
theorem lit_is : lit.toList = qf ks := rfl
theorem infoI : (Try.prog.info? 3).map (fun i => (i.zero, i.size, i.bytes)) = some (some (.int .i64 0), 1, 8) := by kernel_rfl
/-- The window, the calls, the sizes so far. -/
def Kw (w0 : World) (g c k : Nat) (v : Value) (w : World) : Prop :=
  Tn w0 g (pl k) w ∧ Bk w c lit 79 ∧ Ir .i64 3 w v (ss.take k) ∧ (∀ b, v.ownBlock = some b → w0.heap.size ≤ b) ∧ c ≠ g
end Cw
set_option maxHeartbeats 4000000 in
theorem cwndKnown_walk (w0 : World) : Calls Try.prog 5 #[] w0 fun e w' => e = .returned (.bool true) ∧ Below w0.heap.size w0 w' := by
  go_enter Try.func5, Try.ntmps5
  go_wp2_with fail
  refine (new_ok 100 w0 (by decide) (by decide)).mono ?_
  rintro e w1 ⟨g, rfl, hg, ht, hb1⟩
  rw [k0_is] at ht
  have H1 : Hid (Tn w0 g k0 w1) := Lib.hid ⟨ht, hg, hb1⟩
  clear hg ht hb1
  go_upto_region 5 with fail
  go_wp2_with fail
  have H2 : Hid (Kw w0 g w1.heap.size 0 (.slice none 0 0) (w1.alloc (.cells lit 79))) := Lib.hid ⟨H1.out.next ((Below.refl _ _).alloc (Nat.le_refl _) _), Bk.new _ _ _, Ir.nil _ _ _, (fun b hb => by cases hb), fun e => by have := H1.out.1.lt; omega⟩
  clear H1
  unfold lit at H2
  generalize hd : w1.heap.size = c at H2 ⊢
  generalize hW : World.alloc w1 _ = W2 at H2 ⊢
  clear hd hW
  go_loopw [3, 27] (fun v3 v27 wr => ∃ (k : Nat) (A : Option Addr) (cap : Nat), v27 = .int .i64 k ∧ v3 = .slice A k cap ∧ k ≤ 10 ∧ Hid (Kw w0 g c k (.slice A k cap) wr)) (fun _ v27 _ => 10 - (intOf v27).toNat)
  case atStart => exact ⟨0, none, 0, rfl, rfl, Nat.zero_le _, H2⟩
  case round =>
    obtain ⟨k, A, cap, rfl, rfl, hk, HC⟩ := hrel
    clear H2
    by_cases hlt : k < 10
    · obtain ⟨q0, q1, q2, hq, hst, hss⟩ := pl_step k hlt
      have hkl : k < ks.length := hlt
      have hrow : Row wr (some ⟨c, 0, none⟩) (qf ks) := by have := HC.out.2.1.row; rw [lit_is] at this; exact this
      obtain ⟨a, ha, hd0, hd1, hd2⟩ := dos_at hrow hkl
      cases ha
      rw [List.getElem?_eq_getElem hkl, Option.some.injEq] at hq
      rw [hq] at hd0 hd1 hd2
      simp only [addr0] at hd0 hd1 hd2
      have HX1 := Lib.hid (Cx.new HC.out.1 q0 q1 q2)
      have HB1 := Lib.hid (HC.out.2.1.alloc (.cells (xc q0 q1 q2) 79))
      have HI1 := Lib.hid (HC.out.2.2.1.kept (World.grownBy_alloc wr (.cells (xc q0 q1 q2) 79) none) (by cases hv : (Value.slice A k cap).ownBlock <;> simp))
      have HV := Lib.hid HC.out.2.2.2
      clear HC hq hkl hrow
      go_upto_region 8 with fail
      unfold xc at HX1 HB1 HI1
      generalize hx : wr.heap.size = x at HX1 ⊢
      generalize hW : World.alloc wr _ = W1 at HX1 HB1 HI1 ⊢
      clear hx hW hd0 hd1 hd2
      obtain ⟨x0, x1, x2⟩ := HX1.out.cells
      have CT : Hid (Calls Try.prog 31 #[.pointer (some ⟨g, 0, none⟩), .agg #[.int .i64 0, .int .i64 0, .int .i64 0, .int .i64 0], .agg #[.int .i64 q0, .int .i64 q1, .bool q2]] W1 fun e w' => e = .returned (.agg (dc (tz.tell q0 q1 q2))) ∧ Tk w' g ((pl k).tell q0 q1 q2) ∧ W1.grownBy w' (some g)) := Lib.hid (tell_any HX1.out.1.1 (pl_ok k) (by decide) tz (tz_ok _) q0 q1 q2)
      generalize dc (tz.tell q0 q1 q2) = dd at CT
      rw [hst] at CT
      clear hst
      go_wp2_with fail
      refine CT.out.mono ?_
      rintro e W2 ⟨rfl, h2, hg2⟩
      have HT2 : Hid (Tn w0 g (pl (k + 1)) W2) := Lib.hid ⟨h2, HX1.out.1.2.1, below_own HX1.out.1.2.2 hg2 HX1.out.1.2.1⟩
      have HB2 := Lib.hid (HB1.out.kept hg2 (by have := HV.out.2; simp; exact this))
      have HI2 := Lib.hid (HI1.out.kept hg2 (.inr (HI1.out.off (show Bk W1 g (rc (pl k)) 118 from HX1.out.1.1) (by decide))))
      clear h2 hg2 CT HX1 HB1 HI1 x0 x1 x2
      generalize hpl : pl (k + 1) = t2 at HT2 hss
      have HPL := Lib.hid hpl
      clear hpl
      go_wp2_with (first
        | (go_at_call 32; refine (size_any HT2.out.1).mono ?_; rintro e w9 ⟨rfl, rfl⟩)
        | (at_builtin; refine ir_app (k := .i64) (E := 3) (S := 77) Try.underlying77 infoI (by omega) rfl _ _ rfl (.slice A k cap) (ss.take k) rfl (HI2.out.kept (World.grownBy_alloc W2 _ none) (by cases hv : (Value.slice A k cap).ownBlock <;> simp)) t2.sz W2.heap.size 1 3 rfl (Bk.new W2 _ _) (by rw [kn_len k hk]; omega) ?_; intro g' c' w4 hown hgr hat))
      have hlw : (ss.take k ++ [t2.sz]).length = k + 1 := by rw [hss]; exact kn_len _ (by omega)
      rw [hss] at hown
      rw [kn_len k hk] at hown
      have HTA := Lib.hid (HT2.out.next ((Below.refl W2.heap.size W2).alloc (Nat.le_refl _) (.cells #[.int .i64 (t2.sz : Int)] 3)))
      have HBA := Lib.hid (HB2.out.alloc (.cells #[.int .i64 (t2.sz : Int)] 3))
      have ho1 := HI2.out.off HT2.out.1 (by decide)
      have ho2 := HI2.out.off HB2.out (by decide)
      have HN : Hid (Tn w0 g t2 w4) := Lib.hid ⟨HTA.out.1.kept hgr (fun e => ho1 e.symm), HTA.out.2.1, HTA.out.2.2.grown hgr HTA.out.2.2.size (fun b hb => HV.out.1 b hb)⟩
      have HNB := Lib.hid (HBA.out.kept hgr (fun e => ho2 e.symm))
      have HVN : Hid (∀ b, (Value.slice (some ⟨g', 0, none⟩) (k + 1) c').ownBlock = some b → w0.heap.size ≤ b) := Lib.hid fun b hb => by
        simp only [Value.ownBlock, Option.some.injEq] at hb
        subst hb
        rcases hat with hat | hat
        · exact HV.out.1 _ hat
        · have := HTA.out.2.2.size
          omega
      have HOW := Lib.hid hown
      clear hown hgr hat HTA HBA ho1 ho2 HT2 HB2 HI2 hlw
      have hmin : min k ss.length = k := by simp [ss]; omega
      go_roundw
      case rel => exact ⟨k + 1, some ⟨g', 0, none⟩, c', by go_num, by rw [hmin], by omega, Lib.hid ⟨by rw [HPL.out]; exact HN.out, HNB.out, HOW.out, HVN.out, HV.out.2⟩⟩
      case measure => simp [intOf] <;> omega
    · have hk10 : k = 10 := by omega
      subst hk10
      have HR : Hid (Row wr A (ns .i64 ss)) := Lib.hid HC.out.2.2.1.row
      have HT := Lib.hid HC.out.1
      clear HC hlt hk
      go_wp2_with fail
      have HT2 := Lib.hid (HT.out.next ((Below.refl wr.heap.size wr).alloc (Nat.le_refl _) (.cells (ns .i64 ss).toArray 3)))
      have HR2 := Lib.hid (HR.out.alloc (.cells (ns .i64 ss).toArray 3))
      have HS2 : Hid (Row (wr.alloc (.cells (ns .i64 ss).toArray 3)) (some ⟨wr.heap.size, 0, none⟩) (ns .i64 ss)) := Lib.hid (by have := (Bk.new wr (ns .i64 ss).toArray 3).row; simpa using this)
      rw [show (ns .i64 ss).toArray = #[.int .i64 270, .int .i64 370, .int .i64 370, .int .i64 400, .int .i64 500, .int .i64 500, .int .i64 500, .int .i64 600, .int .i64 600, .int .i64 100] from rfl] at HT2 HR2 HS2
      clear HT HR
      generalize wr.heap.size = b at HS2 ⊢
      generalize World.alloc wr _ = W3 at HT2 HR2 HS2 ⊢
      go_loop [43] (fun v43 => ∃ j : Nat, v43 = .int .i64 j ∧ j ≤ 10) (fun v43 => 10 - (intOf v43).toNat)
      case atStart => exact ⟨0, rfl, Nat.zero_le _⟩
      case round =>
        obtain ⟨j, rfl, hj⟩ := hrel
        by_cases hjm : j < 10
        · have hjl : j < ss.length := hjm
          obtain ⟨x, rfl, hcx⟩ := HR2.out j _ (ns_get hjl)
          obtain ⟨z, hz, hcz⟩ := HS2.out j _ (ns_get hjl)
          cases hz
          simp only [addr0] at hcz
          clear hjl
          generalize ss.getD j 0 = q at hcx hcz
          go_wp2_with fail
          go_round
          case rel => exact ⟨j + 1, by go_num, by omega⟩
          case measure => simp [intOf] <;> omega
        · clear HR2 HS2
          go_wp2_with fail
          refine (ack_nil _ _ _).mono ?_
          rintro e w ⟨rfl, rfl⟩
          go_wp2_with fail
          refine (loss_nil _).mono ?_
          rintro e w ⟨rfl, rfl⟩
          go_wp2_with fail
          refine (tout_nil _).mono ?_
          rintro e w ⟨rfl, rfl⟩
          go_wp2_with fail
          refine (new_bad 63 _ (by decide)).mono ?_
          rintro e w ⟨rfl, rfl⟩
          go_wp2_with fail
          refine (works_any _).mono ?_
          rintro e w6 ⟨rfl, hb6⟩
          have H6 := Lib.hid (bnext HT2.out.2.2 hb6)
          clear HT2 hb6
          go_wp2_with (first
            | (go_at_call 32; refine (size_nil _).mono ?_; rintro e w ⟨rfl, rfl⟩)
            | (go_at_call 37; refine (thr_nil _).mono ?_; rintro e w ⟨rfl, rfl⟩)
            | (go_at_call 38; refine (copy_nil _).mono ?_; rintro e w ⟨rfl, rfl⟩))
          go_ret
          exact ⟨rfl, H6.out⟩
end Go.Proofs.Ythdhkjbfhbkdjaa
