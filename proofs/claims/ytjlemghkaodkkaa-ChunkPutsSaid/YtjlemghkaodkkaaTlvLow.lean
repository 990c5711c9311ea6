/-
  What the small functions of layer 4 do: tlv.whole, tlv.Size, tlv.number.
-/
import Derived.Test.YtjlemghkaodkkaaBlk
import Derived.Test.YtjlemghkaodkkaaTlvPlain
namespace Go.Proofs.Ytjlemghkaodkkaa
open Go.RowKit Wire Tlv

set_option maxHeartbeats 400000 in
theorem whole_any (m : Nat) (w : World) (hm : m ≤ 1152921504606846976) :
    Calls Try.prog 57 #[.int .i64 (m : Int)] w fun e w' => e = .returned (.int .i64 (whl m : Nat)) ∧ w = w' := by
  go_enter Try.func57, Try.ntmps57
  go_wp2
  go_ret
  exact ⟨ret_eq (by unfold whl; omega), rfl⟩
/-- A thing by value. -/
def tval (k f : Nat) (A : Option Addr) (n c : Nat) : Array Value := #[.int .u16 (k : Int), .int .u8 (f : Int), .slice A n c]
set_option maxHeartbeats 400000 in
theorem size_any (k f : Nat) (A : Option Addr) (n c : Nat) (w : World) (hn : n ≤ 140737488355328) :
    Calls Try.prog 39 #[.agg #[.int .u16 (k : Int), .int .u8 (f : Int), .slice A n c]] w fun e w' => e = .returned (.int .i64 (whl (4 + n) : Nat)) ∧ Below w.heap.size w w' := by
  have hw := fun W => whole_any (4 + n) W (by omega)
  have HB := Lib.hid ((Below.refl w.heap.size w).alloc (Nat.le_refl _) (.cells #[.int .u16 (k : Int), .int .u8 (f : Int), .slice A n c] 36))
  have hc : ∀ W, Calls Try.prog 57 #[.int .i64 (4 + (n : Int))] W fun e w' => e = .returned (.int .i64 (whl (4 + n) : Nat)) ∧ W = w' := fun W => by
    have := hw W
    rwa [show ((4 + n : Nat) : Int) = 4 + (n : Int) by omega] at this
  have HC := Lib.hid hc
  clear hc hw
  generalize whl (4 + n) = s at HC
  go_enter Try.func39, Try.ntmps39
  go_wp2_with fail
  (with_reducible refine (HC.out _).mono ?_)
  rintro e w1 ⟨rfl, rfl⟩
  go_wp2_with fail
  go_ret
  exact ⟨rfl, HB.out⟩
set_option maxRecDepth 100000 in
set_option maxHeartbeats 1000000 in
theorem tnumber_any (A : Option Addr) (n c : Nat) (l : List Int) (w : World) (hl : l.length = n) (h2 : 2 ≤ n) (hb : Byt l) (hr : Row w A (bs l)) :
    Calls Try.prog 56 #[.slice A n c] w fun e w' => e = .returned (.int .i64 (nu (l.take 2) : Nat)) ∧ ∃ q, w' = w.drewN q := by
  subst hl
  obtain ⟨a, rfl, c0⟩ := Row.byte hr (show 0 < l.length by omega)
  obtain ⟨a1, e1, c1⟩ := Row.byte hr (show 1 < l.length by omega)
  injection e1 with e1
  subst e1
  obtain ⟨u0, h0, b0⟩ := Byt.at hb (show 0 < l.length by omega)
  obtain ⟨u1, h1, b1⟩ := Byt.at hb (show 1 < l.length by omega)
  have hv : nu (l.take 2) = 256 * u0 + u1 := by
    rw [nu_take (by omega), nu_take (by omega), h0, h1]
    simp [nu]
  have HV := Lib.hid hv
  rw [h0] at c0
  rw [h1] at c1
  have n0 : 0 < l.length := by omega
  have n1 : (0 : Int) < (l.length : Int) := by omega
  have n2 : (1 : Int) < (l.length : Int) := by omega
  have c0' : w.cell? a = some (.int .u8 (u0 : Int)) := by rw [← c0]; congr 1
  have c1' : w.cell? { block := a.block, off := a.off + 1 } = some (.int .u8 (u1 : Int)) := by rw [← c1]; congr 1
  have hw : bits .or .i64 ((u0 : Int) * 256) (u1 : Int) = ((256 * u0 + u1 : Nat) : Int) := by
    rw [show (u0 : Int) * 256 = ((u0 * 2 ^ 8 : Nat) : Int) by omega, i64_or_nat _ _ (by omega) (by omega), or_app (by omega)]
    omega
  have HW := Lib.hid hw
  clear c0 c1 hw
  clear h0 h1 hv hr hb
  generalize nu (l.take 2) = z at HV
  generalize l.length = n at *
  go_enter Try.func56, Try.ntmps56
  go_wp2_with fail
  go_quiet (fail)
  go_wp2_with fail
  go_ret
  exact ⟨ret_eq (by rw [HW.out, HV.out]), _, rfl⟩
end Go.Proofs.Ytjlemghkaodkkaa
