/-
  No inbox.
-/
import Derived.Test.YtednkcjmlpgipaaYP1h
namespace Go.Proofs.Ytednkcjmlpgipaa
set_option maxRecDepth 4000
open Go.RowKit Go.Maps
namespace Ix
set_option linter.unusedVariables false
set_option linter.unusedSimpArgs false
open Fg (Pc Ms mv JA JA_fr)

theorem add_nil (q : Pc) (A : Option Addr) (k c : Nat) (w : World) : Calls Try.prog 11 #[.pointer none, .agg #[.int .u32 (q.t : Int), .int .u8 (q.f : Int), .int .u16 (q.s : Int), .int .u16 (q.n : Int), .int .u32 (q.p : Int), .slice A k c]] w fun e w' => e = .returned (.int .i64 1) ∧ Below w.heap.size w w' := by
  go_enter Try.func11, Try.ntmps11
  go_wp2_with fail
  go_ret
  exact ⟨rfl, by go_grown⟩
theorem rwnd_nil (w : World) : Calls Try.prog 24 #[.pointer none] w fun e w' => e = .returned (.int .u32 0) ∧ w = w' := by
  go_enter Try.func24, Try.ntmps24
  go_wp2
  go_ret
  exact ⟨rfl, rfl⟩
theorem recv_nil (w : World) : Calls Try.prog 13 #[.pointer none] w fun e w' => e = .returned (.tuple #[.agg #[.int .u16 0, .bool false, .int .u32 0, .slice none 0 0], .bool false]) ∧ Below w.heap.size w w' := by
  go_enter Try.func13, Try.ntmps13
  go_wp2_with (go_at_call 21; refine (ready_nil _).mono ?_; rintro e w ⟨rfl, rfl⟩)
  go_returns
  exact ⟨rfl, by go_grown⟩
theorem is_nil (w : World) : Calls Try.prog 46 #[.pointer none, .string (ByteArray.mk #[])] w fun e w' => e = .returned (.bool true) ∧ Below w.heap.size w w' := by
  go_enter Try.func46, Try.ntmps46
  go_wp2_with fail
  refine (recv_nil _).mono ?_
  rintro e w1 ⟨rfl, hb⟩
  have HB := Lib.hid (bal (o := .cells #[.int .u16 0, .bool false, .int .u32 0, .slice none 0 0] 39) hb)
  clear hb
  have cv : ∀ w2 : World, (convert 31 9 (.slice none 0 0)).run Try.prog w2 = .ok (.string (ByteArray.mk #[])) w2 := fun w2 => run_strOf (P := Try.prog) (src := 31) (dst := 9) (c := 0) (l := []) Try.underlying31 Try.underlying5 Try.underlying9 rfl (fun i v h => by simp [bs] at h)
  go_wp2_with fail
  all_goals
    go_ret
    exact ⟨by simp, HB.out⟩
theorem sack_nil (w : World) : Calls Try.prog 16 #[.pointer none] w fun e w' => e = .returned (.agg #[.int .u8 0, .int .u8 0, .int .u32 0, .int .u32 0, .int .u32 0, .int .u16 0, .int .u16 0, .int .u16 0, .int .u16 0, .int .u32 0, .slice none 0 0, .slice none 0 0, .slice none 0 0, .slice none 0 0, .slice none 0 0]) ∧ Below w.heap.size w w' := by
  go_enter Try.func16, Try.ntmps16
  go_wp2_with fail
  go_returns
  exact ⟨rfl, by go_grown⟩
end Ix
end Go.Proofs.Ytednkcjmlpgipaa
