/-
  The law's own piece; whether the next message that is taken has these bytes.
-/
import Derived.Test.YtfjeoioejdkdpaaYIxAdd
import Derived.Test.YtfjeoioejdkdpaaYP1g
import Derived.Test.YtfjeoioejdkdpaaYP1a
namespace Go.Proofs.Ytfjeoioejdkdpaa
set_option maxRecDepth 4000
open Go.RowKit Go.Maps
namespace Ix
set_option linter.unusedVariables false
set_option linter.unusedSimpArgs false
open Fg (Pc Ms mv JA JA_fr)

theorem one_any (t s n : Nat) (sb : ByteArray) (l : List Int) (w : World) (hl : strOf l = sb) (hb : Byt l) :
    Calls Try.prog 46 #[.int .u32 (t : Int), .int .u16 (s : Int), .int .u16 (n : Int), .string sb] w fun e w' => ∃ A k c, e = .returned (.agg #[.int .u32 (t : Int), .int .u8 3, .int .u16 (s : Int), .int .u16 (n : Int), .int .u32 0, .slice A k c]) ∧ l.length = k ∧ Row w' A (bs l) ∧ Below w.heap.size w w' ∧ ∀ a, A = some a → w.heap.size ≤ a.block := by
  have hcv := fun W => run_bytes_of_string (P := Try.prog) W 9 31 5 sb Try.underlying9 Try.underlying31 Try.underlying5
  have hsz : sb.size = l.length := by rw [← hl, Str.size_of]
  have HROW : Hid (∀ (W : World) cap t fr, Row (W.alloc (.cells (bytesRow sb cap) t fr)) (some ⟨W.heap.size, 0, none⟩) (bs l)) := Lib.hid fun W cap t fr => Str.row_of hl hb W cap t fr
  have HSZ := Lib.hid hsz
  clear hl hb hsz
  go_enter Try.func46, Try.ntmps46
  go_wp2_with fail
  generalize grownCap _ sb.size 0 5 = cap
  go_returns
  refine ⟨some ⟨w.heap.size + 1, 0, none⟩, sb.size, cap, rfl, HSZ.out.symm, ?_, ?_, fun a e => by injection e with e; subst e; exact Nat.le_succ _⟩
  · have h := HROW.out (w.alloc (.cells #[.int .u32 (t : Int), .int .u8 3, .int .u16 (s : Int), .int .u16 (n : Int), .int .u32 0, .slice (some ⟨w.heap.size + 1, 0, none⟩) sb.size cap] 33)) cap 5 ((bytesRow sb cap).size, (bytesRow sb cap).size + 1)
    rw [show (w.alloc (.cells #[.int .u32 (t : Int), .int .u8 3, .int .u16 (s : Int), .int .u16 (n : Int), .int .u32 0, .slice (some ⟨w.heap.size + 1, 0, none⟩) sb.size cap] 33)).heap.size = w.heap.size + 1 by simp] at h
    exact h
  · first | exact (Fg.two_new _ _ _).drew | exact Fg.two_new _ _ _ | go_grown
end Ix
end Go.Proofs.Ytfjeoioejdkdpaa
/-
  Whether the next message that is taken has these bytes.
-/
namespace Go.Proofs.Ytfjeoioejdkdpaa
set_option maxRecDepth 4000
open Go.RowKit Go.Maps
namespace Ix
set_option linter.unusedVariables false
set_option linter.unusedSimpArgs false
open Fg (Pc Ms mv JA JA_fr)

section
variable {W w : World} {x : Nat} {b : Ib} {L : List Me} {R : List As}
/-- The bytes of a message that was told. -/
theorem IX.row (h : IX W w x b L R) {e : Me} (he : e ∈ L) : e.1.d.length = e.2.2.1 ∧ Row w e.2.1 (bs e.1.d) := by
  obtain ⟨i, hN, hf⟩ := h
  obtain ⟨F, hd, _⟩ := hN.at (k := 6) rfl
  exact ⟨hf.dat e he, row_of_own (hd.1 e he).2.1⟩
theorem is_some (h : IX W w x b L R) (ok : b.Ok) (m : Ms) (l : List Ms) (sb : ByteArray) (hrd : b.rd = m :: l) (hs : strOf m.d = sb) (hne : sb.toList.isEmpty = false) :
    Calls Try.prog 47 #[.pointer (some ⟨x, 0, none⟩), .string sb] w fun e w' => e = .returned (.bool true) ∧ IX W w' x { b with rd := l } L R := by
  have C := Lib.hid (recv_any h ok)
  have HRD := Lib.hid hrd
  have HS := Lib.hid hs
  have hn2 : ¬ sb.toList = [] := fun e => by rw [e] at hne; cases hne
  clear h ok hrd hs
  go_enter Try.func47, Try.ntmps47
  go_wp2_with fail
  refine C.out.mono ?_
  rintro e w1 h1
  rcases h1 with ⟨h1, _⟩ | ⟨m', l', A, k, c, h1, h2, rfl, h3⟩
  · exfalso
    rw [HRD.out] at h1
    cases h1
  · rw [HRD.out] at h1
    simp only [List.cons.injEq] at h1
    obtain ⟨rfl, rfl⟩ := h1
    have HI := Lib.hid h3
    obtain ⟨hl, hr⟩ := h3.row h2
    simp only at hl hr
    have hr2 : Row (w1.alloc (.cells #[.int .u16 (m.s : Int), .bool m.u, .int .u32 (m.p : Int), .slice A k c] 39)) A (bs m.d) := hr.alloc _
    have cv := run_strOf (P := Try.prog) (src := 31) (dst := 9) (c := c) Try.underlying31 Try.underlying5 Try.underlying9 hl hr2
    rw [HS.out] at cv
    have HB := Lib.hid ((Below.refl w1.heap.size w1).alloc (Nat.le_refl _) (.cells #[.int .u16 (m.s : Int), .bool m.u, .int .u32 (m.p : Int), .slice A k c] 39))
    clear h2 h3 hl hr hr2 C
    go_wp2_with fail
    all_goals
      go_ret
      exact ⟨by simp [hne], HI.out.next HB.out⟩
theorem is_none (h : IX W w x b L R) (ok : b.Ok) (hrd : b.rd = []) :
    Calls Try.prog 47 #[.pointer (some ⟨x, 0, none⟩), .string (ByteArray.mk #[])] w fun e w' => e = .returned (.bool true) ∧ IX W w' x b L R := by
  have C := Lib.hid (recv_any h ok)
  have HRD := Lib.hid hrd
  clear h ok hrd
  go_enter Try.func47, Try.ntmps47
  go_wp2_with fail
  refine C.out.mono ?_
  rintro e w1 h1
  rcases h1 with ⟨_, rfl, h3⟩ | ⟨m', l', A, k, c, h1, _⟩
  · have HI := Lib.hid h3
    clear h3 C
    have cv : ∀ w2 : World, (convert 31 9 (.slice none 0 0)).run Try.prog w2 = .ok (.string (ByteArray.mk #[])) w2 := fun w2 => run_strOf (P := Try.prog) (src := 31) (dst := 9) (c := 0) (l := []) Try.underlying31 Try.underlying5 Try.underlying9 rfl (fun i v h => by simp [bs] at h)
    have HB := Lib.hid ((Below.refl w1.heap.size w1).alloc (Nat.le_refl _) (.cells #[.int .u16 0, .bool false, .int .u32 0, .slice none 0 0] 39))
    go_wp2_with fail
    all_goals
      go_ret
      exact ⟨by simp, HI.out.next HB.out⟩
  · exfalso
    rw [HRD.out] at h1
    cases h1
end
end Ix
end Go.Proofs.Ytfjeoioejdkdpaa
