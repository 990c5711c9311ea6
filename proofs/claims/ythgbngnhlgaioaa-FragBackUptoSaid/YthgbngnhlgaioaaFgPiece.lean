/-
  The law's own piece; Put as an assertion's step; Put and no joiner.
-/
import Derived.Test.YthgbngnhlgaioaaFgCut
import Derived.Test.YthgbngnhlgaioaaStr
namespace Go.Proofs.Ythgbngnhlgaioaa
set_option maxRecDepth 4000
open Go.RowKit Go.Maps
namespace Fg
set_option linter.unusedVariables false
set_option linter.unusedSimpArgs false

theorem piece_any (t f : Nat) (sb : ByteArray) (l : List Int) (w : World) (hl : strOf l = sb) (hb : Byt l) :
    Calls Try.prog 35 #[.int .u32 (t : Int), .string sb, .int .u8 (f : Int)] w fun e w' => ∃ A k c, e = .returned (.agg #[.int .u32 (t : Int), .int .u8 (f : Int), .int .u16 0, .int .u16 0, .int .u32 0, .slice A k c]) ∧ l.length = k ∧ Row w' A (bs l) ∧ Below w.heap.size w w' := by
  have hcv := fun W => run_bytes_of_string (P := Try.prog) W 9 29 5 sb Try.underlying9 Try.underlying29 Try.underlying5
  have hsz : sb.size = l.length := by rw [← hl, Str.size_of]
  have HROW : Hid (∀ (W : World) cap t fr, Row (W.alloc (.cells (bytesRow sb cap) t fr)) (some ⟨W.heap.size, 0, none⟩) (bs l)) := Lib.hid fun W cap t fr => Str.row_of hl hb W cap t fr
  have HSZ := Lib.hid hsz
  clear hl hb hsz
  go_enter Try.func35, Try.ntmps35
  go_wp2_with fail
  generalize grownCap _ sb.size 0 5 = cap
  go_returns
  refine ⟨some ⟨w.heap.size + 1, 0, none⟩, sb.size, cap, rfl, HSZ.out.symm, ?_, ?_⟩
  · have h := HROW.out (w.alloc (.cells #[.int .u32 (t : Int), .int .u8 (f : Int), .int .u16 0, .int .u16 0, .int .u32 0, .slice (some ⟨w.heap.size + 1, 0, none⟩) sb.size cap] 38)) cap 5 ((bytesRow sb cap).size, (bytesRow sb cap).size + 1)
    rw [show (w.alloc (.cells #[.int .u32 (t : Int), .int .u8 (f : Int), .int .u16 0, .int .u16 0, .int .u32 0, .slice (some ⟨w.heap.size + 1, 0, none⟩) sb.size cap] 38)).heap.size = w.heap.size + 1 by simp] at h
    exact h
  · first | exact (two_new _ _ _).drew | exact two_new _ _ _
theorem put_nil (x : Pc) (A0 : Option Addr) (k0 c0 : Nat) (w : World) :
    Calls Try.prog 11 #[.pointer none, .agg #[.int .u32 (x.t : Int), .int .u8 (x.f : Int), .int .u16 (x.s : Int), .int .u16 (x.n : Int), .int .u32 (x.p : Int), .slice A0 k0 c0]] w fun e w' => e = .returned (.tuple #[.agg #[.int .u16 0, .bool false, .int .u32 0, .slice none 0 0], .int .u16 0, .bool false]) ∧ Below w.heap.size w w' := by
  have HB := Lib.hid (two_new w (.cells #[.int .u32 (x.t : Int), .int .u8 (x.f : Int), .int .u16 (x.s : Int), .int .u16 (x.n : Int), .int .u32 (x.p : Int), .slice A0 k0 c0] 38) (.cells #[.int .u16 0, .bool false, .int .u32 0, .slice none 0 0] 31))
  go_enter Try.func11, Try.ntmps11
  go_wp2_with fail
  go_returns
  exact ⟨rfl, HB.out⟩
theorem s_put {W w : World} {R : World → (Nat → Prop) → Prop} {j : Nat} {K : List Pc} (h : Now W w (star (JA j K) R)) (hR : Fr R) (x : Pc) (A0 : Option Addr) (k0 c0 : Nat) (hok : x.Ok) (hl : x.d.length = k0) (hk : k0 ≤ 100000) (hr : Row w A0 (bs x.d)) (hlen : K.length < 100000000) (hheld : held K < 100000000) :
    Calls Try.prog 11 #[.pointer (some ⟨j, 0, none⟩), .agg (pv x A0 k0 c0)] w fun e w' => Now W w' (star (JA j (put K x).1) R) ∧ ∃ F', told w.heap.size F' w' e (put K x).2 := by
  obtain ⟨F1, r1, hp⟩ := h.part hR
  exact (put_any w F1 j K x A0 k0 c0 r1 hok hl hk hr hlen hheld).mono fun e w' ⟨F', h1, h2, h3, h4⟩ => ⟨hp w' F' _ ⟨h3, h1⟩ h2 (fun k hk => JB.lt h2 hk), F', h4⟩
/-- .. where it is told. -/
theorem told_some {lo : Nat} {F' : Nat → Prop} {w' : World} {e : Ending} {r : Option (Ms × Nat)} {m : Ms} {s : Nat} (h : told lo F' w' e r) (hr : r = some (m, s)) : ∃ A n c, e = .returned (.tuple #[.agg #[.int .u16 (m.s : Int), .bool m.u, .int .u32 (m.p : Int), .slice A n c], .int .u16 (s : Int), .bool true]) ∧ m.d.length = n ∧ n ≤ c ∧ Row w' A (bs m.d) ∧ (A = none → n = 0 ∧ c = 0) ∧ ∃ B, lo ≤ B ∧ (∀ k, F' k → k < B) ∧ w'.ownsRow B 5 1 (.slice A n c) n (bs m.d) := by
  subst hr
  exact h
theorem told_none {lo : Nat} {F' : Nat → Prop} {w' : World} {e : Ending} {r : Option (Ms × Nat)} (h : told lo F' w' e r) (hr : r = none) : e = .returned (.tuple #[.agg #[.int .u16 0, .bool false, .int .u32 0, .slice none 0 0], .int .u16 0, .bool false]) := by
  subst hr
  exact h
theorem s_held {W w : World} {R : World → (Nat → Prop) → Prop} {j : Nat} {K : List Pc} (h : Now W w (star (JA j K) R)) : Calls Try.prog 13 #[.pointer (some ⟨j, 0, none⟩)] w fun e w' => e = .returned (.int .i64 (held K : Int)) ∧ w = w' := by
  obtain ⟨F, hj, _⟩ := h.left
  exact held_any w F j K hj
theorem s_len {W w : World} {R : World → (Nat → Prop) → Prop} {j : Nat} {K : List Pc} (h : Now W w (star (JA j K) R)) : Calls Try.prog 14 #[.pointer (some ⟨j, 0, none⟩)] w fun e w' => e = .returned (.int .i64 (K.length : Int)) ∧ w = w' := by
  obtain ⟨F, hj, _⟩ := h.left
  exact len_any w F j K hj
end Fg
end Go.Proofs.Ythgbngnhlgaioaa
