/-
  A configuration: what Check, and the document, say of it; a timer is made of one.
-/
import Derived.Test.YtednkcjmlpgipaaRtSmp
namespace Go.Proofs.Ytednkcjmlpgipaa
set_option maxRecDepth 4000
open Go.RowKit
namespace Rt
set_option linter.unusedVariables false
set_option linter.unusedSimpArgs false

structure Cf where
  mtu : Int
  st : Int
  sr : Int
  rr : Int
  mm : Int
  ri : Int
  rn : Int
  rx : Int
  it : Int
  pt : Int
  al : Int
  be : Int
  ck : Int
def cv (c : Cf) : Array Value := #[.int .i64 c.mtu, .int .u16 c.st, .int .i64 c.sr, .int .i64 c.rr, .int .i64 c.mm, .int .u32 c.ri, .int .u32 c.rn, .int .u32 c.rx, .int .u8 c.it, .int .u8 c.pt, .int .u8 c.al, .int .u32 c.be, .int .u32 c.ck]
structure Cf.Wf (c : Cf) : Prop where
  mtu : -9223372036854775808 ≤ c.mtu ∧ c.mtu < 9223372036854775808
  st : 0 ≤ c.st ∧ c.st < 65536
  sr : -9223372036854775808 ≤ c.sr ∧ c.sr < 9223372036854775808
  rr : -9223372036854775808 ≤ c.rr ∧ c.rr < 9223372036854775808
  mm : -9223372036854775808 ≤ c.mm ∧ c.mm < 9223372036854775808
  ri : 0 ≤ c.ri ∧ c.ri < 4294967296
  rn : 0 ≤ c.rn ∧ c.rn < 4294967296
  rx : 0 ≤ c.rx ∧ c.rx < 4294967296
  it : 0 ≤ c.it ∧ c.it < 256
  pt : 0 ≤ c.pt ∧ c.pt < 256
  al : 0 ≤ c.al ∧ c.al < 256
  be : 0 ≤ c.be ∧ c.be < 4294967296
  ck : 0 ≤ c.ck ∧ c.ck < 4294967296
/-- One bound asked. -/
def ask (e : Int) (n a b : Int) : Int := if n < a ∨ b < n then 2 else e
theorem ask_any {w : World} {x : Nat} {e : Int} (n a b : Int) (h : Bk w x #[.int .i64 e] 36) : Calls Try.prog 113 #[.int .i64 n, .int .i64 a, .int .i64 b, .pointer (some ⟨x, 0, none⟩)] w fun r w' => r = .returned (.tuple #[]) ∧ Bk w' x #[.int .i64 (ask e n a b)] 36 ∧ w.grownBy w' (some x) := by
  have c0 := h.cell 0
  have f0 := h.frozen 0
  simp at c0
  have HT := Lib.hid h
  clear h
  by_cases h1 : n < a
  · have HE : Hid (ask e n a b = 2) := Lib.hid (by unfold ask; rw [if_pos (.inl h1)])
    have h1' : ¬ a ≤ n := by omega
    go_enter Try.func113, Try.ntmps113
    go_wp2_with fail
    go_end0
    refine ⟨rfl, ?_, setc_grown _ _ _ _⟩
    rw [HE.out]
    exact HT.out.set 0 (.int .i64 2)
  · by_cases h2 : b < n
    · have HE : Hid (ask e n a b = 2) := Lib.hid (by unfold ask; rw [if_pos (.inr h2)])
      go_enter Try.func113, Try.ntmps113
      go_wp2_with fail
      go_end0
      refine ⟨rfl, ?_, setc_grown _ _ _ _⟩
      rw [HE.out]
      exact HT.out.set 0 (.int .i64 2)
    · have HE : Hid (ask e n a b = e) := Lib.hid (by unfold ask; rw [if_neg (by omega)])
      go_enter Try.func113, Try.ntmps113
      go_wp2_with fail
      go_end0
      refine ⟨rfl, ?_, grown_refl _ _⟩
      rw [HE.out]
      exact HT.out
/-- Where Check stands. -/
def St (c : Cf) (w : World) (e : Int) (W : World) : Prop := Bk W w.heap.size (cv c) 78 ∧ Bk W (w.heap.size + 1) #[.int .i64 e] 36 ∧ Below w.heap.size w W
theorem ask_st {c : Cf} {w : World} {e : Int} {W : World} (h : St c w e W) (n a b : Int) : Calls Try.prog 113 #[.int .i64 n, .int .i64 a, .int .i64 b, .pointer (some ⟨w.heap.size + 1, 0, none⟩)] W fun r w' => r = .returned (.tuple #[]) ∧ St c w (ask e n a b) w' :=
  (ask_any n a b h.2.1).mono fun r w' ⟨h1, h2, h3⟩ => ⟨h1, h.1.kept h3 (by simp), h2, h.2.2.grown h3 h.2.2.size (fun k hk => by cases hk; omega)⟩
theorem Bk.cfg {W : World} {b : Nat} {c : Cf} (h : Bk W b (cv c) 78) : W.cell? ⟨b, 0, none⟩ = some (.int .i64 c.mtu) ∧ W.cell? ⟨b, 1, none⟩ = some (.int .u16 c.st) ∧ W.cell? ⟨b, 2, none⟩ = some (.int .i64 c.sr) ∧ W.cell? ⟨b, 3, none⟩ = some (.int .i64 c.rr) ∧ W.cell? ⟨b, 4, none⟩ = some (.int .i64 c.mm) ∧
    W.cell? ⟨b, 5, none⟩ = some (.int .u32 c.ri) ∧ W.cell? ⟨b, 6, none⟩ = some (.int .u32 c.rn) ∧ W.cell? ⟨b, 7, none⟩ = some (.int .u32 c.rx) ∧ W.cell? ⟨b, 8, none⟩ = some (.int .u8 c.it) ∧ W.cell? ⟨b, 9, none⟩ = some (.int .u8 c.pt) ∧ W.cell? ⟨b, 10, none⟩ = some (.int .u8 c.al) ∧ W.cell? ⟨b, 11, none⟩ = some (.int .u32 c.be) ∧ W.cell? ⟨b, 12, none⟩ = some (.int .u32 c.ck) :=
  ⟨h.cell 0, h.cell 1, h.cell 2, h.cell 3, h.cell 4, h.cell 5, h.cell 6, h.cell 7, h.cell 8, h.cell 9, h.cell 10, h.cell 11, h.cell 12⟩
def tries (c : Cf) (e : Int) : Nat → Int
  | 0 => e
  | 1 => ask e c.it 1 255
  | 2 => ask (ask e c.it 1 255) c.pt 1 255
  | _ => ask (ask (ask e c.it 1 255) c.pt 1 255) c.al 1 255
/-- What Check answers. -/
def chkA (c : Cf) : Int := ask (ask (ask (ask (ask (ask (ask (ask (ask 0 c.mtu 64 1500) (c.mtu.tmod 4) 0 0) c.st 1 16) c.mm 1 8192) c.sr (wrap64 (2 * c.mm)) 65536) c.rr (wrap64 (2 * c.mm)) 65536) c.rn 1 c.ri) c.ri 1 c.rx) c.rx 1 65536
def chk (c : Cf) : Int := ask (ask (tries c (chkA c) 3) c.be 1 1048576) c.ck 1 1048576
theorem w64 {z : Int} (h : 0 ≤ z ∧ z < 4294967296) : IntKind.i64.wrap z = z := by
  simp [IntKind.wrap, IntKind.signed, IntKind.bits]
  omega
theorem ix3 (a b c : Value) : (∀ W, (Instr.index 175 (.agg #[a, b, c]) (.int .i64 0)).run Try.prog W = .ok a W) ∧ (∀ W, (Instr.index 175 (.agg #[a, b, c]) (.int .i64 1)).run Try.prog W = .ok b W) ∧ (∀ W, (Instr.index 175 (.agg #[a, b, c]) (.int .i64 2)).run Try.prog W = .ok c W) := by
  refine ⟨fun W => ?_, fun W => ?_, fun W => ?_⟩ <;> simp [Instr.index, asIntOf, go_sem]
set_option maxHeartbeats 4000000 in
theorem check_any (c : Cf) (hc : c.Wf) (w : World) : Calls Try.prog 98 #[.agg (cv c)] w fun e w' => e = .returned (.int .i64 (chk c)) ∧ Below w.heap.size w w' := by
  have e1 := w64 (z := c.st) (by have := hc.st; omega)
  have e2 := w64 hc.ri
  have e3 := w64 hc.rn
  have e4 := w64 hc.rx
  have e5 := w64 (z := c.it) (by have := hc.it; omega)
  have e6 := w64 (z := c.pt) (by have := hc.pt; omega)
  have e7 := w64 (z := c.al) (by have := hc.al; omega)
  have e8 := w64 hc.be
  have e9 := w64 hc.ck
  have H0 : Hid (St c w 0 ((w.alloc (.cells (cv c) 78)).alloc (.cells #[.int .i64 0] 36))) := Lib.hid ⟨(Bk.new _ _ _).alloc _, by
      have := Bk.new (w.alloc (.cells (cv c) 78)) #[.int .i64 0] 36
      simpa using this, ((Below.refl _ _).alloc (Nat.le_refl _) _).alloc (by simp) _⟩
  clear hc
  go_enter Try.func98, Try.ntmps98
  unfold cv at H0
  unfold cv
  go_upto_region 3 with fail
  generalize ((w.alloc (.cells #[.int .i64 c.mtu, .int .u16 c.st, .int .i64 c.sr, .int .i64 c.rr, .int .i64 c.mm, .int .u32 c.ri, .int .u32 c.rn, .int .u32 c.rx, .int .u8 c.it, .int .u8 c.pt, .int .u8 c.al, .int .u32 c.be, .int .u32 c.ck] 78)).alloc (.cells #[.int .i64 0] 36)) = W0 at H0 ⊢
  obtain ⟨c0, c1, c2, c3, c4, c5, c6, c7, c8, c9, c10, c11, c12⟩ := Bk.cfg H0.out.1
  go_wp2_with fail
  refine (ask_st H0.out _ _ _).mono ?_
  rintro r W1 ⟨rfl, h1⟩
  clear c0 c1 c2 c3 c4 c5 c6 c7 c8 c9 c10 c11 c12 H0
  have H0 := Lib.hid h1
  clear h1
  obtain ⟨c0, c1, c2, c3, c4, c5, c6, c7, c8, c9, c10, c11, c12⟩ := Bk.cfg H0.out.1
  go_wp2_with fail
  refine (ask_st H0.out _ _ _).mono ?_
  rintro r W2 ⟨rfl, h1⟩
  clear c0 c1 c2 c3 c4 c5 c6 c7 c8 c9 c10 c11 c12 H0
  have H0 := Lib.hid h1
  clear h1
  obtain ⟨c0, c1, c2, c3, c4, c5, c6, c7, c8, c9, c10, c11, c12⟩ := Bk.cfg H0.out.1
  go_wp2_with fail
  refine (ask_st H0.out _ _ _).mono ?_
  rintro r W3 ⟨rfl, h1⟩
  clear c0 c1 c2 c3 c4 c5 c6 c7 c8 c9 c10 c11 c12 H0
  have H0 := Lib.hid h1
  clear h1
  obtain ⟨c0, c1, c2, c3, c4, c5, c6, c7, c8, c9, c10, c11, c12⟩ := Bk.cfg H0.out.1
  go_wp2_with fail
  refine (ask_st H0.out _ _ _).mono ?_
  rintro r W4 ⟨rfl, h1⟩
  clear c0 c1 c2 c3 c4 c5 c6 c7 c8 c9 c10 c11 c12 H0
  have H0 := Lib.hid h1
  clear h1
  obtain ⟨c0, c1, c2, c3, c4, c5, c6, c7, c8, c9, c10, c11, c12⟩ := Bk.cfg H0.out.1
  go_wp2_with fail
  refine (ask_st H0.out _ _ _).mono ?_
  rintro r W5 ⟨rfl, h1⟩
  clear c0 c1 c2 c3 c4 c5 c6 c7 c8 c9 c10 c11 c12 H0
  have H0 := Lib.hid h1
  clear h1
  obtain ⟨c0, c1, c2, c3, c4, c5, c6, c7, c8, c9, c10, c11, c12⟩ := Bk.cfg H0.out.1
  go_wp2_with fail
  refine (ask_st H0.out _ _ _).mono ?_
  rintro r W6 ⟨rfl, h1⟩
  clear c0 c1 c2 c3 c4 c5 c6 c7 c8 c9 c10 c11 c12 H0
  have H0 := Lib.hid h1
  clear h1
  obtain ⟨c0, c1, c2, c3, c4, c5, c6, c7, c8, c9, c10, c11, c12⟩ := Bk.cfg H0.out.1
  go_wp2_with fail
  refine (ask_st H0.out _ _ _).mono ?_
  rintro r W7 ⟨rfl, h1⟩
  clear c0 c1 c2 c3 c4 c5 c6 c7 c8 c9 c10 c11 c12 H0
  have H0 := Lib.hid h1
  clear h1
  obtain ⟨c0, c1, c2, c3, c4, c5, c6, c7, c8, c9, c10, c11, c12⟩ := Bk.cfg H0.out.1
  go_wp2_with fail
  refine (ask_st H0.out _ _ _).mono ?_
  rintro r W8 ⟨rfl, h1⟩
  clear c0 c1 c2 c3 c4 c5 c6 c7 c8 c9 c10 c11 c12 H0
  have H0 := Lib.hid h1
  clear h1
  obtain ⟨c0, c1, c2, c3, c4, c5, c6, c7, c8, c9, c10, c11, c12⟩ := Bk.cfg H0.out.1
  go_wp2_with fail
  refine (ask_st H0.out _ _ _).mono ?_
  rintro r W9 ⟨rfl, h1⟩
  clear c0 c1 c2 c3 c4 c5 c6 c7 c8 c9 c10 c11 c12 H0
  have H0 := Lib.hid h1
  clear h1
  obtain ⟨c0, c1, c2, c3, c4, c5, c6, c7, c8, c9, c10, c11, c12⟩ := Bk.cfg H0.out.1
  go_wp2_with fail
  clear c0 c1 c2 c3 c4 c5 c6 c7 c8 c9 c10 c11 c12
  have HX : Hid (St c w (chkA c) W9) := Lib.hid H0.out
  clear H0
  go_loopw [68] (fun v68 wr => ∃ k : Nat, v68 = .int .i64 k ∧ k ≤ 3 ∧ Hid (St c w (tries c (chkA c) k) wr)) (fun v68 _ => 3 - (intOf v68).toNat)
  case atStart => exact ⟨0, rfl, by omega, HX⟩
  case round =>
    obtain ⟨k, rfl, hk, HS⟩ := hrel
    clear HX
    obtain ⟨c0, c1, c2, c3, c4, c5, c6, c7, c8, c9, c10, c11, c12⟩ := Bk.cfg HS.out.1
    obtain ⟨i0, i1, i2⟩ := ix3 (.int .u8 c.it) (.int .u8 c.pt) (.int .u8 c.al)
    have hk4 : k = 0 ∨ k = 1 ∨ k = 2 ∨ k = 3 := by omega
    rcases hk4 with rfl | rfl | rfl | rfl
    case inr.inr.inr =>
      go_wp2_with fail
      refine (ask_st HS.out _ _ _).mono ?_
      rintro r wa ⟨rfl, h1⟩
      clear c0 c1 c2 c3 c4 c5 c6 c7 c8 c9 c10 c11 c12 HS
      have HS := Lib.hid h1
      clear h1
      obtain ⟨c0, c1, c2, c3, c4, c5, c6, c7, c8, c9, c10, c11, c12⟩ := Bk.cfg HS.out.1
      go_wp2_with fail
      refine (ask_st HS.out _ _ _).mono ?_
      rintro r wb ⟨rfl, h1⟩
      clear c0 c1 c2 c3 c4 c5 c6 c7 c8 c9 c10 c11 c12 HS
      have HS : Hid (St c w (chk c) wb) := Lib.hid h1
      clear h1
      have ce := HS.out.2.1.cell 0
      simp at ce
      go_wp2_with fail
      go_ret
      exact ⟨rfl, HS.out.2.2⟩
    all_goals
      go_wp2_with fail
      refine (ask_st HS.out _ _ _).mono ?_
      rintro r wa ⟨rfl, h1⟩
      clear c0 c1 c2 c3 c4 c5 c6 c7 c8 c9 c10 c11 c12 HS
      have HS := Lib.hid h1
      clear h1
      go_wp2_with fail
      go_roundw
      case rel => first | exact ⟨1, rfl, by omega, HS⟩ | exact ⟨2, rfl, by omega, HS⟩ | exact ⟨3, rfl, by omega, HS⟩
      case measure => simp [intOf]
end Rt
end Go.Proofs.Ytednkcjmlpgipaa
