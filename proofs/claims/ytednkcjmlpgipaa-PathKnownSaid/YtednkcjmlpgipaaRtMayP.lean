/-
  Whether a configuration may be, plainly; what Check says is just that; a good one.
-/
import Derived.Test.YtednkcjmlpgipaaRtNew
namespace Go.Proofs.Ytednkcjmlpgipaa
set_option maxRecDepth 4000
open Go.RowKit
namespace Rt
set_option linter.unusedVariables false
set_option linter.unusedSimpArgs false

/-- The conditions, in the document's order. -/
def conds (c : Cf) : List Bool := [decide (64 ≤ c.mtu) && decide (c.mtu ≤ 1500), decide (c.mtu.tmod 4 = 0), decide (1 ≤ c.st) && decide (c.st ≤ 16), decide (1 ≤ c.mm) && decide (c.mm ≤ 8192), decide (wrap64 (2 * c.mm) ≤ c.sr) && decide (c.sr ≤ 65536), decide (wrap64 (2 * c.mm) ≤ c.rr) && decide (c.rr ≤ 65536),
  decide (1 ≤ c.rn), decide (c.rn ≤ c.ri), decide (c.ri ≤ c.rx), decide (c.rx ≤ 65536), decide (1 ≤ c.it), decide (1 ≤ c.pt), decide (1 ≤ c.al), decide (1 ≤ c.be) && decide (c.be ≤ 1048576), decide (1 ≤ c.ck) && decide (c.ck ≤ 1048576)]
def may (c : Cf) : Bool := (conds c).all id
theorem ask_if (e n a b : Int) (he : e = 0 ∨ e = 2) : (ask e n a b = 0 ∨ ask e n a b = 2) ∧ (ask e n a b = 0 ↔ e = 0 ∧ a ≤ n ∧ n ≤ b) := by
  unfold ask
  split
  · exact ⟨.inr rfl, by constructor <;> intro h <;> omega⟩
  · exact ⟨he, by constructor <;> intro h <;> omega⟩
theorem chk_may (c : Cf) (hc : c.Wf) : chk c = if may c then 0 else 2 := by
  obtain ⟨a1, b1⟩ := ask_if 0 c.mtu 64 1500 (.inl rfl)
  obtain ⟨a2, b2⟩ := ask_if _ (c.mtu.tmod 4) 0 0 a1
  obtain ⟨a3, b3⟩ := ask_if _ c.st 1 16 a2
  obtain ⟨a4, b4⟩ := ask_if _ c.mm 1 8192 a3
  obtain ⟨a5, b5⟩ := ask_if _ c.sr (wrap64 (2 * c.mm)) 65536 a4
  obtain ⟨a6, b6⟩ := ask_if _ c.rr (wrap64 (2 * c.mm)) 65536 a5
  obtain ⟨a7, b7⟩ := ask_if _ c.rn 1 c.ri a6
  obtain ⟨a8, b8⟩ := ask_if _ c.ri 1 c.rx a7
  obtain ⟨a9, b9⟩ := ask_if _ c.rx 1 65536 a8
  obtain ⟨a10, b10⟩ := ask_if _ c.it 1 255 a9
  obtain ⟨a11, b11⟩ := ask_if _ c.pt 1 255 a10
  obtain ⟨a12, b12⟩ := ask_if _ c.al 1 255 a11
  obtain ⟨a13, b13⟩ := ask_if _ c.be 1 1048576 a12
  obtain ⟨a14, b14⟩ := ask_if _ c.ck 1 1048576 a13
  rw [b13, b12, b11, b10, b9, b8, b7, b6, b5, b4, b3, b2, b1] at b14
  have e : chk c = ask (ask (ask (ask (ask (ask (ask (ask (ask (ask (ask (ask (ask (ask 0 c.mtu 64 1500) (c.mtu.tmod 4) 0 0) c.st 1 16) c.mm 1 8192) c.sr (wrap64 (2 * c.mm)) 65536) c.rr (wrap64 (2 * c.mm)) 65536) c.rn 1 c.ri) c.ri 1 c.rx) c.rx 1 65536) c.it 1 255) c.pt 1 255) c.al 1 255) c.be 1 1048576) c.ck 1 1048576 := rfl
  rw [e]
  clear e b1 b2 b3 b4 b5 b6 b7 b8 b9 b10 b11 b12 b13 a1 a2 a3 a4 a5 a6 a7 a8 a9 a10 a11 a12 a13
  generalize ask _ c.ck 1 1048576 = z at a14 b14 ⊢
  have hit := hc.it
  have hpt := hc.pt
  have hal := hc.al
  have hm : may c = true ↔ z = 0 := by
    rw [b14]
    simp only [may, conds, List.all_cons, List.all_nil, id, Bool.and_eq_true, decide_eq_true_eq, Bool.and_true]
    have ht : ((c.mtu.tmod 4 = 0) ↔ (0 ≤ c.mtu.tmod 4 ∧ c.mtu.tmod 4 ≤ 0)) := by
      generalize c.mtu.tmod 4 = tm
      omega
    rw [ht]
    simp only [true_and]
    generalize c.mtu.tmod 4 = tm
    constructor
    · rintro ⟨⟨h0, h1⟩, ⟨h2, h3⟩, ⟨h4, h5⟩, ⟨h6, h7⟩, ⟨h8, h9⟩, ⟨h10, h11⟩, h12, h13, h14, h15, h16, h17, h18, ⟨h19, h20⟩, h21, h22⟩
      exact ⟨⟨⟨⟨⟨⟨⟨⟨⟨⟨⟨⟨⟨⟨h0, h1⟩, h2, h3⟩, h4, h5⟩, h6, h7⟩, h8, h9⟩, h10, h11⟩, h12, h13⟩, by omega, h14⟩, by omega, h15⟩, h16, by omega⟩, h17, by omega⟩, h18, by omega⟩, h19, h20⟩, h21, h22⟩
    · rintro ⟨⟨⟨⟨⟨⟨⟨⟨⟨⟨⟨⟨⟨⟨h0, h1⟩, h2, h3⟩, h4, h5⟩, h6, h7⟩, h8, h9⟩, h10, h11⟩, h12, h13⟩, _, h14⟩, _, h15⟩, h16, _⟩, h17, _⟩, h18, _⟩, h19, h20⟩, h21, h22⟩
      exact ⟨⟨h0, h1⟩, ⟨h2, h3⟩, ⟨h4, h5⟩, ⟨h6, h7⟩, ⟨h8, h9⟩, ⟨h10, h11⟩, h12, h13, h14, h15, h16, h17, h18, ⟨h19, h20⟩, h21, h22⟩
  by_cases h : may c = true
  · rw [if_pos h]; exact hm.1 h
  · rw [if_neg h]
    rcases a14 with h0 | h2
    · exact absurd (hm.2 h0) h
    · exact h2
def gd : Cf := ⟨256, 4, 4000, 4000, 1000, 300, 100, 6000, 8, 3, 20, 3000, 6000⟩
theorem gd_wf : gd.Wf := by constructor <;> (constructor <;> decide)
theorem gd_chk : chk gd = 0 := by decide +kernel
/-- The law's world: the configuration lies in its first block. -/
def Cn (w0 : World) (c : Cf) (w : World) : Prop := Bk w w0.heap.size (cv c) 78 ∧ Below w0.heap.size w0 w
theorem Cn.next {w0 w w' : World} {c : Cf} (h : Cn w0 c w) (hb : Below w.heap.size w w') : Cn w0 c w' := ⟨h.1.next hb, bnext h.2 hb⟩
theorem w64u {z : Int} (h : 0 ≤ z ∧ z < 4294967296) : IntKind.u64.wrap z = z := by
  rw [IntKind.wrap_u64]
  omega
theorem may_wf {c : Cf} (h : may c = true) : 1 ≤ c.rn ∧ c.rn ≤ c.ri ∧ c.ri ≤ c.rx ∧ c.rx ≤ 65536 := by
  simp only [may, conds, List.all_cons, List.all_nil, id, Bool.and_eq_true, decide_eq_true_eq, Bool.and_true] at h
  exact ⟨h.2.2.2.2.2.2.1, h.2.2.2.2.2.2.2.1, h.2.2.2.2.2.2.2.2.1, h.2.2.2.2.2.2.2.2.2.1⟩
theorem t0_ok {c : Cf} (h : may c = true) : (t0 c).Ok := by
  have := may_wf h
  unfold T.Ok t0
  simp only
  omega
end Rt
end Go.Proofs.Ytednkcjmlpgipaa
