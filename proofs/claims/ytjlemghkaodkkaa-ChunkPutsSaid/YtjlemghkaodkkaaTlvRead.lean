/-
  What tlv.read does.
-/
import Derived.Test.YtjlemghkaodkkaaTlvLow
namespace Go.Proofs.Ytjlemghkaodkkaa
open Go.RowKit Wire Tlv

/-- A call that tells a thing, its value in bytes of its own. -/
def TvOut (w : World) (x : Tv) (e : Ending) (w' : World) : Prop := ∃ A n c, e = .returned (.agg #[.int .u16 (x.k : Int), .int .u8 (x.f : Int), .slice A n c]) ∧ Own w w' A n c x.v
theorem Own.below {w W W' : World} {A : Option Addr} {n c : Nat} {l : List Int} (h : Own w W A n c l) (hb : Below W.heap.size W W') : Own w W' A n c l := h.next hb
/-- The block for a result at the call's head. -/
theorem own_up {w W : World} {o : Obj} {A : Option Addr} {n c : Nat} {l : List Int} (h : Own (w.alloc o) W A n c l) : Own w W A n c l :=
  ⟨own_base h.1 (by simp), (((Below.refl _ w).alloc (Nat.le_refl _) o).trans (h.2.mono (by simp)))⟩
theorem Own.set {w W : World} {A : Option Addr} {n c : Nat} {l : List Int} (h : Own w W A n c l) {g i : Nat} (hg : w.heap.size ≤ g) (hne : ∀ t cs, Bk W g cs t → t ≠ 5) (hB : ∃ cs t, Bk W g cs t) (v : Value) : Own w (W.setCell ⟨g, i, none⟩ v) A n c l := by
  obtain ⟨cs, t, hB⟩ := hB
  have hne := hne t cs hB
  refine ⟨?_, h.2.setCell (p := ⟨g, i, none⟩) hg v⟩
  refine h.1.kept (row := some g) ⟨rfl, rfl, rfl, by simp [World.setCell], fun k _ hk => Below.heap_setCell _ _ _ k (fun e => hk (by rw [e]))⟩ ?_
  rcases h.1.2 with ⟨e, _⟩ | ⟨g', cap, cur, e, _, hg', _⟩
  · exact .inl (by rw [e]; rfl)
  · refine .inr ?_
    rw [e]
    intro e'
    simp only [Value.ownBlock, Option.some.injEq] at e'
    rw [e'] at hg'
    rw [show W.heap[g]? = _ from hB] at hg'
    simp at hg'
    exact hne hg'.2

/-- The two blocks of the call and the bytes: the result, the thing. -/
def Rd (w : World) (g : Nat) (r x : Array Value) (A : Option Addr) (n c : Nat) (l : List Int) (W : World) : Prop := Bk W w.heap.size r 36 ∧ Bk W g x 36 ∧ Own w W A n c l ∧ w.heap.size < g
theorem tlv_ne : ∀ {W : World} {g : Nat} {cs0 : Array Value}, Bk W g cs0 36 → ∀ t cs, Bk W g cs t → t ≠ 5 := fun {W g cs0} h t cs h' e => by
  have := (show W.heap[g]? = _ from h).symm.trans h'
  simp at this
  rw [e] at this
  exact absurd this.2 (by decide)
theorem Rd.drew {w W : World} {g : Nat} {r x : Array Value} {A : Option Addr} {n c : Nat} {l : List Int} (h : Rd w g r x A n c l W) : Rd w g r x A n c l W.drew := ⟨h.1, h.2.1, h.2.2.1.drew, h.2.2.2⟩
theorem Rd.drewN {w W : World} {g : Nat} {r x : Array Value} {A : Option Addr} {n c : Nat} {l : List Int} (h : Rd w g r x A n c l W) (q : Nat) : Rd w g r x A n c l (W.drewN q) := ⟨h.1, h.2.1, ⟨h.2.2.1.1, below_drewN h.2.2.1.2 q⟩, h.2.2.2⟩
theorem Rd.setx {w W : World} {g : Nat} {r x : Array Value} {A : Option Addr} {n c : Nat} {l : List Int} (h : Rd w g r x A n c l W) (i : Nat) (v : Value) : Rd w g r (x.setIfInBounds i v) A n c l (W.setCell ⟨g, i, none⟩ v) :=
  ⟨h.1.other (Nat.ne_of_lt h.2.2.2) _ _, h.2.1.set _ _, h.2.2.1.set (Nat.le_of_lt h.2.2.2) (tlv_ne h.2.1) ⟨_, _, h.2.1⟩ v, h.2.2.2⟩
theorem Rd.setr {w W : World} {g : Nat} {r x : Array Value} {A : Option Addr} {n c : Nat} {l : List Int} (h : Rd w g r x A n c l W) (i : Nat) (v : Value) : Rd w g (r.setIfInBounds i v) x A n c l (W.setCell ⟨w.heap.size, i, none⟩ v) :=
  ⟨h.1.set _ _, h.2.1.other (Nat.ne_of_gt h.2.2.2) _ _, h.2.2.1.set (Nat.le_refl _) (tlv_ne h.1) ⟨_, _, h.1⟩ v, h.2.2.2⟩
set_option maxRecDepth 100000 in
set_option maxHeartbeats 1000000 in
theorem read_any (ch : Bool) (A : Option Addr) (n c : Nat) (l : List Int) (w : World) (hl : l.length = n) (h4 : 4 ≤ n) (hn : n ≤ 65535) (hnc : n ≤ c) (hb : Byt l) (hr : Row w A (bs l)) :
    Calls Try.prog 58 #[.bool ch, .slice A n c] w (TvOut w ⟨kk ch l, ff ch l, l.drop 4⟩) := by
  have sz : (Try.prog.info? 5).map (·.size) = some 1 := by kernel_rfl
  have q4 : ∀ W, (Instr.slice 24 (.slice A n c) (some (.int .i64 4)) none none).run Try.prog W = .ok (.slice (cutA A c 4) (n - 4) (c - 4)) W := fun W => run_cut_l (P := Try.prog) Try.underlying24 sz (k := .i64) A n c 4 (by omega) W
  have cc : ∀ W, Row W A (bs l) → Calls Try.prog 54 #[.slice (cutA A c 4) (n - 4) (c - 4)] W fun e w' => ∃ A' c', e = .returned (.slice A' (n - 4) c') ∧ Own W w' A' (n - 4) c' (l.drop 4) := fun W h =>
    clone_any (cutA A c 4) (n - 4) (c - 4) (l.drop 4) W (by simp; omega) (by omega) (row_drop hl hnc h)
  have cn : ∀ W, Row W A (bs l) → Calls Try.prog 56 #[.slice A n c] W fun e w' => e = .returned (.int .i64 (nu (l.take 2) : Nat)) ∧ ∃ q, w' = W.drewN q := fun W h =>
    tnumber_any A n c l W hl (by omega) hb h
  obtain ⟨a, hA, c0⟩ := Row.byte hr (show 0 < l.length by omega)
  obtain ⟨a1, e1, c1⟩ := Row.byte hr (show 1 < l.length by omega)
  subst hA
  injection e1 with e1
  subst e1
  obtain ⟨u0, h0, b0⟩ := Byt.at hb (show 0 < l.length by omega)
  obtain ⟨u1, h1, b1⟩ := Byt.at hb (show 1 < l.length by omega)
  have hkt : kk true l = u0 ∧ ff true l = u1 := by unfold kk ff; rw [if_pos rfl, if_pos rfl, h0, h1]; exact ⟨rfl, rfl⟩
  have hkf : kk false l = nu (l.take 2) ∧ ff false l = 0 := by simp [kk, ff]
  have hnl : nu (l.take 2) < 65536 := nu_lt 2 _ (by simp; omega) (Byt.take hb 2)
  rw [h0] at c0
  rw [h1] at c1
  have c0' : w.cell? a = some (.int .u8 (u0 : Int)) := by rw [← c0]; congr 1
  have c1' : w.cell? { block := a.block, off := a.off + 1 } = some (.int .u8 (u1 : Int)) := by rw [← c1]; congr 1
  have n0 : 0 < n := by omega
  have n1 : (0 : Int) < (n : Int) := by omega
  have n2 : (1 : Int) < (n : Int) := by omega
  have CC := Lib.hid cc
  have CN := Lib.hid cn
  have HR := Lib.hid hr
  have HKT := Lib.hid hkt
  have HKF := Lib.hid hkf
  clear sz cc cn hr h0 h1 hkt hkf c0 c1 hl h4 hnc hb
  have key : ∀ (w2 : World) (A2 : Option Addr) (c2 : Nat), Own (w.alloc (.cells #[.int .u16 0, .int .u8 0, .slice none 0 0] 36)) w2 A2 (n - 4) c2 (l.drop 4) →
      ∀ W3, W3 = w2.alloc (.cells #[.int .u16 0, .int .u8 0, .slice A2 (n - 4) c2] 36) →
        Hid (Rd w w2.heap.size #[.int .u16 0, .int .u8 0, .slice none 0 0] #[.int .u16 0, .int .u8 0, .slice A2 (n - 4) c2] A2 (n - 4) c2 (l.drop 4) W3) := fun w2 A2 c2 ho W3 e => by
    subst e
    have hs : w.heap.size < w2.heap.size := by have := ho.2.size; simp at this; omega
    exact ⟨((Bk.new w _ _).nextB ho.2 (by simp)).alloc _, Bk.new _ _ _, (own_up ho).next ((Below.refl _ _).alloc (Nat.le_refl _) _), hs⟩
  have KEY := Lib.hid key
  clear key
  cases ch
  · go_enter Try.func58, Try.ntmps58
    go_wp2_with fail
    (with_reducible refine (CC.out _ ?_).mono ?_)
    · exact HR.out.alloc _
    rintro e w2 ⟨A2, c2, rfl, ho2⟩
    go_wp2_with fail
    obtain ⟨g, hg⟩ : ∃ g, w2.heap.size = g := ⟨_, rfl⟩
    have hK := KEY.out w2 A2 c2 ho2 _ rfl
    rw [hg] at hK
    rw [hg]
    clear hg
    generalize w2.alloc (.cells #[.int .u16 0, .int .u8 0, .slice A2 (n - 4) c2] 36) = W3 at hK ⊢
    (with_reducible refine (CN.out _ ?_).mono ?_)
    · exact HR.out.below hK.out.2.2.1.2
    rintro e w4 ⟨rfl, q, rfl⟩
    have hnl' : IntKind.u16.wrap ((nu (l.take 2) : Nat) : Int) = ((nu (l.take 2) : Nat) : Int) := by rw [IntKind.wrap_u16]; omega
    generalize nu (l.take 2) = z at hnl hnl' HKF ⊢
    have hR := (hK.out.drewN q).setx 0 (.int .u16 (z : Int))
    simp at hR
    have HRD := Lib.hid hR
    have HK := Lib.hid (hK.out.drewN q)
    clear hR
    generalize W3.drewN q = W4 at HRD HK ⊢
    have g0 := HK.out.2.1.cell 0
    have g1 := HK.out.2.1.cell 1
    have g2 := HK.out.2.1.cell 2
    have f0 := HK.out.2.1.frozen 0
    simp at g0 g1 g2
    go_upto_region 5 with fail
    clear g0 g1 g2 f0
    generalize World.setCell W4 _ _ = W5 at HRD ⊢
    have g0 := HRD.out.2.1.cell 0
    have g1 := HRD.out.2.1.cell 1
    have g2 := HRD.out.2.1.cell 2
    have r0 := HRD.out.1.cell 0
    have r1 := HRD.out.1.cell 1
    have r2 := HRD.out.1.cell 2
    have f0 := HRD.out.1.frozen 0
    have f1 := HRD.out.1.frozen 1
    have f2 := HRD.out.1.frozen 2
    simp at g0 g1 g2 r0 r1 r2
    have hE := ((HRD.out.setr 0 (.int .u16 (z : Int))).setr 1 (.int .u8 0)).setr 2 (.slice A2 (n - 4) c2)
    simp at hE
    have HE := Lib.hid hE
    clear hE
    go_wp2_with fail
    clear g0 g1 g2 r0 r1 r2 f0 f1 f2
    have g0 := HE.out.1.cell 0
    have g1 := HE.out.1.cell 1
    have g2 := HE.out.1.cell 2
    simp at g0 g1 g2
    generalize World.setCell (World.setCell (World.setCell W5 _ _) _ _) _ _ = W9 at g0 g1 g2 HE ⊢
    refine bodyPost_ret (v := .agg #[.int .u16 (z : Int), .int .u8 0, .slice A2 (n - 4) c2]) (by simp [results, Try.results58, go_sem, g0, g1, g2]) rfl ?_
    rw [HKF.out.1, HKF.out.2]
    exact ⟨_, _, _, rfl, HE.out.2.2.1⟩
  · go_enter Try.func58, Try.ntmps58
    go_wp2_with fail
    (with_reducible refine (CC.out _ ?_).mono ?_)
    · exact HR.out.alloc _
    rintro e w2 ⟨A2, c2, rfl, ho2⟩
    go_wp2_with fail
    obtain ⟨g, hg⟩ : ∃ g, w2.heap.size = g := ⟨_, rfl⟩
    have hK := KEY.out w2 A2 c2 ho2 _ rfl
    rw [hg] at hK
    rw [hg]
    clear hg
    generalize w2.alloc (.cells #[.int .u16 0, .int .u8 0, .slice A2 (n - 4) c2] 36) = W3 at hK ⊢
    have hr3 := HR.out.below hK.out.2.2.1.2
    have d0 : W3.cell? a = some (.int .u8 (u0 : Int)) := by have := (hK.out.2.2.1.2.cell (block_lt_of_cell c0')).trans c0'; exact this
    have d1 : W3.cell? { block := a.block, off := a.off + 1 } = some (.int .u8 (u1 : Int)) := (hK.out.2.2.1.2.cell (block_lt_of_cell c1')).trans c1'
    have g0 := hK.out.2.1.cell 0
    have g1 := hK.out.2.1.cell 1
    have g2 := hK.out.2.1.cell 2
    have f0 := hK.out.2.1.frozen 0
    have f1 := hK.out.2.1.frozen 1
    simp at g0 g1 g2
    clear c0' c1' hr3
    have hR := ((hK.out.setx 0 (.int .u16 (u0 : Int))).setx 1 (.int .u8 (u1 : Int))).drew
    simp at hR
    have HRD := Lib.hid hR
    clear hR
    go_region
    generalize World.drew (World.setCell (World.setCell W3 _ _) _ _) = W4 at HRD ⊢
    clear g0 g1 g2 f0 f1
    have g0 := HRD.out.2.1.cell 0
    have g1 := HRD.out.2.1.cell 1
    have g2 := HRD.out.2.1.cell 2
    have r0 := HRD.out.1.cell 0
    have r1 := HRD.out.1.cell 1
    have r2 := HRD.out.1.cell 2
    have f0 := HRD.out.1.frozen 0
    have f1 := HRD.out.1.frozen 1
    have f2 := HRD.out.1.frozen 2
    simp at g0 g1 g2 r0 r1 r2
    have hE := ((HRD.out.setr 0 (.int .u16 (u0 : Int))).setr 1 (.int .u8 (u1 : Int))).setr 2 (.slice A2 (n - 4) c2)
    simp at hE
    have HE := Lib.hid hE
    clear hE
    go_wp2_with fail
    clear g0 g1 g2 r0 r1 r2 f0 f1 f2
    have g0 := HE.out.1.cell 0
    have g1 := HE.out.1.cell 1
    have g2 := HE.out.1.cell 2
    simp at g0 g1 g2
    generalize World.setCell (World.setCell (World.setCell W4 _ _) _ _) _ _ = W9 at g0 g1 g2 HE ⊢
    refine bodyPost_ret (v := .agg #[.int .u16 (u0 : Int), .int .u8 (u1 : Int), .slice A2 (n - 4) c2]) (by simp [results, Try.results58, go_sem, g0, g1, g2]) rfl ?_
    rw [HKT.out.1, HKT.out.2]
    exact ⟨_, _, _, rfl, HE.out.2.2.1⟩
end Go.Proofs.Ytjlemghkaodkkaa
