/-
  The document's Cut, walked.
-/
import Derived.Test.YtonemhgppfbmjaaFgCut
import Derived.Deep.CutBlock
namespace Go.Proofs.Ytonemhgppfbmjaa
open Go.RowKit Go.Maps
namespace Fg
set_option linter.unusedVariables false
set_option linter.unusedSimpArgs false

theorem rcut_err (s : Nat) (u : Bool) (p : Nat) (A : Option Addr) (n c : Nat) (sz : Int) (w : World) (hn : n = 0 ∨ sz < 1) :
    Calls Try.prog 8 #[.agg (mv s u p A n c), .int .i64 sz] w fun e w' => e = .returned (.tuple #[.slice none 0 0, .int .i64 2]) ∧ Below w.heap.size w w' := by
  unfold mv
  have HB : Hid (Below w.heap.size w (w.alloc (.cells #[.int .u16 (s : Int), .bool u, .int .u32 (p : Int), .slice A n c] 26))) := Lib.hid ((Below.refl _ _).alloc (Nat.le_refl _) _)
  by_cases h0 : n = 0
  · subst h0
    clear hn
    go_enter Try.func8, Try.ntmps8
    go_wp2_with fail
    go_ret2
    exact ⟨rfl, HB.out⟩
  · have z1 : decide ((n : Int) < 1) = false := by simp; omega
    have z2 : decide (sz < 1) = true := by simpa using hn.resolve_left h0
    clear hn h0
    go_enter Try.func8, Try.ntmps8
    go_wp2_with fail
    go_ret2
    exact ⟨rfl, HB.out⟩
/-- Which piece is the last one. -/
theorem cutN_iff {l : List Int} {sz : Nat} (hsz : 1 ≤ sz) (i : Nat) : i < cutN l sz ↔ i * sz < l.length := by
  unfold cutN
  rw [Nat.lt_div_iff_mul_lt (by omega)]
  omega
def pcF (u : Bool) (s p : Nat) (l : List Int) (sz i : Nat) : Pc := ⟨0, cutF u (cutN l sz) i, s, 0, p, part l sz i⟩
theorem part_take {l : List Int} {sz i j : Nat} (h : j < (part l sz i).length) : (part l sz i).take (j + 1) = (part l sz i).take j ++ [l.getD (i * sz + j) 0] := by
  rw [List.take_succ_eq_append_getElem h]
  have h1 : (part l sz i)[j]? = l[i * sz + j]? := by
    rw [part_len] at h
    unfold part
    rw [List.getElem?_take, if_pos (by omega), List.getElem?_drop]
  rw [List.getElem?_eq_getElem h] at h1
  rw [List.getD_eq_getElem?_getD, ← h1]
  rfl
/-- Between two pieces. -/
structure RI (w W : World) (b2 : Nat) (mc : Array Value) (A0 : Option Addr) (l : List Int) (qs : List Pq) (A : Option Addr) (k c : Nat) : Prop where
  bm : Bk W b2 mc 26
  ps : Ps (b2 + 1) W (.slice A k c) qs
  len : qs.length = k
  bel : Below w.heap.size w W
  src : Row W A0 (bs l)
theorem RI.next {w W W' : World} {b2 : Nat} {mc : Array Value} {A0 : Option Addr} {l : List Int} {qs : List Pq} {A : Option Addr} {k c : Nat} (h : RI w W b2 mc A0 l qs A k c) (hb : Below W.heap.size W W') : RI w W' b2 mc A0 l qs A k c :=
  ⟨h.bm.next hb, h.ps.next hb, h.len, bnext h.bel hb, h.src.below hb⟩
theorem RI.alloc {w W : World} {b2 : Nat} {mc : Array Value} {A0 : Option Addr} {l : List Int} {qs : List Pq} {A : Option Addr} {k c : Nat} (h : RI w W b2 mc A0 l qs A k c) (o : Obj) : RI w (W.alloc o) b2 mc A0 l qs A k c := h.next ((Below.refl _ _).alloc (Nat.le_refl _) _)
/-- A variable of a piece, above all that is kept. -/
theorem RI.set8 {w W : World} {b2 : Nat} {mc : Array Value} {A0 : Option Addr} {l : List Int} {qs : List Pq} {A : Option Addr} {k c : Nat} (h : RI w W b2 mc A0 l qs A k c) {b8 : Nat} {cs : Array Value} (h8 : Bk W b8 cs 33) (h2 : b2 ≠ b8) (hw : w.heap.size ≤ b8) (hg : ∀ g, (Value.slice A k c).ownBlock = some g → g < b8) (ha : ∀ a, A0 = some a → a.block < b8) (o : Nat) (v : Value) :
    RI w (W.setCell ⟨b8, o, none⟩ v) b2 mc A0 l qs A k c := by
  refine ⟨h.bm.other h2 o v, ⟨h.ps.own.kept (setc_grown W b8 o v) ?_, fun q hq => (h.ps.dat q hq).kept (setc_grown W b8 o v) (.inr (own_off (h.ps.dat q hq).2 h8 (by decide)))⟩, h.len, h.bel.setCell (p := ⟨b8, o, none⟩) hw v, ?_⟩
  · cases e : (Value.slice A k c).ownBlock with
    | none => exact .inl rfl
    | some g => exact .inr (fun e2 => by injection e2 with e2; have := hg g e; omega)
  · intro i u hu
    obtain ⟨a, e, hc⟩ := h.src i u hu
    refine ⟨a, e, ?_⟩
    have h1 : (a.add i).block = a.block := by unfold Addr.add; split <;> rfl
    have h3 := ha a e
    rw [World.cell?_of_block (w := W) (w' := W.setCell ⟨b8, o, none⟩ v) (a := a.add i) (Below.heap_setCell _ _ _ _ (by rw [h1]; simp; omega))]
    exact hc
/-- Within a piece. -/
structure RJ (w W : World) (b2 b8 : Nat) (mc : Array Value) (A0 : Option Addr) (l : List Int) (qs : List Pq) (A : Option Addr) (k c : Nat) (f s p : Nat) (B : Option Addr) (j cb : Nat) (d : List Int) : Prop where
  ri : RI w W b2 mc A0 l qs A k c
  pc : Bk W b8 #[.int .u32 0, .int .u8 (f : Int), .int .u16 (s : Int), .int .u16 0, .int .u32 (p : Int), .slice B j cb] 33
  own : W.ownsRow (b8 + 1) 5 1 (.slice B j cb) j (bs d)
  sz : b8 + 1 ≤ W.heap.size
/-- One byte more: what is left by the append, and by the store behind it. -/
theorem RJ.more {w W w9 : World} {b2 b8 : Nat} {mc : Array Value} {A0 : Option Addr} {l : List Int} {qs : List Pq} {A : Option Addr} {k c f s p : Nat} {B : Option Addr} {j cb : Nat} {d : List Int} (h : RJ w W b2 b8 mc A0 l qs A k c f s p B j cb d) (h2 : b2 < b8) (hw : w.heap.size ≤ b8) (hg : ∀ g, (Value.slice A k c).ownBlock = some g → g < b8) (hq : ∀ q ∈ qs, ∀ g, (Value.slice q.2.1 q.2.2.1 q.2.2.2).ownBlock = some g → g < b8) (ha : ∀ a, A0 = some a → a.block < b8)
    {o : Obj} {B9 : Option Addr} {c9 : Nat} {x : Int} (ho : w9.ownsRow (b8 + 1) 5 1 (.slice B9 (j + 1) c9) (j + 1) (bs (d ++ [x]))) (hgr : (W.alloc o).grownBy w9 (Value.slice B j cb).ownBlock) :
    Bk w9 b8 #[.int .u32 0, .int .u8 (f : Int), .int .u16 (s : Int), .int .u16 0, .int .u32 (p : Int), .slice B j cb] 33 ∧
      RJ w (w9.setCell ⟨b8, 5, none⟩ (.slice B9 (j + 1) c9)) b2 b8 mc A0 l qs A k c f s p B9 (j + 1) c9 (d ++ [x]) := by
  have hbl : ∀ g, (Value.slice B j cb).ownBlock = some g → b8 + 1 ≤ g := fun g hg => (h.own.lt g hg).1
  have hba : Below W.heap.size W (W.alloc o) := (Below.refl _ _).alloc (Nat.le_refl _) _
  have p9 : Bk w9 b8 _ _ := (h.pc.next hba).kept hgr (fun e => by have := hbl b8 e.symm; omega)
  have hk : ∀ g, g < b8 + 1 → w9.heap[g]? = W.heap[g]? := fun g hg => by
    have h1 : g < W.heap.size := by have := h.sz; omega
    exact (hgr.block g (by simp; omega) (fun e => by have := hbl g e.symm; omega)).trans (hba.block g h1)
  have hsz : W.heap.size ≤ w9.heap.size := Nat.le_trans hba.size hgr.size
  have hkp : Kp W w9 (fun g => (Value.slice B j cb).ownBlock = some g) := by
    have h1 := (Kp.below (F := fun g => (Value.slice B j cb).ownBlock = some g) hba).trans (Kp.grown (F := fun g => (Value.slice B j cb).ownBlock = some g) hgr (fun g e => e)) (fun b hb => .inl hb)
    exact h1
  have ri9 : RI w w9 b2 mc A0 l qs A k c := by
    refine ⟨(hk b2 (by omega)).trans h.ri.bm, ⟨?_, fun q hq2 => ?_⟩, h.ri.len, ?_, ?_⟩
    · exact (h.ri.ps.own.kept (w' := W.alloc o) (World.grownBy_alloc W o none) (by cases (Value.slice A k c).ownBlock <;> simp)).kept hgr (by
        cases e : (Value.slice A k c).ownBlock with
        | none => exact .inl rfl
        | some g => exact .inr (fun e2 => by have := hbl g e2.symm; have := hg g e; omega))
    · exact ((h.ri.ps.dat q hq2).next hba).kept hgr (by
        cases e : (Value.slice q.2.1 q.2.2.1 q.2.2.2).ownBlock with
        | none => exact .inl rfl
        | some g => exact .inr (fun e2 => by have := hbl g e2.symm; have := hq q hq2 g e; omega))
    · exact (h.ri.bel.alloc h.ri.bel.size o).grown hgr (by have := h.ri.bel.size; simp; omega) (fun g e => by have := hbl g e; omega)
    · intro i u hu
      obtain ⟨a, e, hc⟩ := h.ri.src i u hu
      refine ⟨a, e, ?_⟩
      have h1 : (a.add i).block = a.block := by unfold Addr.add; split <;> rfl
      have h3 := ha a e
      rw [World.cell?_of_block (w := W) (w' := w9) (a := a.add i) (hk _ (by rw [h1]; omega))]
      exact hc
  refine ⟨p9, ri9.set8 p9 (by omega) hw hg ha 5 _, p9.set 5 _, own_set ho (by omega) 5 _, by simp [World.setCell]; have := h.sz; omega⟩
theorem RJ.flag {w W : World} {b2 b8 : Nat} {mc : Array Value} {A0 : Option Addr} {l : List Int} {qs : List Pq} {A : Option Addr} {k c f s p : Nat} {B : Option Addr} {j cb : Nat} {d : List Int} (h : RJ w W b2 b8 mc A0 l qs A k c f s p B j cb d) (h2 : b2 < b8) (hw : w.heap.size ≤ b8) (hg : ∀ g, (Value.slice A k c).ownBlock = some g → g < b8) (ha : ∀ a, A0 = some a → a.block < b8) (f' : Nat) :
    RJ w (W.setCell ⟨b8, 1, none⟩ (.int .u8 (f' : Int))) b2 b8 mc A0 l qs A k c f' s p B j cb d :=
  ⟨h.ri.set8 h.pc (by omega) hw hg ha 1 _, h.pc.set 1 _, own_set h.own (by omega) 1 _, by simp [World.setCell]; exact h.sz⟩
/-- An append of one piece, in a plain list of operations. -/
theorem pc_app {w : World} {ops : Array Oper} {rest : List Oper} {o : Oper} {a : Act} {Q : Exit → Act → World → Prop} (hgd : o.guard = none) (s x : Operand)
    (ho : o.op = .call { callee := .builtin .append, args := #[s, x], argTypes := #[28, 28] }) (B : Nat) (A0 : Option Addr) (n c0 : Nat) (qs : List Pq) (hs : a.eval s = .slice A0 n c0) (hown : w.ownsRow B 33 6 (.slice A0 n c0) n (pf qs))
    (b c : Nat) (q : Pq) (hx : a.eval x = .slice (some ⟨b, 0, none⟩) 1 c) (hr : Row w (some ⟨b, 0, none⟩) (pcl q)) (hb : n ≤ 1000000000) (hbase : B ≤ w.heap.size)
    (h : ∀ A' c' w', w'.ownsRow B 33 6 (.slice A' (n + 1) c') (n + 1) (pf qs ++ pcl q) → w.grownBy w' (Value.slice A0 n c0).ownBlock → wpList Try.prog ops Q rest (a.put o.dst (.slice A' (n + 1) c')) w') :
    wpList Try.prog ops Q (o :: rest) a w :=
  wpList_plain hgd fun K hK => by
    have := pc_reg (E := True) (ops := ops) (K := K) (Q := Q) hgd s x ho B A0 n c0 qs hs hown b c q hx hr hb hbase (fun A' c' w' h1 h2 => hK _ _ (h A' c' w' h1 h2))
    rw [if_pos (by simp [Region.wanted, hgd])] at this
    exact this
/-- What a piece's end leaves. -/
theorem RJ.done {w W w6 : World} {b2 b8 : Nat} {mc : Array Value} {A0 : Option Addr} {l : List Int} {qs : List Pq} {A : Option Addr} {k c f s p : Nat} {B : Option Addr} {j cb : Nat} {d : List Int} (h : RJ w W b2 b8 mc A0 l qs A k c f s p B j cb d) (h2 : b2 < b8) (hw : w.heap.size ≤ b2) (ha : ∀ a, A0 = some a → a.block < b2)
    {o : Obj} {A9 : Option Addr} {c9 : Nat} (h6 : w6.ownsRow (b2 + 1) 33 6 (.slice A9 (k + 1) c9) (k + 1) (pf qs ++ pcl (⟨0, f, s, 0, p, d⟩, (B, j, cb)))) (hg : (W.alloc o).grownBy w6 (Value.slice A k c).ownBlock) :
    RI w w6 b2 mc A0 l (qs ++ [(⟨0, f, s, 0, p, d⟩, (B, j, cb))]) A9 (k + 1) c9 ∧ b2 + 1 ≤ w6.heap.size := by
  have hba : Below W.heap.size W (W.alloc o) := (Below.refl _ _).alloc (Nat.le_refl _) _
  have hps := h.ri.ps.next hba
  have hl := h.ri.len
  subst hl
  have hlt : ∀ g, (Value.slice A qs.length c).ownBlock = some g → b2 + 1 ≤ g := fun g hg => (hps.own.lt g hg).1
  have hvq : Vq (b2 + 1) (W.alloc o) (⟨0, f, s, 0, p, d⟩, (B, j, cb)) := by
    have h1 := h.own.1
    rw [bs_len] at h1
    exact ⟨by simpa using h1, own_base (own_below h.own hba) (by omega)⟩
  have hsz : W.heap.size ≤ w6.heap.size := Nat.le_trans hba.size hg.size
  refine ⟨⟨(h.ri.bm.next hba).kept hg (fun e => by have := hlt b2 e.symm; omega), hps.more hvq h6 hg, by simp, (h.ri.bel.alloc h.ri.bel.size o).grown hg (by have := h.ri.bel.size; simp; omega) (fun g e => by have := hlt g e; omega), ?_⟩, by have := h.sz; omega⟩
  intro i u hu
  obtain ⟨a, e, hc⟩ := (h.ri.src.below hba) i u hu
  refine ⟨a, e, ?_⟩
  have h1 : (a.add i).block = a.block := by unfold Addr.add; split <;> rfl
  have h3 := ha a e
  rw [World.cell?_of_block (w := W.alloc o) (w' := w6) (a := a.add i) (hg.block _ (block_lt_of_cell hc) (fun e => by have := hlt _ e.symm; omega))]
  exact hc
set_option maxRecDepth 100000 in
set_option maxHeartbeats 4000000 in
theorem rcut_any (s : Nat) (u : Bool) (p : Nat) (A0 : Option Addr) (n c0 : Nat) (l : List Int) (sz : Nat) (w : World) (hl : l.length = n) (hn : n ≤ 1000000000) (hn0 : 0 < n) (hc : n ≤ c0) (hs : 1 ≤ sz) (hs2 : sz < 9223372036854775808) (hr : Row w A0 (bs l)) (hby : Byt l) :
    Calls Try.prog 8 #[.agg (mv s u p A0 n c0), .int .i64 (sz : Int)] w fun e w' => ∃ A N c qs, e = .returned (.tuple #[.slice A N c, .int .i64 0]) ∧ qs.length = N ∧ qs.map (·.1) = cutL u s p l sz ∧ Ps w.heap.size w' (.slice A N c) qs ∧ Below w.heap.size w w' := by
  obtain ⟨a0, rfl, hsc⟩ := Row.byte hr (k := 0) (by omega)
  unfold mv
  have z1 : decide ((n : Int) < 1) = false := by simp; omega
  have z2 : decide ((sz : Int) < 1) = false := by simp; omega
  have HL := Lib.hid hl
  have HR := Lib.hid hr
  have HS := Lib.hid hs
  have HS2 := Lib.hid hs2
  have HBY := Lib.hid hby
  have HA0 : Hid (a0.block < w.heap.size) := Lib.hid (by
    have h1 := block_lt_of_cell hsc
    have h2 : (a0.add 0).block = a0.block := by unfold Addr.add; split <;> rfl
    omega)
  clear hl hr hs hs2 hby hsc
  go_enter Try.func8, Try.ntmps8
  go_upto_region 4 with fail
  have HI0 : Hid (RI w (w.alloc (.cells #[.int .u16 (s : Int), .bool u, .int .u32 (p : Int), .slice (some a0) n c0] 26)) w.heap.size (mv s u p (some a0) n c0) (some a0) l [] none 0 0) := Lib.hid
    ⟨Bk.new _ _ _, ⟨World.ownsRow_nil _ _ _ _, fun q hq => by cases hq⟩, rfl, (Below.refl _ _).alloc (Nat.le_refl _) _, HR.out.alloc _⟩
  have HZ1 : Hid (w.heap.size + 1 ≤ (w.alloc (.cells #[.int .u16 (s : Int), .bool u, .int .u32 (p : Int), .slice (some a0) n c0] 26)).heap.size) := Lib.hid (by simp)
  generalize w.alloc (.cells #[.int .u16 (s : Int), .bool u, .int .u32 (p : Int), .slice (some a0) n c0] 26) = w1 at HI0 HZ1 ⊢
  obtain ⟨b2, hb2⟩ : ∃ b2, w.heap.size = b2 := ⟨_, rfl⟩
  have HB2 := Lib.hid hb2
  rw [hb2] at HI0 HZ1 ⊢
  clear hb2 z1 z2
  cases u with
  | false =>
    go_wp2_with fail
    go_loopw [6, 7] (fun v6 v7 wr => ∃ (i x : Nat) (qs : List Pq) (A : Option Addr) (k c : Nat), v6 = .slice A k c ∧ v7 = .int .i64 (x : Int) ∧ x ≤ n ∧ Hid (x = min (i * sz) n) ∧ Hid (qs.map (·.1) = (List.range i).map (pcF false s p l sz)) ∧ i ≤ n ∧ Hid (i ≤ cutN l sz) ∧ Hid (RI w wr b2 (mv s false p (some a0) n c0) (some a0) l qs A k c ∧ b2 + 1 ≤ wr.heap.size)) (fun _ v7 _ => n - (intOf v7).toNat)
    case atStart => exact ⟨0, 0, [], none, 0, 0, rfl, rfl, by omega, Lib.hid (by simp), Lib.hid rfl, by omega, Lib.hid (Nat.zero_le _), Lib.hid ⟨HI0.out, HZ1.out⟩⟩
    case round =>
      obtain ⟨i, x, qs, A, k, c, rfl, rfl, hxn, hx, hqs, hin, hiN, hw⟩ := hrel
      clear HI0 HZ1
      have g3 := hw.out.1.bm.cell 3
      simp [mv] at g3
      by_cases hlt : x < n
      · have hxe : x = i * sz := by have := hx.out; omega
        have HXE := Lib.hid hxe
        have hin2 : i + 1 ≤ n := by
          have h1 : i ≤ i * sz := Nat.le_mul_of_pos_right _ (by have := HS.out; omega)
          omega
        have HIN2 : Hid (i + 1 ≤ cutN l sz) := Lib.hid (by
          have := (cutN_iff (l := l) HS.out i).2 (by rw [HL.out, ← hxe]; exact hlt)
          omega)
        have hi0 : x = 0 ↔ i = 0 := by
          rw [hxe]
          constructor
          · intro h
            rcases Nat.mul_eq_zero.1 h with h | h
            · exact h
            · have := HS.out; omega
          · intro h; rw [h]; simp
        have HI0 := Lib.hid hi0
        have g0 := hw.out.1.bm.cell 0
        have g2 := hw.out.1.bm.cell 2
        simp [mv] at g0 g2
        clear hxe hi0
        go_upto_region 7 with fail
        have HB8 : Hid (Bk (wr.alloc (.cells #[.int .u32 0, .int .u8 0, .int .u16 (s : Int), .int .u16 0, .int .u32 (p : Int), .slice none 0 0] 33)) wr.heap.size #[.int .u32 0, .int .u8 0, .int .u16 (s : Int), .int .u16 0, .int .u32 (p : Int), .slice none 0 0] 33) := Lib.hid (Bk.new _ _ _)
        have HR8 : Hid (RI w (wr.alloc (.cells #[.int .u32 0, .int .u8 0, .int .u16 (s : Int), .int .u16 0, .int .u32 (p : Int), .slice none 0 0] 33)) b2 (mv s false p (some a0) n c0) (some a0) l qs A k c) := Lib.hid (hw.out.1.alloc _)
        have HZ8 : Hid (b2 < wr.heap.size ∧ w.heap.size ≤ wr.heap.size ∧ wr.heap.size + 1 ≤ (wr.alloc (.cells #[.int .u32 0, .int .u8 0, .int .u16 (s : Int), .int .u16 0, .int .u32 (p : Int), .slice none 0 0] 33)).heap.size) := Lib.hid ⟨by have := hw.out.2; omega, hw.out.1.bel.size, by simp⟩
        have HG8 : Hid (∀ g, (Value.slice A k c).ownBlock = some g → g < wr.heap.size) := Lib.hid fun g hg => (hw.out.1.ps.own.lt g hg).2
        have HQ8 : Hid (∀ q ∈ qs, ∀ g, (Value.slice q.2.1 q.2.2.1 q.2.2.2).ownBlock = some g → g < wr.heap.size) := Lib.hid fun q hq g hg => ((hw.out.1.ps.dat q hq).2.lt g hg).2
        have HA8 : Hid (∀ a, some a0 = some a → a.block < wr.heap.size) := Lib.hid fun a e => by injection e with e; rw [← e]; have := HA0.out; have := hw.out.1.bel.size; omega
        clear g0 g2 g3 hw
        generalize wr.alloc (.cells #[.int .u32 0, .int .u8 0, .int .u16 (s : Int), .int .u16 0, .int .u32 (p : Int), .slice none 0 0] 33) = w2 at HB8 HR8 HZ8 ⊢
        generalize wr.heap.size = b8 at HB8 HZ8 HG8 HQ8 HA8 ⊢
        have g1 := HR8.out.bm.cell 1
        simp [mv] at g1
        have y1 := HB8.out.cell 1
        simp at y1
        have f1 := HB8.out.frozen 1
        have HSET : Hid (∀ (W : World) (f f' : Nat), RI w W b2 (mv s false p (some a0) n c0) (some a0) l qs A k c → Bk W b8 #[.int .u32 0, .int .u8 (f : Int), .int .u16 (s : Int), .int .u16 0, .int .u32 (p : Int), .slice none 0 0] 33 → b8 + 1 ≤ W.heap.size →
            RI w (W.setCell ⟨b8, 1, none⟩ (.int .u8 (f' : Int))) b2 (mv s false p (some a0) n c0) (some a0) l qs A k c ∧ Bk (W.setCell ⟨b8, 1, none⟩ (.int .u8 (f' : Int))) b8 #[.int .u32 0, .int .u8 (f' : Int), .int .u16 (s : Int), .int .u16 0, .int .u32 (p : Int), .slice none 0 0] 33 ∧ b8 + 1 ≤ (W.setCell ⟨b8, 1, none⟩ (.int .u8 (f' : Int))).heap.size) := Lib.hid fun W f f' h1 h2 h3 =>
          ⟨h1.set8 h2 (by have := HZ8.out.1; omega) HZ8.out.2.1 HG8.out HA8.out 1 _, h2.set 1 _, by simpa [World.setCell] using h3⟩
        obtain ⟨ff, hff⟩ : ∃ ff, fb false + (if i = 0 then 2 else 0) = ff := ⟨_, rfl⟩
        have HFF := Lib.hid hff
        have HCF : Hid (cutF false (cutN l sz) i = ff + (if i + 1 = cutN l sz then 1 else 0)) := Lib.hid (by unfold cutF; rw [hff])
        have HFB : Hid (ff = 0 ∨ ff = 2 ∨ ff = 4 ∨ ff = 6) := Lib.hid (by rw [← hff]; by_cases e : i = 0 <;> simp [fb, e])
        clear hff
        obtain ⟨d, hd⟩ : ∃ d, min sz (n - x) = d := ⟨_, rfl⟩
        have hd1 : 0 < d ∧ x + d ≤ n ∧ d ≤ sz ∧ (d = sz ∨ x + d = n) := by have := HS.out; omega
        have hpl : (part l sz i).length = d := by rw [part_len, HL.out, ← HXE.out, hd]
        have HPL := Lib.hid hpl
        have hdN : x + d = n ↔ i + 1 = cutN l sz := by
          have h1 := cutN_iff (l := l) HS.out i
          have h2 := cutN_iff (l := l) HS.out (i + 1)
          rw [HL.out, ← HXE.out] at h1
          rw [HL.out, Nat.add_mul, ← HXE.out, Nat.one_mul] at h2
          omega
        have HDN := Lib.hid hdN
        have hxd : x + d = min ((i + 1) * sz) n := by
          rw [Nat.add_mul, ← HXE.out, Nat.one_mul]
          omega
        have HXD := Lib.hid hxd
        clear hd hpl hdN hxd
        by_cases h0 : x = 0
        · have z0 : ((x : Int) == 0) = true := by simp; omega
          have hx1 : (if i = 0 then 2 else 0 : Nat) = 2 := if_pos (HI0.out.1 h0)
          go_upto_region 11 with fail
          have H3 := HSET.out w2 0 2 HR8.out HB8.out HZ8.out.2.2
          have hf3 : 2 = ff := by rw [← HFF.out, hx1]; rfl
          have HJ : Hid (RJ w (w2.setCell ⟨b8, 1, none⟩ (.int .u8 2)) b2 b8 (mv s false p (some a0) n c0) (some a0) l qs A k c ff s p none 0 0 ((part l sz i).take 0)) := Lib.hid ⟨H3.1, hf3 ▸ H3.2.1, World.ownsRow_nil _ _ _ _, H3.2.2⟩
          clear H3 hf3 z0 hx1 g1 y1 f1 HSET HB8 HR8 h0
          generalize w2.setCell ⟨b8, 1, none⟩ (.int .u8 2) = w3 at HJ ⊢
          go_wp2_with fail
          go_loopw [7, 9] (fun v7 v9 wi => ∃ (j : Nat) (B : Option Addr) (cb : Nat), j ≤ d ∧ v7 = .int .i64 ((x + j : Nat) : Int) ∧ v9 = .int .i64 (j : Int) ∧ Hid (RJ w wi b2 b8 (mv s false p (some a0) n c0) (some a0) l qs A k c ff s p B j cb ((part l sz i).take j))) (fun _ v9 _ => d - (intOf v9).toNat)
          case atStart => exact ⟨0, none, 0, by omega, rfl, rfl, HJ⟩
          case round =>
            obtain ⟨j, B, cb, hjd, rfl, rfl, hj⟩ := hrel
            clear HJ
            have g3 := hj.out.ri.bm.cell 3
            simp [mv] at g3
            by_cases hlj : j < d
            · have dz1 : decide ((j : Int) < (sz : Int)) = true := decide_eq_true (by omega)
              have dz2 : decide (((x + j : Nat) : Int) < (n : Int)) = true := decide_eq_true (by omega)
              have hxjl : x + j < l.length := by rw [HL.out]; omega
              obtain ⟨a0', ha0', hb⟩ := Row.byte hj.out.ri.src hxjl
              injection ha0' with ha0'
              subst ha0'
              have htk : (part l sz i).take (j + 1) = (part l sz i).take j ++ [l.getD (x + j) 0] := by
                rw [HXE.out]
                exact part_take (by rw [HPL.out]; exact hlj)
              have HTK := Lib.hid htk
              have y5 := hj.out.pc.cell 5
              simp at y5
              have hxjn : x + j < n := by omega
              clear hxjl htk
              obtain ⟨z, hz⟩ : ∃ z, l.getD (x + j) 0 = z := ⟨_, rfl⟩
              rw [hz] at hb HTK
              clear hz
              obtain ⟨y, hy⟩ : ∃ y, x + j = y := ⟨_, rfl⟩
              have HY := Lib.hid hy
              rw [hy] at hb dz2 hxjn ⊢
              clear hy
              go_upto_region 14 with fail
              have y5d : wr.drew.cell? ⟨b8, 5, none⟩ = some (.slice B j cb) := y5
              have g3d : wr.drew.cell? ⟨b2, 3, none⟩ = some (.slice (some a0) n c0) := g3
              have hbd : wr.drew.cell? (a0.add y) = some (.int .u8 z) := hb
              have hjd2 : RJ w wr.drew b2 b8 (mv s false p (some a0) n c0) (some a0) l qs A k c ff s p B j cb ((part l sz i).take j) := ⟨hj.out.ri.next (Below.refl _ _).drew, hj.out.pc, hj.out.own, hj.out.sz⟩
              have HJD := Lib.hid hjd2
              have y5a : ∀ o, (wr.drew.alloc o).cell? ⟨b8, 5, none⟩ = some (.slice B j cb) := fun o => cell_alloc y5d o
              have y5b : ∀ o, (wr.alloc o).drew.cell? ⟨b8, 5, none⟩ = some (.slice B j cb) := fun o => cell_alloc y5d o
              clear hjd2
              first | go_region_law (first
                | (refine app_reg rfl (.tmp 50) (.tmp 56) rfl (b8 + 1) B j cb _ rfl (HJD.out.own.alloc _) (some ⟨wr.drew.heap.size, 0, none⟩) 1 _ [z] rfl rfl (Row.new wr.drew (bs [z]) _ _) (fun e => by cases e) (j + 1) rfl (by omega) (by have := HJD.out.sz; simp at *; omega) ?_; intro B9 c9 w9 ho9 hg9; obtain ⟨r1, r2⟩ := HJD.out.more HZ8.out.1 HZ8.out.2.1 HG8.out HQ8.out HA8.out ho9 hg9; have t5 := r1.cell 5; simp at t5; have f5 := r1.frozen 5; have HRN := Lib.hid r2; clear r1 r2 ho9 hg9)) | fail
              all_goals
                go_wp2_with fail
                go_roundw
                case measure => simp [intOf]; omega
                case rel => exact ⟨j + 1, B9, c9, by omega, by rw [← HY.out]; go_num, by go_num, by rw [HTK.out]; exact HRN⟩
            · obtain rfl : j = d := by omega
              have hhj : Hid (RJ w wr b2 b8 (mv s false p (some a0) n c0) (some a0) l qs A k c ff s p B j cb (part l sz i)) := by
                have h1 : (part l sz i).take j = part l sz i := List.take_of_length_le (by rw [HPL.out]; omega)
                rw [h1] at hj
                exact hj
              clear hj
              have hor : (decide (j < sz) = false) ∨ (decide (j < sz) = true ∧ decide (x + j < n) = false) := by
                rcases hd1.2.2.2 with h | h
                · exact .inl (decide_eq_false (by omega))
                · by_cases h2 : j < sz
                  · exact .inr ⟨decide_eq_true (by omega), decide_eq_false (by omega)⟩
                  · exact .inl (decide_eq_false (by omega))
              obtain ⟨y, hy⟩ : ∃ y, x + j = y := ⟨_, rfl⟩
              have HY := Lib.hid hy
              have hyx : x < y ∧ y ≤ n := by omega
              have HDN2 : Hid (y = n ↔ i + 1 = cutN l sz) := Lib.hid (by rw [← hy]; exact HDN.out)
              have HXD2 : Hid (y = min ((i + 1) * sz) n) := Lib.hid (by rw [← hy]; exact HXD.out)
              have hd2 : 0 < j := hd1.1
              rw [hy] at hor ⊢
              clear hy hd1
              have hk : k ≤ n := by
                have h1 := congrArg List.length hqs.out
                have h2 := hhj.out.ri.len
                simp at h1
                omega
              have HJQ : Hid (∀ W5 w6 o B9 A9 c9 cb9 f9, f9 = cutF false (cutN l sz) i → RJ w W5 b2 b8 (mv s false p (some a0) n c0) (some a0) l qs A k c f9 s p B9 j cb9 (part l sz i) → w6.ownsRow (b2 + 1) 33 6 (.slice A9 (k + 1) c9) (k + 1) (pf qs ++ pcl ((⟨0, f9, s, 0, p, part l sz i⟩, (B9, j, cb9)) : Pq)) → (W5.alloc o).grownBy w6 (Value.slice A k c).ownBlock →
                  Hid ((qs ++ [((⟨0, f9, s, 0, p, part l sz i⟩, (B9, j, cb9)) : Pq)]).map (·.1) = (List.range (i + 1)).map (pcF false s p l sz)) ∧ Hid (RI w w6 b2 (mv s false p (some a0) n c0) (some a0) l (qs ++ [((⟨0, f9, s, 0, p, part l sz i⟩, (B9, j, cb9)) : Pq)]) A9 (k + 1) c9 ∧ b2 + 1 ≤ w6.heap.size)) := Lib.hid fun W5 w6 o B9 A9 c9 cb9 f9 h1 h2 h3 h4 => by
                refine ⟨Lib.hid ?_, Lib.hid (RJ.done h2 HZ8.out.1 (Nat.le_of_eq HB2.out) (fun a e => by injection e with e; rw [← e]; have := HA0.out; have := HB2.out; omega) h3 h4)⟩
                rw [List.map_append, hqs.out, List.range_succ, List.map_append]
                simp only [List.map_cons, List.map_nil, pcF]
                rw [h1]
              have g3 := hhj.out.ri.bm.cell 3
              simp [mv] at g3
              have hnc : ∀ a b : Nat, decide ((a : Int) < (b : Int)) = decide (a < b) := fun a b => by by_cases e : a < b <;> simp [e]
              have hnj := hnc j sz
              have hny := hnc y n
              clear hnc
              rcases hor with dz1 | ⟨dz1, dz2⟩
              all_goals
                go_upto_region 16 with fail
                by_cases hend : y = n
                · have ze : ((y : Int) == (n : Int)) = true := by simp; omega
                  have hff2 : ff + 1 = cutF false (cutN l sz) i := by
                    have h1 := HCF.out
                    have h2 := HDN2.out.1 hend
                    rw [if_pos h2] at h1
                    exact h1.symm
                  have HFF2 := Lib.hid hff2
                  have y1 := hhj.out.pc.cell 1
                  simp at y1
                  have f1 := hhj.out.pc.frozen 1
                  have wz : ((ff : Int) + 1) % 256 = ((ff + 1 : Nat) : Int) := by have := HFB.out; omega
                  clear hff2
                  go_upto_region 18 with fail
                  have e1 : (ff : Int) + 1 = ((ff + 1 : Nat) : Int) := by omega
                  rw [e1]
                  have h5 := hhj.out.flag HZ8.out.1 HZ8.out.2.1 HG8.out HA8.out (ff + 1)
                  clear e1 y1 f1 wz ze hhj
                  generalize wr.setCell ⟨b8, 1, none⟩ (.int .u8 ((ff + 1 : Nat) : Int)) = w5 at h5 ⊢
                  have p0 := h5.pc.cell 0
                  have p1 := h5.pc.cell 1
                  have p2 := h5.pc.cell 2
                  have p3 := h5.pc.cell 3
                  have p4 := h5.pc.cell 4
                  have p5 := h5.pc.cell 5
                  simp at p0 p1 p2 p3 p4 p5
                  have how : w5.ownsRow (b2 + 1) 33 6 (.slice A k c) k (pf qs) := by
                    have := h5.ri.ps.own
                    rw [h5.ri.len] at this
                    exact this
                  have HOW := Lib.hid how
                  have H5 := Lib.hid h5
                  have hkn : k ≤ 1000000000 := by omega
                  have hb5 : b2 + 1 ≤ w5.heap.size := by have := h5.sz; have := HZ8.out.1; omega
                  clear how h5 g3
                  go_wp2_with (at_builtin; refine pc_app rfl (.tmp 70) (.tmp 72) rfl (b2 + 1) A k c qs rfl (HOW.out.alloc _) w5.heap.size _ ((⟨0, (ff + 1), s, 0, p, part l sz i⟩, (B, j, cb)) : Pq) rfl (Row.new w5 _ _ _) hkn (by simp; omega) ?_; intro A9 c9 w6 ho6 hg6)
                  obtain ⟨q1, q2⟩ := HJQ.out w5 w6 _ B A9 c9 cb (ff + 1) HFF2.out H5.out ho6 hg6
                  clear ho6 hg6 H5 HOW p0 p1 p2 p3 p4 p5 hb5
                  go_roundw
                  case measure => simp [intOf]; omega
                  case rel => exact ⟨i + 1, y, _, A9, k + 1, c9, by first | rfl | go_num, by first | rfl | (rw [hend]; done) | (simp only [hend]; done), hyx.2, HXD2, q1, hin2, HIN2, q2⟩
                · have ze : ((y : Int) == (n : Int)) = false := by simp; omega
                  have hff2 : ff = cutF false (cutN l sz) i := by
                    have h1 := HCF.out
                    have h2 : ¬ (i + 1 = cutN l sz) := fun e => hend (HDN2.out.2 e)
                    rw [if_neg h2] at h1
                    exact h1.symm
                  have HFF2 := Lib.hid hff2
                  clear hff2
                  go_upto_region 18 with fail
                  have h5 := hhj.out
                  clear ze hhj
                  obtain ⟨w5, hw5⟩ : ∃ w5, w5 = wr := ⟨_, rfl⟩
                  rw [← hw5] at h5 ⊢
                  clear hw5
                  have p0 := h5.pc.cell 0
                  have p1 := h5.pc.cell 1
                  have p2 := h5.pc.cell 2
                  have p3 := h5.pc.cell 3
                  have p4 := h5.pc.cell 4
                  have p5 := h5.pc.cell 5
                  simp at p0 p1 p2 p3 p4 p5
                  have how : w5.ownsRow (b2 + 1) 33 6 (.slice A k c) k (pf qs) := by
                    have := h5.ri.ps.own
                    rw [h5.ri.len] at this
                    exact this
                  have HOW := Lib.hid how
                  have H5 := Lib.hid h5
                  have hkn : k ≤ 1000000000 := by omega
                  have hb5 : b2 + 1 ≤ w5.heap.size := by have := h5.sz; have := HZ8.out.1; omega
                  clear how h5 g3
                  go_wp2_with (at_builtin; refine pc_app rfl (.tmp 70) (.tmp 72) rfl (b2 + 1) A k c qs rfl (HOW.out.alloc _) w5.heap.size _ ((⟨0, ff, s, 0, p, part l sz i⟩, (B, j, cb)) : Pq) rfl (Row.new w5 _ _ _) hkn (by simp; omega) ?_; intro A9 c9 w6 ho6 hg6)
                  obtain ⟨q1, q2⟩ := HJQ.out w5 w6 _ B A9 c9 cb ff HFF2.out H5.out ho6 hg6
                  clear ho6 hg6 H5 HOW p0 p1 p2 p3 p4 p5 hb5
                  go_roundw
                  case measure => simp [intOf]; omega
                  case rel => exact ⟨i + 1, y, _, A9, k + 1, c9, by first | rfl | go_num, by first | rfl | (rw [hend]; done) | (simp only [hend]; done), hyx.2, HXD2, q1, hin2, HIN2, q2⟩
        · have z0 : ((x : Int) == 0) = false := by simp; omega
          have hx1 : (if i = 0 then 2 else 0 : Nat) = 0 := if_neg (fun e => h0 (HI0.out.2 e))
          go_upto_region 11 with fail
          have H3 := And.intro HR8.out (And.intro HB8.out HZ8.out.2.2)
          have hf3 : 0 = ff := by rw [← HFF.out, hx1]; rfl
          have HJ : Hid (RJ w w2 b2 b8 (mv s false p (some a0) n c0) (some a0) l qs A k c ff s p none 0 0 ((part l sz i).take 0)) := Lib.hid ⟨H3.1, hf3 ▸ H3.2.1, World.ownsRow_nil _ _ _ _, H3.2.2⟩
          clear H3 hf3 z0 hx1 g1 y1 f1 HSET HB8 HR8 h0
          generalize w2 = w3 at HJ ⊢
          go_wp2_with fail
          go_loopw [7, 9] (fun v7 v9 wi => ∃ (j : Nat) (B : Option Addr) (cb : Nat), j ≤ d ∧ v7 = .int .i64 ((x + j : Nat) : Int) ∧ v9 = .int .i64 (j : Int) ∧ Hid (RJ w wi b2 b8 (mv s false p (some a0) n c0) (some a0) l qs A k c ff s p B j cb ((part l sz i).take j))) (fun _ v9 _ => d - (intOf v9).toNat)
          case atStart => exact ⟨0, none, 0, by omega, rfl, rfl, HJ⟩
          case round =>
            obtain ⟨j, B, cb, hjd, rfl, rfl, hj⟩ := hrel
            clear HJ
            have g3 := hj.out.ri.bm.cell 3
            simp [mv] at g3
            by_cases hlj : j < d
            · have dz1 : decide ((j : Int) < (sz : Int)) = true := decide_eq_true (by omega)
              have dz2 : decide (((x + j : Nat) : Int) < (n : Int)) = true := decide_eq_true (by omega)
              have hxjl : x + j < l.length := by rw [HL.out]; omega
              obtain ⟨a0', ha0', hb⟩ := Row.byte hj.out.ri.src hxjl
              injection ha0' with ha0'
              subst ha0'
              have htk : (part l sz i).take (j + 1) = (part l sz i).take j ++ [l.getD (x + j) 0] := by
                rw [HXE.out]
                exact part_take (by rw [HPL.out]; exact hlj)
              have HTK := Lib.hid htk
              have y5 := hj.out.pc.cell 5
              simp at y5
              have hxjn : x + j < n := by omega
              clear hxjl htk
              obtain ⟨z, hz⟩ : ∃ z, l.getD (x + j) 0 = z := ⟨_, rfl⟩
              rw [hz] at hb HTK
              clear hz
              obtain ⟨y, hy⟩ : ∃ y, x + j = y := ⟨_, rfl⟩
              have HY := Lib.hid hy
              rw [hy] at hb dz2 hxjn ⊢
              clear hy
              go_upto_region 14 with fail
              have y5d : wr.drew.cell? ⟨b8, 5, none⟩ = some (.slice B j cb) := y5
              have g3d : wr.drew.cell? ⟨b2, 3, none⟩ = some (.slice (some a0) n c0) := g3
              have hbd : wr.drew.cell? (a0.add y) = some (.int .u8 z) := hb
              have hjd2 : RJ w wr.drew b2 b8 (mv s false p (some a0) n c0) (some a0) l qs A k c ff s p B j cb ((part l sz i).take j) := ⟨hj.out.ri.next (Below.refl _ _).drew, hj.out.pc, hj.out.own, hj.out.sz⟩
              have HJD := Lib.hid hjd2
              have y5a : ∀ o, (wr.drew.alloc o).cell? ⟨b8, 5, none⟩ = some (.slice B j cb) := fun o => cell_alloc y5d o
              have y5b : ∀ o, (wr.alloc o).drew.cell? ⟨b8, 5, none⟩ = some (.slice B j cb) := fun o => cell_alloc y5d o
              clear hjd2
              first | go_region_law (first
                | (refine app_reg rfl (.tmp 50) (.tmp 56) rfl (b8 + 1) B j cb _ rfl (HJD.out.own.alloc _) (some ⟨wr.drew.heap.size, 0, none⟩) 1 _ [z] rfl rfl (Row.new wr.drew (bs [z]) _ _) (fun e => by cases e) (j + 1) rfl (by omega) (by have := HJD.out.sz; simp at *; omega) ?_; intro B9 c9 w9 ho9 hg9; obtain ⟨r1, r2⟩ := HJD.out.more HZ8.out.1 HZ8.out.2.1 HG8.out HQ8.out HA8.out ho9 hg9; have t5 := r1.cell 5; simp at t5; have f5 := r1.frozen 5; have HRN := Lib.hid r2; clear r1 r2 ho9 hg9)) | fail
              all_goals
                go_wp2_with fail
                go_roundw
                case measure => simp [intOf]; omega
                case rel => exact ⟨j + 1, B9, c9, by omega, by rw [← HY.out]; go_num, by go_num, by rw [HTK.out]; exact HRN⟩
            · obtain rfl : j = d := by omega
              have hhj : Hid (RJ w wr b2 b8 (mv s false p (some a0) n c0) (some a0) l qs A k c ff s p B j cb (part l sz i)) := by
                have h1 : (part l sz i).take j = part l sz i := List.take_of_length_le (by rw [HPL.out]; omega)
                rw [h1] at hj
                exact hj
              clear hj
              have hor : (decide (j < sz) = false) ∨ (decide (j < sz) = true ∧ decide (x + j < n) = false) := by
                rcases hd1.2.2.2 with h | h
                · exact .inl (decide_eq_false (by omega))
                · by_cases h2 : j < sz
                  · exact .inr ⟨decide_eq_true (by omega), decide_eq_false (by omega)⟩
                  · exact .inl (decide_eq_false (by omega))
              obtain ⟨y, hy⟩ : ∃ y, x + j = y := ⟨_, rfl⟩
              have HY := Lib.hid hy
              have hyx : x < y ∧ y ≤ n := by omega
              have HDN2 : Hid (y = n ↔ i + 1 = cutN l sz) := Lib.hid (by rw [← hy]; exact HDN.out)
              have HXD2 : Hid (y = min ((i + 1) * sz) n) := Lib.hid (by rw [← hy]; exact HXD.out)
              have hd2 : 0 < j := hd1.1
              rw [hy] at hor ⊢
              clear hy hd1
              have hk : k ≤ n := by
                have h1 := congrArg List.length hqs.out
                have h2 := hhj.out.ri.len
                simp at h1
                omega
              have HJQ : Hid (∀ W5 w6 o B9 A9 c9 cb9 f9, f9 = cutF false (cutN l sz) i → RJ w W5 b2 b8 (mv s false p (some a0) n c0) (some a0) l qs A k c f9 s p B9 j cb9 (part l sz i) → w6.ownsRow (b2 + 1) 33 6 (.slice A9 (k + 1) c9) (k + 1) (pf qs ++ pcl ((⟨0, f9, s, 0, p, part l sz i⟩, (B9, j, cb9)) : Pq)) → (W5.alloc o).grownBy w6 (Value.slice A k c).ownBlock →
                  Hid ((qs ++ [((⟨0, f9, s, 0, p, part l sz i⟩, (B9, j, cb9)) : Pq)]).map (·.1) = (List.range (i + 1)).map (pcF false s p l sz)) ∧ Hid (RI w w6 b2 (mv s false p (some a0) n c0) (some a0) l (qs ++ [((⟨0, f9, s, 0, p, part l sz i⟩, (B9, j, cb9)) : Pq)]) A9 (k + 1) c9 ∧ b2 + 1 ≤ w6.heap.size)) := Lib.hid fun W5 w6 o B9 A9 c9 cb9 f9 h1 h2 h3 h4 => by
                refine ⟨Lib.hid ?_, Lib.hid (RJ.done h2 HZ8.out.1 (Nat.le_of_eq HB2.out) (fun a e => by injection e with e; rw [← e]; have := HA0.out; have := HB2.out; omega) h3 h4)⟩
                rw [List.map_append, hqs.out, List.range_succ, List.map_append]
                simp only [List.map_cons, List.map_nil, pcF]
                rw [h1]
              have g3 := hhj.out.ri.bm.cell 3
              simp [mv] at g3
              have hnc : ∀ a b : Nat, decide ((a : Int) < (b : Int)) = decide (a < b) := fun a b => by by_cases e : a < b <;> simp [e]
              have hnj := hnc j sz
              have hny := hnc y n
              clear hnc
              rcases hor with dz1 | ⟨dz1, dz2⟩
              all_goals
                go_upto_region 16 with fail
                by_cases hend : y = n
                · have ze : ((y : Int) == (n : Int)) = true := by simp; omega
                  have hff2 : ff + 1 = cutF false (cutN l sz) i := by
                    have h1 := HCF.out
                    have h2 := HDN2.out.1 hend
                    rw [if_pos h2] at h1
                    exact h1.symm
                  have HFF2 := Lib.hid hff2
                  have y1 := hhj.out.pc.cell 1
                  simp at y1
                  have f1 := hhj.out.pc.frozen 1
                  have wz : ((ff : Int) + 1) % 256 = ((ff + 1 : Nat) : Int) := by have := HFB.out; omega
                  clear hff2
                  go_upto_region 18 with fail
                  have e1 : (ff : Int) + 1 = ((ff + 1 : Nat) : Int) := by omega
                  rw [e1]
                  have h5 := hhj.out.flag HZ8.out.1 HZ8.out.2.1 HG8.out HA8.out (ff + 1)
                  clear e1 y1 f1 wz ze hhj
                  generalize wr.setCell ⟨b8, 1, none⟩ (.int .u8 ((ff + 1 : Nat) : Int)) = w5 at h5 ⊢
                  have p0 := h5.pc.cell 0
                  have p1 := h5.pc.cell 1
                  have p2 := h5.pc.cell 2
                  have p3 := h5.pc.cell 3
                  have p4 := h5.pc.cell 4
                  have p5 := h5.pc.cell 5
                  simp at p0 p1 p2 p3 p4 p5
                  have how : w5.ownsRow (b2 + 1) 33 6 (.slice A k c) k (pf qs) := by
                    have := h5.ri.ps.own
                    rw [h5.ri.len] at this
                    exact this
                  have HOW := Lib.hid how
                  have H5 := Lib.hid h5
                  have hkn : k ≤ 1000000000 := by omega
                  have hb5 : b2 + 1 ≤ w5.heap.size := by have := h5.sz; have := HZ8.out.1; omega
                  clear how h5 g3
                  go_wp2_with (at_builtin; refine pc_app rfl (.tmp 70) (.tmp 72) rfl (b2 + 1) A k c qs rfl (HOW.out.alloc _) w5.heap.size _ ((⟨0, (ff + 1), s, 0, p, part l sz i⟩, (B, j, cb)) : Pq) rfl (Row.new w5 _ _ _) hkn (by simp; omega) ?_; intro A9 c9 w6 ho6 hg6)
                  obtain ⟨q1, q2⟩ := HJQ.out w5 w6 _ B A9 c9 cb (ff + 1) HFF2.out H5.out ho6 hg6
                  clear ho6 hg6 H5 HOW p0 p1 p2 p3 p4 p5 hb5
                  go_roundw
                  case measure => simp [intOf]; omega
                  case rel => exact ⟨i + 1, y, _, A9, k + 1, c9, by first | rfl | go_num, by first | rfl | (rw [hend]; done) | (simp only [hend]; done), hyx.2, HXD2, q1, hin2, HIN2, q2⟩
                · have ze : ((y : Int) == (n : Int)) = false := by simp; omega
                  have hff2 : ff = cutF false (cutN l sz) i := by
                    have h1 := HCF.out
                    have h2 : ¬ (i + 1 = cutN l sz) := fun e => hend (HDN2.out.2 e)
                    rw [if_neg h2] at h1
                    exact h1.symm
                  have HFF2 := Lib.hid hff2
                  clear hff2
                  go_upto_region 18 with fail
                  have h5 := hhj.out
                  clear ze hhj
                  obtain ⟨w5, hw5⟩ : ∃ w5, w5 = wr := ⟨_, rfl⟩
                  rw [← hw5] at h5 ⊢
                  clear hw5
                  have p0 := h5.pc.cell 0
                  have p1 := h5.pc.cell 1
                  have p2 := h5.pc.cell 2
                  have p3 := h5.pc.cell 3
                  have p4 := h5.pc.cell 4
                  have p5 := h5.pc.cell 5
                  simp at p0 p1 p2 p3 p4 p5
                  have how : w5.ownsRow (b2 + 1) 33 6 (.slice A k c) k (pf qs) := by
                    have := h5.ri.ps.own
                    rw [h5.ri.len] at this
                    exact this
                  have HOW := Lib.hid how
                  have H5 := Lib.hid h5
                  have hkn : k ≤ 1000000000 := by omega
                  have hb5 : b2 + 1 ≤ w5.heap.size := by have := h5.sz; have := HZ8.out.1; omega
                  clear how h5 g3
                  go_wp2_with (at_builtin; refine pc_app rfl (.tmp 70) (.tmp 72) rfl (b2 + 1) A k c qs rfl (HOW.out.alloc _) w5.heap.size _ ((⟨0, ff, s, 0, p, part l sz i⟩, (B, j, cb)) : Pq) rfl (Row.new w5 _ _ _) hkn (by simp; omega) ?_; intro A9 c9 w6 ho6 hg6)
                  obtain ⟨q1, q2⟩ := HJQ.out w5 w6 _ B A9 c9 cb ff HFF2.out H5.out ho6 hg6
                  clear ho6 hg6 H5 HOW p0 p1 p2 p3 p4 p5 hb5
                  go_roundw
                  case measure => simp [intOf]; omega
                  case rel => exact ⟨i + 1, y, _, A9, k + 1, c9, by first | rfl | go_num, by first | rfl | (rw [hend]; done) | (simp only [hend]; done), hyx.2, HXD2, q1, hin2, HIN2, q2⟩
      · have hN : cutN l sz ≤ i := by
          have h1 := hx.out
          have h2 := (cutN_iff (l := l) HS.out i)
          rw [HL.out] at h2
          have : ¬ i < cutN l sz := by rw [h2]; omega
          omega
        obtain rfl : i = cutN l sz := by have := hiN.out; omega
        have HW := Lib.hid hw.out.1
        have HQ : Hid (qs.map (·.1) = cutL false s p l sz) := Lib.hid (by rw [hqs.out]; rfl)
        clear hw hqs hx hiN hN
        go_wp2_with fail
        go_ret2
        exact ⟨A, k, c, qs, rfl, HW.out.len, HQ.out, HW.out.ps.lower (by have := HB2.out; omega), HW.out.bel⟩
  | true =>
    go_wp2_with fail
    go_loopw [6, 7] (fun v6 v7 wr => ∃ (i x : Nat) (qs : List Pq) (A : Option Addr) (k c : Nat), v6 = .slice A k c ∧ v7 = .int .i64 (x : Int) ∧ x ≤ n ∧ Hid (x = min (i * sz) n) ∧ Hid (qs.map (·.1) = (List.range i).map (pcF true s p l sz)) ∧ i ≤ n ∧ Hid (i ≤ cutN l sz) ∧ Hid (RI w wr b2 (mv s true p (some a0) n c0) (some a0) l qs A k c ∧ b2 + 1 ≤ wr.heap.size)) (fun _ v7 _ => n - (intOf v7).toNat)
    case atStart => exact ⟨0, 0, [], none, 0, 0, rfl, rfl, by omega, Lib.hid (by simp), Lib.hid rfl, by omega, Lib.hid (Nat.zero_le _), Lib.hid ⟨HI0.out, HZ1.out⟩⟩
    case round =>
      obtain ⟨i, x, qs, A, k, c, rfl, rfl, hxn, hx, hqs, hin, hiN, hw⟩ := hrel
      clear HI0 HZ1
      have g3 := hw.out.1.bm.cell 3
      simp [mv] at g3
      by_cases hlt : x < n
      · have hxe : x = i * sz := by have := hx.out; omega
        have HXE := Lib.hid hxe
        have hin2 : i + 1 ≤ n := by
          have h1 : i ≤ i * sz := Nat.le_mul_of_pos_right _ (by have := HS.out; omega)
          omega
        have HIN2 : Hid (i + 1 ≤ cutN l sz) := Lib.hid (by
          have := (cutN_iff (l := l) HS.out i).2 (by rw [HL.out, ← hxe]; exact hlt)
          omega)
        have hi0 : x = 0 ↔ i = 0 := by
          rw [hxe]
          constructor
          · intro h
            rcases Nat.mul_eq_zero.1 h with h | h
            · exact h
            · have := HS.out; omega
          · intro h; rw [h]; simp
        have HI0 := Lib.hid hi0
        have g0 := hw.out.1.bm.cell 0
        have g2 := hw.out.1.bm.cell 2
        simp [mv] at g0 g2
        clear hxe hi0
        go_upto_region 7 with fail
        have HB8 : Hid (Bk (wr.alloc (.cells #[.int .u32 0, .int .u8 0, .int .u16 (s : Int), .int .u16 0, .int .u32 (p : Int), .slice none 0 0] 33)) wr.heap.size #[.int .u32 0, .int .u8 0, .int .u16 (s : Int), .int .u16 0, .int .u32 (p : Int), .slice none 0 0] 33) := Lib.hid (Bk.new _ _ _)
        have HR8 : Hid (RI w (wr.alloc (.cells #[.int .u32 0, .int .u8 0, .int .u16 (s : Int), .int .u16 0, .int .u32 (p : Int), .slice none 0 0] 33)) b2 (mv s true p (some a0) n c0) (some a0) l qs A k c) := Lib.hid (hw.out.1.alloc _)
        have HZ8 : Hid (b2 < wr.heap.size ∧ w.heap.size ≤ wr.heap.size ∧ wr.heap.size + 1 ≤ (wr.alloc (.cells #[.int .u32 0, .int .u8 0, .int .u16 (s : Int), .int .u16 0, .int .u32 (p : Int), .slice none 0 0] 33)).heap.size) := Lib.hid ⟨by have := hw.out.2; omega, hw.out.1.bel.size, by simp⟩
        have HG8 : Hid (∀ g, (Value.slice A k c).ownBlock = some g → g < wr.heap.size) := Lib.hid fun g hg => (hw.out.1.ps.own.lt g hg).2
        have HQ8 : Hid (∀ q ∈ qs, ∀ g, (Value.slice q.2.1 q.2.2.1 q.2.2.2).ownBlock = some g → g < wr.heap.size) := Lib.hid fun q hq g hg => ((hw.out.1.ps.dat q hq).2.lt g hg).2
        have HA8 : Hid (∀ a, some a0 = some a → a.block < wr.heap.size) := Lib.hid fun a e => by injection e with e; rw [← e]; have := HA0.out; have := hw.out.1.bel.size; omega
        clear g0 g2 g3 hw
        generalize wr.alloc (.cells #[.int .u32 0, .int .u8 0, .int .u16 (s : Int), .int .u16 0, .int .u32 (p : Int), .slice none 0 0] 33) = w2 at HB8 HR8 HZ8 ⊢
        generalize wr.heap.size = b8 at HB8 HZ8 HG8 HQ8 HA8 ⊢
        have g1 := HR8.out.bm.cell 1
        simp [mv] at g1
        have y1 := HB8.out.cell 1
        simp at y1
        have f1 := HB8.out.frozen 1
        have HSET : Hid (∀ (W : World) (f f' : Nat), RI w W b2 (mv s true p (some a0) n c0) (some a0) l qs A k c → Bk W b8 #[.int .u32 0, .int .u8 (f : Int), .int .u16 (s : Int), .int .u16 0, .int .u32 (p : Int), .slice none 0 0] 33 → b8 + 1 ≤ W.heap.size →
            RI w (W.setCell ⟨b8, 1, none⟩ (.int .u8 (f' : Int))) b2 (mv s true p (some a0) n c0) (some a0) l qs A k c ∧ Bk (W.setCell ⟨b8, 1, none⟩ (.int .u8 (f' : Int))) b8 #[.int .u32 0, .int .u8 (f' : Int), .int .u16 (s : Int), .int .u16 0, .int .u32 (p : Int), .slice none 0 0] 33 ∧ b8 + 1 ≤ (W.setCell ⟨b8, 1, none⟩ (.int .u8 (f' : Int))).heap.size) := Lib.hid fun W f f' h1 h2 h3 =>
          ⟨h1.set8 h2 (by have := HZ8.out.1; omega) HZ8.out.2.1 HG8.out HA8.out 1 _, h2.set 1 _, by simpa [World.setCell] using h3⟩
        obtain ⟨ff, hff⟩ : ∃ ff, fb true + (if i = 0 then 2 else 0) = ff := ⟨_, rfl⟩
        have HFF := Lib.hid hff
        have HCF : Hid (cutF true (cutN l sz) i = ff + (if i + 1 = cutN l sz then 1 else 0)) := Lib.hid (by unfold cutF; rw [hff])
        have HFB : Hid (ff = 0 ∨ ff = 2 ∨ ff = 4 ∨ ff = 6) := Lib.hid (by rw [← hff]; by_cases e : i = 0 <;> simp [fb, e])
        clear hff
        obtain ⟨d, hd⟩ : ∃ d, min sz (n - x) = d := ⟨_, rfl⟩
        have hd1 : 0 < d ∧ x + d ≤ n ∧ d ≤ sz ∧ (d = sz ∨ x + d = n) := by have := HS.out; omega
        have hpl : (part l sz i).length = d := by rw [part_len, HL.out, ← HXE.out, hd]
        have HPL := Lib.hid hpl
        have hdN : x + d = n ↔ i + 1 = cutN l sz := by
          have h1 := cutN_iff (l := l) HS.out i
          have h2 := cutN_iff (l := l) HS.out (i + 1)
          rw [HL.out, ← HXE.out] at h1
          rw [HL.out, Nat.add_mul, ← HXE.out, Nat.one_mul] at h2
          omega
        have HDN := Lib.hid hdN
        have hxd : x + d = min ((i + 1) * sz) n := by
          rw [Nat.add_mul, ← HXE.out, Nat.one_mul]
          omega
        have HXD := Lib.hid hxd
        clear hd hpl hdN hxd
        by_cases h0 : x = 0
        · have z0 : ((x : Int) == 0) = true := by simp; omega
          have hx1 : (if i = 0 then 2 else 0 : Nat) = 2 := if_pos (HI0.out.1 h0)
          go_upto_region 11 with fail
          have H3 := HSET.out _ 4 6 (HSET.out w2 0 4 HR8.out HB8.out HZ8.out.2.2).1 (HSET.out w2 0 4 HR8.out HB8.out HZ8.out.2.2).2.1 (HSET.out w2 0 4 HR8.out HB8.out HZ8.out.2.2).2.2
          have hf3 : 6 = ff := by rw [← HFF.out, hx1]; rfl
          have HJ : Hid (RJ w ((w2.setCell ⟨b8, 1, none⟩ (.int .u8 4)).setCell ⟨b8, 1, none⟩ (.int .u8 6)) b2 b8 (mv s true p (some a0) n c0) (some a0) l qs A k c ff s p none 0 0 ((part l sz i).take 0)) := Lib.hid ⟨H3.1, hf3 ▸ H3.2.1, World.ownsRow_nil _ _ _ _, H3.2.2⟩
          clear H3 hf3 z0 hx1 g1 y1 f1 HSET HB8 HR8 h0
          generalize (w2.setCell ⟨b8, 1, none⟩ (.int .u8 4)).setCell ⟨b8, 1, none⟩ (.int .u8 6) = w3 at HJ ⊢
          go_wp2_with fail
          go_loopw [7, 9] (fun v7 v9 wi => ∃ (j : Nat) (B : Option Addr) (cb : Nat), j ≤ d ∧ v7 = .int .i64 ((x + j : Nat) : Int) ∧ v9 = .int .i64 (j : Int) ∧ Hid (RJ w wi b2 b8 (mv s true p (some a0) n c0) (some a0) l qs A k c ff s p B j cb ((part l sz i).take j))) (fun _ v9 _ => d - (intOf v9).toNat)
          case atStart => exact ⟨0, none, 0, by omega, rfl, rfl, HJ⟩
          case round =>
            obtain ⟨j, B, cb, hjd, rfl, rfl, hj⟩ := hrel
            clear HJ
            have g3 := hj.out.ri.bm.cell 3
            simp [mv] at g3
            by_cases hlj : j < d
            · have dz1 : decide ((j : Int) < (sz : Int)) = true := decide_eq_true (by omega)
              have dz2 : decide (((x + j : Nat) : Int) < (n : Int)) = true := decide_eq_true (by omega)
              have hxjl : x + j < l.length := by rw [HL.out]; omega
              obtain ⟨a0', ha0', hb⟩ := Row.byte hj.out.ri.src hxjl
              injection ha0' with ha0'
              subst ha0'
              have htk : (part l sz i).take (j + 1) = (part l sz i).take j ++ [l.getD (x + j) 0] := by
                rw [HXE.out]
                exact part_take (by rw [HPL.out]; exact hlj)
              have HTK := Lib.hid htk
              have y5 := hj.out.pc.cell 5
              simp at y5
              have hxjn : x + j < n := by omega
              clear hxjl htk
              obtain ⟨z, hz⟩ : ∃ z, l.getD (x + j) 0 = z := ⟨_, rfl⟩
              rw [hz] at hb HTK
              clear hz
              obtain ⟨y, hy⟩ : ∃ y, x + j = y := ⟨_, rfl⟩
              have HY := Lib.hid hy
              rw [hy] at hb dz2 hxjn ⊢
              clear hy
              go_upto_region 14 with fail
              have y5d : wr.drew.cell? ⟨b8, 5, none⟩ = some (.slice B j cb) := y5
              have g3d : wr.drew.cell? ⟨b2, 3, none⟩ = some (.slice (some a0) n c0) := g3
              have hbd : wr.drew.cell? (a0.add y) = some (.int .u8 z) := hb
              have hjd2 : RJ w wr.drew b2 b8 (mv s true p (some a0) n c0) (some a0) l qs A k c ff s p B j cb ((part l sz i).take j) := ⟨hj.out.ri.next (Below.refl _ _).drew, hj.out.pc, hj.out.own, hj.out.sz⟩
              have HJD := Lib.hid hjd2
              have y5a : ∀ o, (wr.drew.alloc o).cell? ⟨b8, 5, none⟩ = some (.slice B j cb) := fun o => cell_alloc y5d o
              have y5b : ∀ o, (wr.alloc o).drew.cell? ⟨b8, 5, none⟩ = some (.slice B j cb) := fun o => cell_alloc y5d o
              clear hjd2
              first | go_region_law (first
                | (refine app_reg rfl (.tmp 50) (.tmp 56) rfl (b8 + 1) B j cb _ rfl (HJD.out.own.alloc _) (some ⟨wr.drew.heap.size, 0, none⟩) 1 _ [z] rfl rfl (Row.new wr.drew (bs [z]) _ _) (fun e => by cases e) (j + 1) rfl (by omega) (by have := HJD.out.sz; simp at *; omega) ?_; intro B9 c9 w9 ho9 hg9; obtain ⟨r1, r2⟩ := HJD.out.more HZ8.out.1 HZ8.out.2.1 HG8.out HQ8.out HA8.out ho9 hg9; have t5 := r1.cell 5; simp at t5; have f5 := r1.frozen 5; have HRN := Lib.hid r2; clear r1 r2 ho9 hg9)) | fail
              all_goals
                go_wp2_with fail
                go_roundw
                case measure => simp [intOf]; omega
                case rel => exact ⟨j + 1, B9, c9, by omega, by rw [← HY.out]; go_num, by go_num, by rw [HTK.out]; exact HRN⟩
            · obtain rfl : j = d := by omega
              have hhj : Hid (RJ w wr b2 b8 (mv s true p (some a0) n c0) (some a0) l qs A k c ff s p B j cb (part l sz i)) := by
                have h1 : (part l sz i).take j = part l sz i := List.take_of_length_le (by rw [HPL.out]; omega)
                rw [h1] at hj
                exact hj
              clear hj
              have hor : (decide (j < sz) = false) ∨ (decide (j < sz) = true ∧ decide (x + j < n) = false) := by
                rcases hd1.2.2.2 with h | h
                · exact .inl (decide_eq_false (by omega))
                · by_cases h2 : j < sz
                  · exact .inr ⟨decide_eq_true (by omega), decide_eq_false (by omega)⟩
                  · exact .inl (decide_eq_false (by omega))
              obtain ⟨y, hy⟩ : ∃ y, x + j = y := ⟨_, rfl⟩
              have HY := Lib.hid hy
              have hyx : x < y ∧ y ≤ n := by omega
              have HDN2 : Hid (y = n ↔ i + 1 = cutN l sz) := Lib.hid (by rw [← hy]; exact HDN.out)
              have HXD2 : Hid (y = min ((i + 1) * sz) n) := Lib.hid (by rw [← hy]; exact HXD.out)
              have hd2 : 0 < j := hd1.1
              rw [hy] at hor ⊢
              clear hy hd1
              have hk : k ≤ n := by
                have h1 := congrArg List.length hqs.out
                have h2 := hhj.out.ri.len
                simp at h1
                omega
              have HJQ : Hid (∀ W5 w6 o B9 A9 c9 cb9 f9, f9 = cutF true (cutN l sz) i → RJ w W5 b2 b8 (mv s true p (some a0) n c0) (some a0) l qs A k c f9 s p B9 j cb9 (part l sz i) → w6.ownsRow (b2 + 1) 33 6 (.slice A9 (k + 1) c9) (k + 1) (pf qs ++ pcl ((⟨0, f9, s, 0, p, part l sz i⟩, (B9, j, cb9)) : Pq)) → (W5.alloc o).grownBy w6 (Value.slice A k c).ownBlock →
                  Hid ((qs ++ [((⟨0, f9, s, 0, p, part l sz i⟩, (B9, j, cb9)) : Pq)]).map (·.1) = (List.range (i + 1)).map (pcF true s p l sz)) ∧ Hid (RI w w6 b2 (mv s true p (some a0) n c0) (some a0) l (qs ++ [((⟨0, f9, s, 0, p, part l sz i⟩, (B9, j, cb9)) : Pq)]) A9 (k + 1) c9 ∧ b2 + 1 ≤ w6.heap.size)) := Lib.hid fun W5 w6 o B9 A9 c9 cb9 f9 h1 h2 h3 h4 => by
                refine ⟨Lib.hid ?_, Lib.hid (RJ.done h2 HZ8.out.1 (Nat.le_of_eq HB2.out) (fun a e => by injection e with e; rw [← e]; have := HA0.out; have := HB2.out; omega) h3 h4)⟩
                rw [List.map_append, hqs.out, List.range_succ, List.map_append]
                simp only [List.map_cons, List.map_nil, pcF]
                rw [h1]
              have g3 := hhj.out.ri.bm.cell 3
              simp [mv] at g3
              have hnc : ∀ a b : Nat, decide ((a : Int) < (b : Int)) = decide (a < b) := fun a b => by by_cases e : a < b <;> simp [e]
              have hnj := hnc j sz
              have hny := hnc y n
              clear hnc
              rcases hor with dz1 | ⟨dz1, dz2⟩
              all_goals
                go_upto_region 16 with fail
                by_cases hend : y = n
                · have ze : ((y : Int) == (n : Int)) = true := by simp; omega
                  have hff2 : ff + 1 = cutF true (cutN l sz) i := by
                    have h1 := HCF.out
                    have h2 := HDN2.out.1 hend
                    rw [if_pos h2] at h1
                    exact h1.symm
                  have HFF2 := Lib.hid hff2
                  have y1 := hhj.out.pc.cell 1
                  simp at y1
                  have f1 := hhj.out.pc.frozen 1
                  have wz : ((ff : Int) + 1) % 256 = ((ff + 1 : Nat) : Int) := by have := HFB.out; omega
                  clear hff2
                  go_upto_region 18 with fail
                  have e1 : (ff : Int) + 1 = ((ff + 1 : Nat) : Int) := by omega
                  rw [e1]
                  have h5 := hhj.out.flag HZ8.out.1 HZ8.out.2.1 HG8.out HA8.out (ff + 1)
                  clear e1 y1 f1 wz ze hhj
                  generalize wr.setCell ⟨b8, 1, none⟩ (.int .u8 ((ff + 1 : Nat) : Int)) = w5 at h5 ⊢
                  have p0 := h5.pc.cell 0
                  have p1 := h5.pc.cell 1
                  have p2 := h5.pc.cell 2
                  have p3 := h5.pc.cell 3
                  have p4 := h5.pc.cell 4
                  have p5 := h5.pc.cell 5
                  simp at p0 p1 p2 p3 p4 p5
                  have how : w5.ownsRow (b2 + 1) 33 6 (.slice A k c) k (pf qs) := by
                    have := h5.ri.ps.own
                    rw [h5.ri.len] at this
                    exact this
                  have HOW := Lib.hid how
                  have H5 := Lib.hid h5
                  have hkn : k ≤ 1000000000 := by omega
                  have hb5 : b2 + 1 ≤ w5.heap.size := by have := h5.sz; have := HZ8.out.1; omega
                  clear how h5 g3
                  go_wp2_with (at_builtin; refine pc_app rfl (.tmp 70) (.tmp 72) rfl (b2 + 1) A k c qs rfl (HOW.out.alloc _) w5.heap.size _ ((⟨0, (ff + 1), s, 0, p, part l sz i⟩, (B, j, cb)) : Pq) rfl (Row.new w5 _ _ _) hkn (by simp; omega) ?_; intro A9 c9 w6 ho6 hg6)
                  obtain ⟨q1, q2⟩ := HJQ.out w5 w6 _ B A9 c9 cb (ff + 1) HFF2.out H5.out ho6 hg6
                  clear ho6 hg6 H5 HOW p0 p1 p2 p3 p4 p5 hb5
                  go_roundw
                  case measure => simp [intOf]; omega
                  case rel => exact ⟨i + 1, y, _, A9, k + 1, c9, by first | rfl | go_num, by first | rfl | (rw [hend]; done) | (simp only [hend]; done), hyx.2, HXD2, q1, hin2, HIN2, q2⟩
                · have ze : ((y : Int) == (n : Int)) = false := by simp; omega
                  have hff2 : ff = cutF true (cutN l sz) i := by
                    have h1 := HCF.out
                    have h2 : ¬ (i + 1 = cutN l sz) := fun e => hend (HDN2.out.2 e)
                    rw [if_neg h2] at h1
                    exact h1.symm
                  have HFF2 := Lib.hid hff2
                  clear hff2
                  go_upto_region 18 with fail
                  have h5 := hhj.out
                  clear ze hhj
                  obtain ⟨w5, hw5⟩ : ∃ w5, w5 = wr := ⟨_, rfl⟩
                  rw [← hw5] at h5 ⊢
                  clear hw5
                  have p0 := h5.pc.cell 0
                  have p1 := h5.pc.cell 1
                  have p2 := h5.pc.cell 2
                  have p3 := h5.pc.cell 3
                  have p4 := h5.pc.cell 4
                  have p5 := h5.pc.cell 5
                  simp at p0 p1 p2 p3 p4 p5
                  have how : w5.ownsRow (b2 + 1) 33 6 (.slice A k c) k (pf qs) := by
                    have := h5.ri.ps.own
                    rw [h5.ri.len] at this
                    exact this
                  have HOW := Lib.hid how
                  have H5 := Lib.hid h5
                  have hkn : k ≤ 1000000000 := by omega
                  have hb5 : b2 + 1 ≤ w5.heap.size := by have := h5.sz; have := HZ8.out.1; omega
                  clear how h5 g3
                  go_wp2_with (at_builtin; refine pc_app rfl (.tmp 70) (.tmp 72) rfl (b2 + 1) A k c qs rfl (HOW.out.alloc _) w5.heap.size _ ((⟨0, ff, s, 0, p, part l sz i⟩, (B, j, cb)) : Pq) rfl (Row.new w5 _ _ _) hkn (by simp; omega) ?_; intro A9 c9 w6 ho6 hg6)
                  obtain ⟨q1, q2⟩ := HJQ.out w5 w6 _ B A9 c9 cb ff HFF2.out H5.out ho6 hg6
                  clear ho6 hg6 H5 HOW p0 p1 p2 p3 p4 p5 hb5
                  go_roundw
                  case measure => simp [intOf]; omega
                  case rel => exact ⟨i + 1, y, _, A9, k + 1, c9, by first | rfl | go_num, by first | rfl | (rw [hend]; done) | (simp only [hend]; done), hyx.2, HXD2, q1, hin2, HIN2, q2⟩
        · have z0 : ((x : Int) == 0) = false := by simp; omega
          have hx1 : (if i = 0 then 2 else 0 : Nat) = 0 := if_neg (fun e => h0 (HI0.out.2 e))
          go_upto_region 11 with fail
          have H3 := HSET.out w2 0 4 HR8.out HB8.out HZ8.out.2.2
          have hf3 : 4 = ff := by rw [← HFF.out, hx1]; rfl
          have HJ : Hid (RJ w (w2.setCell ⟨b8, 1, none⟩ (.int .u8 4)) b2 b8 (mv s true p (some a0) n c0) (some a0) l qs A k c ff s p none 0 0 ((part l sz i).take 0)) := Lib.hid ⟨H3.1, hf3 ▸ H3.2.1, World.ownsRow_nil _ _ _ _, H3.2.2⟩
          clear H3 hf3 z0 hx1 g1 y1 f1 HSET HB8 HR8 h0
          generalize w2.setCell ⟨b8, 1, none⟩ (.int .u8 4) = w3 at HJ ⊢
          go_wp2_with fail
          go_loopw [7, 9] (fun v7 v9 wi => ∃ (j : Nat) (B : Option Addr) (cb : Nat), j ≤ d ∧ v7 = .int .i64 ((x + j : Nat) : Int) ∧ v9 = .int .i64 (j : Int) ∧ Hid (RJ w wi b2 b8 (mv s true p (some a0) n c0) (some a0) l qs A k c ff s p B j cb ((part l sz i).take j))) (fun _ v9 _ => d - (intOf v9).toNat)
          case atStart => exact ⟨0, none, 0, by omega, rfl, rfl, HJ⟩
          case round =>
            obtain ⟨j, B, cb, hjd, rfl, rfl, hj⟩ := hrel
            clear HJ
            have g3 := hj.out.ri.bm.cell 3
            simp [mv] at g3
            by_cases hlj : j < d
            · have dz1 : decide ((j : Int) < (sz : Int)) = true := decide_eq_true (by omega)
              have dz2 : decide (((x + j : Nat) : Int) < (n : Int)) = true := decide_eq_true (by omega)
              have hxjl : x + j < l.length := by rw [HL.out]; omega
              obtain ⟨a0', ha0', hb⟩ := Row.byte hj.out.ri.src hxjl
              injection ha0' with ha0'
              subst ha0'
              have htk : (part l sz i).take (j + 1) = (part l sz i).take j ++ [l.getD (x + j) 0] := by
                rw [HXE.out]
                exact part_take (by rw [HPL.out]; exact hlj)
              have HTK := Lib.hid htk
              have y5 := hj.out.pc.cell 5
              simp at y5
              have hxjn : x + j < n := by omega
              clear hxjl htk
              obtain ⟨z, hz⟩ : ∃ z, l.getD (x + j) 0 = z := ⟨_, rfl⟩
              rw [hz] at hb HTK
              clear hz
              obtain ⟨y, hy⟩ : ∃ y, x + j = y := ⟨_, rfl⟩
              have HY := Lib.hid hy
              rw [hy] at hb dz2 hxjn ⊢
              clear hy
              go_upto_region 14 with fail
              have y5d : wr.drew.cell? ⟨b8, 5, none⟩ = some (.slice B j cb) := y5
              have g3d : wr.drew.cell? ⟨b2, 3, none⟩ = some (.slice (some a0) n c0) := g3
              have hbd : wr.drew.cell? (a0.add y) = some (.int .u8 z) := hb
              have hjd2 : RJ w wr.drew b2 b8 (mv s true p (some a0) n c0) (some a0) l qs A k c ff s p B j cb ((part l sz i).take j) := ⟨hj.out.ri.next (Below.refl _ _).drew, hj.out.pc, hj.out.own, hj.out.sz⟩
              have HJD := Lib.hid hjd2
              have y5a : ∀ o, (wr.drew.alloc o).cell? ⟨b8, 5, none⟩ = some (.slice B j cb) := fun o => cell_alloc y5d o
              have y5b : ∀ o, (wr.alloc o).drew.cell? ⟨b8, 5, none⟩ = some (.slice B j cb) := fun o => cell_alloc y5d o
              clear hjd2
              first | go_region_law (first
                | (refine app_reg rfl (.tmp 50) (.tmp 56) rfl (b8 + 1) B j cb _ rfl (HJD.out.own.alloc _) (some ⟨wr.drew.heap.size, 0, none⟩) 1 _ [z] rfl rfl (Row.new wr.drew (bs [z]) _ _) (fun e => by cases e) (j + 1) rfl (by omega) (by have := HJD.out.sz; simp at *; omega) ?_; intro B9 c9 w9 ho9 hg9; obtain ⟨r1, r2⟩ := HJD.out.more HZ8.out.1 HZ8.out.2.1 HG8.out HQ8.out HA8.out ho9 hg9; have t5 := r1.cell 5; simp at t5; have f5 := r1.frozen 5; have HRN := Lib.hid r2; clear r1 r2 ho9 hg9)) | fail
              all_goals
                go_wp2_with fail
                go_roundw
                case measure => simp [intOf]; omega
                case rel => exact ⟨j + 1, B9, c9, by omega, by rw [← HY.out]; go_num, by go_num, by rw [HTK.out]; exact HRN⟩
            · obtain rfl : j = d := by omega
              have hhj : Hid (RJ w wr b2 b8 (mv s true p (some a0) n c0) (some a0) l qs A k c ff s p B j cb (part l sz i)) := by
                have h1 : (part l sz i).take j = part l sz i := List.take_of_length_le (by rw [HPL.out]; omega)
                rw [h1] at hj
                exact hj
              clear hj
              have hor : (decide (j < sz) = false) ∨ (decide (j < sz) = true ∧ decide (x + j < n) = false) := by
                rcases hd1.2.2.2 with h | h
                · exact .inl (decide_eq_false (by omega))
                · by_cases h2 : j < sz
                  · exact .inr ⟨decide_eq_true (by omega), decide_eq_false (by omega)⟩
                  · exact .inl (decide_eq_false (by omega))
              obtain ⟨y, hy⟩ : ∃ y, x + j = y := ⟨_, rfl⟩
              have HY := Lib.hid hy
              have hyx : x < y ∧ y ≤ n := by omega
              have HDN2 : Hid (y = n ↔ i + 1 = cutN l sz) := Lib.hid (by rw [← hy]; exact HDN.out)
              have HXD2 : Hid (y = min ((i + 1) * sz) n) := Lib.hid (by rw [← hy]; exact HXD.out)
              have hd2 : 0 < j := hd1.1
              rw [hy] at hor ⊢
              clear hy hd1
              have hk : k ≤ n := by
                have h1 := congrArg List.length hqs.out
                have h2 := hhj.out.ri.len
                simp at h1
                omega
              have HJQ : Hid (∀ W5 w6 o B9 A9 c9 cb9 f9, f9 = cutF true (cutN l sz) i → RJ w W5 b2 b8 (mv s true p (some a0) n c0) (some a0) l qs A k c f9 s p B9 j cb9 (part l sz i) → w6.ownsRow (b2 + 1) 33 6 (.slice A9 (k + 1) c9) (k + 1) (pf qs ++ pcl ((⟨0, f9, s, 0, p, part l sz i⟩, (B9, j, cb9)) : Pq)) → (W5.alloc o).grownBy w6 (Value.slice A k c).ownBlock →
                  Hid ((qs ++ [((⟨0, f9, s, 0, p, part l sz i⟩, (B9, j, cb9)) : Pq)]).map (·.1) = (List.range (i + 1)).map (pcF true s p l sz)) ∧ Hid (RI w w6 b2 (mv s true p (some a0) n c0) (some a0) l (qs ++ [((⟨0, f9, s, 0, p, part l sz i⟩, (B9, j, cb9)) : Pq)]) A9 (k + 1) c9 ∧ b2 + 1 ≤ w6.heap.size)) := Lib.hid fun W5 w6 o B9 A9 c9 cb9 f9 h1 h2 h3 h4 => by
                refine ⟨Lib.hid ?_, Lib.hid (RJ.done h2 HZ8.out.1 (Nat.le_of_eq HB2.out) (fun a e => by injection e with e; rw [← e]; have := HA0.out; have := HB2.out; omega) h3 h4)⟩
                rw [List.map_append, hqs.out, List.range_succ, List.map_append]
                simp only [List.map_cons, List.map_nil, pcF]
                rw [h1]
              have g3 := hhj.out.ri.bm.cell 3
              simp [mv] at g3
              have hnc : ∀ a b : Nat, decide ((a : Int) < (b : Int)) = decide (a < b) := fun a b => by by_cases e : a < b <;> simp [e]
              have hnj := hnc j sz
              have hny := hnc y n
              clear hnc
              rcases hor with dz1 | ⟨dz1, dz2⟩
              all_goals
                go_upto_region 16 with fail
                by_cases hend : y = n
                · have ze : ((y : Int) == (n : Int)) = true := by simp; omega
                  have hff2 : ff + 1 = cutF true (cutN l sz) i := by
                    have h1 := HCF.out
                    have h2 := HDN2.out.1 hend
                    rw [if_pos h2] at h1
                    exact h1.symm
                  have HFF2 := Lib.hid hff2
                  have y1 := hhj.out.pc.cell 1
                  simp at y1
                  have f1 := hhj.out.pc.frozen 1
                  have wz : ((ff : Int) + 1) % 256 = ((ff + 1 : Nat) : Int) := by have := HFB.out; omega
                  clear hff2
                  go_upto_region 18 with fail
                  have e1 : (ff : Int) + 1 = ((ff + 1 : Nat) : Int) := by omega
                  rw [e1]
                  have h5 := hhj.out.flag HZ8.out.1 HZ8.out.2.1 HG8.out HA8.out (ff + 1)
                  clear e1 y1 f1 wz ze hhj
                  generalize wr.setCell ⟨b8, 1, none⟩ (.int .u8 ((ff + 1 : Nat) : Int)) = w5 at h5 ⊢
                  have p0 := h5.pc.cell 0
                  have p1 := h5.pc.cell 1
                  have p2 := h5.pc.cell 2
                  have p3 := h5.pc.cell 3
                  have p4 := h5.pc.cell 4
                  have p5 := h5.pc.cell 5
                  simp at p0 p1 p2 p3 p4 p5
                  have how : w5.ownsRow (b2 + 1) 33 6 (.slice A k c) k (pf qs) := by
                    have := h5.ri.ps.own
                    rw [h5.ri.len] at this
                    exact this
                  have HOW := Lib.hid how
                  have H5 := Lib.hid h5
                  have hkn : k ≤ 1000000000 := by omega
                  have hb5 : b2 + 1 ≤ w5.heap.size := by have := h5.sz; have := HZ8.out.1; omega
                  clear how h5 g3
                  go_wp2_with (at_builtin; refine pc_app rfl (.tmp 70) (.tmp 72) rfl (b2 + 1) A k c qs rfl (HOW.out.alloc _) w5.heap.size _ ((⟨0, (ff + 1), s, 0, p, part l sz i⟩, (B, j, cb)) : Pq) rfl (Row.new w5 _ _ _) hkn (by simp; omega) ?_; intro A9 c9 w6 ho6 hg6)
                  obtain ⟨q1, q2⟩ := HJQ.out w5 w6 _ B A9 c9 cb (ff + 1) HFF2.out H5.out ho6 hg6
                  clear ho6 hg6 H5 HOW p0 p1 p2 p3 p4 p5 hb5
                  go_roundw
                  case measure => simp [intOf]; omega
                  case rel => exact ⟨i + 1, y, _, A9, k + 1, c9, by first | rfl | go_num, by first | rfl | (rw [hend]; done) | (simp only [hend]; done), hyx.2, HXD2, q1, hin2, HIN2, q2⟩
                · have ze : ((y : Int) == (n : Int)) = false := by simp; omega
                  have hff2 : ff = cutF true (cutN l sz) i := by
                    have h1 := HCF.out
                    have h2 : ¬ (i + 1 = cutN l sz) := fun e => hend (HDN2.out.2 e)
                    rw [if_neg h2] at h1
                    exact h1.symm
                  have HFF2 := Lib.hid hff2
                  clear hff2
                  go_upto_region 18 with fail
                  have h5 := hhj.out
                  clear ze hhj
                  obtain ⟨w5, hw5⟩ : ∃ w5, w5 = wr := ⟨_, rfl⟩
                  rw [← hw5] at h5 ⊢
                  clear hw5
                  have p0 := h5.pc.cell 0
                  have p1 := h5.pc.cell 1
                  have p2 := h5.pc.cell 2
                  have p3 := h5.pc.cell 3
                  have p4 := h5.pc.cell 4
                  have p5 := h5.pc.cell 5
                  simp at p0 p1 p2 p3 p4 p5
                  have how : w5.ownsRow (b2 + 1) 33 6 (.slice A k c) k (pf qs) := by
                    have := h5.ri.ps.own
                    rw [h5.ri.len] at this
                    exact this
                  have HOW := Lib.hid how
                  have H5 := Lib.hid h5
                  have hkn : k ≤ 1000000000 := by omega
                  have hb5 : b2 + 1 ≤ w5.heap.size := by have := h5.sz; have := HZ8.out.1; omega
                  clear how h5 g3
                  go_wp2_with (at_builtin; refine pc_app rfl (.tmp 70) (.tmp 72) rfl (b2 + 1) A k c qs rfl (HOW.out.alloc _) w5.heap.size _ ((⟨0, ff, s, 0, p, part l sz i⟩, (B, j, cb)) : Pq) rfl (Row.new w5 _ _ _) hkn (by simp; omega) ?_; intro A9 c9 w6 ho6 hg6)
                  obtain ⟨q1, q2⟩ := HJQ.out w5 w6 _ B A9 c9 cb ff HFF2.out H5.out ho6 hg6
                  clear ho6 hg6 H5 HOW p0 p1 p2 p3 p4 p5 hb5
                  go_roundw
                  case measure => simp [intOf]; omega
                  case rel => exact ⟨i + 1, y, _, A9, k + 1, c9, by first | rfl | go_num, by first | rfl | (rw [hend]; done) | (simp only [hend]; done), hyx.2, HXD2, q1, hin2, HIN2, q2⟩
      · have hN : cutN l sz ≤ i := by
          have h1 := hx.out
          have h2 := (cutN_iff (l := l) HS.out i)
          rw [HL.out] at h2
          have : ¬ i < cutN l sz := by rw [h2]; omega
          omega
        obtain rfl : i = cutN l sz := by have := hiN.out; omega
        have HW := Lib.hid hw.out.1
        have HQ : Hid (qs.map (·.1) = cutL true s p l sz) := Lib.hid (by rw [hqs.out]; rfl)
        clear hw hqs hx hiN hN
        go_wp2_with fail
        go_ret2
        exact ⟨A, k, c, qs, rfl, HW.out.len, HQ.out, HW.out.ps.lower (by have := HB2.out; omega), HW.out.bel⟩
end Fg
end Go.Proofs.Ytonemhgppfbmjaa
