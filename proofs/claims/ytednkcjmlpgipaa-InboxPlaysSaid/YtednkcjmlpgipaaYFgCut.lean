/-
  frag.Cut, walked.
-/
import Derived.Test.YtednkcjmlpgipaaYP1d
import Derived.Test.YtednkcjmlpgipaaYP1a
import Derived.Deep.RegionHeld3
namespace Go.Proofs.Ytednkcjmlpgipaa
set_option maxRecDepth 4000
open Go.RowKit Go.Maps Go.Shelf
namespace Fg
set_option linter.unusedVariables false
set_option linter.unusedSimpArgs false
attribute [local go_sem] Oper.semAt_some

theorem cut_err (s : Nat) (u : Bool) (p : Nat) (A : Option Addr) (n c : Nat) (sz : Int) (w : World) (hn : n = 0 ∨ sz < 1) :
    Calls Try.prog 68 #[.agg (mv s u p A n c), .int .i64 sz] w fun e w' => e = .returned (.tuple #[.slice none 0 0, .int .i64 2]) ∧ Below w.heap.size w w' := by
  unfold mv
  have HB : Hid (Below w.heap.size w (w.alloc (.cells #[.int .u16 (s : Int), .bool u, .int .u32 (p : Int), .slice A n c] 39))) := Lib.hid ((Below.refl _ _).alloc (Nat.le_refl _) _)
  by_cases h0 : n = 0
  · subst h0
    clear hn
    go_enter Try.func68, Try.ntmps68
    go_wp2_with fail
    go_ret2
    exact ⟨rfl, HB.out⟩
  · have z1 : ((n : Int) == 0) = false := by simpa using h0
    have z2 : decide (sz < 1) = true := by simpa using hn.resolve_left h0
    clear hn h0
    go_enter Try.func68, Try.ntmps68
    go_wp2_with fail
    go_ret2
    exact ⟨rfl, HB.out⟩
/-- Between two rounds. -/
structure CL (w W : World) (hi b2 b6 b7 : Nat) (mc : Array Value) (fl : Nat) (A0 : Option Addr) (l : List Int) (qs : List Pq) (A : Option Addr) (k c : Nat) : Prop where
  bm : Bk W b2 mc 39
  bf : Bk W b6 #[.int .u8 (fl : Int)] 5
  bl : Bk W b7 #[.slice A k c] 66
  ps : Ps hi W (.slice A k c) qs
  len : qs.length = k
  src : Row W A0 (bs l)
  bel : Below w.heap.size w W
  sz : hi ≤ W.heap.size
  srb : ∀ a, A0 = some a → a.block < hi
/-- The frame of a round. -/
def cutFr (s : Nat) (u : Bool) (p : Nat) (a0 : Addr) (n c0 sz b2 : Nat) (v : Value) : Array Value := #[.agg #[.int .u16 (s : Int), .bool u, .int .u32 (p : Int), .slice (some a0) n c0], .int .i64 (sz : Int), .pointer (some ⟨b2, 0, none⟩), undef, .slice none 0 0, .int .i64 0, .pointer (some ⟨b2 + 1, 0, none⟩), .pointer (some ⟨b2 + 2, 0, none⟩), v, .pointer (some ⟨b2, 3, none⟩), .slice (some a0) n c0, .int .i64 (n : Int), .bool false, .bool false, .int .i64 (sz : Int), .bool false, .bool false, .pointer (some ⟨b2, 1, none⟩), .bool u, .pointer (some ⟨b2, 3, none⟩), .slice (some a0) n c0, .int .i64 (sz : Int), .func (.func 112) #[] #[.pointer (some ⟨b2 + 3, 0, none⟩), .pointer (some ⟨b2 + 3 + 1, 0, none⟩)], v, undef, undef, undef, undef, undef, undef, undef, undef, undef, undef, undef, undef, undef, undef, undef, undef, undef, undef, undef, undef, undef, undef, undef, undef, undef, undef, undef, undef, undef]
/-- Ahead of a round, and behind each. -/
def CutI (w : World) (s : Nat) (u : Bool) (p : Nat) (a0 : Addr) (n c0 sz b2 fl : Nat) (l : List Int) (pre : List Nat) (W : World) : Prop :=
  ∃ qs A k c, CL w W (b2 + 5) b2 (b2 + 1) (b2 + 2) (mv s u p (some a0) n c0) fl (some a0) l qs A k c ∧ qs.map (·.1) = (List.range pre.length).map (pre1 u s p l sz) ∧ ∀ i, i < pre.length → i * sz < n
theorem CL.calm {w W W' : World} {hi b2 b6 b7 : Nat} {mc : Array Value} {fl : Nat} {A0 : Option Addr} {l : List Int} {qs : List Pq} {A : Option Addr} {k c B : Nat} (h : CL w W hi b2 b6 b7 mc fl A0 l qs A k c) (hB : w.heap.size ≤ B) (hc : Calm B W W') : CL w W' hi b2 b6 b7 mc fl A0 l qs A k c :=
  ⟨hc.2 b2 _ h.bm rfl, hc.2 b6 _ h.bf rfl, hc.2 b7 _ h.bl rfl, h.ps.calm hc, h.len, fun i v hv => by
    obtain ⟨a, e, hcell⟩ := h.src i v hv
    refine ⟨a, e, ?_⟩
    have hlt := block_lt_of_cell hcell
    obtain ⟨o, ho⟩ : ∃ o, W.heap[(a.add i).block]? = some o := ⟨_, Array.getElem?_eq_getElem hlt⟩
    have hoc : o.isCells = true := by
      unfold World.cell? at hcell
      rw [ho] at hcell
      cases o <;> first | rfl | (simp at hcell)
    rw [World.cell?_of_block (w := W) (w' := W') (a := a.add i) ((hc.2 _ o ho hoc).trans ho.symm)]
    exact hcell, h.bel.trans (hc.1.mono hB), Nat.le_trans h.sz hc.1.size, h.srb⟩
theorem CutI.calm {w W W' : World} {s : Nat} {u : Bool} {p : Nat} {a0 : Addr} {n c0 sz b2 fl : Nat} {l : List Int} {pre : List Nat} {B : Nat} (h : CutI w s u p a0 n c0 sz b2 fl l pre W) (hB : w.heap.size ≤ B) (hc : Calm B W W') : CutI w s u p a0 n c0 sz b2 fl l pre W' := by
  obtain ⟨qs, A, k, c, h1, h2⟩ := h
  exact ⟨qs, A, k, c, h1.calm hB hc, h2⟩
theorem keeps_below {W W' : World} (h : Below W.heap.size W W') : KeepsOthers W W' := ⟨h.size, fun k o hk _ => (h.block k (Array.getElem?_eq_some_iff.1 hk).1).trans hk⟩
theorem row_is_cells {W : World} {base s : Nat} {e : TypeId} {v : Value} {n : Nat} {xs : List Value} (hr : W.ownsRow base e s v n xs) : ∀ (j : Nat) (o : Obj), v.ownBlock = some j → W.heap[j]? = some o → o.isCells = true := fun j o hj ho => by
  rcases hr.2 with ⟨rfl, _⟩ | ⟨g, cap, cur, rfl, _, hg, _⟩
  · simp [Value.ownBlock] at hj
  · simp only [Value.ownBlock, Option.some.injEq] at hj
    subst hj
    rw [hg] at ho
    injection ho with ho
    rw [← ho]
    rfl
/-- An append of one piece, as a step of a region that draws its order. -/
theorem pc_reg {w : World} {ops : Array Oper} {o : Oper} {a : Act} {K : Act → World → Prop} {Q : Exit → Act → World → Prop} {E : Prop} (hgd : o.guard = none) (s x : Operand)
    (ho : o.op = .call { callee := .builtin .append, args := #[s, x], argTypes := #[66, 66] }) (B : Nat) (A0 : Option Addr) (n c0 : Nat) (qs : List Pq) (hs : a.eval s = .slice A0 n c0) (hown : w.ownsRow B 33 6 (.slice A0 n c0) n (pf qs))
    (b c : Nat) (q : Pq) (hx : a.eval x = .slice (some ⟨b, 0, none⟩) 1 c) (hr : Row w (some ⟨b, 0, none⟩) (pcl q)) (hb : n ≤ 1000000000) (hbase : B ≤ w.heap.size)
    (h : ∀ A' c' w', w'.ownsRow B 33 6 (.slice A' (n + 1) c') (n + 1) (pf qs ++ pcl q) → w.grownBy w' (Value.slice A0 n c0).ownBlock → K (a.put o.dst (.slice A' (n + 1) c')) w') :
    if Region.wanted o (yielded ops a.tmps) = true then Oper.wp Try.prog o a w K Q else E := by
  obtain ⟨i0, hi0, hz0, hz1, hz2⟩ := info_parts infoP
  rw [if_pos (by simp [Region.wanted, hgd])]
  refine wp_append_own w s x 66 ho B 33 i0 _ 6 40 Try.underlying66 hi0 hz0 hz1 hz2 rfl (by omega) _ n (pf qs) hs hown ⟨b, 0, none⟩ 1 c (pcl q) hx rfl (bcells hr) (fun u hu => pf_one [q] u (by simpa [pf] using hu)) (by unfold maxLen; omega) (by omega) hbase ?_
  intro v' w2 ho2 hg2 _
  obtain ⟨A', c', rfl⟩ := own_form ho2
  exact h A' c' w2 ho2 hg2
/-- What is loaded in a round. -/
def CS (b2 fl s p : Nat) (W : World) : Prop := W.cell? ⟨b2 + 1, 0, none⟩ = some (.int .u8 (fl : Int)) ∧ W.cell? ⟨b2, 0, none⟩ = some (.int .u16 (s : Int)) ∧ W.cell? ⟨b2, 2, none⟩ = some (.int .u32 (p : Int))
/-- What a round leaves. -/
theorem cut_round {w W w5 w6 : World} {hi b2 b6 b7 lo : Nat} {mc : Array Value} {fl : Nat} {A0 : Option Addr} {l : List Int} {qs : List Pq} {A : Option Addr} {k c : Nat} (h : CL w W hi b2 b6 b7 mc fl A0 l qs A k c) (hlo : b2 < lo ∧ b6 < lo ∧ b7 < lo) (hlh : lo ≤ hi) (hwb : w.heap.size ≤ b7) (hne : b2 ≠ b7 ∧ b6 ≠ b7)
    {q : Pq} {A' : Option Addr} {d c' : Nat} (hq : q.2 = (A', d, c')) (ho : Own W.drew w5 A' d c' q.1.d) {A9 : Option Addr} {c9 : Nat} {o : Obj} (h6 : w6.ownsRow hi 33 6 (.slice A9 (k + 1) c9) (k + 1) (pf qs ++ pcl q)) (hg : (w5.alloc o).grownBy w6 (Value.slice A k c).ownBlock) :
    Bk w6 b7 #[.slice A k c] 66 ∧ KeepsOthers W (w6.setCell ⟨b7, 0, none⟩ (.slice A9 (k + 1) c9)) ∧ Kept lo hi W (w6.setCell ⟨b7, 0, none⟩ (.slice A9 (k + 1) c9)) ∧
      CL w (w6.setCell ⟨b7, 0, none⟩ (.slice A9 (k + 1) c9)) hi b2 b6 b7 mc fl A0 l (qs ++ [q]) A9 (k + 1) c9 := by
  have hb5 : Below W.heap.size W w5 := ⟨ho.2.os, ho.2.tape, ho.2.output, ho.2.size, ho.2.block⟩
  have hb5a : Below W.heap.size W (w5.alloc o) := hb5.alloc hb5.size o
  have hps5 := h.ps.next hb5a
  have hl := h.len
  subst hl
  have h7 : Bk w6 b7 #[.slice A qs.length c] 66 := (h.bl.next hb5a).kept hg (fun e => own_off hps5.own (h.bl.next hb5a) (by decide) e.symm)
  have hvq : Vq hi (w5.alloc o) q := by
    refine ⟨by rw [hq]; exact ho.len, ?_⟩
    rw [hq]
    exact own_base (ho.1.alloc o) h.sz
  have hps6 := hps5.more hvq h6 hg
  have hlt : ∀ g, (Value.slice A qs.length c).ownBlock = some g → hi ≤ g := fun g hg => (hps5.own.lt g hg).1
  have hw6 : Below w.heap.size w w6 := (h.bel.trans (hb5a.mono h.bel.size)).grown hg (by have := h.bel.size; have := hb5a.size; omega) (fun g e => by have := hlt g e; have := h.bm.lt; omega)
  have hsz : W.heap.size ≤ w6.heap.size := Nat.le_trans hb5a.size hg.size
  have hb2lt := h.bm.lt
  have hb6lt := h.bf.lt
  refine ⟨h7, ((keeps_below hb5a).trans (KeepsOthers.of_grownBy hg (row_is_cells hps5.own))).trans (KeepsOthers.setCell _ _ _), ?_, ?_, ?_, ?_, hps6.set (by omega) 0 _, by simp, ?_, hw6.setCell (p := ⟨b7, 0, none⟩) hwb _, by simp [World.setCell]; have := h.sz; omega, h.srb⟩
  · exact ((Kept.of_below hb5a h.sz).trans (Kept.of_grown hg (by have := h.sz; have := hb5a.size; omega) (fun g e => .inr (hlt g e)))).trans (Kept.of_set _ (.inl hlo.2.2))
  · exact ((h.bm.next hb5a).kept hg (fun e => by have := hlt b2 e.symm; omega)).other hne.1 0 _
  · exact ((h.bf.next hb5a).kept hg (fun e => by have := hlt b6 e.symm; omega)).other hne.2 0 _
  · have := h7.set 0 (.slice A9 (qs.length + 1) c9)
    simpa using this
  · have hs6 : Row w6 A0 (bs l) := fun i v hv => by
      obtain ⟨a, e, hc⟩ := (h.src.below hb5a) i v hv
      refine ⟨a, e, ?_⟩
      by_cases hbk : (Value.slice A qs.length c).ownBlock = some (a.add i).block
      · exfalso
        rcases hps5.own.2 with ⟨e1, _⟩ | ⟨g, cap, cur, e1, _, hgg, _⟩
        · rw [e1] at hbk
          cases hbk
        · rw [e1] at hbk
          simp only [Value.ownBlock, Option.some.injEq] at hbk
          have hi2 := (h.ps.own.lt g (by rw [e1]; rfl)).1
          have hi3 := h.srb a e
          have hi4 : (a.add i).block = a.block := by unfold Addr.add; split <;> rfl
          omega
      · rw [World.cell?_of_block (w := w5.alloc o) (w' := w6) (a := a.add i) (hg.block _ (block_lt_of_cell hc) (fun e => hbk e.symm))]
        exact hc
    exact row_off h7 (fun v hv n e => by
      subst e
      simp at hv) hs6 (fun k _ hk => Below.heap_setCell _ _ _ _ hk)
set_option maxRecDepth 100000 in
set_option maxHeartbeats 4000000 in
theorem cut_any (s : Nat) (u : Bool) (p : Nat) (A0 : Option Addr) (n c0 : Nat) (l : List Int) (sz : Nat) (w : World) (hl : l.length = n) (hn : n ≤ 1000000000) (hn0 : 0 < n) (hc : n ≤ c0) (hs : 1 ≤ sz) (hs2 : sz < 9223372036854775808) (hr : Row w A0 (bs l)) :
    Calls Try.prog 68 #[.agg (mv s u p A0 n c0), .int .i64 (sz : Int)] w fun e w' => ∃ A N c qs, e = .returned (.tuple #[.slice A N c, .int .i64 0]) ∧ qs.length = N ∧ qs.map (·.1) = cutL u s p l sz ∧ Ps w.heap.size w' (.slice A N c) qs ∧ Below w.heap.size w w' := by
  obtain ⟨a0, rfl, hsc⟩ := Row.byte hr (k := 0) (by omega)
  unfold mv
  have z1 : ((n : Int) == 0) = false := by simp; omega
  have z2 : decide ((sz : Int) < 1) = false := by simp; omega
  have HL := Lib.hid hl
  have HR := Lib.hid hr
  have HS := Lib.hid hs
  have HS2 := Lib.hid hs2
  clear hl hr hs hs2
  refine calls_marks Try.func68 rfl ?_
  simp only [Try.ntmps68, List.size_toArray, List.length_cons, List.length_nil, Nat.reduceAdd, Nat.reduceSub, Array.replicate_succ, Array.replicate_zero, List.push_toArray, List.append_toArray, List.nil_append, List.cons_append]
  go_upto_region 4 with fail
  have HM1 : Hid (Bk ((w.alloc (.cells #[.int .u16 (s : Int), .bool u, .int .u32 (p : Int), .slice (some a0) n c0] 39)).alloc (.cells #[.int .u8 0] 5)) w.heap.size (mv s u p (some a0) n c0) 39) := Lib.hid ((Bk.new _ _ _).alloc _)
  have HF1 : Hid (Bk ((w.alloc (.cells #[.int .u16 (s : Int), .bool u, .int .u32 (p : Int), .slice (some a0) n c0] 39)).alloc (.cells #[.int .u8 0] 5)) (w.heap.size + 1) #[.int .u8 0] 5) := Lib.hid (by
    have := Bk.new (w.alloc (.cells #[.int .u16 (s : Int), .bool u, .int .u32 (p : Int), .slice (some a0) n c0] 39)) #[.int .u8 0] 5
    rw [show (w.alloc (.cells #[.int .u16 (s : Int), .bool u, .int .u32 (p : Int), .slice (some a0) n c0] 39)).heap.size = w.heap.size + 1 by simp] at this
    exact this)
  have HB1 : Hid (Below w.heap.size w ((w.alloc (.cells #[.int .u16 (s : Int), .bool u, .int .u32 (p : Int), .slice (some a0) n c0] 39)).alloc (.cells #[.int .u8 0] 5))) := Lib.hid (two_new _ _ _)
  have HZ1 : Hid (((w.alloc (.cells #[.int .u16 (s : Int), .bool u, .int .u32 (p : Int), .slice (some a0) n c0] 39)).alloc (.cells #[.int .u8 0] 5)).heap.size = w.heap.size + 2) := Lib.hid (by simp)
  generalize ((w.alloc (.cells #[.int .u16 (s : Int), .bool u, .int .u32 (p : Int), .slice (some a0) n c0] 39)).alloc (.cells #[.int .u8 0] 5)) = w1 at HM1 HF1 HB1 HZ1 ⊢
  obtain ⟨b2, hb2⟩ : ∃ b2, w.heap.size = b2 := ⟨_, rfl⟩
  have HB2 := Lib.hid hb2
  rw [hb2] at HM1 HF1 ⊢
  clear hb2
  obtain ⟨fl, hfl⟩ : ∃ fl, fb u = fl := ⟨_, rfl⟩
  have HFL := Lib.hid hfl
  clear hfl z1 z2
  have g1 := HM1.out.cell 1
  simp [mv] at g1
  have f6 := HF1.out.frozen 0
  have g6 := HF1.out.cell 0
  simp at g6
  have HX : Hid (∀ w2, (u = true → w2 = w1.setCell ⟨b2 + 1, 0, none⟩ (.int .u8 4)) → (u = false → w2 = w1) → Bk w2 b2 (mv s u p (some a0) n c0) 39 ∧ Bk w2 (b2 + 1) #[.int .u8 (fl : Int)] 5 ∧ Below w.heap.size w w2 ∧ w2.heap.size = w.heap.size + 2) := Lib.hid fun w2 h1 h2 => by
    have h3 := HFL.out
    cases u with
    | true =>
      obtain rfl := h1 rfl
      have := HF1.out.set 0 (.int .u8 4)
      rw [← h3]
      exact ⟨HM1.out.other (by omega) 0 _, this, HB1.out.setCell (p := ⟨b2 + 1, 0, none⟩) (by have := HB2.out; simp; omega) _, by simp [World.setCell]; exact HZ1.out⟩
    | false =>
      obtain rfl := h2 rfl
      rw [← h3]
      exact ⟨HM1.out, HF1.out, HB1.out, HZ1.out⟩
  cases u with
  | false =>
    go_upto_region 6 with fail
    have H2 := Lib.hid (HX.out (w1) (fun h => by cases h) (fun _ => rfl))
    clear HX HM1 HF1 HB1 HZ1 g1 f6 g6
    generalize w1 = w2 at H2 ⊢
    go_upto_region 7 with fail
    have HM3 : Hid (Bk (w2.alloc (.cells #[.slice none 0 0] 66)) b2 (mv s false p (some a0) n c0) 39) := Lib.hid (H2.out.1.alloc _)
    have HF3 : Hid (Bk (w2.alloc (.cells #[.slice none 0 0] 66)) (b2 + 1) #[.int .u8 (fl : Int)] 5) := Lib.hid (H2.out.2.1.alloc _)
    have HL3 : Hid (Bk (w2.alloc (.cells #[.slice none 0 0] 66)) (b2 + 2) #[.slice none 0 0] 66) := Lib.hid (by
      have := Bk.new w2 #[.slice none 0 0] 66
      rw [H2.out.2.2.2, HB2.out] at this
      exact this)
    have HB3 : Hid (Below w.heap.size w (w2.alloc (.cells #[.slice none 0 0] 66))) := Lib.hid (H2.out.2.2.1.alloc (by have := H2.out.2.2.2; omega) _)
    have HZ3 : Hid ((w2.alloc (.cells #[.slice none 0 0] 66)).heap.size = b2 + 3) := Lib.hid (by have := H2.out.2.2.2; have := HB2.out; simp; omega)
    have hsz2 : w2.heap.size = b2 + 2 := by have := H2.out.2.2.2; have := HB2.out; omega
    rw [hsz2]
    clear H2 hsz2
    generalize w2.alloc (.cells #[.slice none 0 0] 66) = w3 at HM3 HF3 HL3 HB3 HZ3 ⊢
    have g3 := HM3.out.cell 3
    simp [mv] at g3
    have CC := Lib.hid (chunk_any (some a0) n c0 sz w3 HS.out)
    rw [HZ3.out] at CC
    go_wp2_with (go_at_call 97; (with_reducible refine CC.out.mono ?_); rintro e w4 ⟨rfl, h4⟩)
    have HM4 : Hid (Bk w4 b2 (mv s false p (some a0) n c0) 39) := Lib.hid (HM3.out.next (HZ3.out ▸ h4.2.2.2))
    have HF4 : Hid (Bk w4 (b2 + 1) #[.int .u8 (fl : Int)] 5) := Lib.hid (HF3.out.next (HZ3.out ▸ h4.2.2.2))
    have HL4 : Hid (Bk w4 (b2 + 2) #[.slice none 0 0] 66) := Lib.hid (HL3.out.next (HZ3.out ▸ h4.2.2.2))
    have HB4 : Hid (Below w.heap.size w w4) := Lib.hid (bnext HB3.out (HZ3.out ▸ h4.2.2.2))
    have hz4 : w4.heap.size = b2 + 5 := by have := h4.2.2.1; omega
    have HSRB : Hid (∀ a, some a0 = some a → a.block < b2 + 5) := Lib.hid fun a e => by
      injection e with e
      have h1 := block_lt_of_cell hsc
      have h2 : (a0.add 0).block = a0.block := by unfold Addr.add; split <;> rfl
      have := HB2.out
      rw [← e]
      omega
    have HI0 : Hid (CutI w s false p a0 n c0 sz b2 fl l [] w4) := Lib.hid ⟨[], none, 0, 0, ⟨HM4.out, HF4.out, HL4.out, ⟨World.ownsRow_nil _ _ _ _, fun q hq => by cases hq⟩, rfl, HR.out.below HB4.out, HB4.out, by omega, HSRB.out⟩, rfl, fun i hi => by simp at hi⟩
    have hws : w.heap.size ≤ w4.heap.size := HB4.out.size
    have hseq := chunk_seq a0 n c0 sz (b2 + 3) (b2 + 3 + 1) (b2 + 3) w4 hn HS.out HS2.out hc ⟨h4.1, h4.2.1⟩ ⟨Nat.le_refl _, by omega⟩ ⟨by omega, by omega⟩
    have HSQ := Lib.hid hseq
    clear hseq h4 HM3 HF3 HL3 HB3 HZ3 HM4 HF4 HL4 g3 CC
    refine (wpIn_wide (n := 9)).1 ?_
    refine range_wpIn (gf := 112) (lb := #[.pointer (some ⟨b2 + 3, 0, none⟩), .pointer (some ⟨b2 + 3 + 1, 0, none⟩)]) rfl (enters_of Try.func112 (by kernel_rfl) rfl) HSQ.out (Nat.le_refl _) (fun _ => rfl)
      (fun pre W => CutI w s false p a0 n c0 sz b2 fl l pre W) (fun c pre W => False) (fun pre A B h hc => h.calm hws hc) (fun c pre A B h hc => h) HI0.out
      (fun pre x a W => CutI w s false p a0 n c0 sz b2 fl l pre W ∧ x = pre.length * sz ∧ x < n ∧ a = { tmps := cutFr s false p a0 n c0 sz b2 (.slice (some (a0.add x)) (min sz (n - x)) (min sz (n - x))), defers := [] })
      (fun pre x a₁ A B ⟨h1, h2⟩ hc => ⟨h1.calm hws hc, h2⟩) ?assign ?body ?done ?stop
    case assign =>
      intro y pre x W K hi hv hK
      have hla := hK { tmps := cutFr s false p a0 n c0 sz b2 (.slice (some (a0.add x)) (min sz (n - x)) (min sz (n - x))), defers := [] } W (Below.refl _ _) ⟨hi, hv.1, hv.2, rfl⟩
      have HLA := Lib.hid hla
      clear hi hv hK hla
      simp only [cenc]
      gi_wp2
      exact HLA.out
    case body =>
      rintro y pre x a₁ W hsize ⟨⟨qs, A, k, c, hcl, hqs, hpre⟩, hx, hxn, rfl⟩
      have HC := Lib.hid hcl
      obtain ⟨d, hd⟩ : ∃ d, min sz (n - x) = d := ⟨_, rfl⟩
      have hpl : (part l sz pre.length).length = d := by rw [part_len, ← hx, HL.out, hd]
      have hk : k ≤ 1000000000 := by
        have h1 := hcl.len
        have h2 : qs.length = pre.length := by have := congrArg List.length hqs; simpa using this
        rcases Nat.eq_zero_or_pos pre.length with h3 | h3
        · omega
        · have h4 := hpre (pre.length - 1) (by omega)
          have h5 : pre.length - 1 ≤ (pre.length - 1) * sz := Nat.le_mul_of_pos_right _ (by have := HS.out; omega)
          omega
      have CCL := Lib.hid (clone_big (some (a0.add x)) d d (part l sz pre.length) W.drew hpl (by omega) (by
        have h1 := Row.cut hcl.src (c := c0) (lo := x) (hi := x + d) (by omega)
        unfold cutA at h1
        rw [if_neg (by have := HS.out; omega)] at h1
        have h2 : ((bs l).take (x + d)).drop x = bs (part l sz pre.length) := by
          unfold part bs
          rw [← List.map_take, ← List.map_drop, List.drop_take, ← hx, show x + d - x = d by omega]
          congr 1
          rw [← hd]
          apply List.ext_getElem?
          intro i
          rw [List.getElem?_take, List.getElem?_take]
          have hll := HL.out
          by_cases h3 : i < min sz (n - x)
          · rw [if_pos h3, if_pos (by omega)]
          · rw [if_neg h3]
            split
            · symm
              rw [List.getElem?_eq_none]
              simp
              omega
            · rfl
        rw [h2] at h1
        exact h1))
      have HOW : Hid (∀ W', Below W.heap.size W W' → W'.ownsRow (b2 + 5) 33 6 (.slice A k c) k (pf qs)) := Lib.hid fun W' hb => by
        have := (hcl.ps.next hb).own
        rw [hcl.len] at this
        exact this
      have HSK : Hid (∀ W', Below W.heap.size W W' → CS b2 fl s p W') := Lib.hid fun W' hb => ⟨((hcl.bf.next hb).cell 0).trans rfl, ((hcl.bm.next hb).cell 0).trans rfl, ((hcl.bm.next hb).cell 2).trans rfl⟩
      have HSK6 : Hid (∀ w6 w5 o, Below W.heap.size W w5 → (w5.alloc o).grownBy w6 (Value.slice A k c).ownBlock → CS b2 fl s p w6) := Lib.hid fun w6 w5 o hb hg => by
        have hb5a : Below W.heap.size W (w5.alloc o) := hb.alloc hb.size o
        have hps := hcl.ps.next hb5a
        have hlt : ∀ g, (Value.slice A k c).ownBlock = some g → b2 + 5 ≤ g := fun g hg => (hps.own.lt g hg).1
        have m := (hcl.bm.next hb5a).kept hg (fun e => by have := hlt _ e.symm; omega)
        have f := (hcl.bf.next hb5a).kept hg (fun e => by have := hlt _ e.symm; omega)
        exact ⟨(f.cell 0).trans rfl, (m.cell 0).trans rfl, (m.cell 2).trans rfl⟩
      have HFIN : Hid (∀ w7 A' c' A9 c9, CL w w7 (b2 + 5) b2 (b2 + 1) (b2 + 2) (mv s false p (some a0) n c0) fl (some a0) l (qs ++ [(⟨0, fl, s, 0, p, part l sz pre.length⟩, (A', d, c'))]) A9 (k + 1) c9 → CutI w s false p a0 n c0 sz b2 fl l (pre ++ [x]) w7) := Lib.hid fun w7 A' c' A9 c9 h => ⟨_, _, _, _, h, by
        rw [List.map_append, hqs, List.length_append, List.length_singleton, List.range_succ, List.map_append]
        simp only [List.map_cons, List.map_nil, pre1]
        rw [HFL.out], fun i hi => by
        rw [List.length_append, List.length_singleton] at hi
        by_cases e : i = pre.length
        · rw [e, ← hx]; exact hxn
        · exact hpre i (by omega)⟩
      have hS0 : CS b2 fl s p W.drew := HSK.out _ (Below.refl _ _).drew
      have h7 := HC.out.bl.cell 0
      simp at h7
      have h7d : W.drew.cell? ⟨b2 + 2, 0, none⟩ = some (.slice A k c) := h7
      have HKL := Lib.hid hcl.len
      clear hcl hqs hpre hpl h7 hx
      unfold cutFr
      rw [hd]
      clear hd
      refine wpIn_block ?_
      refine region_in (S := CS b2 fl s p) (by kernel_rfl) (by kernel_rfl) (fun ⟨a, w, h⟩ => h) hS0 (fun hHeld => ?_)
      clear hS0
      refine wpAnyH_take (i := 1) (v := ?_) rfl (by kernel_rfl) (by kernel_rfl) (by kernel_rfl) (fun _ _ _ h => h) (Or.inl ⟨by rfl, ?_⟩) (by assumption) ?_
      rotate_left 1
      · (intro w9 hSw; obtain ⟨hS1, hS2, hS3⟩ := hSw; go_simp; try (with_reducible rfl))
      try simp only [Act.put, List.setIfInBounds_toArray, List.set_cons_zero, List.set_cons_succ, List.getElem_toArray, List.getElem_cons_zero, List.getElem_cons_succ]
      refine wpAnyH_take (i := 2) (v := ?_) rfl (by kernel_rfl) (by kernel_rfl) (by kernel_rfl) (fun _ _ _ h => h) (Or.inl ⟨by rfl, ?_⟩) (by assumption) ?_
      rotate_left 1
      · (intro w9 hSw; obtain ⟨hS1, hS2, hS3⟩ := hSw; go_simp; try (with_reducible rfl))
      try simp only [Act.put, List.setIfInBounds_toArray, List.set_cons_zero, List.set_cons_succ, List.getElem_toArray, List.getElem_cons_zero, List.getElem_cons_succ]
      refine wpAnyH_take (i := 3) (v := ?_) rfl (by kernel_rfl) (by kernel_rfl) (by kernel_rfl) (fun _ _ _ h => h) (Or.inl ⟨by rfl, ?_⟩) (by assumption) ?_
      rotate_left 1
      · (intro w9 hSw; obtain ⟨hS1, hS2, hS3⟩ := hSw; go_simp; try (with_reducible rfl))
      try simp only [Act.put, List.setIfInBounds_toArray, List.set_cons_zero, List.set_cons_succ, List.getElem_toArray, List.getElem_cons_zero, List.getElem_cons_succ]
      refine wpAnyH_take (i := 4) (v := ?_) rfl (by kernel_rfl) (by kernel_rfl) (by kernel_rfl) (fun _ _ _ h => h) (Or.inl ⟨by rfl, ?_⟩) (by assumption) ?_
      rotate_left 1
      · (intro w9 hSw; obtain ⟨hS1, hS2, hS3⟩ := hSw; go_simp; try (with_reducible rfl))
      try simp only [Act.put, List.setIfInBounds_toArray, List.set_cons_zero, List.set_cons_succ, List.getElem_toArray, List.getElem_cons_zero, List.getElem_cons_succ]
      refine wpAnyH_take (i := 5) (v := ?_) rfl (by kernel_rfl) (by kernel_rfl) (by kernel_rfl) (fun _ _ _ h => h) (Or.inl ⟨by rfl, ?_⟩) (by assumption) ?_
      rotate_left 1
      · (intro w9 hSw; obtain ⟨hS1, hS2, hS3⟩ := hSw; go_simp; try (with_reducible rfl))
      try simp only [Act.put, List.setIfInBounds_toArray, List.set_cons_zero, List.set_cons_succ, List.getElem_toArray, List.getElem_cons_zero, List.getElem_cons_succ]
      refine wpAnyH_take (i := 6) (v := ?_) rfl (by kernel_rfl) (by kernel_rfl) (by kernel_rfl) (fun _ _ _ h => h) (Or.inl ⟨by rfl, ?_⟩) (by assumption) ?_
      rotate_left 1
      · (intro w9 hSw; obtain ⟨hS1, hS2, hS3⟩ := hSw; go_simp; try (with_reducible rfl))
      try simp only [Act.put, List.setIfInBounds_toArray, List.set_cons_zero, List.set_cons_succ, List.getElem_toArray, List.getElem_cons_zero, List.getElem_cons_succ]
      refine wpAnyH_ready (rs := [0, 7]) (by kernel_rfl) (by simp) ?_
      refine AllReadyH.cons rfl (fun K hK => ?_) (AllReadyH.cons rfl (fun K hK => ?_) AllReadyH.nil)
      · go_simp
        refine hK.out _ _ hHeld (fun hHeld => ?_)
        clear hK K
        try simp only [Act.put, List.setIfInBounds_toArray, List.set_cons_zero, List.set_cons_succ, List.getElem_toArray, List.getElem_cons_zero, List.getElem_cons_succ]
        refine wpAnyH_ready (rs := [7]) (by kernel_rfl) (by simp) ?_
        refine AllReadyH.cons rfl (fun K hK => ?_) AllReadyH.nil
        go_simp
        go_at_call 83
        (with_reducible refine CCL.out.mono ?_)
        rintro e w5 ⟨A', c', rfl, ho5⟩
        have hb5 : Below W.heap.size W w5 := ⟨ho5.2.os, ho5.2.tape, ho5.2.output, ho5.2.size, ho5.2.block⟩
        have h7a := (HC.out.bl.next hb5).cell 0
        simp at h7a
        have h7b : ∀ o, (w5.alloc o).cell? ⟨b2 + 2, 0, none⟩ = some (.slice A k c) := fun o => cell_alloc h7a o
        have hs5 : CS b2 fl s p w5 := HSK.out w5 hb5
        have hs5a : ∀ o, CS b2 fl s p (w5.alloc o) := fun o => HSK.out _ (hb5.alloc hb5.size o)
        refine hK.out _ _ hs5 (fun hHeld => ?_)
        clear hK K
        try simp only [Act.put, List.setIfInBounds_toArray, List.set_cons_zero, List.set_cons_succ, List.getElem_toArray, List.getElem_cons_zero, List.getElem_cons_succ]
        refine wpAnyH_take (i := 8) (v := ?_) rfl (by kernel_rfl) (by kernel_rfl) (by kernel_rfl) (fun _ _ _ h => h) (Or.inl ⟨by rfl, ?_⟩) (by assumption) ?_
        rotate_left 1
        · (intro w9 hSw; obtain ⟨hS1, hS2, hS3⟩ := hSw; go_simp; try (with_reducible rfl))
        try simp only [Act.put, List.setIfInBounds_toArray, List.set_cons_zero, List.set_cons_succ, List.getElem_toArray, List.getElem_cons_zero, List.getElem_cons_succ]
        refine wpAnyH_ready (rs := [9]) (by kernel_rfl) (by simp) ?_
        refine AllReadyH.cons rfl (fun K hK => ?_) AllReadyH.nil
        go_simp
        refine hK.out _ _ (hs5a _) (fun hHeld => ?_)
        clear hK K
        try simp only [Act.put, List.setIfInBounds_toArray, List.set_cons_zero, List.set_cons_succ, List.getElem_toArray, List.getElem_cons_zero, List.getElem_cons_succ]
        refine wpAnyH_ready (rs := [10]) (by kernel_rfl) (by simp) ?_
        refine AllReadyH.cons rfl (fun K hK => ?_) AllReadyH.nil
        refine pc_reg rfl (.tmp 24) (.tmp 33) rfl (b2 + 5) A k c qs rfl (HOW.out _ (hb5.alloc hb5.size _)) w5.heap.size 1 (⟨0, fl, s, 0, p, part l sz pre.length⟩, (A', d, c')) rfl (Row.new w5 _ _ _) (by omega) (by have := hb5.size; have := HC.out.sz; simp; omega) ?_
        intro A9 c9 w6 ho6 hg6
        obtain ⟨r1, r2, r3, r4⟩ := cut_round (lo := b2 + 3) HC.out ⟨by omega, by omega, by omega⟩ (by omega) (by have := HB2.out; omega) ⟨by omega, by omega⟩ (q := (⟨0, fl, s, 0, p, part l sz pre.length⟩, (A', d, c'))) rfl ho5 ho6 hg6
        have y7 := r1.cell 0
        have f7 := r1.frozen 0
        simp at y7
        have hs6 : CS b2 fl s p w6 := HSK6.out w6 w5 _ hb5 hg6
        refine hK.out _ _ hs6 (fun hHeld => ?_)
        clear hK K
        try simp only [Act.put, List.setIfInBounds_toArray, List.set_cons_zero, List.set_cons_succ, List.getElem_toArray, List.getElem_cons_zero, List.getElem_cons_succ]
        refine wpAnyH_ready (rs := [11]) (by kernel_rfl) (by simp) ?_
        refine AllReadyH.cons rfl (fun K hK => ?_) AllReadyH.nil
        go_simp
        have hs7 : CS b2 fl s p (w6.setCell ⟨b2 + 2, 0, none⟩ (.slice A9 (k + 1) c9)) := ⟨(r4.bf.cell 0).trans rfl, (r4.bm.cell 0).trans rfl, (r4.bm.cell 2).trans rfl⟩
        refine hK.out _ _ hs7 (fun hHeld => ?_)
        clear hK K
        try simp only [Act.put, List.setIfInBounds_toArray, List.set_cons_zero, List.set_cons_succ, List.getElem_toArray, List.getElem_cons_zero, List.getElem_cons_succ]
        refine wpAnyH_done (by kernel_rfl) ?_ _
        exact ⟨r2.from _, (by rw [hz4]; exact r3), HFIN.out _ _ _ _ _ r4⟩
      · go_simp
        go_at_call 83
        (with_reducible refine CCL.out.mono ?_)
        rintro e w5 ⟨A', c', rfl, ho5⟩
        have hb5 : Below W.heap.size W w5 := ⟨ho5.2.os, ho5.2.tape, ho5.2.output, ho5.2.size, ho5.2.block⟩
        have h7a := (HC.out.bl.next hb5).cell 0
        simp at h7a
        have h7b : ∀ o, (w5.alloc o).cell? ⟨b2 + 2, 0, none⟩ = some (.slice A k c) := fun o => cell_alloc h7a o
        have hs5 : CS b2 fl s p w5 := HSK.out w5 hb5
        have hs5a : ∀ o, CS b2 fl s p (w5.alloc o) := fun o => HSK.out _ (hb5.alloc hb5.size o)
        refine hK.out _ _ hs5 (fun hHeld => ?_)
        clear hK K
        try simp only [Act.put, List.setIfInBounds_toArray, List.set_cons_zero, List.set_cons_succ, List.getElem_toArray, List.getElem_cons_zero, List.getElem_cons_succ]
        refine wpAnyH_take (i := 8) (v := ?_) rfl (by kernel_rfl) (by kernel_rfl) (by kernel_rfl) (fun _ _ _ h => h) (Or.inl ⟨by rfl, ?_⟩) (by assumption) ?_
        rotate_left 1
        · (intro w9 hSw; obtain ⟨hS1, hS2, hS3⟩ := hSw; go_simp; try (with_reducible rfl))
        try simp only [Act.put, List.setIfInBounds_toArray, List.set_cons_zero, List.set_cons_succ, List.getElem_toArray, List.getElem_cons_zero, List.getElem_cons_succ]
        refine wpAnyH_ready (rs := [0, 9]) (by kernel_rfl) (by simp) ?_
        refine AllReadyH.cons rfl (fun K hK => ?_) (AllReadyH.cons rfl (fun K hK => ?_) AllReadyH.nil)
        · go_simp
          refine hK.out _ _ hHeld (fun hHeld => ?_)
          clear hK K
          try simp only [Act.put, List.setIfInBounds_toArray, List.set_cons_zero, List.set_cons_succ, List.getElem_toArray, List.getElem_cons_zero, List.getElem_cons_succ]
          refine wpAnyH_ready (rs := [9]) (by kernel_rfl) (by simp) ?_
          refine AllReadyH.cons rfl (fun K hK => ?_) AllReadyH.nil
          go_simp
          refine hK.out _ _ (hs5a _) (fun hHeld => ?_)
          clear hK K
          try simp only [Act.put, List.setIfInBounds_toArray, List.set_cons_zero, List.set_cons_succ, List.getElem_toArray, List.getElem_cons_zero, List.getElem_cons_succ]
          refine wpAnyH_ready (rs := [10]) (by kernel_rfl) (by simp) ?_
          refine AllReadyH.cons rfl (fun K hK => ?_) AllReadyH.nil
          refine pc_reg rfl (.tmp 24) (.tmp 33) rfl (b2 + 5) A k c qs rfl (HOW.out _ (hb5.alloc hb5.size _)) w5.heap.size 1 (⟨0, fl, s, 0, p, part l sz pre.length⟩, (A', d, c')) rfl (Row.new w5 _ _ _) (by omega) (by have := hb5.size; have := HC.out.sz; simp; omega) ?_
          intro A9 c9 w6 ho6 hg6
          obtain ⟨r1, r2, r3, r4⟩ := cut_round (lo := b2 + 3) HC.out ⟨by omega, by omega, by omega⟩ (by omega) (by have := HB2.out; omega) ⟨by omega, by omega⟩ (q := (⟨0, fl, s, 0, p, part l sz pre.length⟩, (A', d, c'))) rfl ho5 ho6 hg6
          have y7 := r1.cell 0
          have f7 := r1.frozen 0
          simp at y7
          have hs6 : CS b2 fl s p w6 := HSK6.out w6 w5 _ hb5 hg6
          refine hK.out _ _ hs6 (fun hHeld => ?_)
          clear hK K
          try simp only [Act.put, List.setIfInBounds_toArray, List.set_cons_zero, List.set_cons_succ, List.getElem_toArray, List.getElem_cons_zero, List.getElem_cons_succ]
          refine wpAnyH_ready (rs := [11]) (by kernel_rfl) (by simp) ?_
          refine AllReadyH.cons rfl (fun K hK => ?_) AllReadyH.nil
          go_simp
          have hs7 : CS b2 fl s p (w6.setCell ⟨b2 + 2, 0, none⟩ (.slice A9 (k + 1) c9)) := ⟨(r4.bf.cell 0).trans rfl, (r4.bm.cell 0).trans rfl, (r4.bm.cell 2).trans rfl⟩
          refine hK.out _ _ hs7 (fun hHeld => ?_)
          clear hK K
          try simp only [Act.put, List.setIfInBounds_toArray, List.set_cons_zero, List.set_cons_succ, List.getElem_toArray, List.getElem_cons_zero, List.getElem_cons_succ]
          refine wpAnyH_done (by kernel_rfl) ?_ _
          exact ⟨r2.from _, (by rw [hz4]; exact r3), HFIN.out _ _ _ _ _ r4⟩
        · go_simp
          refine hK.out _ _ (hs5a _) (fun hHeld => ?_)
          clear hK K
          try simp only [Act.put, List.setIfInBounds_toArray, List.set_cons_zero, List.set_cons_succ, List.getElem_toArray, List.getElem_cons_zero, List.getElem_cons_succ]
          refine wpAnyH_ready (rs := [0]) (by kernel_rfl) (by simp) ?_
          refine AllReadyH.cons rfl (fun K hK => ?_) AllReadyH.nil
          go_simp
          refine hK.out _ _ hHeld (fun hHeld => ?_)
          clear hK K
          try simp only [Act.put, List.setIfInBounds_toArray, List.set_cons_zero, List.set_cons_succ, List.getElem_toArray, List.getElem_cons_zero, List.getElem_cons_succ]
          refine wpAnyH_ready (rs := [10]) (by kernel_rfl) (by simp) ?_
          refine AllReadyH.cons rfl (fun K hK => ?_) AllReadyH.nil
          refine pc_reg rfl (.tmp 24) (.tmp 33) rfl (b2 + 5) A k c qs rfl (HOW.out _ (hb5.alloc hb5.size _)) w5.heap.size 1 (⟨0, fl, s, 0, p, part l sz pre.length⟩, (A', d, c')) rfl (Row.new w5 _ _ _) (by omega) (by have := hb5.size; have := HC.out.sz; simp; omega) ?_
          intro A9 c9 w6 ho6 hg6
          obtain ⟨r1, r2, r3, r4⟩ := cut_round (lo := b2 + 3) HC.out ⟨by omega, by omega, by omega⟩ (by omega) (by have := HB2.out; omega) ⟨by omega, by omega⟩ (q := (⟨0, fl, s, 0, p, part l sz pre.length⟩, (A', d, c'))) rfl ho5 ho6 hg6
          have y7 := r1.cell 0
          have f7 := r1.frozen 0
          simp at y7
          have hs6 : CS b2 fl s p w6 := HSK6.out w6 w5 _ hb5 hg6
          refine hK.out _ _ hs6 (fun hHeld => ?_)
          clear hK K
          try simp only [Act.put, List.setIfInBounds_toArray, List.set_cons_zero, List.set_cons_succ, List.getElem_toArray, List.getElem_cons_zero, List.getElem_cons_succ]
          refine wpAnyH_ready (rs := [11]) (by kernel_rfl) (by simp) ?_
          refine AllReadyH.cons rfl (fun K hK => ?_) AllReadyH.nil
          go_simp
          have hs7 : CS b2 fl s p (w6.setCell ⟨b2 + 2, 0, none⟩ (.slice A9 (k + 1) c9)) := ⟨(r4.bf.cell 0).trans rfl, (r4.bm.cell 0).trans rfl, (r4.bm.cell 2).trans rfl⟩
          refine hK.out _ _ hs7 (fun hHeld => ?_)
          clear hK K
          try simp only [Act.put, List.setIfInBounds_toArray, List.set_cons_zero, List.set_cons_succ, List.getElem_toArray, List.getElem_cons_zero, List.getElem_cons_succ]
          refine wpAnyH_done (by kernel_rfl) ?_ _
          exact ⟨r2.from _, (by rw [hz4]; exact r3), HFIN.out _ _ _ _ _ r4⟩
    case done =>
      rintro D xs W hD hS ⟨qs, A, k, c, hcl, hqs, hpre⟩ hK
      have hlen := hcl.len
      have hql : qs.length = xs.length := by have := congrArg List.length hqs; simpa using this
      have hN : cutN l sz = k := by
        rw [← hlen, hql]
        exact cutN_of HS.out (by rw [HL.out]; exact hS) (fun i hi => by rw [HL.out]; exact hpre i hi)
      have hk0 : 0 < k := by
        rcases Nat.eq_zero_or_pos k with h | h
        · rw [← hlen, hql] at h
          rw [h] at hS
          omega
        · exact h
      obtain ⟨g, hA⟩ : ∃ g, A = some ⟨g, 0, none⟩ := by
        rcases hcl.ps.own.2 with ⟨h1, h2⟩ | ⟨g, cap, cur, h1, _⟩
        · rw [hlen] at h2; omega
        · simp only [Value.slice.injEq] at h1; exact ⟨g, h1.1⟩
      subst hA
      have HCL := Lib.hid hcl
      have HQS := Lib.hid hqs
      have HN := Lib.hid hN
      have HK := Lib.hid hK
      have HLEN := Lib.hid hlen
      have hxk : xs.length = k := by omega
      rw [hxk] at hqs
      obtain ⟨h0, h1, hf0, hf1, hfin⟩ := cut_flags hqs hN hk0
      have hlk : (qs.set 0 (setF qs[0] (fb false + 2))).length = k := by simp [hlen]
      have p1 := hcl.ps.flag hlen h0 (fb false + 2)
      have p2 := p1.flag hlk h1 (fb false + (if k = 1 then 2 else 0) + 1)
      obtain ⟨y1, z1⟩ := hcl.ps.flagCell hlen h0
      obtain ⟨y2, z2⟩ := p1.flagCell hlk h1
      rw [hf0] at y1
      rw [hf1] at y2
      have hgb : b2 + 5 ≤ g := (hcl.ps.own.lt g rfl).1
      have h7 := hcl.bl.cell 0
      simp at h7
      have h7b : (W.setCell ⟨g, 0 * 6 + 1, none⟩ (.int .u8 ((fb false + 2 : Nat) : Int))).cell? ⟨b2 + 2, 0, none⟩ = some (.slice (some ⟨g, 0, none⟩) k c) := by
        have := (hcl.bl.other (show b2 + 2 ≠ g by omega) 1 (.int .u8 ((fb false + 2 : Nat) : Int))).cell 0
        simpa using this
      have h7c : ((W.setCell ⟨g, 0 * 6 + 1, none⟩ (.int .u8 ((fb false + 2 : Nat) : Int))).setCell ⟨g, (k - 1) * 6 + 1, none⟩ (.int .u8 ((fb false + (if k = 1 then 2 else 0) + 1 : Nat) : Int))).cell? ⟨b2 + 2, 0, none⟩ = some (.slice (some ⟨g, 0, none⟩) k c) := by
        have := ((hcl.bl.other (show b2 + 2 ≠ g by omega) 1 (.int .u8 ((fb false + 2 : Nat) : Int))).other (show b2 + 2 ≠ g by omega) ((k - 1) * 6 + 1) (.int .u8 ((fb false + (if k = 1 then 2 else 0) + 1 : Nat) : Int))).cell 0
        simpa using this
      have hKc := ((KeepsOthers.setCell W ⟨g, 0 * 6 + 1, none⟩ (.int .u8 ((fb false + 2 : Nat) : Int))).trans (KeepsOthers.setCell _ ⟨g, (k - 1) * 6 + 1, none⟩ (.int .u8 ((fb false + (if k = 1 then 2 else 0) + 1 : Nat) : Int)))).same D _ hK rfl
      have hcalm : Calm w.heap.size ((W.setCell ⟨g, 0 * 6 + 1, none⟩ (.int .u8 ((fb false + 2 : Nat) : Int))).setCell ⟨g, (k - 1) * 6 + 1, none⟩ (.int .u8 ((fb false + (if k = 1 then 2 else 0) + 1 : Nat) : Int))) _ := Calm.of_put (.deferred none) hKc rfl (by omega)
      have HKC := Lib.hid hKc
      have HPS := Lib.hid (p2.calm hcalm)
      have HBL := Lib.hid ((((hcl.bel.setCell (p := ⟨g, 0 * 6 + 1, none⟩) (by simp; have := HB2.out; omega) _)).setCell (p := ⟨g, (k - 1) * 6 + 1, none⟩) (by simp; have := HB2.out; omega) _).trans hcalm.1)
      have HFIN := Lib.hid hfin
      have HLK : Hid (((qs.set 0 (setF qs[0] (fb false + 2))).set (k - 1) (setF (qs.set 0 (setF qs[0] (fb false + 2)))[k - 1] (fb false + (if k = 1 then 2 else 0) + 1))).length = k) := Lib.hid (by simp [hlen])
      have o1 := fb_two false
      have o2 : bits .or .u8 ((fb false + (if k = 1 then 2 else 0) : Nat) : Int) 1 = ((fb false + (if k = 1 then 2 else 0) + 1 : Nat) : Int) := or_one (by by_cases e : k = 1 <;> simp [fb, e])
      have hkn : k ≤ 1000000000 := by
        have h4 := hpre (k - 1) (by omega)
        have h5 : k - 1 ≤ (k - 1) * sz := Nat.le_mul_of_pos_right _ (by have := HS.out; omega)
        omega
      have hkk : (k : Int) - 1 = ((k - 1 : Nat) : Int) := by omega
      have hwk : wrap64 ((k - 1 : Nat) : Int) = ((k - 1 : Nat) : Int) := by
        clear y1 z1 y2 z2 h7 h7b h7c o1 o2
        go_arith
      clear hcl hqs hpre hS hK hN hlen hql p1 p2 hf0 hf1 hfin hlk hKc hcalm
      generalize ((qs.set 0 (setF qs[0] (fb false + 2))).set (k - 1) (setF (qs.set 0 (setF qs[0] (fb false + 2)))[k - 1] (fb false + (if k = 1 then 2 else 0) + 1))) = qz at HPS HFIN HLK
      clear h1
      generalize fb false + (if k = 1 then 2 else 0) + 1 = f3 at *
      generalize fb false + (if k = 1 then 2 else 0) = f2 at *
      generalize fb false + 2 = f1 at *
      generalize fb false = f0 at *
      simp only [Nat.zero_mul, Nat.zero_add] at y1 z1 y2 z2 h7b h7c HKC HPS HBL
      obtain ⟨m, hm⟩ : ∃ m, k - 1 = m := ⟨_, rfl⟩
      have hkl : m < k := by clear o1 o2 y1 y2 z1 z2 hwk hkk; omega
      rw [hm] at y2 z2 h7c HKC HPS HBL hkk hwk
      clear hm hkn
      go_upto_region 11 with fail
      go_wp2_with fail
      refine ⟨by simp, .inl ⟨_, _, rfl, run_takeDeferred HKC.out, ?_⟩⟩
      exact ⟨.tuple #[.slice (some ⟨g, 0, none⟩) k c, .int .i64 0], by simp [results, Try.results68, go_sem], _, _, _, qz, rfl, HLK.out, HFIN.out, HPS.out.lower (by have := HB2.out; omega), HBL.out⟩
    case stop =>
      intro D c pre W hD hSp hF hK
      exact hF.elim
  | true =>
    go_upto_region 6 with fail
    have H2 := Lib.hid (HX.out (w1.setCell ⟨b2 + 1, 0, none⟩ (.int .u8 4)) (fun _ => rfl) (fun h => by cases h))
    clear HX HM1 HF1 HB1 HZ1 g1 f6 g6
    generalize w1.setCell ⟨b2 + 1, 0, none⟩ (.int .u8 4) = w2 at H2 ⊢
    go_upto_region 7 with fail
    have HM3 : Hid (Bk (w2.alloc (.cells #[.slice none 0 0] 66)) b2 (mv s true p (some a0) n c0) 39) := Lib.hid (H2.out.1.alloc _)
    have HF3 : Hid (Bk (w2.alloc (.cells #[.slice none 0 0] 66)) (b2 + 1) #[.int .u8 (fl : Int)] 5) := Lib.hid (H2.out.2.1.alloc _)
    have HL3 : Hid (Bk (w2.alloc (.cells #[.slice none 0 0] 66)) (b2 + 2) #[.slice none 0 0] 66) := Lib.hid (by
      have := Bk.new w2 #[.slice none 0 0] 66
      rw [H2.out.2.2.2, HB2.out] at this
      exact this)
    have HB3 : Hid (Below w.heap.size w (w2.alloc (.cells #[.slice none 0 0] 66))) := Lib.hid (H2.out.2.2.1.alloc (by have := H2.out.2.2.2; omega) _)
    have HZ3 : Hid ((w2.alloc (.cells #[.slice none 0 0] 66)).heap.size = b2 + 3) := Lib.hid (by have := H2.out.2.2.2; have := HB2.out; simp; omega)
    have hsz2 : w2.heap.size = b2 + 2 := by have := H2.out.2.2.2; have := HB2.out; omega
    rw [hsz2]
    clear H2 hsz2
    generalize w2.alloc (.cells #[.slice none 0 0] 66) = w3 at HM3 HF3 HL3 HB3 HZ3 ⊢
    have g3 := HM3.out.cell 3
    simp [mv] at g3
    have CC := Lib.hid (chunk_any (some a0) n c0 sz w3 HS.out)
    rw [HZ3.out] at CC
    go_wp2_with (go_at_call 97; (with_reducible refine CC.out.mono ?_); rintro e w4 ⟨rfl, h4⟩)
    have HM4 : Hid (Bk w4 b2 (mv s true p (some a0) n c0) 39) := Lib.hid (HM3.out.next (HZ3.out ▸ h4.2.2.2))
    have HF4 : Hid (Bk w4 (b2 + 1) #[.int .u8 (fl : Int)] 5) := Lib.hid (HF3.out.next (HZ3.out ▸ h4.2.2.2))
    have HL4 : Hid (Bk w4 (b2 + 2) #[.slice none 0 0] 66) := Lib.hid (HL3.out.next (HZ3.out ▸ h4.2.2.2))
    have HB4 : Hid (Below w.heap.size w w4) := Lib.hid (bnext HB3.out (HZ3.out ▸ h4.2.2.2))
    have hz4 : w4.heap.size = b2 + 5 := by have := h4.2.2.1; omega
    have HSRB : Hid (∀ a, some a0 = some a → a.block < b2 + 5) := Lib.hid fun a e => by
      injection e with e
      have h1 := block_lt_of_cell hsc
      have h2 : (a0.add 0).block = a0.block := by unfold Addr.add; split <;> rfl
      have := HB2.out
      rw [← e]
      omega
    have HI0 : Hid (CutI w s true p a0 n c0 sz b2 fl l [] w4) := Lib.hid ⟨[], none, 0, 0, ⟨HM4.out, HF4.out, HL4.out, ⟨World.ownsRow_nil _ _ _ _, fun q hq => by cases hq⟩, rfl, HR.out.below HB4.out, HB4.out, by omega, HSRB.out⟩, rfl, fun i hi => by simp at hi⟩
    have hws : w.heap.size ≤ w4.heap.size := HB4.out.size
    have hseq := chunk_seq a0 n c0 sz (b2 + 3) (b2 + 3 + 1) (b2 + 3) w4 hn HS.out HS2.out hc ⟨h4.1, h4.2.1⟩ ⟨Nat.le_refl _, by omega⟩ ⟨by omega, by omega⟩
    have HSQ := Lib.hid hseq
    clear hseq h4 HM3 HF3 HL3 HB3 HZ3 HM4 HF4 HL4 g3 CC
    refine (wpIn_wide (n := 9)).1 ?_
    refine range_wpIn (gf := 112) (lb := #[.pointer (some ⟨b2 + 3, 0, none⟩), .pointer (some ⟨b2 + 3 + 1, 0, none⟩)]) rfl (enters_of Try.func112 (by kernel_rfl) rfl) HSQ.out (Nat.le_refl _) (fun _ => rfl)
      (fun pre W => CutI w s true p a0 n c0 sz b2 fl l pre W) (fun c pre W => False) (fun pre A B h hc => h.calm hws hc) (fun c pre A B h hc => h) HI0.out
      (fun pre x a W => CutI w s true p a0 n c0 sz b2 fl l pre W ∧ x = pre.length * sz ∧ x < n ∧ a = { tmps := cutFr s true p a0 n c0 sz b2 (.slice (some (a0.add x)) (min sz (n - x)) (min sz (n - x))), defers := [] })
      (fun pre x a₁ A B ⟨h1, h2⟩ hc => ⟨h1.calm hws hc, h2⟩) ?assign ?body ?done ?stop
    case assign =>
      intro y pre x W K hi hv hK
      have hla := hK { tmps := cutFr s true p a0 n c0 sz b2 (.slice (some (a0.add x)) (min sz (n - x)) (min sz (n - x))), defers := [] } W (Below.refl _ _) ⟨hi, hv.1, hv.2, rfl⟩
      have HLA := Lib.hid hla
      clear hi hv hK hla
      simp only [cenc]
      gi_wp2
      exact HLA.out
    case body =>
      rintro y pre x a₁ W hsize ⟨⟨qs, A, k, c, hcl, hqs, hpre⟩, hx, hxn, rfl⟩
      have HC := Lib.hid hcl
      obtain ⟨d, hd⟩ : ∃ d, min sz (n - x) = d := ⟨_, rfl⟩
      have hpl : (part l sz pre.length).length = d := by rw [part_len, ← hx, HL.out, hd]
      have hk : k ≤ 1000000000 := by
        have h1 := hcl.len
        have h2 : qs.length = pre.length := by have := congrArg List.length hqs; simpa using this
        rcases Nat.eq_zero_or_pos pre.length with h3 | h3
        · omega
        · have h4 := hpre (pre.length - 1) (by omega)
          have h5 : pre.length - 1 ≤ (pre.length - 1) * sz := Nat.le_mul_of_pos_right _ (by have := HS.out; omega)
          omega
      have CCL := Lib.hid (clone_big (some (a0.add x)) d d (part l sz pre.length) W.drew hpl (by omega) (by
        have h1 := Row.cut hcl.src (c := c0) (lo := x) (hi := x + d) (by omega)
        unfold cutA at h1
        rw [if_neg (by have := HS.out; omega)] at h1
        have h2 : ((bs l).take (x + d)).drop x = bs (part l sz pre.length) := by
          unfold part bs
          rw [← List.map_take, ← List.map_drop, List.drop_take, ← hx, show x + d - x = d by omega]
          congr 1
          rw [← hd]
          apply List.ext_getElem?
          intro i
          rw [List.getElem?_take, List.getElem?_take]
          have hll := HL.out
          by_cases h3 : i < min sz (n - x)
          · rw [if_pos h3, if_pos (by omega)]
          · rw [if_neg h3]
            split
            · symm
              rw [List.getElem?_eq_none]
              simp
              omega
            · rfl
        rw [h2] at h1
        exact h1))
      have HOW : Hid (∀ W', Below W.heap.size W W' → W'.ownsRow (b2 + 5) 33 6 (.slice A k c) k (pf qs)) := Lib.hid fun W' hb => by
        have := (hcl.ps.next hb).own
        rw [hcl.len] at this
        exact this
      have HSK : Hid (∀ W', Below W.heap.size W W' → CS b2 fl s p W') := Lib.hid fun W' hb => ⟨((hcl.bf.next hb).cell 0).trans rfl, ((hcl.bm.next hb).cell 0).trans rfl, ((hcl.bm.next hb).cell 2).trans rfl⟩
      have HSK6 : Hid (∀ w6 w5 o, Below W.heap.size W w5 → (w5.alloc o).grownBy w6 (Value.slice A k c).ownBlock → CS b2 fl s p w6) := Lib.hid fun w6 w5 o hb hg => by
        have hb5a : Below W.heap.size W (w5.alloc o) := hb.alloc hb.size o
        have hps := hcl.ps.next hb5a
        have hlt : ∀ g, (Value.slice A k c).ownBlock = some g → b2 + 5 ≤ g := fun g hg => (hps.own.lt g hg).1
        have m := (hcl.bm.next hb5a).kept hg (fun e => by have := hlt _ e.symm; omega)
        have f := (hcl.bf.next hb5a).kept hg (fun e => by have := hlt _ e.symm; omega)
        exact ⟨(f.cell 0).trans rfl, (m.cell 0).trans rfl, (m.cell 2).trans rfl⟩
      have HFIN : Hid (∀ w7 A' c' A9 c9, CL w w7 (b2 + 5) b2 (b2 + 1) (b2 + 2) (mv s true p (some a0) n c0) fl (some a0) l (qs ++ [(⟨0, fl, s, 0, p, part l sz pre.length⟩, (A', d, c'))]) A9 (k + 1) c9 → CutI w s true p a0 n c0 sz b2 fl l (pre ++ [x]) w7) := Lib.hid fun w7 A' c' A9 c9 h => ⟨_, _, _, _, h, by
        rw [List.map_append, hqs, List.length_append, List.length_singleton, List.range_succ, List.map_append]
        simp only [List.map_cons, List.map_nil, pre1]
        rw [HFL.out], fun i hi => by
        rw [List.length_append, List.length_singleton] at hi
        by_cases e : i = pre.length
        · rw [e, ← hx]; exact hxn
        · exact hpre i (by omega)⟩
      have hS0 : CS b2 fl s p W.drew := HSK.out _ (Below.refl _ _).drew
      have h7 := HC.out.bl.cell 0
      simp at h7
      have h7d : W.drew.cell? ⟨b2 + 2, 0, none⟩ = some (.slice A k c) := h7
      have HKL := Lib.hid hcl.len
      clear hcl hqs hpre hpl h7 hx
      unfold cutFr
      rw [hd]
      clear hd
      refine wpIn_block ?_
      refine region_in (S := CS b2 fl s p) (by kernel_rfl) (by kernel_rfl) (fun ⟨a, w, h⟩ => h) hS0 (fun hHeld => ?_)
      clear hS0
      refine wpAnyH_take (i := 1) (v := ?_) rfl (by kernel_rfl) (by kernel_rfl) (by kernel_rfl) (fun _ _ _ h => h) (Or.inl ⟨by rfl, ?_⟩) (by assumption) ?_
      rotate_left 1
      · (intro w9 hSw; obtain ⟨hS1, hS2, hS3⟩ := hSw; go_simp; try (with_reducible rfl))
      try simp only [Act.put, List.setIfInBounds_toArray, List.set_cons_zero, List.set_cons_succ, List.getElem_toArray, List.getElem_cons_zero, List.getElem_cons_succ]
      refine wpAnyH_take (i := 2) (v := ?_) rfl (by kernel_rfl) (by kernel_rfl) (by kernel_rfl) (fun _ _ _ h => h) (Or.inl ⟨by rfl, ?_⟩) (by assumption) ?_
      rotate_left 1
      · (intro w9 hSw; obtain ⟨hS1, hS2, hS3⟩ := hSw; go_simp; try (with_reducible rfl))
      try simp only [Act.put, List.setIfInBounds_toArray, List.set_cons_zero, List.set_cons_succ, List.getElem_toArray, List.getElem_cons_zero, List.getElem_cons_succ]
      refine wpAnyH_take (i := 3) (v := ?_) rfl (by kernel_rfl) (by kernel_rfl) (by kernel_rfl) (fun _ _ _ h => h) (Or.inl ⟨by rfl, ?_⟩) (by assumption) ?_
      rotate_left 1
      · (intro w9 hSw; obtain ⟨hS1, hS2, hS3⟩ := hSw; go_simp; try (with_reducible rfl))
      try simp only [Act.put, List.setIfInBounds_toArray, List.set_cons_zero, List.set_cons_succ, List.getElem_toArray, List.getElem_cons_zero, List.getElem_cons_succ]
      refine wpAnyH_take (i := 4) (v := ?_) rfl (by kernel_rfl) (by kernel_rfl) (by kernel_rfl) (fun _ _ _ h => h) (Or.inl ⟨by rfl, ?_⟩) (by assumption) ?_
      rotate_left 1
      · (intro w9 hSw; obtain ⟨hS1, hS2, hS3⟩ := hSw; go_simp; try (with_reducible rfl))
      try simp only [Act.put, List.setIfInBounds_toArray, List.set_cons_zero, List.set_cons_succ, List.getElem_toArray, List.getElem_cons_zero, List.getElem_cons_succ]
      refine wpAnyH_take (i := 5) (v := ?_) rfl (by kernel_rfl) (by kernel_rfl) (by kernel_rfl) (fun _ _ _ h => h) (Or.inl ⟨by rfl, ?_⟩) (by assumption) ?_
      rotate_left 1
      · (intro w9 hSw; obtain ⟨hS1, hS2, hS3⟩ := hSw; go_simp; try (with_reducible rfl))
      try simp only [Act.put, List.setIfInBounds_toArray, List.set_cons_zero, List.set_cons_succ, List.getElem_toArray, List.getElem_cons_zero, List.getElem_cons_succ]
      refine wpAnyH_take (i := 6) (v := ?_) rfl (by kernel_rfl) (by kernel_rfl) (by kernel_rfl) (fun _ _ _ h => h) (Or.inl ⟨by rfl, ?_⟩) (by assumption) ?_
      rotate_left 1
      · (intro w9 hSw; obtain ⟨hS1, hS2, hS3⟩ := hSw; go_simp; try (with_reducible rfl))
      try simp only [Act.put, List.setIfInBounds_toArray, List.set_cons_zero, List.set_cons_succ, List.getElem_toArray, List.getElem_cons_zero, List.getElem_cons_succ]
      refine wpAnyH_ready (rs := [0, 7]) (by kernel_rfl) (by simp) ?_
      refine AllReadyH.cons rfl (fun K hK => ?_) (AllReadyH.cons rfl (fun K hK => ?_) AllReadyH.nil)
      · go_simp
        refine hK.out _ _ hHeld (fun hHeld => ?_)
        clear hK K
        try simp only [Act.put, List.setIfInBounds_toArray, List.set_cons_zero, List.set_cons_succ, List.getElem_toArray, List.getElem_cons_zero, List.getElem_cons_succ]
        refine wpAnyH_ready (rs := [7]) (by kernel_rfl) (by simp) ?_
        refine AllReadyH.cons rfl (fun K hK => ?_) AllReadyH.nil
        go_simp
        go_at_call 83
        (with_reducible refine CCL.out.mono ?_)
        rintro e w5 ⟨A', c', rfl, ho5⟩
        have hb5 : Below W.heap.size W w5 := ⟨ho5.2.os, ho5.2.tape, ho5.2.output, ho5.2.size, ho5.2.block⟩
        have h7a := (HC.out.bl.next hb5).cell 0
        simp at h7a
        have h7b : ∀ o, (w5.alloc o).cell? ⟨b2 + 2, 0, none⟩ = some (.slice A k c) := fun o => cell_alloc h7a o
        have hs5 : CS b2 fl s p w5 := HSK.out w5 hb5
        have hs5a : ∀ o, CS b2 fl s p (w5.alloc o) := fun o => HSK.out _ (hb5.alloc hb5.size o)
        refine hK.out _ _ hs5 (fun hHeld => ?_)
        clear hK K
        try simp only [Act.put, List.setIfInBounds_toArray, List.set_cons_zero, List.set_cons_succ, List.getElem_toArray, List.getElem_cons_zero, List.getElem_cons_succ]
        refine wpAnyH_take (i := 8) (v := ?_) rfl (by kernel_rfl) (by kernel_rfl) (by kernel_rfl) (fun _ _ _ h => h) (Or.inl ⟨by rfl, ?_⟩) (by assumption) ?_
        rotate_left 1
        · (intro w9 hSw; obtain ⟨hS1, hS2, hS3⟩ := hSw; go_simp; try (with_reducible rfl))
        try simp only [Act.put, List.setIfInBounds_toArray, List.set_cons_zero, List.set_cons_succ, List.getElem_toArray, List.getElem_cons_zero, List.getElem_cons_succ]
        refine wpAnyH_ready (rs := [9]) (by kernel_rfl) (by simp) ?_
        refine AllReadyH.cons rfl (fun K hK => ?_) AllReadyH.nil
        go_simp
        refine hK.out _ _ (hs5a _) (fun hHeld => ?_)
        clear hK K
        try simp only [Act.put, List.setIfInBounds_toArray, List.set_cons_zero, List.set_cons_succ, List.getElem_toArray, List.getElem_cons_zero, List.getElem_cons_succ]
        refine wpAnyH_ready (rs := [10]) (by kernel_rfl) (by simp) ?_
        refine AllReadyH.cons rfl (fun K hK => ?_) AllReadyH.nil
        refine pc_reg rfl (.tmp 24) (.tmp 33) rfl (b2 + 5) A k c qs rfl (HOW.out _ (hb5.alloc hb5.size _)) w5.heap.size 1 (⟨0, fl, s, 0, p, part l sz pre.length⟩, (A', d, c')) rfl (Row.new w5 _ _ _) (by omega) (by have := hb5.size; have := HC.out.sz; simp; omega) ?_
        intro A9 c9 w6 ho6 hg6
        obtain ⟨r1, r2, r3, r4⟩ := cut_round (lo := b2 + 3) HC.out ⟨by omega, by omega, by omega⟩ (by omega) (by have := HB2.out; omega) ⟨by omega, by omega⟩ (q := (⟨0, fl, s, 0, p, part l sz pre.length⟩, (A', d, c'))) rfl ho5 ho6 hg6
        have y7 := r1.cell 0
        have f7 := r1.frozen 0
        simp at y7
        have hs6 : CS b2 fl s p w6 := HSK6.out w6 w5 _ hb5 hg6
        refine hK.out _ _ hs6 (fun hHeld => ?_)
        clear hK K
        try simp only [Act.put, List.setIfInBounds_toArray, List.set_cons_zero, List.set_cons_succ, List.getElem_toArray, List.getElem_cons_zero, List.getElem_cons_succ]
        refine wpAnyH_ready (rs := [11]) (by kernel_rfl) (by simp) ?_
        refine AllReadyH.cons rfl (fun K hK => ?_) AllReadyH.nil
        go_simp
        have hs7 : CS b2 fl s p (w6.setCell ⟨b2 + 2, 0, none⟩ (.slice A9 (k + 1) c9)) := ⟨(r4.bf.cell 0).trans rfl, (r4.bm.cell 0).trans rfl, (r4.bm.cell 2).trans rfl⟩
        refine hK.out _ _ hs7 (fun hHeld => ?_)
        clear hK K
        try simp only [Act.put, List.setIfInBounds_toArray, List.set_cons_zero, List.set_cons_succ, List.getElem_toArray, List.getElem_cons_zero, List.getElem_cons_succ]
        refine wpAnyH_done (by kernel_rfl) ?_ _
        exact ⟨r2.from _, (by rw [hz4]; exact r3), HFIN.out _ _ _ _ _ r4⟩
      · go_simp
        go_at_call 83
        (with_reducible refine CCL.out.mono ?_)
        rintro e w5 ⟨A', c', rfl, ho5⟩
        have hb5 : Below W.heap.size W w5 := ⟨ho5.2.os, ho5.2.tape, ho5.2.output, ho5.2.size, ho5.2.block⟩
        have h7a := (HC.out.bl.next hb5).cell 0
        simp at h7a
        have h7b : ∀ o, (w5.alloc o).cell? ⟨b2 + 2, 0, none⟩ = some (.slice A k c) := fun o => cell_alloc h7a o
        have hs5 : CS b2 fl s p w5 := HSK.out w5 hb5
        have hs5a : ∀ o, CS b2 fl s p (w5.alloc o) := fun o => HSK.out _ (hb5.alloc hb5.size o)
        refine hK.out _ _ hs5 (fun hHeld => ?_)
        clear hK K
        try simp only [Act.put, List.setIfInBounds_toArray, List.set_cons_zero, List.set_cons_succ, List.getElem_toArray, List.getElem_cons_zero, List.getElem_cons_succ]
        refine wpAnyH_take (i := 8) (v := ?_) rfl (by kernel_rfl) (by kernel_rfl) (by kernel_rfl) (fun _ _ _ h => h) (Or.inl ⟨by rfl, ?_⟩) (by assumption) ?_
        rotate_left 1
        · (intro w9 hSw; obtain ⟨hS1, hS2, hS3⟩ := hSw; go_simp; try (with_reducible rfl))
        try simp only [Act.put, List.setIfInBounds_toArray, List.set_cons_zero, List.set_cons_succ, List.getElem_toArray, List.getElem_cons_zero, List.getElem_cons_succ]
        refine wpAnyH_ready (rs := [0, 9]) (by kernel_rfl) (by simp) ?_
        refine AllReadyH.cons rfl (fun K hK => ?_) (AllReadyH.cons rfl (fun K hK => ?_) AllReadyH.nil)
        · go_simp
          refine hK.out _ _ hHeld (fun hHeld => ?_)
          clear hK K
          try simp only [Act.put, List.setIfInBounds_toArray, List.set_cons_zero, List.set_cons_succ, List.getElem_toArray, List.getElem_cons_zero, List.getElem_cons_succ]
          refine wpAnyH_ready (rs := [9]) (by kernel_rfl) (by simp) ?_
          refine AllReadyH.cons rfl (fun K hK => ?_) AllReadyH.nil
          go_simp
          refine hK.out _ _ (hs5a _) (fun hHeld => ?_)
          clear hK K
          try simp only [Act.put, List.setIfInBounds_toArray, List.set_cons_zero, List.set_cons_succ, List.getElem_toArray, List.getElem_cons_zero, List.getElem_cons_succ]
          refine wpAnyH_ready (rs := [10]) (by kernel_rfl) (by simp) ?_
          refine AllReadyH.cons rfl (fun K hK => ?_) AllReadyH.nil
          refine pc_reg rfl (.tmp 24) (.tmp 33) rfl (b2 + 5) A k c qs rfl (HOW.out _ (hb5.alloc hb5.size _)) w5.heap.size 1 (⟨0, fl, s, 0, p, part l sz pre.length⟩, (A', d, c')) rfl (Row.new w5 _ _ _) (by omega) (by have := hb5.size; have := HC.out.sz; simp; omega) ?_
          intro A9 c9 w6 ho6 hg6
          obtain ⟨r1, r2, r3, r4⟩ := cut_round (lo := b2 + 3) HC.out ⟨by omega, by omega, by omega⟩ (by omega) (by have := HB2.out; omega) ⟨by omega, by omega⟩ (q := (⟨0, fl, s, 0, p, part l sz pre.length⟩, (A', d, c'))) rfl ho5 ho6 hg6
          have y7 := r1.cell 0
          have f7 := r1.frozen 0
          simp at y7
          have hs6 : CS b2 fl s p w6 := HSK6.out w6 w5 _ hb5 hg6
          refine hK.out _ _ hs6 (fun hHeld => ?_)
          clear hK K
          try simp only [Act.put, List.setIfInBounds_toArray, List.set_cons_zero, List.set_cons_succ, List.getElem_toArray, List.getElem_cons_zero, List.getElem_cons_succ]
          refine wpAnyH_ready (rs := [11]) (by kernel_rfl) (by simp) ?_
          refine AllReadyH.cons rfl (fun K hK => ?_) AllReadyH.nil
          go_simp
          have hs7 : CS b2 fl s p (w6.setCell ⟨b2 + 2, 0, none⟩ (.slice A9 (k + 1) c9)) := ⟨(r4.bf.cell 0).trans rfl, (r4.bm.cell 0).trans rfl, (r4.bm.cell 2).trans rfl⟩
          refine hK.out _ _ hs7 (fun hHeld => ?_)
          clear hK K
          try simp only [Act.put, List.setIfInBounds_toArray, List.set_cons_zero, List.set_cons_succ, List.getElem_toArray, List.getElem_cons_zero, List.getElem_cons_succ]
          refine wpAnyH_done (by kernel_rfl) ?_ _
          exact ⟨r2.from _, (by rw [hz4]; exact r3), HFIN.out _ _ _ _ _ r4⟩
        · go_simp
          refine hK.out _ _ (hs5a _) (fun hHeld => ?_)
          clear hK K
          try simp only [Act.put, List.setIfInBounds_toArray, List.set_cons_zero, List.set_cons_succ, List.getElem_toArray, List.getElem_cons_zero, List.getElem_cons_succ]
          refine wpAnyH_ready (rs := [0]) (by kernel_rfl) (by simp) ?_
          refine AllReadyH.cons rfl (fun K hK => ?_) AllReadyH.nil
          go_simp
          refine hK.out _ _ hHeld (fun hHeld => ?_)
          clear hK K
          try simp only [Act.put, List.setIfInBounds_toArray, List.set_cons_zero, List.set_cons_succ, List.getElem_toArray, List.getElem_cons_zero, List.getElem_cons_succ]
          refine wpAnyH_ready (rs := [10]) (by kernel_rfl) (by simp) ?_
          refine AllReadyH.cons rfl (fun K hK => ?_) AllReadyH.nil
          refine pc_reg rfl (.tmp 24) (.tmp 33) rfl (b2 + 5) A k c qs rfl (HOW.out _ (hb5.alloc hb5.size _)) w5.heap.size 1 (⟨0, fl, s, 0, p, part l sz pre.length⟩, (A', d, c')) rfl (Row.new w5 _ _ _) (by omega) (by have := hb5.size; have := HC.out.sz; simp; omega) ?_
          intro A9 c9 w6 ho6 hg6
          obtain ⟨r1, r2, r3, r4⟩ := cut_round (lo := b2 + 3) HC.out ⟨by omega, by omega, by omega⟩ (by omega) (by have := HB2.out; omega) ⟨by omega, by omega⟩ (q := (⟨0, fl, s, 0, p, part l sz pre.length⟩, (A', d, c'))) rfl ho5 ho6 hg6
          have y7 := r1.cell 0
          have f7 := r1.frozen 0
          simp at y7
          have hs6 : CS b2 fl s p w6 := HSK6.out w6 w5 _ hb5 hg6
          refine hK.out _ _ hs6 (fun hHeld => ?_)
          clear hK K
          try simp only [Act.put, List.setIfInBounds_toArray, List.set_cons_zero, List.set_cons_succ, List.getElem_toArray, List.getElem_cons_zero, List.getElem_cons_succ]
          refine wpAnyH_ready (rs := [11]) (by kernel_rfl) (by simp) ?_
          refine AllReadyH.cons rfl (fun K hK => ?_) AllReadyH.nil
          go_simp
          have hs7 : CS b2 fl s p (w6.setCell ⟨b2 + 2, 0, none⟩ (.slice A9 (k + 1) c9)) := ⟨(r4.bf.cell 0).trans rfl, (r4.bm.cell 0).trans rfl, (r4.bm.cell 2).trans rfl⟩
          refine hK.out _ _ hs7 (fun hHeld => ?_)
          clear hK K
          try simp only [Act.put, List.setIfInBounds_toArray, List.set_cons_zero, List.set_cons_succ, List.getElem_toArray, List.getElem_cons_zero, List.getElem_cons_succ]
          refine wpAnyH_done (by kernel_rfl) ?_ _
          exact ⟨r2.from _, (by rw [hz4]; exact r3), HFIN.out _ _ _ _ _ r4⟩
    case done =>
      rintro D xs W hD hS ⟨qs, A, k, c, hcl, hqs, hpre⟩ hK
      have hlen := hcl.len
      have hql : qs.length = xs.length := by have := congrArg List.length hqs; simpa using this
      have hN : cutN l sz = k := by
        rw [← hlen, hql]
        exact cutN_of HS.out (by rw [HL.out]; exact hS) (fun i hi => by rw [HL.out]; exact hpre i hi)
      have hk0 : 0 < k := by
        rcases Nat.eq_zero_or_pos k with h | h
        · rw [← hlen, hql] at h
          rw [h] at hS
          omega
        · exact h
      obtain ⟨g, hA⟩ : ∃ g, A = some ⟨g, 0, none⟩ := by
        rcases hcl.ps.own.2 with ⟨h1, h2⟩ | ⟨g, cap, cur, h1, _⟩
        · rw [hlen] at h2; omega
        · simp only [Value.slice.injEq] at h1; exact ⟨g, h1.1⟩
      subst hA
      have HCL := Lib.hid hcl
      have HQS := Lib.hid hqs
      have HN := Lib.hid hN
      have HK := Lib.hid hK
      have HLEN := Lib.hid hlen
      have hxk : xs.length = k := by omega
      rw [hxk] at hqs
      obtain ⟨h0, h1, hf0, hf1, hfin⟩ := cut_flags hqs hN hk0
      have hlk : (qs.set 0 (setF qs[0] (fb true + 2))).length = k := by simp [hlen]
      have p1 := hcl.ps.flag hlen h0 (fb true + 2)
      have p2 := p1.flag hlk h1 (fb true + (if k = 1 then 2 else 0) + 1)
      obtain ⟨y1, z1⟩ := hcl.ps.flagCell hlen h0
      obtain ⟨y2, z2⟩ := p1.flagCell hlk h1
      rw [hf0] at y1
      rw [hf1] at y2
      have hgb : b2 + 5 ≤ g := (hcl.ps.own.lt g rfl).1
      have h7 := hcl.bl.cell 0
      simp at h7
      have h7b : (W.setCell ⟨g, 0 * 6 + 1, none⟩ (.int .u8 ((fb true + 2 : Nat) : Int))).cell? ⟨b2 + 2, 0, none⟩ = some (.slice (some ⟨g, 0, none⟩) k c) := by
        have := (hcl.bl.other (show b2 + 2 ≠ g by omega) 1 (.int .u8 ((fb true + 2 : Nat) : Int))).cell 0
        simpa using this
      have h7c : ((W.setCell ⟨g, 0 * 6 + 1, none⟩ (.int .u8 ((fb true + 2 : Nat) : Int))).setCell ⟨g, (k - 1) * 6 + 1, none⟩ (.int .u8 ((fb true + (if k = 1 then 2 else 0) + 1 : Nat) : Int))).cell? ⟨b2 + 2, 0, none⟩ = some (.slice (some ⟨g, 0, none⟩) k c) := by
        have := ((hcl.bl.other (show b2 + 2 ≠ g by omega) 1 (.int .u8 ((fb true + 2 : Nat) : Int))).other (show b2 + 2 ≠ g by omega) ((k - 1) * 6 + 1) (.int .u8 ((fb true + (if k = 1 then 2 else 0) + 1 : Nat) : Int))).cell 0
        simpa using this
      have hKc := ((KeepsOthers.setCell W ⟨g, 0 * 6 + 1, none⟩ (.int .u8 ((fb true + 2 : Nat) : Int))).trans (KeepsOthers.setCell _ ⟨g, (k - 1) * 6 + 1, none⟩ (.int .u8 ((fb true + (if k = 1 then 2 else 0) + 1 : Nat) : Int)))).same D _ hK rfl
      have hcalm : Calm w.heap.size ((W.setCell ⟨g, 0 * 6 + 1, none⟩ (.int .u8 ((fb true + 2 : Nat) : Int))).setCell ⟨g, (k - 1) * 6 + 1, none⟩ (.int .u8 ((fb true + (if k = 1 then 2 else 0) + 1 : Nat) : Int))) _ := Calm.of_put (.deferred none) hKc rfl (by omega)
      have HKC := Lib.hid hKc
      have HPS := Lib.hid (p2.calm hcalm)
      have HBL := Lib.hid ((((hcl.bel.setCell (p := ⟨g, 0 * 6 + 1, none⟩) (by simp; have := HB2.out; omega) _)).setCell (p := ⟨g, (k - 1) * 6 + 1, none⟩) (by simp; have := HB2.out; omega) _).trans hcalm.1)
      have HFIN := Lib.hid hfin
      have HLK : Hid (((qs.set 0 (setF qs[0] (fb true + 2))).set (k - 1) (setF (qs.set 0 (setF qs[0] (fb true + 2)))[k - 1] (fb true + (if k = 1 then 2 else 0) + 1))).length = k) := Lib.hid (by simp [hlen])
      have o1 := fb_two true
      have o2 : bits .or .u8 ((fb true + (if k = 1 then 2 else 0) : Nat) : Int) 1 = ((fb true + (if k = 1 then 2 else 0) + 1 : Nat) : Int) := or_one (by by_cases e : k = 1 <;> simp [fb, e])
      have hkn : k ≤ 1000000000 := by
        have h4 := hpre (k - 1) (by omega)
        have h5 : k - 1 ≤ (k - 1) * sz := Nat.le_mul_of_pos_right _ (by have := HS.out; omega)
        omega
      have hkk : (k : Int) - 1 = ((k - 1 : Nat) : Int) := by omega
      have hwk : wrap64 ((k - 1 : Nat) : Int) = ((k - 1 : Nat) : Int) := by
        clear y1 z1 y2 z2 h7 h7b h7c o1 o2
        go_arith
      clear hcl hqs hpre hS hK hN hlen hql p1 p2 hf0 hf1 hfin hlk hKc hcalm
      generalize ((qs.set 0 (setF qs[0] (fb true + 2))).set (k - 1) (setF (qs.set 0 (setF qs[0] (fb true + 2)))[k - 1] (fb true + (if k = 1 then 2 else 0) + 1))) = qz at HPS HFIN HLK
      clear h1
      generalize fb true + (if k = 1 then 2 else 0) + 1 = f3 at *
      generalize fb true + (if k = 1 then 2 else 0) = f2 at *
      generalize fb true + 2 = f1 at *
      generalize fb true = f0 at *
      simp only [Nat.zero_mul, Nat.zero_add] at y1 z1 y2 z2 h7b h7c HKC HPS HBL
      obtain ⟨m, hm⟩ : ∃ m, k - 1 = m := ⟨_, rfl⟩
      have hkl : m < k := by clear o1 o2 y1 y2 z1 z2 hwk hkk; omega
      rw [hm] at y2 z2 h7c HKC HPS HBL hkk hwk
      clear hm hkn
      go_upto_region 11 with fail
      go_wp2_with fail
      refine ⟨by simp, .inl ⟨_, _, rfl, run_takeDeferred HKC.out, ?_⟩⟩
      exact ⟨.tuple #[.slice (some ⟨g, 0, none⟩) k c, .int .i64 0], by simp [results, Try.results68, go_sem], _, _, _, qz, rfl, HLK.out, HFIN.out, HPS.out.lower (by have := HB2.out; omega), HBL.out⟩
    case stop =>
      intro D c pre W hD hSp hF hK
      exact hF.elim
end Fg
end Go.Proofs.Ytednkcjmlpgipaa
