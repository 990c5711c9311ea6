/-
  The inbox's set and joiner are turned.
-/
import Derived.Test.YtednkcjmlpgipaaYIxDeal
namespace Go.Proofs.Ytednkcjmlpgipaa
set_option maxRecDepth 4000
open Go.RowKit Go.Maps
namespace Ix
set_option linter.unusedVariables false
set_option linter.unusedSimpArgs false
open Fg (Pc Ms mv JA JA_fr)

section
variable {W w : World} {x : Nat} {b : Ib} {wh : Nat} {L : List Me} {R : List As} {i : Iv} {l : List As}
theorem dat_merge {L1 L2 : List Me} {F : Nat → Prop} (h : star (DatR L1) (DatR L2) w F) : DatR (L1 ++ L2) w F := by
  obtain ⟨F1, F2, ⟨r1, _⟩, ⟨r2, _⟩, _, i1, i2, hb⟩ := h
  refine ⟨fun e he => ?_, hb⟩
  rcases List.mem_append.1 he with h | h
  · exact ⟨(r1 e h).1, (r1 e h).2.1, fun g hg => i1 g ((r1 e h).2.2 g hg)⟩
  · exact ⟨(r2 e h).1, (r2 e h).2.1, fun g hg => i2 g ((r2 e h).2.2 g hg)⟩
theorem unassoc {R1 R2 R3 : World → (Nat → Prop) → Prop} {F : Nat → Prop} (h : star R1 (star R2 R3) w F) : star (star R1 R2) R3 w F := by
  obtain ⟨F1, F', r1, ⟨F2, F3, r2, r3, hd2, j1, j2, hb2⟩, hd, i1, i2, hb⟩ := h
  refine ⟨fun k => F1 k ∨ F2 k, F3, ⟨F1, F2, r1, r2, fun k h1 h2 => hd k h1 (j1 k h2), fun k h => .inl h, fun k h => .inr h, fun k hk => ?_⟩, r3, fun k hk h3 => ?_, fun k hk => ?_, fun k h => i2 k (j2 k h), hb⟩
  · rcases hk with h | h
    · exact hb k (i1 k h)
    · exact hb2 k (j1 k h)
  · rcases hk with h | h
    · exact hd k h (j2 k h3)
    · exact hd2 k h h3
  · rcases hk with h | h
    · exact i1 k h
    · exact i2 k (j1 k h)
theorem Nw_merge {L1 L2 : List Me} {k : Nat} (h : Nw W w (DatA L1 :: l)) (hk : l[k]? = some (DatA L2)) : Nw W w (l.set k (DatA (L1 ++ L2))) := by
  obtain ⟨F, r, rest⟩ := h.perm ((perm_at hk).cons (DatA L1))
  obtain ⟨F1, F2, r1, r2⟩ := unassoc r
  have h2 : Nw W w (DatA (L1 ++ L2) :: l.eraseIdx k) := ⟨F, ⟨F1, F2, dat_merge r1, r2⟩, rest⟩
  exact h2.perm (perm_set hk)
/-- A TSN comes. -/
theorem came_any (hN : Nw W w (i.parts x b wh L R)) (t : Nat) (ht : t < 4294967296) :
    Calls Try.prog 52 #[.pointer (some ⟨i.s, 0, none⟩), .int .u32 (t : Int)] w fun e w' => (∃ n : Nat, e = .returned (.int .u8 (n : Int))) ∧ Nw W w' (i.parts x (b.noted t) wh L R) := by
  obtain ⟨F, r, hh⟩ := hN.turn (k := 1) rfl
  have C := Gp.add_any w F i.s t b.st r ht
  unfold Ib.noted
  generalize b.st.add t = s' at C ⊢
  obtain ⟨s1, n1⟩ := s'
  simp only at C ⊢
  exact C.mono fun e w' ⟨F', he, hp, hm⟩ => ⟨⟨n1, he⟩, hh w' F' (PAs i.s s1) hm hp⟩
/-- What the joiner makes of a piece. -/
def Ib.setK (b : Ib) (K : List Pc) : Ib := { b with K := K }
theorem joined_any (hN : Nw W w (i.parts x b wh L R)) (q : Pc) (A : Option Addr) (k c : Nat) (hq : q.Ok) (hl : q.d.length = k) (hk : k ≤ 4000000) (hr : Row w A (bs q.d)) (hlen : b.K.length < 100000000) (hheld : Fg.held b.K < 100000000) :
    Calls Try.prog 54 #[.pointer (some ⟨i.j, 0, none⟩), .agg (Fg.pv q A k c)] w fun e w' =>
      ((Fg.put b.K q).2 = none ∧ e = .returned (.tuple #[.agg #[.int .u16 0, .bool false, .int .u32 0, .slice none 0 0], .int .u16 0, .bool false]) ∧ Nw W w' (i.parts x (b.setK (Fg.put b.K q).1) wh L R)) ∨
        ∃ (m : Ms) (n : Nat) (A' : Option Addr) (k' c' : Nat), (Fg.put b.K q).2 = some (m, n) ∧ e = .returned (.tuple #[.agg #[.int .u16 (m.s : Int), .bool m.u, .int .u32 (m.p : Int), .slice A' k' c'], .int .u16 (n : Int), .bool true]) ∧ m.d.length = k' ∧ Nw W w' (i.parts x (b.setK (Fg.put b.K q).1) wh ((m, (A', k', c')) :: L) R) := by
  have hN0 := hN
  obtain ⟨F, r, hh⟩ := hN0.turn2 (k := 2) rfl
  obtain ⟨F0, r0, hh0⟩ := hN.turn (k := 2) rfl
  have C := Fg.put_any w F i.j b.K q A k c r hq hl hk hr hlen hheld
  generalize Fg.put b.K q = P at C ⊢
  obtain ⟨K', r'⟩ := P
  simp only at C ⊢
  refine C.mono fun e w' ⟨F', hn, hj, hkp, ht⟩ => ?_
  cases r' with
  | none =>
    refine .inl ⟨rfl, Fg.told_none ht rfl, ?_⟩
    have h2 := hh w' F' (fun _ => False) (JAs i.j K') (DatA []) ⟨hkp, hn⟩ hj ⟨fun e he => by simp at he, fun k h => h.elim⟩ (fun k h => h.elim)
    exact h2.drop
  | some mn =>
    obtain ⟨m, n⟩ := mn
    obtain ⟨A', k', c', he, hl', _, _, _, B, hB, hBF, hown⟩ := Fg.told_some ht rfl
    refine .inr ⟨m, n, A', k', c', rfl, he, hl', ?_⟩
    have h2 := hh w' F' (fun k => (Value.slice A' k' c').ownBlock = some k) (JAs i.j K') (DatA [(m, (A', k', c'))]) ⟨hkp, hn⟩ hj ⟨fun e he2 => by
      simp only [List.mem_singleton] at he2
      subst he2
      exact ⟨hl', hown.mono (Nat.zero_le _), fun g hg => hg⟩, fun k hk2 => (hown.lt k hk2).2⟩ (fun k hk2 => ⟨Nat.le_trans hB (hown.lt k hk2).1, fun hf => by have h3 := hBF k hf; have h4 := (hown.lt k hk2).1; omega⟩)
    exact Nw_merge (k := 6) h2 rfl
end
end Ix
end Go.Proofs.Ytednkcjmlpgipaa
/-
  The first message that is ready is taken.
-/
namespace Go.Proofs.Ytednkcjmlpgipaa
set_option maxRecDepth 4000
open Go.RowKit Go.Maps
namespace Ix
set_option linter.unusedVariables false
set_option linter.unusedSimpArgs false
open Fg (Pc Ms mv JA JA_fr)

section
variable {W w : World} {x : Nat} {b : Ib} {wh : Nat} {L : List Me} {R : List As} {l : List As}
theorem zms_cells : (zms.cells).size = 4 ∧ ∀ u ∈ zms.cells.toList, u.oneCell' = true := by
  refine ⟨rfl, fun u hu => ?_⟩
  simp [zms, Value.cells] at hu
  rcases hu with rfl | rfl | rfl | rfl <;> rfl
theorem quPop {g off c n k : Nat} {e : Me} {rM : List Me} (h : Nw W w l) (hk : l[k]? = some (QuA (.slice (some ⟨g, off, none⟩) (n + 1) c) (e :: rM))) (hn : rM.length = n) (ty : TypeId) :
    ∃ W', (Builtin.clear_ #[59] ty #[.slice (some ⟨g, off, none⟩) 1 1]).run Try.prog w = .ok (.tuple #[]) W' ∧ Nw W W' (l.set k (QuA (.slice (if c = 1 then some ⟨g, off, none⟩ else some ⟨g, off + 4, none⟩) n (c - 1)) rM)) ∧ w.grownBy W' (some g) := by
  subst hn
  obtain ⟨F, ⟨r1, r2, r3⟩, hh⟩ := h.turn hk
  obtain ⟨W', h1, h2, h3⟩ := run_clear_qu (P := Try.prog) (n := rM.length) 59 ty zms Try.underlying59 zeroM zms_cells.1 zms_cells.2 (by omega) (show Qu w 39 4 (.slice (some ⟨g, off, none⟩) (rM.length + 1) c) (rM.length + 1) (mf (e :: rM)) from r1)
  refine ⟨W', h1, hh W' F (QuA (.slice (if c = 1 then some ⟨g, off, none⟩ else some ⟨g, off + 4, none⟩) rM.length (c - 1)) rM) ⟨Kp.grown h2 (fun k e => by have := Option.some.inj e; rw [← this]; exact r2 g rfl), fun k h => .inl h⟩ ⟨?_, fun k hk2 => ?_, fun k hk2 => Nat.lt_of_lt_of_le (r3 k hk2) h2.size⟩, h2⟩
  · have e1 : (mf (e :: rM)).drop 4 = mf rM := by
      have : mf (e :: rM) = mcl e ++ mf rM := by simp [mf]
      rw [this]
      rfl
    rw [e1] at h3
    exact h3
  · refine r2 k ?_
    split at hk2 <;> exact hk2
theorem IW.set7 {g : Nat} {cs : Array Value} {t : TypeId} (h : IW W w x b wh L (BkA g cs t :: R)) (n : Nat) (v : Value) : IW W (w.setCell ⟨g, n, none⟩ v) x b wh L (BkA g (cs.setIfInBounds n v) t :: R) := by
  obtain ⟨i, hN, hf⟩ := h
  exact ⟨i, hN.store (k := 7) rfl n v, hf⟩
theorem IW.set8 {a : As} {g : Nat} {cs : Array Value} {t : TypeId} (h : IW W w x b wh L (a :: BkA g cs t :: R)) (n : Nat) (v : Value) : IW W (w.setCell ⟨g, n, none⟩ v) x b wh L (a :: BkA g (cs.setIfInBounds n v) t :: R) := by
  obtain ⟨i, hN, hf⟩ := h
  exact ⟨i, hN.store (k := 8) rfl n v, hf⟩
theorem size4 : (Try.prog.info? 39).map (·.size) = some 4 := by kernel_rfl
set_option maxHeartbeats 4000000 in
theorem recv_any (h : IX W w x b L R) (ok : b.Ok) :
    Calls Try.prog 13 #[.pointer (some ⟨x, 0, none⟩)] w fun e w' => (b.rd = [] ∧ e = .returned (.tuple #[.agg #[.int .u16 0, .bool false, .int .u32 0, .slice none 0 0], .bool false]) ∧ IX W w' x b L R) ∨
      ∃ (m : Ms) (l : List Ms) (A : Option Addr) (k c : Nat), b.rd = m :: l ∧ (m, (A, k, c)) ∈ L ∧ e = .returned (.tuple #[.agg #[.int .u16 (m.s : Int), .bool m.u, .int .u32 (m.p : Int), .slice A k c], .bool true]) ∧ IX W w' x { b with rd := l } L R := by
  have HI := Lib.hid h
  have HOK := Lib.hid ok
  have HC := Lib.hid fun w2 (hb : Below w.heap.size w w2) => ready_any (h.next hb)
  clear h ok
  go_enter Try.func13, Try.ntmps13
  go_upto_region 1 with fail
  have HB1 := Lib.hid ((Below.refl w.heap.size w).alloc (Nat.le_refl _) (.cells #[.int .u16 0, .bool false, .int .u32 0, .slice none 0 0] 39))
  have HI1 : Hid (IW W (w.alloc (.cells #[.int .u16 0, .bool false, .int .u32 0, .slice none 0 0] 39)) x b b.whole L _) := Lib.hid (IW.boxed HI.out (mv 0 false 0 none 0 0) 39)
  have C1 := Lib.hid (HC.out _ HB1.out)
  clear HI HC HB1
  generalize w.alloc (.cells #[.int .u16 0, .bool false, .int .u32 0, .slice none 0 0] 39) = w1 at HI1 C1 ⊢
  generalize w.heap.size = g at HI1 ⊢
  obtain ⟨q, hq⟩ : ∃ q, b.whole = q := ⟨_, rfl⟩
  have HQ := Lib.hid hq
  rw [hq] at HI1
  clear hq
  have hbg := HI1.out.bk7
  have r0 : w1.cell? ⟨g, 0, none⟩ = some (.int .u16 0) := hbg.cell 0
  have r1 : w1.cell? ⟨g, 1, none⟩ = some (.bool false) := hbg.cell 1
  have r2 : w1.cell? ⟨g, 2, none⟩ = some (.int .u32 0) := hbg.cell 2
  have r3 : w1.cell? ⟨g, 3, none⟩ = some (.slice none 0 0) := hbg.cell 3
  have f0 := hbg.frozen 0
  have f1 := hbg.frozen 1
  have f2 := hbg.frozen 2
  have f3 := hbg.frozen 3
  cases hrd : b.rd with
  | nil =>
    have C2 : Hid (Calls Try.prog 21 #[.pointer (some ⟨x, 0, none⟩)] w1 fun e w' => e = .returned (.int .i64 0) ∧ w1 = w') := by
      have h1 := C1.out
      rw [hrd] at h1
      exact Lib.hid h1
    have HRD := Lib.hid hrd
    clear hrd C1
    go_wp2_with (go_at_call 21; (with_reducible refine C2.out.mono ?_); rintro e w ⟨rfl, rfl⟩)
    refine bodyPost_ret (v := .tuple #[.agg #[.int .u16 0, .bool false, .int .u32 0, .slice none 0 0], .bool false]) (by simp [results, Try.results13, go_sem, r0, r1, r2, r3]) rfl ?_
    refine .inl ⟨HRD.out, rfl, ?_⟩
    exact (((((HI1.out.set7 0 _).set7 1 _).set7 2 _).set7 3 _).unbox).whx HQ.out.symm
  | cons m l =>
    obtain ⟨i, hf, hN, hbx⟩ := HI1.out.cells
    obtain ⟨ps, pj, pm, pvn, pv, wM, rM⟩ := i
    have hrm := hf.rd
    simp only at hrm
    rw [hrd] at hrm
    cases rM with
    | nil => simp at hrm
    | cons e rM =>
      obtain ⟨m', A, k, c⟩ := e
      simp only [List.map_cons, List.cons.injEq] at hrm
      obtain ⟨rfl, hrl⟩ := hrm
      obtain ⟨Fq, hq, _⟩ := hN.at (k := 5) rfl
      obtain ⟨gq, off, cq, hv⟩ := hq.1.pos (by simp)
      simp only at hv
      subst hv
      have hq1 := hq.1
      have q0 : w1.cell? ⟨gq, off, none⟩ = some (.int .u16 (m'.s : Int)) := by
        have := hq1.cellAt (j := 0) (u := .int .u16 (m'.s : Int)) rfl
        simpa using this
      have q1 : w1.cell? ⟨gq, off + 1, none⟩ = some (.bool m'.u) := hq1.cellAt (j := 1) (u := .bool m'.u) rfl
      have q2 : w1.cell? ⟨gq, off + 2, none⟩ = some (.int .u32 (m'.p : Int)) := hq1.cellAt (j := 2) (u := .int .u32 (m'.p : Int)) rfl
      have q3 : w1.cell? ⟨gq, off + 3, none⟩ = some (.slice A k c) := hq1.cellAt (j := 3) (u := .slice A k c) rfl
      obtain ⟨_, _, hfo, hle, _⟩ := hq1.form
      have hcq : rM.length + 1 ≤ cq := by
        simp only [Value.slice.injEq, List.length_cons] at hfo
        have h1 := hfo.2.2
        simp only [List.length_cons] at hle
        omega
      have hlen1 : (((m', (A, k, c)) :: rM : List Me)).length = rM.length + 1 := rfl
      have c6 : w1.cell? ⟨x, 6, none⟩ = some (.slice (some ⟨gq, off, none⟩) (rM.length + 1) cq) := hbx.cell 6
      have hk1 := fun W => run_cut_one (P := Try.prog) (n := rM.length + 1) (g := gq) (off := off) (c := cq) Try.underlying59 size4 (by omega) W
      have hk2 := fun W => run_cut_front (P := Try.prog) (n := rM.length) (g := gq) (off := off) (c := cq) Try.underlying59 size4 W
      have C2 : Hid (Calls Try.prog 21 #[.pointer (some ⟨x, 0, none⟩)] w1 fun e w' => e = .returned (.int .i64 ((l.length + 1 : Nat) : Int)) ∧ w1 = w') := by
        have h1 := C1.out
        rw [hrd] at h1
        exact Lib.hid h1
      have hz : (((l.length + 1 : Nat) : Int) == 0) = false := by rw [beq_eq_false_iff_ne]; omega
      have HF := Lib.hid hf
      have HN := Lib.hid hN
      have HRD := Lib.hid hrd
      have HRL := Lib.hid hrl
      have HML : Hid ((m', (A, k, c)) ∈ L) := Lib.hid (hf.inr _ (List.mem_cons_self ..))
      have HKL : Hid (m'.d.length = k) := Lib.hid (hf.dat _ HML.out)
      clear hf hN hbx hq hq1 hfo hle hcq hrd hrl C1 HI1
      generalize l.length + 1 = ll at C2 hz
      go_upto_region 5 with (go_at_call 21; (with_reducible refine C2.out.mono ?_); rintro e w ⟨rfl, rfl⟩)
      have hN5 := (HN.out.box #[.int .u16 (m'.s : Int), .bool m'.u, .int .u32 (m'.p : Int), .slice A k c] 39).perm (l' := (⟨ps, pj, pm, pvn, .slice (some ⟨gq, off, none⟩) (rM.length + 1) cq, wM, (m', (A, k, c)) :: rM⟩ : Iv).parts x b q L (BkA w1.heap.size #[.int .u16 (m'.s : Int), .bool m'.u, .int .u32 (m'.p : Int), .slice A k c] 39 :: BkA g (mv 0 false 0 none 0 0) 39 :: R)) (by unfold Iv.parts; exact List.perm_middle (l₁ := [_, _, _, _, _, _, _]).symm)
      obtain ⟨W3, hcl, hN3, hgr⟩ := quPop hN5 (k := 5) rfl rfl 0
      obtain ⟨A2, hA2⟩ : ∃ A2, (if cq = 1 then some (⟨gq, off, none⟩ : Addr) else some ⟨gq, off + 4, none⟩) = A2 := ⟨_, rfl⟩
      rw [hA2] at hN3 hk2
      have HN3 := Lib.hid hN3
      have hbx3 := hN3.bk (k := 0) rfl
      have hbg3 := hN3.bk (k := 7) rfl
      have x6 : W3.cell? ⟨x, 6, none⟩ = some (.slice (some ⟨gq, off, none⟩) (rM.length + 1) cq) := hbx3.cell 6
      have fx6 := hbx3.frozen 6
      clear hN5 hN3 hgr hbx3 hbg3 q0 q1 q2 q3 c6 r0 r1 r2 r3 f0 f1 f2 f3 hA2 HN
      go_upto_region 6 with fail
      generalize w1.heap.size = g2 at HN3 ⊢
      go_upto_region 7 with fail
      have HN4 := Lib.hid (HN3.out.store (k := 0) rfl 6 (.slice A2 rM.length (cq - 1)))
      clear HN3 x6 fx6 hcl
      generalize W3.setCell ⟨x, 6, none⟩ (.slice A2 rM.length (cq - 1)) = W4 at HN4 ⊢
      have HI4 : Hid (IW W W4 x { b with rd := l } q L (BkA g2 #[.int .u16 (m'.s : Int), .bool m'.u, .int .u32 (m'.p : Int), .slice A k c] 39 :: BkA g (mv 0 false 0 none 0 0) 39 :: R)) := Lib.hid ⟨⟨ps, pj, pm, pvn, .slice A2 rM.length (cq - 1), wM, rM⟩, HN4.out, ⟨HF.out.ws, HRL.out, HF.out.inw, fun e he => HF.out.inr e (List.mem_cons_of_mem _ he), HF.out.dat⟩⟩
      have hwq : ({ b with rd := l } : Ib).whole + k = q := by
        rw [← HQ.out]
        unfold Ib.whole bsum
        rw [HRD.out]
        simp only [List.map_cons, List.sum_cons]
        have := HKL.out
        omega
      have hqb : q ≤ 1048576 := by
        rw [← HQ.out]
        exact HOK.out.len.2.2.2.2
      have HWQ : Hid (q - k = ({ b with rd := l } : Ib).whole) := Lib.hid (by omega)
      have hw : IntKind.i64.wrap ((q : Int) - (k : Int)) = ((q - k : Nat) : Int) := by
        have h1 : k ≤ q := by omega
        simp [IntKind.wrap, IntKind.signed, IntKind.bits]
        omega
      obtain ⟨i8, _, _, hb8⟩ := HI4.out.cells
      have hg8 := HI4.out.bk7
      have x7 : W4.cell? ⟨x, 7, none⟩ = some (.int .i64 (q : Int)) := hb8.cell 7
      have x7' : W4.drew.cell? ⟨x, 7, none⟩ = some (.int .i64 (q : Int)) := hb8.cell 7
      have fx7 := hb8.frozen 7
      have fx7' := hb8.drew.frozen 7
      have g3 : W4.cell? ⟨g2, 3, none⟩ = some (.slice A k c) := hg8.cell 3
      have g3' : W4.drew.cell? ⟨g2, 3, none⟩ = some (.slice A k c) := hg8.cell 3
      clear hb8 hg8 hwq hqb HN4 HF hk1 hk2
      go_region
      all_goals
        have HI5 := Lib.hid ((HI4.out.setw (q - k)).next (Below.refl _ _).drew)
        clear HI4 x7 x7' fx7 fx7' g3 g3' hw
        generalize (W4.setCell ⟨x, 7, none⟩ (.int .i64 ((q - k : Nat) : Int))).drew = W5 at HI5 ⊢
        have hg8 := HI5.out.bk7
        have hg9 := HI5.out.bk8
        have a0 : W5.cell? ⟨g2, 0, none⟩ = some (.int .u16 (m'.s : Int)) := hg8.cell 0
        have a1 : W5.cell? ⟨g2, 1, none⟩ = some (.bool m'.u) := hg8.cell 1
        have a2 : W5.cell? ⟨g2, 2, none⟩ = some (.int .u32 (m'.p : Int)) := hg8.cell 2
        have a3 : W5.cell? ⟨g2, 3, none⟩ = some (.slice A k c) := hg8.cell 3
        have r0 : W5.cell? ⟨g, 0, none⟩ = some (.int .u16 0) := hg9.cell 0
        have r1 : W5.cell? ⟨g, 1, none⟩ = some (.bool false) := hg9.cell 1
        have r2 : W5.cell? ⟨g, 2, none⟩ = some (.int .u32 0) := hg9.cell 2
        have r3 : W5.cell? ⟨g, 3, none⟩ = some (.slice none 0 0) := hg9.cell 3
        have f0 := hg9.frozen 0
        have f1 := hg9.frozen 1
        have f2 := hg9.frozen 2
        have f3 := hg9.frozen 3
        clear hg8 hg9
        go_wp2_with fail
        have HI6 := Lib.hid ((((HI5.out.set8 0 (.int .u16 (m'.s : Int))).set8 1 (.bool m'.u)).set8 2 (.int .u32 (m'.p : Int))).set8 3 (.slice A k c))
        clear HI5 a0 a1 a2 a3 r0 r1 r2 r3 f0 f1 f2 f3
        generalize (((W5.setCell ⟨g, 0, none⟩ (.int .u16 (m'.s : Int))).setCell ⟨g, 1, none⟩ (.bool m'.u)).setCell ⟨g, 2, none⟩ (.int .u32 (m'.p : Int))).setCell ⟨g, 3, none⟩ (.slice A k c) = W6 at HI6 ⊢
        have hg9 := HI6.out.bk8
        have r0 : W6.cell? ⟨g, 0, none⟩ = some (.int .u16 (m'.s : Int)) := hg9.cell 0
        have r1 : W6.cell? ⟨g, 1, none⟩ = some (.bool m'.u) := hg9.cell 1
        have r2 : W6.cell? ⟨g, 2, none⟩ = some (.int .u32 (m'.p : Int)) := hg9.cell 2
        have r3 : W6.cell? ⟨g, 3, none⟩ = some (.slice A k c) := hg9.cell 3
        refine bodyPost_ret (v := .tuple #[.agg #[.int .u16 (m'.s : Int), .bool m'.u, .int .u32 (m'.p : Int), .slice A k c], .bool true]) (by simp [results, Try.results13, go_sem, r0, r1, r2, r3]) rfl ?_
        exact .inr ⟨m', l, A, k, c, HRD.out, HML.out, rfl, HI6.out.unbox.unbox.whx HWQ.out⟩
end
end Ix
end Go.Proofs.Ytednkcjmlpgipaa
