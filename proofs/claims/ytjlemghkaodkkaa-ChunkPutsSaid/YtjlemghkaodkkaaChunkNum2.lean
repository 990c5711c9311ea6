/-
  What chunk.numbers does.
-/
import Derived.Test.YtjlemghkaodkkaaChunkNum
namespace Go.Proofs.Ytjlemghkaodkkaa
open Go.RowKit Wire Tlv Chunk

theorem own_up' {w W : World} {o : Obj} {A : Option Addr} {n c : Nat} {l : List Int} (h : Own (w.alloc o) W A n c l) : Own w W A n c l :=
  ⟨own_base h.1 (by simp), (((Below.refl _ w).alloc (Nat.le_refl _) o).trans (h.2.mono (by simp)))⟩
/-- What chunk.numbers leaves. -/
def NumOut (w : World) (l : List Int) (e : Ending) (w' : World) : Prop := ∃ A n c, e = .returned (.slice A n c) ∧ Own w w' A n c l
theorem own_lift {w W1 W : World} {A : Option Addr} {n c : Nat} {l : List Int} (h : Own W1 W A n c l) (hb : Below w.heap.size w W1) : Own w W A n c l := ⟨own_base h.1 hb.size, hb.trans (h.2.mono hb.size)⟩
set_option maxRecDepth 100000 in
set_option maxHeartbeats 1000000 in
theorem numbers0 (c : Ck) (s : Ls) (w : World) (hk : c.kd = 0) (h : Ch w c s) :
    Calls Try.prog 40 #[.agg (cv c s)] w (NumOut w (nums c)) := by
  have HU : Hid (U1 w (cv c s) _) := Lib.hid (U1.new w (cv c s))
  have htsn := h.ok.tsn
  have hppid := h.ok.ppid
  have hnm := Lib.hid (show nums c = be 4 c.tsn ++ (be 2 c.sid ++ (be 2 c.ssn ++ (be 4 c.ppid))) by simp [nums, hk])
  clear h
  go_enter Try.func40, Try.ntmps40
  go_upto_region 2 with fail
  generalize World.alloc w _ = W1 at HU ⊢
  have hlt := HU.out.1.lt
  have HO0 := Lib.hid (own_nil W1)
  have g0 := HU.out.1.c0
  rw [hk] at g0
  have g1 := (HU.out.1.nextB HO0.out.2 hlt).c4
  go_wp2_with fail
  (with_reducible refine (four_any W1 _ _ _ _ _ 4 _ htsn rfl (by omega) HO0.out).mono ?_)
  rintro e X1 ⟨A1, c1, rfl, ho1, hg1⟩
  have HO1 := Lib.hid ho1
  clear g0 ho1 hg1 g1
  have g2 := (HU.out.1.nextB HO1.out.2 hlt).c7
  go_wp2_with fail
  (with_reducible refine (two_any W1 _ _ _ _ _ 6 _ rfl (by omega) HO1.out).mono ?_)
  rintro e X2 ⟨A2, c2, rfl, ho2, hg2⟩
  have HO2 := Lib.hid ho2
  clear ho2 hg2 g2
  have g3 := (HU.out.1.nextB HO2.out.2 hlt).c8
  go_wp2_with fail
  (with_reducible refine (two_any W1 _ _ _ _ _ 8 _ rfl (by omega) HO2.out).mono ?_)
  rintro e X3 ⟨A3, c3, rfl, ho3, hg3⟩
  have HO3 := Lib.hid ho3
  clear ho3 hg3 g3
  have g4 := (HU.out.1.nextB HO3.out.2 hlt).c9
  go_wp2_with fail
  (with_reducible refine (four_any W1 _ _ _ _ _ 12 _ hppid rfl (by omega) HO3.out).mono ?_)
  rintro e X4 ⟨A4, c4, rfl, ho4, hg4⟩
  have HO4 := Lib.hid ho4
  clear ho4 hg4 g4
  go_wp2_with fail
  go_ret
  exact ⟨_, _, _, rfl, own_lift (by have := HO4.out; rw [hnm.out]; simpa [List.append_assoc] using this) HU.out.2⟩
set_option maxRecDepth 100000 in
set_option maxHeartbeats 1000000 in
theorem numbers1 (c : Ck) (s : Ls) (w : World) (hk : c.kd = 1) (h : Ch w c s) :
    Calls Try.prog 40 #[.agg (cv c s)] w (NumOut w (nums c)) := by
  have HU : Hid (U1 w (cv c s) _) := Lib.hid (U1.new w (cv c s))
  have htag := h.ok.tag
  have hrw := h.ok.rw
  have htsn := h.ok.tsn
  have hnm := Lib.hid (show nums c = be 4 c.tag ++ (be 4 c.rw ++ (be 2 c.out ++ (be 2 c.inn ++ (be 4 c.tsn)))) by simp [nums, hk])
  clear h
  go_enter Try.func40, Try.ntmps40
  go_upto_region 2 with fail
  generalize World.alloc w _ = W1 at HU ⊢
  have hlt := HU.out.1.lt
  have HO0 := Lib.hid (own_nil W1)
  have g0 := HU.out.1.c0
  rw [hk] at g0
  have g1 := (HU.out.1.nextB HO0.out.2 hlt).c2
  go_wp2_with fail
  (with_reducible refine (four_any W1 _ _ _ _ _ 4 _ htag rfl (by omega) HO0.out).mono ?_)
  rintro e X1 ⟨A1, c1, rfl, ho1, hg1⟩
  have HO1 := Lib.hid ho1
  clear g0 ho1 hg1 g1
  have g2 := (HU.out.1.nextB HO1.out.2 hlt).c3
  go_wp2_with fail
  (with_reducible refine (four_any W1 _ _ _ _ _ 8 _ hrw rfl (by omega) HO1.out).mono ?_)
  rintro e X2 ⟨A2, c2, rfl, ho2, hg2⟩
  have HO2 := Lib.hid ho2
  clear ho2 hg2 g2
  have g3 := (HU.out.1.nextB HO2.out.2 hlt).c5
  go_wp2_with fail
  (with_reducible refine (two_any W1 _ _ _ _ _ 10 _ rfl (by omega) HO2.out).mono ?_)
  rintro e X3 ⟨A3, c3, rfl, ho3, hg3⟩
  have HO3 := Lib.hid ho3
  clear ho3 hg3 g3
  have g4 := (HU.out.1.nextB HO3.out.2 hlt).c6
  go_wp2_with fail
  (with_reducible refine (two_any W1 _ _ _ _ _ 12 _ rfl (by omega) HO3.out).mono ?_)
  rintro e X4 ⟨A4, c4, rfl, ho4, hg4⟩
  have HO4 := Lib.hid ho4
  clear ho4 hg4 g4
  have g5 := (HU.out.1.nextB HO4.out.2 hlt).c4
  go_wp2_with fail
  (with_reducible refine (four_any W1 _ _ _ _ _ 16 _ htsn rfl (by omega) HO4.out).mono ?_)
  rintro e X5 ⟨A5, c5, rfl, ho5, hg5⟩
  have HO5 := Lib.hid ho5
  clear ho5 hg5 g5
  go_wp2_with fail
  go_ret
  exact ⟨_, _, _, rfl, own_lift (by have := HO5.out; rw [hnm.out]; simpa [List.append_assoc] using this) HU.out.2⟩
set_option maxRecDepth 100000 in
set_option maxHeartbeats 1000000 in
theorem numbers2 (c : Ck) (s : Ls) (w : World) (hk : c.kd = 2) (h : Ch w c s) :
    Calls Try.prog 40 #[.agg (cv c s)] w (NumOut w (nums c)) := by
  have HU : Hid (U1 w (cv c s) _) := Lib.hid (U1.new w (cv c s))
  have htag := h.ok.tag
  have hrw := h.ok.rw
  have htsn := h.ok.tsn
  have hnm := Lib.hid (show nums c = be 4 c.tag ++ (be 4 c.rw ++ (be 2 c.out ++ (be 2 c.inn ++ (be 4 c.tsn)))) by simp [nums, hk])
  clear h
  go_enter Try.func40, Try.ntmps40
  go_upto_region 2 with fail
  generalize World.alloc w _ = W1 at HU ⊢
  have hlt := HU.out.1.lt
  have HO0 := Lib.hid (own_nil W1)
  have g0 := HU.out.1.c0
  rw [hk] at g0
  have g1 := (HU.out.1.nextB HO0.out.2 hlt).c2
  go_wp2_with fail
  (with_reducible refine (four_any W1 _ _ _ _ _ 4 _ htag rfl (by omega) HO0.out).mono ?_)
  rintro e X1 ⟨A1, c1, rfl, ho1, hg1⟩
  have HO1 := Lib.hid ho1
  clear g0 ho1 hg1 g1
  have g2 := (HU.out.1.nextB HO1.out.2 hlt).c3
  go_wp2_with fail
  (with_reducible refine (four_any W1 _ _ _ _ _ 8 _ hrw rfl (by omega) HO1.out).mono ?_)
  rintro e X2 ⟨A2, c2, rfl, ho2, hg2⟩
  have HO2 := Lib.hid ho2
  clear ho2 hg2 g2
  have g3 := (HU.out.1.nextB HO2.out.2 hlt).c5
  go_wp2_with fail
  (with_reducible refine (two_any W1 _ _ _ _ _ 10 _ rfl (by omega) HO2.out).mono ?_)
  rintro e X3 ⟨A3, c3, rfl, ho3, hg3⟩
  have HO3 := Lib.hid ho3
  clear ho3 hg3 g3
  have g4 := (HU.out.1.nextB HO3.out.2 hlt).c6
  go_wp2_with fail
  (with_reducible refine (two_any W1 _ _ _ _ _ 12 _ rfl (by omega) HO3.out).mono ?_)
  rintro e X4 ⟨A4, c4, rfl, ho4, hg4⟩
  have HO4 := Lib.hid ho4
  clear ho4 hg4 g4
  have g5 := (HU.out.1.nextB HO4.out.2 hlt).c4
  go_wp2_with fail
  (with_reducible refine (four_any W1 _ _ _ _ _ 16 _ htsn rfl (by omega) HO4.out).mono ?_)
  rintro e X5 ⟨A5, c5, rfl, ho5, hg5⟩
  have HO5 := Lib.hid ho5
  clear ho5 hg5 g5
  go_wp2_with fail
  go_ret
  exact ⟨_, _, _, rfl, own_lift (by have := HO5.out; rw [hnm.out]; simpa [List.append_assoc] using this) HU.out.2⟩
set_option maxRecDepth 100000 in
set_option maxHeartbeats 1000000 in
theorem numbers7 (c : Ck) (s : Ls) (w : World) (hk : c.kd = 7) (h : Ch w c s) :
    Calls Try.prog 40 #[.agg (cv c s)] w (NumOut w (nums c)) := by
  have HU : Hid (U1 w (cv c s) _) := Lib.hid (U1.new w (cv c s))
  have htsn := h.ok.tsn
  have hnm := Lib.hid (show nums c = be 4 c.tsn by simp [nums, hk])
  clear h
  go_enter Try.func40, Try.ntmps40
  go_upto_region 2 with fail
  generalize World.alloc w _ = W1 at HU ⊢
  have hlt := HU.out.1.lt
  have HO0 := Lib.hid (own_nil W1)
  have g0 := HU.out.1.c0
  rw [hk] at g0
  have g1 := (HU.out.1.nextB HO0.out.2 hlt).c4
  go_wp2_with fail
  (with_reducible refine (four_any W1 _ _ _ _ _ 4 _ htsn rfl (by omega) HO0.out).mono ?_)
  rintro e X1 ⟨A1, c1, rfl, ho1, hg1⟩
  have HO1 := Lib.hid ho1
  clear g0 ho1 hg1 g1
  go_wp2_with fail
  go_ret
  exact ⟨_, _, _, rfl, own_lift (by have := HO1.out; rw [hnm.out]; simpa [List.append_assoc] using this) HU.out.2⟩
set_option maxRecDepth 100000 in
set_option maxHeartbeats 1000000 in
theorem numbersN (c : Ck) (s : Ls) (w : World) (hk : ¬ (c.kd = 0 ∨ c.kd = 1 ∨ c.kd = 2 ∨ c.kd = 3 ∨ c.kd = 7)) (_h : Ch w c s) :
    Calls Try.prog 40 #[.agg (cv c s)] w (NumOut w (nums c)) := by
  have HU : Hid (U1 w (cv c s) _) := Lib.hid (U1.new w (cv c s))
  have hnm := Lib.hid (show nums c = [] by unfold nums; rw [if_neg (by omega), if_neg (by omega), if_neg (by omega), if_neg (by omega)])
  have d0 : ((c.kd : Int) == 0) = false := by simp; omega
  have d1 : ((c.kd : Int) == 1) = false := by simp; omega
  have d2 : ((c.kd : Int) == 2) = false := by simp; omega
  have d3 : ((c.kd : Int) == 3) = false := by simp; omega
  have d7 : ((c.kd : Int) == 7) = false := by simp; omega
  go_enter Try.func40, Try.ntmps40
  go_upto_region 2 with fail
  generalize World.alloc w _ = W1 at HU ⊢
  have HO0 := Lib.hid (own_nil W1)
  have g0 := HU.out.1.c0
  go_wp2_with fail
  go_ret
  exact ⟨_, _, _, rfl, own_lift (by have := HO0.out; rw [hnm.out]; exact this) HU.out.2⟩
set_option maxRecDepth 100000 in
set_option maxHeartbeats 1000000 in
theorem numbers3 (c : Ck) (s : Ls) (w : World) (hk : c.kd = 3) (h : Ch w c s) (hg : s.gn ≤ 64) (hu : s.un ≤ 16) :
    Calls Try.prog 40 #[.agg (cv c s)] w (NumOut w (nums c)) := by
  have HU : Hid (U1 w (cv c s) _) := Lib.hid (U1.new w (cv c s))
  have htsn := h.ok.tsn
  have hrw := h.ok.rw
  have hnm := Lib.hid (show nums c = be 4 c.tsn ++ (be 4 c.rw ++ (be 2 s.gn ++ (be 2 s.un ++ (gb c.ga ++ ub c.du)))) by rw [← h.z.g, ← h.z.u]; simp [nums, hk])
  have HGL := Lib.hid h.z.g
  have HUL := Lib.hid h.z.u
  have HGR := Lib.hid h.gr
  have HUR := Lib.hid h.ur
  have HDU := Lib.hid h.ok.du
  have wg : IntKind.u16.wrap (s.gn : Int) = (s.gn : Int) := by rw [IntKind.wrap_u16]; omega
  have wu : IntKind.u16.wrap (s.un : Int) = (s.un : Int) := by rw [IntKind.wrap_u16]; omega
  clear h
  go_enter Try.func40, Try.ntmps40
  go_upto_region 2 with fail
  generalize World.alloc w _ = W1 at HU ⊢
  have hlt := HU.out.1.lt
  have HO0 := Lib.hid (own_nil W1)
  have g0 := HU.out.1.c0
  rw [hk] at g0
  have g1 := (HU.out.1.nextB HO0.out.2 hlt).c4
  go_wp2_with fail
  (with_reducible refine (four_any W1 _ _ _ _ _ 4 _ htsn rfl (by omega) HO0.out).mono ?_)
  rintro e X1 ⟨A1, c1, rfl, ho1, hg1⟩
  have HO1 := Lib.hid ho1
  clear g0 ho1 hg1 g1
  have g2 := (HU.out.1.nextB HO1.out.2 hlt).c3
  go_wp2_with fail
  (with_reducible refine (four_any W1 _ _ _ _ _ 8 _ hrw rfl (by omega) HO1.out).mono ?_)
  rintro e X2 ⟨A2, c2, rfl, ho2, hg2⟩
  have HO2 := Lib.hid ho2
  clear ho2 hg2 g2
  have g3 := (HU.out.1.nextB HO2.out.2 hlt).c12
  go_wp2_with fail
  (with_reducible refine (two_any W1 _ _ _ _ _ 10 _ rfl (by omega) HO2.out).mono ?_)
  rintro e X3 ⟨A3, c3, rfl, ho3, hg3⟩
  have HO3 := Lib.hid ho3
  clear ho3 hg3 g3
  have g4 := (HU.out.1.nextB HO3.out.2 hlt).c13
  go_wp2_with fail
  (with_reducible refine (two_any W1 _ _ _ _ _ 12 _ rfl (by omega) HO3.out).mono ?_)
  rintro e X4 ⟨A4, c4, rfl, ho4, hg4⟩
  have HO4 := Lib.hid ho4
  clear ho4 hg4 g4
  have q12 := (HU.out.1.nextB HO4.out.2 hlt).c12
  obtain ⟨base, hbase⟩ : ∃ base, [] ++ be 4 c.tsn ++ be 4 c.rw ++ be 2 s.gn ++ be 2 s.un = base := ⟨_, rfl⟩
  rw [hbase] at HO4
  have HBASE := Lib.hid hbase
  clear hbase wg wu
  go_wp2_with fail
  clear q12
  go_loopw [3, 76] (fun v i wr => ∃ (k m : Nat) (A : Option Addr) (c' : Nat), k ≤ s.gn ∧ i = .int .i64 (k : Int) ∧ v = .slice A m c' ∧ Hid (m = 12 + 4 * k) ∧ Hid (Own W1 wr A m c' (base ++ gb (c.ga.take k)))) (fun _ i _ => s.gn - (intOf i).toNat)
  case atStart => exact ⟨0, 12, _, _, by omega, rfl, rfl, Lib.hid rfl, by rw [List.take_zero]; exact Lib.hid (by have := HO4.out; simpa [gb] using this)⟩
  case round =>
    obtain ⟨k, m, A, c', hk1, rfl, rfl, hm, hown⟩ := hrel
    have hmb : m ≤ 400 := by have := hm.out; omega
    by_cases hlt1 : k < s.gn
    · have hkl : k < c.ga.length := by rw [HGL.out]; exact hlt1
      obtain ⟨a, hA, k0, k1⟩ := gap_at ((HGR.out.below HU.out.2).below (hown.out.2.mono (Nat.le_refl _))) hkl
      rw [hA]
      have HT : Hid (gb (c.ga.take (k + 1)) = gb (c.ga.take k) ++ (be 2 (c.ga[k]).1 ++ be 2 (c.ga[k]).2)) := Lib.hid (by rw [List.take_succ_eq_append_getElem hkl, gb_snoc])
      generalize c.ga[k] = g at *
      obtain ⟨g1, g2⟩ := g
      simp only at k0 k1 HT
      have HO5 : Hid (Own W1 (wr.alloc (.cells #[.int .u16 (g1 : Int), .int .u16 (g2 : Int)] 50)) A m c' (base ++ gb (c.ga.take k))) := Lib.hid (hown.out.next ((Below.refl _ _).alloc (Nat.le_refl _) _))
      have HB5 : Hid (Bk (wr.alloc (.cells #[.int .u16 (g1 : Int), .int .u16 (g2 : Int)] 50)) wr.heap.size #[.int .u16 (g1 : Int), .int .u16 (g2 : Int)] 50) := Lib.hid (Bk.new _ _ _)
      have hne : (Value.slice A m c').ownBlock ≠ some wr.heap.size := fun e => by have := (hown.out.1.lt _ e).2; omega
      have HNE := Lib.hid hne
      clear hne
      go_wp2_with fail
      (with_reducible refine (two_any W1 _ _ _ _ _ (m + 2) _ rfl (by omega) HO5.out).mono ?_)
      rintro e X6 ⟨A6, c6, rfl, ho6, hg6⟩
      have HO6 := Lib.hid ho6
      have hB6 := HB5.out.gr hg6 HNE.out
      have p1 := hB6.cell 1
      simp at p1
      clear ho6 hg6 hB6 k0 k1
      go_wp2_with fail
      (with_reducible refine (two_any W1 _ _ _ _ _ (m + 4) _ (by omega) (by omega) HO6.out).mono ?_)
      rintro e X7 ⟨A7, c7, rfl, ho7, hg7⟩
      have HO7 : Hid (Own W1 X7 A7 (m + 4) c7 (base ++ gb (c.ga.take (k + 1)))) := Lib.hid (by rw [HT.out]; simpa [List.append_assoc] using ho7)
      clear ho7 hg7 p1
      go_wp2_with fail
      go_roundw
      case rel => exact ⟨k + 1, m + 4, _, _, by omega, by go_num, rfl, Lib.hid (by have := hm.out; omega), HO7⟩
      case measure => simp [intOf]; omega
    · have HT : Hid (gb (c.ga.take k) = gb c.ga) := Lib.hid (by rw [List.take_of_length_le (by rw [HGL.out]; omega)])
      have HO5 : Hid (Own W1 wr A m c' (base ++ gb c.ga)) := Lib.hid (by rw [← HT.out]; exact hown.out)
      have q13 := (HU.out.1.nextB HO5.out.2 hlt).c13
      clear hown HT
      go_wp2_with fail
      clear q13
      go_loopw [3, 92] (fun v i wr => ∃ (j m' : Nat) (A : Option Addr) (c' : Nat), j ≤ s.un ∧ i = .int .i64 (j : Int) ∧ v = .slice A m' c' ∧ Hid (m' = m + 4 * j) ∧ Hid (Own W1 wr A m' c' (base ++ gb c.ga ++ ub (c.du.take j)))) (fun _ i _ => s.un - (intOf i).toNat)
      case atStart => exact ⟨0, m, _, _, by omega, rfl, rfl, Lib.hid rfl, by rw [List.take_zero]; exact Lib.hid (by have := HO5.out; simpa [ub] using this)⟩
      case round =>
        obtain ⟨j, m', A', c'', hj1, rfl, rfl, hm', hown⟩ := hrel
        have hmb' : m' ≤ 600 := by have := hm'.out; omega
        by_cases hlt2 : j < s.un
        · have hkl : j < c.du.length := by rw [HUL.out]; exact hlt2
          obtain ⟨a, hA, k0⟩ := num_at ((HUR.out.below HU.out.2).below (hown.out.2.mono (Nat.le_refl _))) hkl
          rw [hA]
          have HT : Hid (ub (c.du.take (j + 1)) = ub (c.du.take j) ++ be 4 (c.du[j])) := Lib.hid (by rw [List.take_succ_eq_append_getElem hkl, ub_snoc])
          have hx := HDU.out _ (List.getElem_mem hkl)
          generalize c.du[j] = x at *
          go_wp2_with fail
          (with_reducible refine (four_any W1 _ _ _ _ _ (m' + 4) _ hx rfl (by omega) hown.out).mono ?_)
          rintro e X7 ⟨A7, c7, rfl, ho7, hg7⟩
          have HO7 : Hid (Own W1 X7 A7 (m' + 4) c7 (base ++ gb c.ga ++ ub (c.du.take (j + 1)))) := Lib.hid (by rw [HT.out]; simpa [List.append_assoc] using ho7)
          clear ho7 hg7 k0
          go_wp2_with fail
          go_roundw
          case rel => exact ⟨j + 1, m' + 4, _, _, by omega, by go_num, rfl, Lib.hid (by have := hm'.out; omega), HO7⟩
          case measure => simp [intOf]; omega
        · have HO8 : Hid (Own W1 wr A' m' c'' (nums c)) := Lib.hid (by
            have := hown.out
            rw [List.take_of_length_le (by rw [HUL.out]; omega), ← HBASE.out] at this
            rw [hnm.out]
            simpa [List.append_assoc] using this)
          clear hown
          go_wp2_with fail
          go_ret
          exact ⟨_, _, _, rfl, own_lift HO8.out HU.out.2⟩
theorem numbers_any (c : Ck) (s : Ls) (w : World) (h : Ch w c s) (hg : s.gn ≤ 64) (hu : s.un ≤ 16) :
    Calls Try.prog 40 #[.agg (cv c s)] w (NumOut w (nums c)) := by
  by_cases hk : c.kd = 0 ∨ c.kd = 1 ∨ c.kd = 2 ∨ c.kd = 3 ∨ c.kd = 7
  · rcases hk with hk | hk | hk | hk | hk
    · exact numbers0 c s w hk h
    · exact numbers1 c s w hk h
    · exact numbers2 c s w hk h
    · exact numbers3 c s w hk h hg hu
    · exact numbers7 c s w hk h
  · exact numbersN c s w hk h
end Go.Proofs.Ytjlemghkaodkkaa
