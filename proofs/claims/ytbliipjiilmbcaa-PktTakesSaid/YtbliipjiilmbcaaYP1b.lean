/-
  What chunk.two, chunk.four and chunk.numbers do.
-/
import Derived.Test.YtbliipjiilmbcaaYP1a
import Derived.Test.YtbliipjiilmbcaaYChunkMay2
import Derived.Test.YtbliipjiilmbcaaYTlvOne
import Derived.IntWalk
import Derived.Laws.AppendOwnNone
set_option linter.unusedVariables false
set_option linter.unusedSimpArgs false
namespace Go.Proofs.Ytbliipjiilmbcaa
open Go.RowKit Wire Tlv Chunk

theorem be4 (x : Nat) : be 4 x = be 2 (x / 65536) ++ be 2 (x % 65536) := by
  simp only [be, List.nil_append, List.cons_append]
  rw [show x / 256 / 256 / 256 % 256 = x / 65536 / 256 % 256 by omega, show x / 256 / 256 % 256 = x / 65536 % 256 by omega, show x / 256 % 256 = x % 65536 / 256 % 256 by omega, show x % 65536 % 256 = x % 256 by omega]
/-- A chain of appends: all blocks but the row's own are as they were; the row is the old one or new. -/
def Gr (W W' : World) (v v' : Value) : Prop := W.grownBy W' v.ownBlock ∧ ∀ g, v'.ownBlock = some g → v.ownBlock = some g ∨ W.heap.size ≤ g
theorem Gr.trans {W W1 W2 : World} {v v1 v2 : Value} (h : Gr W W1 v v1) (k : Gr W1 W2 v1 v2) : Gr W W2 v v2 := by
  refine ⟨⟨k.1.os.trans h.1.os, k.1.tape.trans h.1.tape, k.1.output.trans h.1.output, Nat.le_trans h.1.size k.1.size, fun j hj hne => ?_⟩, fun g hg => ?_⟩
  · rw [k.1.block j (Nat.lt_of_lt_of_le hj h.1.size) (fun e => by
      rcases h.2 j e.symm with h2 | h2
      · exact hne h2.symm
      · omega), h.1.block j hj hne]
  · rcases k.2 g hg with h2 | h2
    · exact h.2 g h2
    · exact .inr (Nat.le_trans h.1.size h2)
theorem Gr.alloc (W : World) (v : Value) (o : Obj) : Gr W (W.alloc o) v v := ⟨World.grownBy_alloc W o _, fun _ h => .inl h⟩
theorem Gr.lies {W w' : World} {o : Obj} {v : Value} {g H n c : Nat} (h : (W.alloc o).grownBy w' v.ownBlock) (k : v.ownBlock = some g ∨ g = H) (hH : H = (W.alloc o).heap.size) : Gr W w' v (.slice (some ⟨g, 0, none⟩) n c) :=
  (Gr.alloc W v o).trans ⟨h, fun q hq => by
    have e : g = q := by simpa [Value.ownBlock] using hq
    subst e
    rcases k with k | k
    · exact .inl k
    · right
      rw [k, hH]
      exact Nat.le_refl _⟩
theorem Gr.refl (W : World) (v : Value) : Gr W W v v := ⟨⟨rfl, rfl, rfl, Nat.le_refl _, fun _ _ _ => rfl⟩, fun _ h => .inl h⟩
theorem Bk.gr {W W' : World} {b : Nat} {cs : Array Value} {t : TypeId} {v v' : Value} (h : Bk W b cs t) (k : Gr W W' v v') (hne : v.ownBlock ≠ some b) : Bk W' b cs t := (k.1.block b h.lt (fun e => hne e.symm)).trans h
theorem Row.gr {W W' : World} {A : Option Addr} {l : List Value} {v v' : Value} (h : Row W A l) (k : Gr W W' v v') (hne : ∀ a, A = some a → v.ownBlock ≠ some a.block) : Row W' A l := fun i u hu => by
  obtain ⟨a, rfl, hc⟩ := h i u hu
  exact ⟨a, rfl, k.1.cell hc (fun e => hne a rfl (by rw [← e]; unfold Addr.add; split <;> rfl))⟩
set_option maxRecDepth 100000 in
set_option maxHeartbeats 400000 in
theorem two_any (w W : World) (A : Option Addr) (n c x m : Nat) (l : List Int) (hm : n + 2 = m) (hn : n ≤ 140737488355000) (ho : Own w W A n c l) :
    Calls Try.prog 97 #[.slice A n c, .int .u16 (x : Int)] W fun e w' => ∃ A' c', e = .returned (.slice A' m c') ∧ Own w w' A' m c' (l ++ be 2 x) ∧ Gr W w' (.slice A n c) (.slice A' m c') := by
  subst hm
  obtain ⟨i0, hi0, hz0, hz1, hz2⟩ := info_parts Try_info8
  have HI := Lib.hid hi0
  have HZ0 := Lib.hid hz0
  have HZ1 := Lib.hid hz1
  have HZ2 := Lib.hid hz2
  have HO := Lib.hid ho
  clear hi0 hz0 hz1 hz2 ho
  have w1 : IntKind.u8.wrap ((x : Int) / 256) = ((x / 256 % 256 : Nat) : Int) := by rw [IntKind.wrap_u8]; omega
  have w2 : IntKind.u8.wrap (x : Int) = ((x % 256 : Nat) : Int) := by rw [IntKind.wrap_u8]; omega
  go_enter Try.func97, Try.ntmps97
  go_wp2_with (at_builtin; refine wpList_append_lies _ rfl (.tmp 5) (.tmp 11) 23 rfl w.heap.size 5 i0 (.int .u8 0) 1 1 Try.underlying23 HI.out HZ0.out HZ1.out HZ2.out rfl (by decide) _ _ _ rfl (HO.out.1.alloc _) ⟨W.heap.size, 0, none⟩ 2 2 (bs (be 2 x)) rfl rfl (bcells (Row.new W (bs (be 2 x)) _ _)) (bs_one _) (by omega) (by unfold maxLen; omega) (by omega) (by have := HO.out.2.size; simp; omega) _ rfl ?_; intro b5 cap5 w5 hown5 hgrow5 hat5 _)
  rw [bs_app] at hown5
  have hb : Below w.heap.size w w5 := (HO.out.2.alloc HO.out.2.size _).grown hgrow5 (by have := HO.out.2.size; simp; omega) (fun k hk => (HO.out.1.lt k hk).1)
  have HN : Hid (Own w w5 (some ⟨b5, 0, none⟩) (n + 2) cap5 (l ++ be 2 x)) := ⟨hown5, hb⟩
  have HG : Hid (Gr W w5 (.slice A n c) (.slice (some ⟨b5, 0, none⟩) (n + 2) cap5)) := Lib.hid (Gr.lies hgrow5 hat5 (by simp))
  clear hown5 hgrow5 hb hat5
  go_wp2_with fail
  go_ret
  exact ⟨_, _, rfl, HN.out, HG.out⟩
set_option maxRecDepth 100000 in
set_option maxHeartbeats 400000 in
theorem four_any (w W : World) (A : Option Addr) (n c x m : Nat) (l : List Int) (hx : x < 4294967296) (hm : n + 4 = m) (hn : n ≤ 140737488354000) (ho : Own w W A n c l) :
    Calls Try.prog 96 #[.slice A n c, .int .u32 (x : Int)] W fun e w' => ∃ A' c', e = .returned (.slice A' m c') ∧ Own w w' A' m c' (l ++ be 4 x) ∧ Gr W w' (.slice A n c) (.slice A' m c') := by
  have hb4 := Lib.hid (be4 x)
  obtain ⟨p, hp⟩ : ∃ p : Nat, x / 65536 = p := ⟨_, rfl⟩
  obtain ⟨q, hq⟩ : ∃ q : Nat, x % 65536 = q := ⟨_, rfl⟩
  rw [hp, hq] at hb4
  have w1 : IntKind.u16.wrap ((x : Int) / 65536) = (p : Int) := by rw [IntKind.wrap_u16]; omega
  have w2 : IntKind.u16.wrap (x : Int) = (q : Int) := by rw [IntKind.wrap_u16]; omega
  have H1 := Lib.hid (two_any w W A n c p (n + 2) l rfl (by omega) ho)
  have H2 := Lib.hid fun W A c ho => two_any w W A (n + 2) c q m (l ++ be 2 p) (by omega) (by omega) ho
  clear ho hp hq hm
  go_enter Try.func96, Try.ntmps96
  go_wp2_with fail
  (with_reducible refine H1.out.mono ?_)
  rintro e w1 ⟨A1, c1, rfl, ho1, hg1⟩
  have HO1 := Lib.hid ho1
  have HG1 := Lib.hid hg1
  clear ho1 hg1
  go_wp2_with fail
  (with_reducible refine (H2.out _ _ _ HO1.out).mono ?_)
  rintro e w2 ⟨A2, c2, rfl, ho2, hg2⟩
  have HO2 := Lib.hid ho2
  have HG2 := Lib.hid (HG1.out.trans hg2)
  clear ho2 hg2
  go_wp2_with fail
  go_ret
  refine ⟨_, _, rfl, ?_, HG2.out⟩
  have := HO2.out
  rw [List.append_assoc, ← hb4.out] at this
  exact this
end Go.Proofs.Ytbliipjiilmbcaa
/-
  What chunk.numbers does.
-/
namespace Go.Proofs.Ytbliipjiilmbcaa
open Go.RowKit Wire Tlv Chunk

theorem own_up' {w W : World} {o : Obj} {A : Option Addr} {n c : Nat} {l : List Int} (h : Own (w.alloc o) W A n c l) : Own w W A n c l :=
  ⟨own_base h.1 (by simp), (((Below.refl _ w).alloc (Nat.le_refl _) o).trans (h.2.mono (by simp)))⟩
/-- What chunk.numbers leaves. -/
def NumOut (w : World) (l : List Int) (e : Ending) (w' : World) : Prop := ∃ A n c, e = .returned (.slice A n c) ∧ Own w w' A n c l
theorem own_lift {w W1 W : World} {A : Option Addr} {n c : Nat} {l : List Int} (h : Own W1 W A n c l) (hb : Below w.heap.size w W1) : Own w W A n c l := ⟨own_base h.1 hb.size, hb.trans (h.2.mono hb.size)⟩
set_option maxRecDepth 100000 in
set_option maxHeartbeats 1000000 in
theorem numbers0 (c : Ck) (s : Ls) (w : World) (hk : c.kd = 0) (h : Ch w c s) :
    Calls Try.prog 71 #[.agg (cv c s)] w (NumOut w (nums c)) := by
  have HU : Hid (U1 w (cv c s) _) := Lib.hid (U1.new w (cv c s))
  have htsn := h.ok.tsn
  have hppid := h.ok.ppid
  have hnm := Lib.hid (show nums c = be 4 c.tsn ++ (be 2 c.sid ++ (be 2 c.ssn ++ (be 4 c.ppid))) by simp [nums, hk])
  clear h
  go_enter Try.func71, Try.ntmps71
  go_upto_region 2 with fail
  generalize World.alloc w _ = W1 at HU ⊢
  have hlt := HU.out.1.lt
  have HO0 := Lib.hid (own_nil W1)
  have g0 := HU.out.1.c0
  rw [hk] at g0
  have g1 := (HU.out.1.nextB HO0.out.2 hlt).c4
  go_wp2_with fail
  (with_reducible refine (four_any W1 _ _ _ _ _ 4 _ htsn rfl (by omega) HO0.out).mono ?_)
  rintro e X1 ⟨A1, c1, rfl, ho1, hg1⟩
  have HO1 := Lib.hid ho1
  clear g0 ho1 hg1 g1
  have g2 := (HU.out.1.nextB HO1.out.2 hlt).c7
  go_wp2_with fail
  (with_reducible refine (two_any W1 _ _ _ _ _ 6 _ rfl (by omega) HO1.out).mono ?_)
  rintro e X2 ⟨A2, c2, rfl, ho2, hg2⟩
  have HO2 := Lib.hid ho2
  clear ho2 hg2 g2
  have g3 := (HU.out.1.nextB HO2.out.2 hlt).c8
  go_wp2_with fail
  (with_reducible refine (two_any W1 _ _ _ _ _ 8 _ rfl (by omega) HO2.out).mono ?_)
  rintro e X3 ⟨A3, c3, rfl, ho3, hg3⟩
  have HO3 := Lib.hid ho3
  clear ho3 hg3 g3
  have g4 := (HU.out.1.nextB HO3.out.2 hlt).c9
  go_wp2_with fail
  (with_reducible refine (four_any W1 _ _ _ _ _ 12 _ hppid rfl (by omega) HO3.out).mono ?_)
  rintro e X4 ⟨A4, c4, rfl, ho4, hg4⟩
  have HO4 := Lib.hid ho4
  clear ho4 hg4 g4
  go_wp2_with fail
  go_ret
  exact ⟨_, _, _, rfl, own_lift (by have := HO4.out; rw [hnm.out]; simpa [List.append_assoc] using this) HU.out.2⟩
set_option maxRecDepth 100000 in
set_option maxHeartbeats 1000000 in
theorem numbers1 (c : Ck) (s : Ls) (w : World) (hk : c.kd = 1) (h : Ch w c s) :
    Calls Try.prog 71 #[.agg (cv c s)] w (NumOut w (nums c)) := by
  have HU : Hid (U1 w (cv c s) _) := Lib.hid (U1.new w (cv c s))
  have htag := h.ok.tag
  have hrw := h.ok.rw
  have htsn := h.ok.tsn
  have hnm := Lib.hid (show nums c = be 4 c.tag ++ (be 4 c.rw ++ (be 2 c.out ++ (be 2 c.inn ++ (be 4 c.tsn)))) by simp [nums, hk])
  clear h
  go_enter Try.func71, Try.ntmps71
  go_upto_region 2 with fail
  generalize World.alloc w _ = W1 at HU ⊢
  have hlt := HU.out.1.lt
  have HO0 := Lib.hid (own_nil W1)
  have g0 := HU.out.1.c0
  rw [hk] at g0
  have g1 := (HU.out.1.nextB HO0.out.2 hlt).c2
  go_wp2_with fail
  (with_reducible refine (four_any W1 _ _ _ _ _ 4 _ htag rfl (by omega) HO0.out).mono ?_)
  rintro e X1 ⟨A1, c1, rfl, ho1, hg1⟩
  have HO1 := Lib.hid ho1
  clear g0 ho1 hg1 g1
  have g2 := (HU.out.1.nextB HO1.out.2 hlt).c3
  go_wp2_with fail
  (with_reducible refine (four_any W1 _ _ _ _ _ 8 _ hrw rfl (by omega) HO1.out).mono ?_)
  rintro e X2 ⟨A2, c2, rfl, ho2, hg2⟩
  have HO2 := Lib.hid ho2
  clear ho2 hg2 g2
  have g3 := (HU.out.1.nextB HO2.out.2 hlt).c5
  go_wp2_with fail
  (with_reducible refine (two_any W1 _ _ _ _ _ 10 _ rfl (by omega) HO2.out).mono ?_)
  rintro e X3 ⟨A3, c3, rfl, ho3, hg3⟩
  have HO3 := Lib.hid ho3
  clear ho3 hg3 g3
  have g4 := (HU.out.1.nextB HO3.out.2 hlt).c6
  go_wp2_with fail
  (with_reducible refine (two_any W1 _ _ _ _ _ 12 _ rfl (by omega) HO3.out).mono ?_)
  rintro e X4 ⟨A4, c4, rfl, ho4, hg4⟩
  have HO4 := Lib.hid ho4
  clear ho4 hg4 g4
  have g5 := (HU.out.1.nextB HO4.out.2 hlt).c4
  go_wp2_with fail
  (with_reducible refine (four_any W1 _ _ _ _ _ 16 _ htsn rfl (by omega) HO4.out).mono ?_)
  rintro e X5 ⟨A5, c5, rfl, ho5, hg5⟩
  have HO5 := Lib.hid ho5
  clear ho5 hg5 g5
  go_wp2_with fail
  go_ret
  exact ⟨_, _, _, rfl, own_lift (by have := HO5.out; rw [hnm.out]; simpa [List.append_assoc] using this) HU.out.2⟩
set_option maxRecDepth 100000 in
set_option maxHeartbeats 1000000 in
theorem numbers2 (c : Ck) (s : Ls) (w : World) (hk : c.kd = 2) (h : Ch w c s) :
    Calls Try.prog 71 #[.agg (cv c s)] w (NumOut w (nums c)) := by
  have HU : Hid (U1 w (cv c s) _) := Lib.hid (U1.new w (cv c s))
  have htag := h.ok.tag
  have hrw := h.ok.rw
  have htsn := h.ok.tsn
  have hnm := Lib.hid (show nums c = be 4 c.tag ++ (be 4 c.rw ++ (be 2 c.out ++ (be 2 c.inn ++ (be 4 c.tsn)))) by simp [nums, hk])
  clear h
  go_enter Try.func71, Try.ntmps71
  go_upto_region 2 with fail
  generalize World.alloc w _ = W1 at HU ⊢
  have hlt := HU.out.1.lt
  have HO0 := Lib.hid (own_nil W1)
  have g0 := HU.out.1.c0
  rw [hk] at g0
  have g1 := (HU.out.1.nextB HO0.out.2 hlt).c2
  go_wp2_with fail
  (with_reducible refine (four_any W1 _ _ _ _ _ 4 _ htag rfl (by omega) HO0.out).mono ?_)
  rintro e X1 ⟨A1, c1, rfl, ho1, hg1⟩
  have HO1 := Lib.hid ho1
  clear g0 ho1 hg1 g1
  have g2 := (HU.out.1.nextB HO1.out.2 hlt).c3
  go_wp2_with fail
  (with_reducible refine (four_any W1 _ _ _ _ _ 8 _ hrw rfl (by omega) HO1.out).mono ?_)
  rintro e X2 ⟨A2, c2, rfl, ho2, hg2⟩
  have HO2 := Lib.hid ho2
  clear ho2 hg2 g2
  have g3 := (HU.out.1.nextB HO2.out.2 hlt).c5
  go_wp2_with fail
  (with_reducible refine (two_any W1 _ _ _ _ _ 10 _ rfl (by omega) HO2.out).mono ?_)
  rintro e X3 ⟨A3, c3, rfl, ho3, hg3⟩
  have HO3 := Lib.hid ho3
  clear ho3 hg3 g3
  have g4 := (HU.out.1.nextB HO3.out.2 hlt).c6
  go_wp2_with fail
  (with_reducible refine (two_any W1 _ _ _ _ _ 12 _ rfl (by omega) HO3.out).mono ?_)
  rintro e X4 ⟨A4, c4, rfl, ho4, hg4⟩
  have HO4 := Lib.hid ho4
  clear ho4 hg4 g4
  have g5 := (HU.out.1.nextB HO4.out.2 hlt).c4
  go_wp2_with fail
  (with_reducible refine (four_any W1 _ _ _ _ _ 16 _ htsn rfl (by omega) HO4.out).mono ?_)
  rintro e X5 ⟨A5, c5, rfl, ho5, hg5⟩
  have HO5 := Lib.hid ho5
  clear ho5 hg5 g5
  go_wp2_with fail
  go_ret
  exact ⟨_, _, _, rfl, own_lift (by have := HO5.out; rw [hnm.out]; simpa [List.append_assoc] using this) HU.out.2⟩
set_option maxRecDepth 100000 in
set_option maxHeartbeats 1000000 in
theorem numbers7 (c : Ck) (s : Ls) (w : World) (hk : c.kd = 7) (h : Ch w c s) :
    Calls Try.prog 71 #[.agg (cv c s)] w (NumOut w (nums c)) := by
  have HU : Hid (U1 w (cv c s) _) := Lib.hid (U1.new w (cv c s))
  have htsn := h.ok.tsn
  have hnm := Lib.hid (show nums c = be 4 c.tsn by simp [nums, hk])
  clear h
  go_enter Try.func71, Try.ntmps71
  go_upto_region 2 with fail
  generalize World.alloc w _ = W1 at HU ⊢
  have hlt := HU.out.1.lt
  have HO0 := Lib.hid (own_nil W1)
  have g0 := HU.out.1.c0
  rw [hk] at g0
  have g1 := (HU.out.1.nextB HO0.out.2 hlt).c4
  go_wp2_with fail
  (with_reducible refine (four_any W1 _ _ _ _ _ 4 _ htsn rfl (by omega) HO0.out).mono ?_)
  rintro e X1 ⟨A1, c1, rfl, ho1, hg1⟩
  have HO1 := Lib.hid ho1
  clear g0 ho1 hg1 g1
  go_wp2_with fail
  go_ret
  exact ⟨_, _, _, rfl, own_lift (by have := HO1.out; rw [hnm.out]; simpa [List.append_assoc] using this) HU.out.2⟩
set_option maxRecDepth 100000 in
set_option maxHeartbeats 1000000 in
theorem numbersN (c : Ck) (s : Ls) (w : World) (hk : ¬ (c.kd = 0 ∨ c.kd = 1 ∨ c.kd = 2 ∨ c.kd = 3 ∨ c.kd = 7)) (_h : Ch w c s) :
    Calls Try.prog 71 #[.agg (cv c s)] w (NumOut w (nums c)) := by
  have HU : Hid (U1 w (cv c s) _) := Lib.hid (U1.new w (cv c s))
  have hnm := Lib.hid (show nums c = [] by unfold nums; rw [if_neg (by omega), if_neg (by omega), if_neg (by omega), if_neg (by omega)])
  have d0 : ((c.kd : Int) == 0) = false := by simp; omega
  have d1 : ((c.kd : Int) == 1) = false := by simp; omega
  have d2 : ((c.kd : Int) == 2) = false := by simp; omega
  have d3 : ((c.kd : Int) == 3) = false := by simp; omega
  have d7 : ((c.kd : Int) == 7) = false := by simp; omega
  go_enter Try.func71, Try.ntmps71
  go_upto_region 2 with fail
  generalize World.alloc w _ = W1 at HU ⊢
  have HO0 := Lib.hid (own_nil W1)
  have g0 := HU.out.1.c0
  go_wp2_with fail
  go_ret
  exact ⟨_, _, _, rfl, own_lift (by have := HO0.out; rw [hnm.out]; exact this) HU.out.2⟩
set_option maxRecDepth 100000 in
set_option maxHeartbeats 1000000 in
theorem numbers3 (c : Ck) (s : Ls) (w : World) (hk : c.kd = 3) (h : Ch w c s) (hg : s.gn ≤ 64) (hu : s.un ≤ 16) :
    Calls Try.prog 71 #[.agg (cv c s)] w (NumOut w (nums c)) := by
  have HU : Hid (U1 w (cv c s) _) := Lib.hid (U1.new w (cv c s))
  have htsn := h.ok.tsn
  have hrw := h.ok.rw
  have hnm := Lib.hid (show nums c = be 4 c.tsn ++ (be 4 c.rw ++ (be 2 s.gn ++ (be 2 s.un ++ (gb c.ga ++ ub c.du)))) by rw [← h.z.g, ← h.z.u]; simp [nums, hk])
  have HGL := Lib.hid h.z.g
  have HUL := Lib.hid h.z.u
  have HGR := Lib.hid h.gr
  have HUR := Lib.hid h.ur
  have HDU := Lib.hid h.ok.du
  have wg : IntKind.u16.wrap (s.gn : Int) = (s.gn : Int) := by rw [IntKind.wrap_u16]; omega
  have wu : IntKind.u16.wrap (s.un : Int) = (s.un : Int) := by rw [IntKind.wrap_u16]; omega
  clear h
  go_enter Try.func71, Try.ntmps71
  go_upto_region 2 with fail
  generalize World.alloc w _ = W1 at HU ⊢
  have hlt := HU.out.1.lt
  have HO0 := Lib.hid (own_nil W1)
  have g0 := HU.out.1.c0
  rw [hk] at g0
  have g1 := (HU.out.1.nextB HO0.out.2 hlt).c4
  go_wp2_with fail
  (with_reducible refine (four_any W1 _ _ _ _ _ 4 _ htsn rfl (by omega) HO0.out).mono ?_)
  rintro e X1 ⟨A1, c1, rfl, ho1, hg1⟩
  have HO1 := Lib.hid ho1
  clear g0 ho1 hg1 g1
  have g2 := (HU.out.1.nextB HO1.out.2 hlt).c3
  go_wp2_with fail
  (with_reducible refine (four_any W1 _ _ _ _ _ 8 _ hrw rfl (by omega) HO1.out).mono ?_)
  rintro e X2 ⟨A2, c2, rfl, ho2, hg2⟩
  have HO2 := Lib.hid ho2
  clear ho2 hg2 g2
  have g3 := (HU.out.1.nextB HO2.out.2 hlt).c12
  go_wp2_with fail
  (with_reducible refine (two_any W1 _ _ _ _ _ 10 _ rfl (by omega) HO2.out).mono ?_)
  rintro e X3 ⟨A3, c3, rfl, ho3, hg3⟩
  have HO3 := Lib.hid ho3
  clear ho3 hg3 g3
  have g4 := (HU.out.1.nextB HO3.out.2 hlt).c13
  go_wp2_with fail
  (with_reducible refine (two_any W1 _ _ _ _ _ 12 _ rfl (by omega) HO3.out).mono ?_)
  rintro e X4 ⟨A4, c4, rfl, ho4, hg4⟩
  have HO4 := Lib.hid ho4
  clear ho4 hg4 g4
  have q12 := (HU.out.1.nextB HO4.out.2 hlt).c12
  obtain ⟨base, hbase⟩ : ∃ base, [] ++ be 4 c.tsn ++ be 4 c.rw ++ be 2 s.gn ++ be 2 s.un = base := ⟨_, rfl⟩
  rw [hbase] at HO4
  have HBASE := Lib.hid hbase
  clear hbase wg wu
  go_wp2_with fail
  clear q12
  go_loopw [3, 76] (fun v i wr => ∃ (k m : Nat) (A : Option Addr) (c' : Nat), k ≤ s.gn ∧ i = .int .i64 (k : Int) ∧ v = .slice A m c' ∧ Hid (m = 12 + 4 * k) ∧ Hid (Own W1 wr A m c' (base ++ gb (c.ga.take k)))) (fun _ i _ => s.gn - (intOf i).toNat)
  case atStart => exact ⟨0, 12, _, _, by omega, rfl, rfl, Lib.hid rfl, by rw [List.take_zero]; exact Lib.hid (by have := HO4.out; simpa [gb] using this)⟩
  case round =>
    obtain ⟨k, m, A, c', hk1, rfl, rfl, hm, hown⟩ := hrel
    have hmb : m ≤ 400 := by have := hm.out; omega
    by_cases hlt1 : k < s.gn
    · have hkl : k < c.ga.length := by rw [HGL.out]; exact hlt1
      obtain ⟨a, hA, k0, k1⟩ := gap_at ((HGR.out.below HU.out.2).below (hown.out.2.mono (Nat.le_refl _))) hkl
      rw [hA]
      have HT : Hid (gb (c.ga.take (k + 1)) = gb (c.ga.take k) ++ (be 2 (c.ga[k]).1 ++ be 2 (c.ga[k]).2)) := Lib.hid (by rw [List.take_succ_eq_append_getElem hkl, gb_snoc])
      generalize c.ga[k] = g at *
      obtain ⟨g1, g2⟩ := g
      simp only at k0 k1 HT
      have HO5 : Hid (Own W1 (wr.alloc (.cells #[.int .u16 (g1 : Int), .int .u16 (g2 : Int)] 63)) A m c' (base ++ gb (c.ga.take k))) := Lib.hid (hown.out.next ((Below.refl _ _).alloc (Nat.le_refl _) _))
      have HB5 : Hid (Bk (wr.alloc (.cells #[.int .u16 (g1 : Int), .int .u16 (g2 : Int)] 63)) wr.heap.size #[.int .u16 (g1 : Int), .int .u16 (g2 : Int)] 63) := Lib.hid (Bk.new _ _ _)
      have hne : (Value.slice A m c').ownBlock ≠ some wr.heap.size := fun e => by have := (hown.out.1.lt _ e).2; omega
      have HNE := Lib.hid hne
      clear hne
      go_wp2_with fail
      (with_reducible refine (two_any W1 _ _ _ _ _ (m + 2) _ rfl (by omega) HO5.out).mono ?_)
      rintro e X6 ⟨A6, c6, rfl, ho6, hg6⟩
      have HO6 := Lib.hid ho6
      have hB6 := HB5.out.gr hg6 HNE.out
      have p1 := hB6.cell 1
      simp at p1
      clear ho6 hg6 hB6 k0 k1
      go_wp2_with fail
      (with_reducible refine (two_any W1 _ _ _ _ _ (m + 4) _ (by omega) (by omega) HO6.out).mono ?_)
      rintro e X7 ⟨A7, c7, rfl, ho7, hg7⟩
      have HO7 : Hid (Own W1 X7 A7 (m + 4) c7 (base ++ gb (c.ga.take (k + 1)))) := Lib.hid (by rw [HT.out]; simpa [List.append_assoc] using ho7)
      clear ho7 hg7 p1
      go_wp2_with fail
      go_roundw
      case rel => exact ⟨k + 1, m + 4, _, _, by omega, by go_num, rfl, Lib.hid (by have := hm.out; omega), HO7⟩
      case measure => simp [intOf]; omega
    · have HT : Hid (gb (c.ga.take k) = gb c.ga) := Lib.hid (by rw [List.take_of_length_le (by rw [HGL.out]; omega)])
      have HO5 : Hid (Own W1 wr A m c' (base ++ gb c.ga)) := Lib.hid (by rw [← HT.out]; exact hown.out)
      have q13 := (HU.out.1.nextB HO5.out.2 hlt).c13
      clear hown HT
      go_wp2_with fail
      clear q13
      go_loopw [3, 92] (fun v i wr => ∃ (j m' : Nat) (A : Option Addr) (c' : Nat), j ≤ s.un ∧ i = .int .i64 (j : Int) ∧ v = .slice A m' c' ∧ Hid (m' = m + 4 * j) ∧ Hid (Own W1 wr A m' c' (base ++ gb c.ga ++ ub (c.du.take j)))) (fun _ i _ => s.un - (intOf i).toNat)
      case atStart => exact ⟨0, m, _, _, by omega, rfl, rfl, Lib.hid rfl, by rw [List.take_zero]; exact Lib.hid (by have := HO5.out; simpa [ub] using this)⟩
      case round =>
        obtain ⟨j, m', A', c'', hj1, rfl, rfl, hm', hown⟩ := hrel
        have hmb' : m' ≤ 600 := by have := hm'.out; omega
        by_cases hlt2 : j < s.un
        · have hkl : j < c.du.length := by rw [HUL.out]; exact hlt2
          obtain ⟨a, hA, k0⟩ := num_at ((HUR.out.below HU.out.2).below (hown.out.2.mono (Nat.le_refl _))) hkl
          rw [hA]
          have HT : Hid (ub (c.du.take (j + 1)) = ub (c.du.take j) ++ be 4 (c.du[j])) := Lib.hid (by rw [List.take_succ_eq_append_getElem hkl, ub_snoc])
          have hx := HDU.out _ (List.getElem_mem hkl)
          generalize c.du[j] = x at *
          go_wp2_with fail
          (with_reducible refine (four_any W1 _ _ _ _ _ (m' + 4) _ hx rfl (by omega) hown.out).mono ?_)
          rintro e X7 ⟨A7, c7, rfl, ho7, hg7⟩
          have HO7 : Hid (Own W1 X7 A7 (m' + 4) c7 (base ++ gb c.ga ++ ub (c.du.take (j + 1)))) := Lib.hid (by rw [HT.out]; simpa [List.append_assoc] using ho7)
          clear ho7 hg7 k0
          go_wp2_with fail
          go_roundw
          case rel => exact ⟨j + 1, m' + 4, _, _, by omega, by go_num, rfl, Lib.hid (by have := hm'.out; omega), HO7⟩
          case measure => simp [intOf]; omega
        · have HO8 : Hid (Own W1 wr A' m' c'' (nums c)) := Lib.hid (by
            have := hown.out
            rw [List.take_of_length_le (by rw [HUL.out]; omega), ← HBASE.out] at this
            rw [hnm.out]
            simpa [List.append_assoc] using this)
          clear hown
          go_wp2_with fail
          go_ret
          exact ⟨_, _, _, rfl, own_lift HO8.out HU.out.2⟩
theorem numbers_any (c : Ck) (s : Ls) (w : World) (h : Ch w c s) (hg : s.gn ≤ 64) (hu : s.un ≤ 16) :
    Calls Try.prog 71 #[.agg (cv c s)] w (NumOut w (nums c)) := by
  by_cases hk : c.kd = 0 ∨ c.kd = 1 ∨ c.kd = 2 ∨ c.kd = 3 ∨ c.kd = 7
  · rcases hk with hk | hk | hk | hk | hk
    · exact numbers0 c s w hk h
    · exact numbers1 c s w hk h
    · exact numbers2 c s w hk h
    · exact numbers3 c s w hk h hg hu
    · exact numbers7 c s w hk h
  · exact numbersN c s w hk h
end Go.Proofs.Ytbliipjiilmbcaa
/-
  What the document's All does: the things in a slice of their own.
-/
namespace Go.Proofs.Ytbliipjiilmbcaa
open Go.RowKit Wire Tlv

theorem Try_infoTlv : (Try.prog.info? 25).map (fun i => (i.zero, i.size, i.bytes)) = some (some (.agg #[.int .u16 0, .int .u8 0, .slice none 0 0]), 3, 32) := by kernel_rfl
theorem row_of_owns {W : World} {base s : Nat} {e : TypeId} {A : Option Addr} {n c : Nat} {xs : List Value} (h : W.ownsRow base e s (.slice A n c) n xs) : Row W A xs := fun i v hv => by
  rcases id h.2 with ⟨_, h0⟩ | ⟨g, cap, cur, hv2, _⟩
  · have := h.1
    have h1 := (List.getElem?_eq_some_iff.1 hv).1
    rw [h0, Nat.zero_mul] at this
    omega
  · simp only [Value.slice.injEq] at hv2
    obtain ⟨rfl, _, _⟩ := hv2
    exact ⟨_, rfl, h.cells (g := g) rfl i v hv⟩
theorem owns_none {W : World} {base s : Nat} {e : TypeId} {A : Option Addr} {n c : Nat} {xs : List Value} (h : W.ownsRow base e s (.slice A n c) n xs) : (A = none → n = 0 ∧ c = 0) ∧ n ≤ c ∧ c ≤ maxLen := by
  rcases h.2 with ⟨h1, h2⟩ | ⟨g, cap, cur, h1, _, _, h2, h3, _⟩
  · simp only [Value.slice.injEq] at h1
    obtain ⟨_, h1, h3⟩ := h1
    exact ⟨fun _ => ⟨h1, h3⟩, by omega, by subst h3; exact Nat.zero_le _⟩
  · simp only [Value.slice.injEq] at h1
    obtain ⟨rfl, _, rfl⟩ := h1
    exact ⟨(fun h => by cases h), h2, h3⟩
/-- Rows of unlike types lie apart. -/
theorem own_apart {W : World} {b b' s s' : Nat} {e e' : TypeId} {v v' : Value} {n n' : Nat} {xs xs' : List Value} (h : W.ownsRow b e s v n xs) (h' : W.ownsRow b' e' s' v' n' xs') (hne : e ≠ e') : v.ownBlock = none ∨ v.ownBlock ≠ v'.ownBlock := by
  rcases h.2 with ⟨rfl, _⟩ | ⟨g, cap, cur, rfl, _, hg, _⟩
  · exact .inl rfl
  · refine .inr fun e1 => ?_
    rcases h'.2 with ⟨rfl, _⟩ | ⟨g', cap', cur', rfl, _, hg', _⟩
    · cases e1
    · simp only [Value.ownBlock, Option.some.injEq] at e1
      rw [e1, hg'] at hg
      simp at hg
      exact hne hg.2.symm
/-- The thing's value lies in bytes of the call's own. -/
def Vo (B : Nat) (W : World) (q : Q) : Prop := q.1.ok ∧ ∃ A n c, q.2 = .slice A n c ∧ n ≤ 100000 ∧ W.ownsRow B 5 1 (.slice A n c) n (bs q.1.v)
theorem Vo.vl {B : Nat} {W : World} {q : Q} (h : Vo B W q) : Vl W q := by
  obtain ⟨h1, A, n, c, h2, h3, h4⟩ := h
  obtain ⟨g1, g2, g3⟩ := owns_none h4
  exact ⟨A, n, c, h2, by have := h4.1; simpa [bs] using this, g2, g3, by omega, h1, row_of_owns h4, g1⟩
theorem Vo.next {B : Nat} {W W' : World} {q : Q} (h : Vo B W q) (hb : Below W.heap.size W W') : Vo B W' q := by
  obtain ⟨h1, A, n, c, h2, h3, h4⟩ := h
  exact ⟨h1, A, n, c, h2, h3, own_below h4 hb⟩
theorem Vo.kept {B : Nat} {W W' : World} {q : Q} {e : TypeId} {b s : Nat} {v : Value} {n : Nat} {xs : List Value} (h : Vo B W q) (ho : W.ownsRow b e s v n xs) (hne : 5 ≠ e) (hg : W.grownBy W' v.ownBlock) : Vo B W' q := by
  obtain ⟨h1, A, n, c, h2, h3, h4⟩ := h
  exact ⟨h1, A, n, c, h2, h3, h4.kept hg (own_apart h4 ho hne)⟩
/-- A row of things that the call owns. -/
def To (w : World) (qs : List Q) (A : Option Addr) (n c : Nat) (W : World) : Prop := qs.length = n ∧ W.ownsRow w.heap.size 25 3 (.slice A n c) n (tf qs) ∧ (∀ q ∈ qs, Vo w.heap.size W q) ∧ Below w.heap.size w W
theorem To.nil (w : World) : To w [] none 0 0 w := ⟨rfl, World.ownsRow_nil _ _ _ _, fun q h => by simp at h, Below.refl _ _⟩
theorem To.next {w W W' : World} {qs : List Q} {A : Option Addr} {n c : Nat} (h : To w qs A n c W) (hb : Below W.heap.size W W') : To w qs A n c W' :=
  ⟨h.1, own_below h.2.1 hb, fun q hq => (h.2.2.1 q hq).next hb, bnext' h.2.2.2 hb⟩
theorem To.ths {w W : World} {qs : List Q} {A : Option Addr} {n c : Nat} (h : To w qs A n c W) : Ths W A qs := ⟨row_of_owns h.2.1, fun q hq => (h.2.2.1 q hq).vl⟩
theorem To.snoc {w W W' : World} {qs : List Q} {A A' : Option Addr} {n c c' : Nat} {q : Q} (h : To w qs A n c W) (hq : Vo w.heap.size W q) (ho : W'.ownsRow w.heap.size 25 3 (.slice A' (n + 1) c') (n + 1) (tf qs ++ tc q)) (hg : W.grownBy W' (Value.slice A n c).ownBlock) : To w (qs ++ [q]) A' (n + 1) c' W' := by
  refine ⟨by simp [h.1], by rw [tf_snoc]; exact ho, fun p hp => ?_, h.2.2.2.grown hg h.2.2.2.size (fun k hk => (h.2.1.lt k hk).1)⟩
  rcases List.mem_append.1 hp with hp | hp
  · exact (h.2.2.1 p hp).kept h.2.1 (by decide) hg
  · simp at hp
    subst hp
    exact hq.kept h.2.1 (by decide) hg
theorem tc_one (q : Q) (h : q.2.oneCell' = true) : ∀ u ∈ tc q, u.oneCell' = true := fun u hu => by
  simp only [tc, List.mem_cons, List.not_mem_nil, or_false] at hu
  rcases hu with rfl | rfl | rfl
  · rfl
  · rfl
  · exact h
theorem one_any (ch : Bool) (A : Option Addr) (n c : Nat) (l : List Int) (at_ : Nat) (w : World) (hl : l.length = n) (hn : n ≤ 100000) (hnc : n ≤ c) (hcm : c ≤ maxLen) (hb : Byt l) (hr : Row w A (bs l)) (h4 : at_ ≤ n) :
    Calls Try.prog 57 #[.bool ch, .slice A n c, .int .i64 (at_ : Int)] w (OneOut w at_ (t1 ch (l.drop at_))) := by
  by_cases h : n < at_ + 4
  · have e : t1 ch (l.drop at_) = none := by
      unfold t1
      rw [if_pos (by simp; omega)]
    rw [e]
    exact one_short ch A n c at_ w hn h4 h
  · exact one_long ch A n c l at_ w hl hn hnc hcm hb hr (by omega)

/-- What a call that tells all things leaves. -/
def AllOut (w : World) (xs : List Tv) (f : Value → Value) (e : Ending) (w' : World) : Prop := ∃ A n c qs, e = .returned (f (.slice A n c)) ∧ qs.map (·.1) = xs ∧ To w qs A n c w'
set_option maxRecDepth 100000 in
set_option maxHeartbeats 2000000 in
theorem rall_any (ch : Bool) (A : Option Addr) (n c : Nat) (l : List Int) (w : World) (hl : l.length = n) (hn : n ≤ 100000) (hnc : n ≤ c) (hcm : c ≤ maxLen) (hb : Byt l) (hr : Row w A (bs l)) :
    Calls Try.prog 38 #[.bool ch, .slice A n c] w (AllOut w (tl ch l).1 (fun v => .tuple #[v, .bool (tl ch l).2])) := by
  obtain ⟨i0, hi0, hz0, hz1, hz2⟩ := info_parts Try_infoTlv
  have HI := Lib.hid hi0
  have HZ0 := Lib.hid hz0
  have HZ1 := Lib.hid hz1
  have HZ2 := Lib.hid hz2
  have HL := Lib.hid hl
  have HR := Lib.hid hr
  have HB := Lib.hid hb
  have hlt := tl_len ch l.length l (Nat.le_refl _)
  have HO := Lib.hid fun (k : Nat) (hk : k ≤ n) W (hW : Below w.heap.size w W) => one_any ch A n c l k W hl hn hnc hcm hb (hr.below hW) hk
  rw [hl] at hlt
  clear hl hr hb hi0 hz0 hz1 hz2
  obtain ⟨R, hR⟩ : ∃ R, tl ch l = R := ⟨_, rfl⟩
  rw [hR]
  have HT := Lib.hid hR
  rw [hR] at hlt
  clear hR
  go_enter Try.func38, Try.ntmps38
  go_wp2_with fail
  go_loopw [6, 7] (fun v i wr => ∃ (k : Nat) (qs : List Q) (A' : Option Addr) (n' c' : Nat), k ≤ n ∧ i = .int .i64 k ∧ v = .slice A' n' c' ∧ n' ≤ 100000 ∧ Hid (R = (qs.map (·.1) ++ (tl ch (l.drop k)).1, (tl ch (l.drop k)).2)) ∧ Hid (To w qs A' n' c' wr)) (fun _ i _ => n - (intOf i).toNat)
  case atStart => exact ⟨0, [], none, 0, 0, by omega, rfl, rfl, by omega, Lib.hid (by rw [← HT.out]; simp), Lib.hid (To.nil w)⟩
  case round =>
    obtain ⟨k, qs, A', n', c', hk, rfl, rfl, hn', hR, hto⟩ := hrel
    by_cases hlt2 : k < n
    · have hone := HO.out k hk wr hto.out.2.2.2
      cases ht : t1 ch (l.drop k) with
      | none =>
        rw [ht] at hone
        have HONE := Lib.hid hone
        have hRe : R = (qs.map (·.1), false) := by
          rw [hR.out, tl_none (by rw [List.length_drop, HL.out]; omega) ht]
          simp
        have HRE := Lib.hid hRe
        clear hone ht hRe
        go_wp2_with fail
        (with_reducible refine HONE.out.mono ?_)
        rintro e w3 ⟨rfl, hb3⟩
        have hto3 := hto.out.next hb3
        have hto4 := Lib.hid (hto3.next ((Below.refl _ _).alloc (Nat.le_refl _) (.cells #[.int .u16 0, .int .u8 0, .slice none 0 0] 25)))
        clear hto3 hb3
        go_wp2_with fail
        go_ret2
        refine ⟨A', n', c', qs, ?_, by rw [HRE.out], hto4.out⟩
        rw [HRE.out]
        rfl
      | some p =>
        obtain ⟨x, s⟩ := p
        rw [ht] at hone
        have HONE := Lib.hid hone
        have hts := t1_lt ht
        have hxo := (tb_t1 (Byt.drop HB.out k) ht)
        have hRe : R = ((qs.map (·.1) ++ [x]) ++ (tl ch (l.drop (k + s))).1, (tl ch (l.drop (k + s))).2) := by
          rw [hR.out, tl_some ht]
          simp [List.drop_drop]
        have HRE := Lib.hid hRe
        have HXO := Lib.hid hxo
        have hks : k + s ≤ n := by have := hts.2; simp [HL.out] at this; omega
        clear hone ht hRe hxo
        go_wp2_with fail
        (with_reducible refine HONE.out.mono ?_)
        rintro e w3 ⟨A3, n3, c3, rfl, ho3⟩
        go_upto_region 7 with fail
        have hvo : Vo w.heap.size w3 (x, .slice A3 n3 c3) := ⟨HXO.out.1, A3, n3, c3, rfl, by have := ho3.len; have := HXO.out.2.2.1; omega, own_base ho3.1 hto.out.2.2.2.size⟩
        have hto3 := hto.out.next ho3.2
        have hq := (hvo.next ((Below.refl _ _).alloc (Nat.le_refl _) (.cells #[.int .u16 (x.k : Int), .int .u8 (x.f : Int), .slice A3 n3 c3] 25))).next ((Below.refl _ _).alloc (Nat.le_refl _) (.cells #[.int .u16 (x.k : Int), .int .u8 (x.f : Int), .slice A3 n3 c3] 25))
        have ht4 := (hto3.next ((Below.refl _ _).alloc (Nat.le_refl _) (.cells #[.int .u16 (x.k : Int), .int .u8 (x.f : Int), .slice A3 n3 c3] 25))).next ((Below.refl _ _).alloc (Nat.le_refl _) (.cells #[.int .u16 (x.k : Int), .int .u8 (x.f : Int), .slice A3 n3 c3] 25))
        have HQ := Lib.hid hq
        have HT4 := Lib.hid ht4
        have HN := Lib.hid (bcells (Row.new (w3.alloc (.cells #[.int .u16 (x.k : Int), .int .u8 (x.f : Int), .slice A3 n3 c3] 25)) (tc (x, .slice A3 n3 c3)) 25 (0, 0)))
        have hsz := hto3.2.2.2.size
        clear hq ht4 hvo hto3 ho3
        go_upto_region 8 with (at_builtin; refine wpList_append_lies _ rfl (.tmp 26) (.tmp 28) 41 rfl w.heap.size 25 i0 _ 3 32 Try.underlying41 HI.out HZ0.out HZ1.out HZ2.out rfl (by decide) _ _ _ rfl HT4.out.2.1 ⟨w3.heap.size + 1, 0, none⟩ 1 1 (tc (x, .slice A3 n3 c3)) rfl rfl (by have := HN.out; rwa [World.size_alloc] at this) (tc_one _ rfl) (by omega) (by unfold maxLen; omega) (by omega) (by simp; omega) _ rfl ?_; intro b7 cap7 w7 hown7 hgrow7 _ _)
        have HT7 := Lib.hid (HT4.out.snoc HQ.out hown7 hgrow7)
        clear hown7 hgrow7
        go_wp2_with fail
        go_roundw
        case rel => exact ⟨k + s, qs ++ [(x, .slice A3 n3 c3)], _, n' + 1, cap7, hks, by go_num, rfl, (by have := congrArg (fun r : List Tv × Bool => r.1.length) HRE.out; simp at this; have := hto.out.1; omega), Lib.hid (by rw [HRE.out]; simp), HT7⟩
        case measure => simp [intOf]; omega
    · have hRe : R = (qs.map (·.1), true) := by
        rw [hR.out, List.drop_of_length_le (by rw [HL.out]; omega), tl_nil]
        simp
      have HRE := Lib.hid hRe
      clear hRe
      go_wp2_with fail
      go_ret2
      refine ⟨A', n', c', qs, ?_, by rw [HRE.out], hto.out⟩
      rw [HRE.out]
      rfl
end Go.Proofs.Ytbliipjiilmbcaa
/-
  What chunk.parameters does.
-/
namespace Go.Proofs.Ytbliipjiilmbcaa
open Go.RowKit Wire Tlv Chunk

/-- A thing whose value lies in a row that the call owns, or in what was there. -/
def Vq (w0 w W : World) (q : Q) : Prop := Vo w.heap.size W q ∨ Vl w0 q
/-- A row of such things. -/
def Pm (w0 w : World) (qs : List Q) (A : Option Addr) (n c : Nat) (W : World) : Prop := qs.length = n ∧ W.ownsRow w.heap.size 25 3 (.slice A n c) n (tf qs) ∧ (∀ q ∈ qs, Vq w0 w W q) ∧ Below w.heap.size w W
theorem Pm.nil (w0 w : World) : Pm w0 w [] none 0 0 w := ⟨rfl, World.ownsRow_nil _ _ _ _, fun q h => by simp at h, Below.refl _ _⟩
theorem Vq.next {w0 w W W' : World} {q : Q} (h : Vq w0 w W q) (hb : Below W.heap.size W W') : Vq w0 w W' q := h.imp (fun h => h.next hb) id
theorem Pm.next {w0 w W W' : World} {qs : List Q} {A : Option Addr} {n c : Nat} (h : Pm w0 w qs A n c W) (hb : Below W.heap.size W W') : Pm w0 w qs A n c W' :=
  ⟨h.1, own_below h.2.1 hb, fun q hq => (h.2.2.1 q hq).next hb, bnext' h.2.2.2 hb⟩
theorem Pm.alloc {w0 w W : World} {qs : List Q} {A : Option Addr} {n c : Nat} (h : Pm w0 w qs A n c W) (o : Obj) : Pm w0 w qs A n c (W.alloc o) := h.next ((Below.refl _ _).alloc (Nat.le_refl _) _)
theorem Pm.snoc {w0 w W W' : World} {qs : List Q} {A A' : Option Addr} {n c c' : Nat} {q : Q} (h : Pm w0 w qs A n c W) (hq : Vq w0 w W q) (ho : W'.ownsRow w.heap.size 25 3 (.slice A' (n + 1) c') (n + 1) (tf qs ++ tc q)) (hg : W.grownBy W' (Value.slice A n c).ownBlock) : Pm w0 w (qs ++ [q]) A' (n + 1) c' W' := by
  refine ⟨by simp [h.1], by rw [tf_snoc]; exact ho, fun p hp => ?_, h.2.2.2.grown hg h.2.2.2.size (fun k hk => (h.2.1.lt k hk).1)⟩
  rcases List.mem_append.1 hp with hp | hp
  · exact (h.2.2.1 p hp).imp (fun k => k.kept h.2.1 (by decide) hg) id
  · simp at hp
    subst hp
    exact hq.imp (fun k => k.kept h.2.1 (by decide) hg) id
/-- What chunk.parameters leaves. -/
def PrmOut (w0 w : World) (ps : List Tv) (e : Ending) (w' : World) : Prop := ∃ A n c qs, e = .returned (.slice A n c) ∧ qs.map (·.1) = ps ∧ Pm w0 w qs A n c w'
theorem Pm.up {w0 w W : World} {o : Obj} {qs : List Q} {A : Option Addr} {n c : Nat} (h : Pm w0 (w.alloc o) qs A n c W) : Pm w0 w qs A n c W := by
  have hs : w.heap.size ≤ (w.alloc o).heap.size := by simp
  refine ⟨h.1, own_base h.2.1 hs, fun q hq => (h.2.2.1 q hq).imp (fun k => ?_) id, ((Below.refl _ w).alloc (Nat.le_refl _) o).trans (h.2.2.2.mono hs)⟩
  obtain ⟨h1, A, n, c, h2, h3, h4⟩ := k
  exact ⟨h1, A, n, c, h2, h3, own_base h4 hs⟩
/-- The things stay, while a row that is apart from them grows. -/
theorem Pm.gr {w0 w W W' : World} {qs : List Q} {A : Option Addr} {n c : Nat} {v v' : Value} (h : Pm w0 w qs A n c W) (k : Gr W W' v v') (hv : ∀ g, v.ownBlock = some g → g < w.heap.size) (hb : Below w0.heap.size w0 W') : Ths W' A qs := by
  have hne : ∀ {e : TypeId} {s : Nat} {u : Value} {m : Nat} {xs : List Value}, W.ownsRow w.heap.size e s u m xs → u.ownBlock = none ∨ u.ownBlock ≠ v.ownBlock := fun {e s u m xs} ho => by
    cases hu : u.ownBlock with
    | none => exact .inl rfl
    | some g =>
      right
      intro e1
      have := (ho.lt g hu).1
      have := hv g e1.symm
      omega
  refine ⟨row_of_owns (h.2.1.kept k.1 (hne h.2.1)), fun q hq => (h.2.2.1 q hq).elim (fun p => ?_) (fun p => p.next hb)⟩
  obtain ⟨h1, A, n, c, h2, h3, h4⟩ := p
  exact Vo.vl (B := w.heap.size) ⟨h1, A, n, c, h2, h3, h4.kept k.1 (hne h4)⟩
theorem vl_of {W : World} {x : Tv} {v : Value} (h : Vb W x.v v) (hx : x.ok) : Vl W (x, v) := by
  obtain ⟨A, n, c, h1, h2, h3, h4, h5, h6, h7⟩ := h
  exact ⟨A, n, c, h1, h2, h3, h4, h5, hx, h6, h7⟩
set_option maxRecDepth 100000 in
set_option maxHeartbeats 4000000 in
theorem parameters_any (c : Ck) (s : Ls) (w0 w : World) (h : Ch w0 c s) (hw : Below w0.heap.size w0 w) (ha : s.an ≤ 3) :
    Calls Try.prog 72 #[.agg (cv c s)] w (PrmOut w0 w (pars c)) := by
  have HU : Hid (U1 w (cv c s) _) := Lib.hid (U1.new w (cv c s))
  have HC := Lib.hid h
  have HW0 : Hid (Below w0.heap.size w0 _) := Lib.hid (hw.alloc hw.size (.cells (cv c s) 32))
  have HAL := Lib.hid h.z.a
  have HCL := Lib.hid h.z.c
  have hcm := h.z.cm
  have hcl2 := Lib.hid h.cl
  have hp : pars c = (c.ad.map (fun a => (⟨5, 0, be 4 a⟩ : Tv)) ++ (if c.kd = 2 then [⟨7, 0, c.da⟩] else [])) ++ c.ca.map (fun x => ⟨x.1, 0, x.2⟩) := by simp [pars]
  have HP := Lib.hid hp
  obtain ⟨i0, hi0, hz0, hz1, hz2⟩ := info_parts Try_infoTlv
  have HI := Lib.hid hi0
  have HZ0 := Lib.hid hz0
  have HZ1 := Lib.hid hz1
  have HZ2 := Lib.hid hz2
  have hcn : s.cn ≤ 4398046510976 := by omega
  clear hi0 hz0 hz1 hz2 hw h hp hcm
  go_enter Try.func72, Try.ntmps72
  go_upto_region 1 with fail
  have HUP := Lib.hid fun (qs : List Q) A n c' W => Pm.up (w0 := w0) (w := w) (W := W) (o := .cells (cv c s) 32) (qs := qs) (A := A) (n := n) (c := c')
  generalize World.alloc w _ = W1 at HU HW0 HUP ⊢
  have hlt := HU.out.1.lt
  have g11 := HU.out.1.c11
  go_wp2_with fail
  clear g11
  go_loopw [3, 11] (fun v i wr => ∃ (k : Nat) (A : Option Addr) (c' : Nat) (qs : List Q), k ≤ s.an ∧ i = .int .i64 (k : Int) ∧ v = .slice A k c' ∧ Hid (qs.map (·.1) = (c.ad.take k).map (fun a => (⟨5, 0, be 4 a⟩ : Tv))) ∧ Hid (Pm w0 W1 qs A k c' wr)) (fun _ i _ => s.an - (intOf i).toNat)
  case atStart => exact ⟨0, _, _, [], by omega, rfl, rfl, Lib.hid rfl, Lib.hid (Pm.nil w0 W1)⟩
  case round =>
    obtain ⟨k, A, c', qs, hk1, rfl, rfl, hqs, hpm⟩ := hrel
    by_cases hlt1 : k < s.an
    · have hkl : k < c.ad.length := by rw [HAL.out]; exact hlt1
      obtain ⟨a, hA, k0⟩ := num_at (HC.out.ar.below (HW0.out.trans (hpm.out.2.2.2.mono HW0.out.size))) hkl
      rw [hA]
      have hx := HC.out.ok.ad _ (List.getElem_mem hkl)
      have HT : Hid (c.ad.take (k + 1) = c.ad.take k ++ [c.ad[k]]) := Lib.hid (List.take_succ_eq_append_getElem hkl)
      generalize c.ad[k] = x at *
      go_wp2_with fail
      (with_reducible refine (four_any wr _ _ _ _ _ 4 _ hx rfl (by omega) (own_nil wr)).mono ?_)
      rintro e X7 ⟨A7, c7, rfl, ho7, hg7⟩
      have hsz1 := hpm.out.2.2.2.size
      have hsz2 := ho7.2.size
      have hpm7 := hpm.out.next (ho7.2)
      have hvo : Vo W1.heap.size X7 (⟨5, 0, be 4 x⟩, .slice A7 4 c7) := ⟨⟨by show 5 < 65536; omega, by show 0 < 256; omega, be_byt _ _⟩, A7, 4, c7, rfl, by omega, by have := own_base ho7.1 hsz1; simpa using this⟩
      have HPM7 := Lib.hid hpm7
      have HVO := Lib.hid (hvo.next ((Below.refl X7.heap.size X7).alloc (Nat.le_refl _) (.cells (tc (⟨5, 0, be 4 x⟩, .slice A7 4 c7)).toArray 25)))
      have hrow := Lib.hid (hpm7.alloc (.cells (tc (⟨5, 0, be 4 x⟩, .slice A7 4 c7)).toArray 25))
      have hnew := Lib.hid (bcells (Row.new X7 (tc (⟨5, 0, be 4 x⟩, .slice A7 4 c7)) 25 (0, 0)))
      clear ho7 hg7 k0 hpm7 hvo
      go_wp2_with (at_builtin; refine wpList_append_own _ rfl (.tmp 15) (.tmp 19) 41 rfl W1.heap.size 25 i0 _ 3 32 Try.underlying41 HI.out HZ0.out HZ1.out HZ2.out rfl (by decide) _ _ _ rfl hrow.out.2.1 ⟨X7.heap.size, 0, none⟩ 1 1 (tc (⟨5, 0, be 4 x⟩, .slice A7 4 c7)) rfl rfl hnew.out (tc_one _ rfl) (by unfold maxLen; omega) (by omega) (by simp; omega) ?_; intro v' w2 hown' hgrow _; obtain ⟨A9, c9, rfl⟩ := own_form hown'; have HN := Lib.hid (hrow.out.snoc (.inl HVO.out) hown' hgrow); clear hown' hgrow)
      go_roundw
      case rel => exact ⟨k + 1, _, _, _, by omega, by go_num, rfl, Lib.hid (by rw [HT.out, List.map_append, List.map_append, hqs.out]; rfl), HN⟩
      case measure => simp [intOf]; omega
    · have hke : k = s.an := by omega
      have HQ : Hid (qs.map (·.1) = c.ad.map (fun a => (⟨5, 0, be 4 a⟩ : Tv))) := Lib.hid (by rw [hqs.out, List.take_of_length_le (by rw [HAL.out]; omega)])
      have g0 := (HU.out.1.nextB hpm.out.2.2.2 hlt).c0
      have g10 := (HU.out.1.nextB hpm.out.2.2.2 hlt).c10
      have g14 := (HU.out.1.nextB hpm.out.2.2.2 hlt).c14
      clear hqs hke
      obtain ⟨b2, hb2⟩ : ∃ b2 : Bool, ((c.kd : Int) == 2) = b2 := ⟨_, rfl⟩
      go_upto_if 24 with fail
      go_cut [3] from 25 to 30 (fun v3 W => ∃ (m : Nat) (A' : Option Addr) (c'' : Nat) (qs' : List Q), m ≤ k + 1 ∧ v3 = .slice A' m c'' ∧ Hid (qs'.map (·.1) = c.ad.map (fun a => (⟨5, 0, be 4 a⟩ : Tv)) ++ (if c.kd = 2 then [⟨7, 0, c.da⟩] else [])) ∧ Hid (Pm w0 W1 qs' A' m c'' W))
      case first =>
        by_cases hk2 : c.kd = 2
        · obtain rfl : true = b2 := by rw [← hb2]; simp [hk2]
          clear hb2
          have hvb := HC.out.dr
          have hvq : Vq w0 W1 wr (⟨7, 0, c.da⟩, .slice s.dA s.dn s.dc) := .inr (vl_of (x := ⟨7, 0, c.da⟩) hvb ⟨by show 7 < 65536; omega, by show 0 < 256; omega, HC.out.ok.da⟩)
          have hrow := Lib.hid (hpm.out.alloc (.cells (tc (⟨7, 0, c.da⟩, .slice s.dA s.dn s.dc)).toArray 25))
          have HVQ := Lib.hid (hvq.next ((Below.refl wr.heap.size wr).alloc (Nat.le_refl _) (.cells (tc (⟨7, 0, c.da⟩, .slice s.dA s.dn s.dc)).toArray 25)))
          have hnew := Lib.hid (bcells (Row.new wr (tc (⟨7, 0, c.da⟩, .slice s.dA s.dn s.dc)) 25 (0, 0)))
          have hsz1 := hpm.out.2.2.2.size
          have HK2 := Lib.hid hk2
          clear hvb hvq hk2
          go_wp2_with (at_builtin; refine wpList_append_own _ rfl (.tmp 25) (.tmp 29) 41 rfl W1.heap.size 25 i0 _ 3 32 Try.underlying41 HI.out HZ0.out HZ1.out HZ2.out rfl (by decide) _ _ _ rfl hrow.out.2.1 ⟨wr.heap.size, 0, none⟩ 1 1 (tc (⟨7, 0, c.da⟩, .slice s.dA s.dn s.dc)) rfl rfl hnew.out (tc_one _ rfl) (by unfold maxLen; omega) (by omega) (by simp; omega) ?_; intro v' w2 hown' hgrow _; obtain ⟨A9, c9, rfl⟩ := own_form hown'; have HN := Lib.hid (hrow.out.snoc HVQ.out hown' hgrow); clear hown' hgrow)
          go_meet
          case rel => exact ⟨k + 1, _, _, _, by omega, rfl, Lib.hid (by rw [if_pos HK2.out, List.map_append, HQ.out]; rfl), HN⟩
        · obtain rfl : false = b2 := by rw [← hb2]; simp; omega
          clear hb2
          have HQ2 : Hid (qs.map (·.1) = c.ad.map (fun a => (⟨5, 0, be 4 a⟩ : Tv)) ++ (if c.kd = 2 then [⟨7, 0, c.da⟩] else [])) := Lib.hid (by rw [if_neg hk2, HQ.out, List.append_nil])
          clear hk2
          go_wp2_with fail
          go_meet
          case rel => exact ⟨k, _, _, qs, by omega, rfl, HQ2, hpm⟩
      case rest =>
        obtain ⟨m, A2, c2, qs2, hm, rfl, HQ2, HPM2⟩ := hcut
        clear HQ hpm g0 g10 g14
        have g14 := (HU.out.1.nextB HPM2.out.2.2.2 hlt).c14
        go_wp2_with fail
        clear g14
        go_loopw [3, 34] (fun v i wr => ∃ (j m' : Nat) (A : Option Addr) (c' : Nat) (qs' : List Q), j ≤ s.cn ∧ m' ≤ 4 + j ∧ i = .int .i64 (j : Int) ∧ v = .slice A m' c' ∧ Hid (qs'.map (·.1) = qs2.map (·.1) ++ (c.ca.take j).map (fun x => (⟨x.1, 0, x.2⟩ : Tv))) ∧ Hid (Pm w0 W1 qs' A m' c' wr)) (fun _ i _ => s.cn - (intOf i).toNat)
        case atStart => exact ⟨0, m, _, _, qs2, by omega, by omega, rfl, rfl, Lib.hid (by simp), HPM2⟩
        case round =>
          obtain ⟨j, m', A, c', qs', hj1, hm', rfl, rfl, hqs, hpm⟩ := hrel
          by_cases hlt1 : j < s.cn
          · have hkl : j < c.ca.length := by rw [HCL.out]; exact hlt1
            have hkq : j < s.cq.length := by rw [hcl2.out]; exact hkl
            obtain ⟨a, hA, k0, k1⟩ := cause_at (HC.out.cr.below (HW0.out.trans (hpm.out.2.2.2.mono HW0.out.size))) hkl hkq
            have hvb := HC.out.cd j _ _ (List.getElem?_eq_getElem hkl) (List.getElem?_eq_getElem hkq)
            have hx := HC.out.ok.ca _ (List.getElem_mem hkl)
            have HT : Hid (c.ca.take (j + 1) = c.ca.take j ++ [c.ca[j]]) := Lib.hid (List.take_succ_eq_append_getElem hkl)
            rw [hA]
            generalize c.ca[j] = x at *
            obtain ⟨xc, xd⟩ := x
            simp only at k0 k1 hvb hx HT
            have hvl := vl_of (x := ⟨xc, 0, xd⟩) hvb ⟨by show xc < 65536; omega, by show 0 < 256; omega, hx.2⟩
            obtain ⟨B, bn, bc, hB, _⟩ := hvb
            rw [hB] at k1 hvl
            have hrow := Lib.hid ((hpm.out.alloc (.cells #[.int .u16 (xc : Int), .slice B bn bc] 73)).alloc (.cells (tc (⟨xc, 0, xd⟩, .slice B bn bc)).toArray 25))
            have hnew0 := bcells (Row.new (wr.alloc (.cells #[.int .u16 (xc : Int), .slice B bn bc] 73)) (tc (⟨xc, 0, xd⟩, .slice B bn bc)) 25 (0, 0))
            rw [World.size_alloc] at hnew0
            have hnew := Lib.hid hnew0
            clear hnew0
            have HVL := Lib.hid hvl
            have hsz1 := hpm.out.2.2.2.size
            clear hvl hB hx
            go_wp2_with (at_builtin; refine wpList_append_own _ rfl (.tmp 38) (.tmp 44) 41 rfl W1.heap.size 25 i0 _ 3 32 Try.underlying41 HI.out HZ0.out HZ1.out HZ2.out rfl (by decide) _ _ _ rfl hrow.out.2.1 ⟨wr.heap.size + 1, 0, none⟩ 1 1 (tc (⟨xc, 0, xd⟩, .slice B bn bc)) rfl rfl hnew.out (tc_one _ rfl) (by unfold maxLen; omega) (by omega) (by simp; omega) ?_; intro v' w2 hown' hgrow _; obtain ⟨A9, c9, rfl⟩ := own_form hown'; have HN := Lib.hid (hrow.out.snoc (.inr HVL.out) hown' hgrow); clear hown' hgrow)
            go_roundw
            case rel => exact ⟨j + 1, _, _, _, _, by omega, by omega, by go_num, rfl, Lib.hid (by rw [HT.out, List.map_append, List.map_append, hqs.out, List.append_assoc]; rfl), HN⟩
            case measure => simp [intOf]; omega
          · have HF : Hid (qs'.map (·.1) = pars c) := Lib.hid (by rw [hqs.out, List.take_of_length_le (by rw [HCL.out]; omega), HQ2.out, HP.out])
            clear hqs
            go_wp2_with fail
            go_ret
            exact ⟨_, _, _, qs', rfl, HF.out, HUP.out _ _ _ _ _ hpm.out⟩
end Go.Proofs.Ytbliipjiilmbcaa
/-
  What chunk.value does.
-/
namespace Go.Proofs.Ytbliipjiilmbcaa
open Go.RowKit Wire Tlv Chunk

theorem Gr.lies' {W w' : World} {v : Value} {g H n c : Nat} (h : W.grownBy w' v.ownBlock) (k : v.ownBlock = some g ∨ g = H) (hH : H = W.heap.size) : Gr W w' v (.slice (some ⟨g, 0, none⟩) n c) :=
  ⟨h, fun q hq => by
    have e : g = q := by simpa [Value.ownBlock] using hq
    subst e
    rcases k with k | k
    · exact .inl k
    · right
      rw [k, hH]
      exact Nat.le_refl _⟩
theorem Gr.below {W W' : World} (v : Value) (h : Below W.heap.size W W') : Gr W W' v v := ⟨⟨h.os, h.tape, h.output, h.size, fun k hk _ => h.block k hk⟩, fun _ h => .inl h⟩
theorem cat_app (ch : Bool) (xs ys : List Tv) : cat ch (xs ++ ys) = cat ch xs ++ cat ch ys := by simp [cat]
theorem cat_take_le (ch : Bool) (ps : List Tv) (k : Nat) : (cat ch (ps.take k)).length ≤ (cat ch ps).length := by
  conv => rhs; rw [← List.take_append_drop k ps, cat_app]
  rw [List.length_append]
  omega
theorem val_take {c : Ck} (k : Nat) : (body c ++ cat false ((pars c).take k)).length ≤ (val c).length := by
  have := cat_take_le false (pars c) k
  simp only [val, List.length_append]
  omega
theorem tp_ok {x : Tv} (h : fit false x) (hl : x.v.length ≤ 65531) : tp false x = (tb false x, 0) := by
  unfold tp
  rw [if_neg (by simpa using h), if_neg (by omega)]
theorem tp_long {x : Tv} (h : fit false x) (hl : 65531 < x.v.length) : tp false x = ([], 3) := by
  unfold tp
  rw [if_neg (by simpa using h), if_pos hl]
/-- What chunk.value leaves. -/
def ValOut (w : World) (c : Ck) (e : Ending) (w' : World) : Prop := ∃ A n c' l er, e = .returned (.tuple #[.slice A n c', .int .i64 er]) ∧ Own w w' A n c' l ∧ ((er = 0 ∧ l = val c) ∨ (er = 3 ∧ 65531 < (val c).length)) ∧ n ≤ 140737488353000
theorem nums_le {c : Ck} (hg : c.ga.length ≤ 64) (hu : c.du.length ≤ 16) : (nums c).length ≤ 400 := by
  unfold nums
  repeat' split
  all_goals (simp [be_len, gb_len, ub_len]; try omega)
set_option maxRecDepth 100000 in
set_option maxHeartbeats 4000000 in
theorem value_any (c : Ck) (s : Ls) (w : World) (h : Ch w c s) (ha : s.an ≤ 3) (hg : s.gn ≤ 64) (hu : s.un ≤ 16) (hbp : pars c ≠ [] → (body c).length ≤ 400) :
    Calls Try.prog 40 #[.agg (cv c s)] w (ValOut w c) := by
  have HU : Hid (U1 w (cv c s) _) := Lib.hid (U1.new w (cv c s))
  have HC : Hid (Ch _ c s) := Lib.hid (h.alloc (.cells (cv c s) 32))
  have hnl := nums_le (c := c) (by rw [h.z.g]; exact hg) (by rw [h.z.u]; exact hu)
  have HNL := Lib.hid hnl
  have HDL := Lib.hid h.z.d
  have hdm := h.z.dm
  have HBP := Lib.hid hbp
  have HPO := Lib.hid (pars_ok h.ok)
  obtain ⟨i0, hi0, hz0, hz1, hz2⟩ := info_parts Try_info8
  have HI := Lib.hid hi0
  have HZ0 := Lib.hid hz0
  have HZ1 := Lib.hid hz1
  have HZ2 := Lib.hid hz2
  have HCI := Lib.hid (cv_info c s)
  clear hi0 hz0 hz1 hz2 hnl hbp h
  go_enter Try.func40, Try.ntmps40
  go_upto_region 1 with fail
  generalize World.alloc w _ = W1 at HU HC ⊢
  have hlt := HU.out.1.lt
  go_wp2_with ((refine wpList_load_row rfl 32 (.tmp 1) rfl w.heap.size rfl 32 (cv c s) (0, 0) _ HU.out.1 Try.underlying32 rfl HCI.out ?_))
  (with_reducible refine (numbers_any c s W1 HC.out hg hu).mono ?_)
  rintro e W2 ⟨A2, n2, c2, rfl, ho2⟩
  have hn2 : n2 ≤ 400 := by rw [← ho2.len]; exact HNL.out
  have HO2 := Lib.hid ho2
  clear ho2
  have g0 := (HU.out.1.nextB HO2.out.2 hlt).c0
  have g10 := (HU.out.1.nextB HO2.out.2 hlt).c10
  obtain ⟨b2, hb2⟩ : ∃ b2 : Bool, ((c.kd : Int) != 2) = b2 := ⟨_, rfl⟩
  go_upto_if 13 with fail
  go_cut [4] from 14 to 17 (fun v4 W => ∃ (m : Nat) (A' : Option Addr) (c'' : Nat), m ≤ 140737488352000 ∧ v4 = .slice A' m c'' ∧ Hid (Own W1 W A' m c'' (body c)))
  case first =>
    by_cases hk2 : c.kd = 2
    · obtain rfl : false = b2 := by rw [← hb2]; simp [hk2]
      clear hb2
      have HN : Hid (Own W1 W2 A2 n2 c2 (body c)) := Lib.hid (by unfold body; rw [if_pos hk2, List.append_nil]; exact HO2.out)
      clear hk2
      go_wp2_with fail
      go_meet
      case rel => exact ⟨n2, _, _, by omega, rfl, HN⟩
    · obtain rfl : true = b2 := by rw [← hb2]; simp; omega
      clear hb2
      have hbd : body c = nums c ++ c.da := by unfold body; rw [if_neg hk2]
      have HBD := Lib.hid hbd
      have hvb := HC.out.dr.next (HO2.out.2.mono (Nat.le_refl _))
      obtain ⟨A, n, cc, hv, hl, hnc, hcm, hnr, hr, hz⟩ := hvb
      injection hv with hA hn hc
      subst hA; subst hn; subst hc
      have HL := Lib.hid hl
      have HR := Lib.hid hr
      have HZ := Lib.hid hz
      have hsz := HO2.out.2.size
      clear hk2 hbd hl hr hz hcm
      rcases hdA : s.dA with _ | a
      · obtain ⟨e1, e2⟩ := HZ.out hdA
        have hd0 : c.da = [] := List.eq_nil_of_length_eq_zero (by rw [HL.out, e1])
        rw [hdA, e1, e2] at g10
        have HN : Hid (Own W1 W2 A2 n2 c2 (body c)) := Lib.hid (by rw [HBD.out, hd0, List.append_nil]; exact HO2.out)
        clear e1 e2 hd0 hdA
        go_wp2_with (at_builtin; refine wpList_append_own_none rfl (.tmp 14) (.tmp 16) 23 rfl W1.heap.size 5 i0 1 Try.underlying23 HI.out _ _ _ rfl HO2.out.1 rfl ?_)
        go_meet
        case rel => exact ⟨n2, _, _, by omega, rfl, HN⟩
      · rw [hdA] at g10 HR
        clear hdA
        go_wp2_with (at_builtin; refine wpList_append_own _ rfl (.tmp 14) (.tmp 16) 23 rfl W1.heap.size 5 i0 (.int .u8 0) 1 1 Try.underlying23 HI.out HZ0.out HZ1.out HZ2.out rfl (by decide) _ _ _ rfl HO2.out.1 a s.dn s.dc (bs c.da) rfl (by rw [bs_len, HL.out, Nat.mul_one]) (bcells HR.out) (bs_one _) (by unfold maxLen; omega) (by omega) hsz ?_; intro v' w3 hown hgr hv; obtain ⟨A', c', rfl⟩ := own_form hown; have HN : Hid (Own W1 w3 A' (n2 + s.dn) c' (body c)) := Lib.hid ⟨by rw [HBD.out, ← bs_app]; exact hown, HO2.out.2.grown hgr hsz (fun k hk => (HO2.out.1.lt k hk).1)⟩; clear hown hgr)
        go_meet
        case rel => exact ⟨n2 + s.dn, _, _, by omega, rfl, HN⟩
  case rest =>
    obtain ⟨m, A3, c3, hm, rfl, HO3⟩ := hcut
    clear HO2 g0 g10 hb2
    have hbk := HU.out.1.nextB HO3.out.2 hlt
    have HBK := Lib.hid hbk
    clear hbk
    go_wp2_with ((refine wpList_load_row rfl 32 (.tmp 1) rfl w.heap.size rfl 32 (cv c s) (0, 0) _ HBK.out Try.underlying32 rfl HCI.out ?_))
    have hbw : Below W1.heap.size W1 wc := HO3.out.2
    (with_reducible refine (parameters_any c s W1 _ HC.out hbw ha).mono ?_)
    rintro e Wp ⟨A4, n4, c4, qs, rfl, hqs, hpm⟩
    have hml : m = (body c).length := HO3.out.len.symm
    have hql : qs.length = (pars c).length := by have := congrArg List.length hqs; simpa using this
    have hm4 : 0 < n4 → m ≤ 65531 := fun h => by
      have := HBP.out (by intro e; have h2 : qs.length = 0 := by rw [hql, e]; rfl
                          have h1 := hpm.1
                          omega)
      omega
    have hn4 : n4 ≤ 4398046520000 := by
      have h1 := hpm.1
      rw [hql] at h1
      have h2 : (pars c).length ≤ c.ad.length + 1 + c.ca.length := by
        unfold pars
        simp only [List.length_append, List.length_map]
        split <;> simp <;> omega
      have h3 := HC.out.z.a
      have h4 := HC.out.z.c
      have h5 := HC.out.z.cm
      omega
    have HO4 := Lib.hid (HO3.out.next hpm.2.2.2)
    have HPM := Lib.hid hpm
    have HQS := Lib.hid hqs
    have HGR := Lib.hid (Gr.refl Wp (.slice A3 m c3))
    have HV0 : Hid (∀ g, (Value.slice A3 m c3).ownBlock = some g → g < wc.heap.size) := Lib.hid fun g hg => (HO3.out.1.lt g hg).2
    have HN4 := Lib.hid hpm.1
    clear hpm hqs HBK hml hql HO3 HNL HBP hdm
    go_wp2_with fail
    go_loopw [4, 21] (fun v i wr => ∃ (k m' : Nat) (A : Option Addr) (c' : Nat), k ≤ n4 ∧ Hid (k < n4 → m' ≤ 65531) ∧ m' ≤ 140737488352000 ∧ i = .int .i64 (k : Int) ∧ v = .slice A m' c' ∧ Hid (Own W1 wr A m' c' (body c ++ cat false ((pars c).take k))) ∧ Hid (Gr Wp wr (.slice A3 m c3) (.slice A m' c'))) (fun _ i _ => n4 - (intOf i).toNat)
    case atStart => exact ⟨0, m, _, _, by omega, Lib.hid hm4, by omega, rfl, rfl, Lib.hid (by have := HO4.out; simpa [cat] using this), HGR⟩
    case round =>
      obtain ⟨k, m', A, c', hk, hm1, hm2, rfl, rfl, hown, hgr⟩ := hrel
      by_cases hlt1 : k < n4
      · have hkq : k < qs.length := by rw [HN4.out]; exact hlt1
        have hkp : k < (pars c).length := by rw [← HQS.out]; simpa using hkq
        have hths := HPM.out.gr hgr.out HV0.out (by have := hown.out.2; exact this.mono (Nat.le_refl _))
        obtain ⟨a, B, bn, bc, rfl, k0, k1, k2, hqe, hxl, hxc, hxm, hxn, hxo, hxr, hxz⟩ := hths.at hkq
        have hqk : qs[k].1 = (pars c)[k] := by
          have e := congrArg (fun l : List Tv => l[k]?) HQS.out
          simp [List.getElem?_map, List.getElem?_eq_getElem hkq, List.getElem?_eq_getElem hkp] at e
          exact e
        have hfit := (HPO.out _ (List.getElem_mem hkp)).2
        have hvt := val_take (c := c) (k + 1)
        have htk : (pars c).take (k + 1) = (pars c).take k ++ [(pars c)[k]] := List.take_succ_eq_append_getElem hkp
        rw [htk, cat_app] at hvt
        rw [← hqk] at hfit hvt htk
        generalize qs[k].1 = x at *
        obtain ⟨xk, xf, xv⟩ := x
        simp only at k0 k1 hxl hxr
        have hf0 : xf = 0 := by simpa [fit] using hfit
        subst hf0
        have HVT := Lib.hid hvt
        have HTK := Lib.hid htk
        have hO5 := hown.out.next ((Below.refl wr.heap.size wr).alloc (Nat.le_refl _) (.cells #[.int .u16 (xk : Int), .int .u8 0, .slice B bn bc] 25))
        have HO5 := Lib.hid hO5
        have hP : Calls Try.prog 19 #[.bool false, .agg #[.int .u16 (xk : Int), .int .u8 0, .slice B bn bc]] (wr.alloc (.cells #[.int .u16 (xk : Int), .int .u8 0, .slice B bn bc] 25)) (PutOut _ (tp false ⟨xk, 0, xv⟩)) := tput_any false ⟨xk, 0, xv⟩ B bn bc _ hxo hxl (by omega) (hxr.alloc _)
        by_cases hlong : 65531 < xv.length
        · rw [tp_long hfit hlong] at hP
          have HP := Lib.hid hP
          have HF : Hid (65531 < (val c).length) := Lib.hid (by
            have := HVT.out
            simp only [List.length_append, cat, List.flatMap_cons, List.flatMap_nil, List.append_nil] at this
            have h2 := tb_len false ⟨xk, 0, xv⟩
            have h3 := whl_le (4 + xv.length)
            simp only at h2
            omega)
          clear hP hvt htk hths hqe hqk hxo hxr hfit hO5 hlong
          go_wp2_with fail
          (with_reducible refine HP.out.mono ?_)
          rintro e W9 ⟨A9, n9, c9, rfl, ho9⟩
          have HO9 := Lib.hid (HO5.out.next ho9.2)
          clear ho9
          go_wp2_with fail
          go_ret2
          exact ⟨none, 0, 0, [], 3, rfl, own_lift ⟨World.ownsRow_nil _ _ _ _, HO9.out.2⟩ HU.out.2, .inr ⟨rfl, HF.out⟩, by omega⟩
        · rw [tp_ok hfit (by simp only; omega)] at hP
          have HP := Lib.hid hP
          have htl := tb_len false ⟨xk, 0, xv⟩
          have hwl := whl_le (4 + xv.length)
          simp only at htl
          have HTL := Lib.hid htl
          have hm65 := hm1.out hlt1
          clear hP hvt htk hths hqe hqk hxo hxr hfit hO5 htl
          go_wp2_with fail
          (with_reducible refine HP.out.mono ?_)
          rintro e W9 ⟨A9, n9, c9, rfl, ho9⟩
          have hl9 := ho9.len
          have HL9 := Lib.hid hl9
          have hn9 : n9 = whl (4 + xv.length) := by rw [← hl9, HTL.out]
          have hn9a : 0 < n9 := by omega
          have hn9b : n9 ≤ 65540 := by omega
          obtain ⟨a9, rfl, _⟩ := Row.byte ho9.row (k := 0) (by rw [hl9]; exact hn9a)
          have hO9 := HO5.out.next ho9.2
          have HO9 := Lib.hid hO9
          have HR9 := Lib.hid ho9.row
          have hG9 := hgr.out.trans (Gr.below (.slice A m' c') (bnext' ((Below.refl wr.heap.size wr).alloc (Nat.le_refl _) (.cells #[.int .u16 (xk : Int), .int .u8 0, .slice B bn bc] 25)) ho9.2))
          have HG9 := Lib.hid hG9
          have hsz := hO9.2.size
          clear ho9 hO9 hl9 hn9 hG9 hwl
          go_upto_region 11 with (at_builtin; refine wpList_append_lies _ rfl (.tmp 33) (.tmp 34) 23 rfl W1.heap.size 5 i0 (.int .u8 0) 1 1 Try.underlying23 HI.out HZ0.out HZ1.out HZ2.out rfl (by decide) _ _ _ rfl HO9.out.1 a9 n9 c9 (bs (tb false ⟨xk, 0, xv⟩)) rfl (by rw [bs_len, HL9.out, Nat.mul_one]) (bcells HR9.out) (bs_one _) hn9a (by unfold maxLen; omega) (by omega) hsz _ rfl ?_; intro g9 cap9 w10 hown10 hgrow10 hat10 _; have HN : Hid (Own W1 w10 (some ⟨g9, 0, none⟩) (m' + n9) cap9 (body c ++ cat false ((pars c).take (k + 1)))) := Lib.hid ⟨by rw [HTK.out, cat_app, ← List.append_assoc, ← bs_app]; simpa [cat] using hown10, HO9.out.2.grown hgrow10 hsz (fun k hk => (HO9.out.1.lt k hk).1)⟩; have HG : Hid (Gr Wp w10 (.slice A3 m c3) (.slice (some ⟨g9, 0, none⟩) (m' + n9) cap9)) := Lib.hid (HG9.out.trans (Gr.lies' hgrow10 hat10 rfl)); clear hown10 hgrow10 hat10)
          by_cases hbig : 65531 < m' + n9
          · have db : decide ((65531 : Int) < (m' : Int) + (n9 : Int)) = true := by simp; omega
            have HF : Hid (65531 < (val c).length) := Lib.hid (by
              have := HN.out.len
              have h2 := val_take (c := c) (k + 1)
              omega)
            go_wp2_with fail
            go_ret2
            exact ⟨none, 0, 0, [], 3, rfl, own_lift ⟨World.ownsRow_nil _ _ _ _, HN.out.2⟩ HU.out.2, .inr ⟨rfl, HF.out⟩, by omega⟩
          · have db : decide ((65531 : Int) < (m' : Int) + (n9 : Int)) = false := by simp; omega
            go_wp2_with fail
            go_roundw
            case rel => exact ⟨k + 1, m' + n9, _, _, by omega, Lib.hid (fun _ => by omega), by omega, by go_num, rfl, HN, HG⟩
            case measure => simp [intOf]; omega
      · have HF : Hid (Own W1 wr A m' c' (val c)) := Lib.hid (by
          have := hown.out
          rw [List.take_of_length_le (by rw [← HQS.out, List.length_map, HN4.out]; omega)] at this
          exact this)
        clear hown
        go_wp2_with fail
        go_ret2
        exact ⟨_, _, _, val c, 0, rfl, own_lift HF.out HU.out.2, .inl ⟨rfl, rfl⟩, by omega⟩
end Go.Proofs.Ytbliipjiilmbcaa
/-
  What chunk.May does.
-/
namespace Go.Proofs.Ytbliipjiilmbcaa
open Go.RowKit Wire Tlv Chunk

theorem andNot7 : ∀ k : Nat, k < 256 → (bits .andNot .u8 (k : Int) 7 == 0) = decide (k ≤ 7) := by decide +kernel
theorem andNot1 : ∀ k : Nat, k < 256 → (bits .andNot .u8 (k : Int) 1 == 0) = decide (k ≤ 1) := by decide +kernel
theorem andNot0 : ∀ k : Nat, k < 256 → (bits .andNot .u8 (k : Int) 0 == 0) = decide (k ≤ 0) := by decide +kernel
theorem andNot255 : ∀ k : Nat, k < 256 → (bits .andNot .u8 (k : Int) 255 == 0) = decide (k ≤ 255) := by decide +kernel
theorem andNot_flg {f : Nat} (k : Nat) (h : f < 256) : (bits .andNot .u8 (f : Int) (flg k : Nat) == 0) = decide (f ≤ flg k) := by
  unfold flg
  repeat' split
  · exact andNot7 f h
  · exact andNot1 f h
  · exact andNot0 f h
  · exact andNot255 f h
def fewB (s : Ls) : Bool := decide (s.an ≤ 3 ∧ s.gn ≤ 64 ∧ s.un ≤ 16)
def whoB (c : Ck) (s : Ls) : Bool := decide (s.dn ≠ 0 ∨ ¬ (c.kd = 0 ∨ c.kd = 2))
theorem unt_kinds (c : Ck) : (c.kd = 0 ∧ unt c = { c with tsn := 0, sid := 0, ssn := 0, ppid := 0, da := [] }) ∨ (c.kd = 1 ∧ unt c = { c with tag := 0, rw := 0, out := 0, inn := 0, tsn := 0, ad := [] }) ∨
    (c.kd = 2 ∧ unt c = { c with tag := 0, rw := 0, out := 0, inn := 0, tsn := 0, ad := [], da := [] }) ∨ (c.kd = 3 ∧ unt c = { c with tsn := 0, rw := 0, ga := [], du := [] }) ∨ ((c.kd = 6 ∨ c.kd = 9) ∧ unt c = { c with ca := [] }) ∨
    (c.kd = 7 ∧ unt c = { c with tsn := 0 }) ∨ ((c.kd = 8 ∨ c.kd = 11 ∨ c.kd = 14) ∧ unt c = c) ∨ ((¬ (c.kd = 0 ∨ c.kd = 1 ∨ c.kd = 2 ∨ c.kd = 3 ∨ c.kd = 6 ∨ c.kd = 9 ∨ c.kd = 7 ∨ c.kd = 8 ∨ c.kd = 11 ∨ c.kd = 14)) ∧ unt c = { c with da := [] }) := by
  unfold unt
  repeat' split
  all_goals first
    | exact .inl ⟨by omega, rfl⟩
    | exact .inr (.inl ⟨by omega, rfl⟩)
    | exact .inr (.inr (.inl ⟨by omega, rfl⟩))
    | exact .inr (.inr (.inr (.inl ⟨by omega, rfl⟩)))
    | exact .inr (.inr (.inr (.inr (.inl ⟨by omega, rfl⟩))))
    | exact .inr (.inr (.inr (.inr (.inr (.inl ⟨by omega, rfl⟩)))))
    | exact .inr (.inr (.inr (.inr (.inr (.inr (.inl ⟨by omega, rfl⟩))))))
    | exact .inr (.inr (.inr (.inr (.inr (.inr (.inr ⟨by omega, rfl⟩))))))
theorem fits_iff {c : Ck} {s : Ls} (hz : Lz c s) : Fits c ↔ (c.fl ≤ flg c.kd ∧ Noth (unt c) ∧ whoB c s = true ∧ fewB s = true) := by
  have h1 := hz.d
  have h2 := hz.a
  have h3 := hz.g
  have h4 := hz.u
  have h5 := hz.c
  simp only [whoB, fewB, decide_eq_true_eq]
  have hu := unt_kinds c
  constructor
  · rintro ⟨f1, f2, f3, f4, f5, f6, f7, f8, f9, f10, f11, f12⟩
    refine ⟨f1, ?_, by omega, by omega⟩
    simp only [hTsn, hRw, hDa, hPc, hIn, hGp, hCa] at f2 f3 f4 f5 f6 f7 f8
    unfold Noth
    rcases hu with ⟨hk, e⟩ | ⟨hk, e⟩ | ⟨hk, e⟩ | ⟨hk, e⟩ | ⟨hk, e⟩ | ⟨hk, e⟩ | ⟨hk, e⟩ | ⟨hk, e⟩
    all_goals (rw [e]; try dsimp only [List.length_nil])
    all_goals (refine ⟨?_, ?_, ?_, ?_, ?_, ?_, ?_, ?_, ?_, ?_, ?_, ?_, ?_⟩ <;> first | rfl | omega)
  · rintro ⟨f1, f2, f3, f4⟩
    unfold Noth at f2
    rcases hu with ⟨hk, e⟩ | ⟨hk, e⟩ | ⟨hk, e⟩ | ⟨hk, e⟩ | ⟨hk, e⟩ | ⟨hk, e⟩ | ⟨hk, e⟩ | ⟨hk, e⟩
    all_goals
      rw [e] at f2
      try dsimp only [List.length_nil] at f2
      constructor
      all_goals (try simp only [hTsn, hRw, hDa, hPc, hIn, hGp, hCa])
      all_goals omega
theorem may_B {c : Ck} {s : Ls} (hz : Lz c s) : mayB c = (decide (c.fl ≤ flg c.kd) && (decide (Noth (unt c)) && (whoB c s && (fewB s && apart 0 c.ga)))) := by
  by_cases h : may c
  · rw [mayB_true h]
    obtain ⟨h1, h2⟩ := h
    obtain ⟨f1, f2, f3, f4⟩ := (fits_iff hz).1 h1
    simp [f1, f2, f3, f4, h2]
  · rw [mayB_false h]
    symm
    rw [Bool.eq_false_iff]
    intro hf
    simp only [Bool.and_eq_true, decide_eq_true_eq] at hf
    obtain ⟨f1, f2, f3, f4, h2⟩ := hf
    exact h ⟨(fits_iff hz).2 ⟨f1, f2, f3, f4⟩, h2⟩
end Go.Proofs.Ytbliipjiilmbcaa
/-
  The reader of layer 5: how it lies in memory, what its small methods do.
-/
namespace Go.Proofs.Ytbliipjiilmbcaa
open Go.RowKit Wire Tlv Chunk

/-- A reader: what is left, the chunk so far, whether it is bad. -/
structure Rt where
  l : List Int
  c : Ck
  bad : Bool
/-- Two bytes are read, and four. -/
def Rt.n2 (r : Rt) : Nat × Rt := if r.l.length < 2 then (0, { r with l := [], bad := true }) else (nu (r.l.take 2), { r with l := r.l.drop 2 })
def Rt.n4 (r : Rt) : Nat × Rt := (r.n2.1 * 65536 + r.n2.2.n2.1, r.n2.2.n2.2)
theorem Rt.n2_lt {r : Rt} (h : Byt r.l) : r.n2.1 < 65536 := by
  unfold Rt.n2
  split
  · show 0 < 65536; omega
  · exact nu_lt 2 _ (by simp; omega) (Byt.take h 2)
theorem Rt.n2_byt {r : Rt} (h : Byt r.l) : Byt r.n2.2.l := by
  unfold Rt.n2
  split
  · intro c hc; simp at hc
  · exact Byt.drop h 2
theorem Rt.n4_lt {r : Rt} (h : Byt r.l) : r.n4.1 < 4294967296 := by
  have h1 := Rt.n2_lt h
  have h2 := Rt.n2_lt (Rt.n2_byt h)
  show r.n2.1 * 65536 + r.n2.2.n2.1 < _
  omega
theorem Rt.n2_c (r : Rt) : r.n2.2.c = r.c := by unfold Rt.n2; split <;> rfl
theorem Rt.n4_c (r : Rt) : r.n4.2.c = r.c := by show r.n2.2.n2.2.c = _; rw [Rt.n2_c, Rt.n2_c]
def rv (A : Option Addr) (n cap : Nat) (c : Ck) (s : Ls) (bad : Bool) : Array Value := #[.slice A n cap, .int .u8 (c.kd : Int), .int .u8 (c.fl : Int), .int .u32 (c.tag : Int), .int .u32 (c.rw : Int), .int .u32 (c.tsn : Int), .int .u16 (c.out : Int), .int .u16 (c.inn : Int), .int .u16 (c.sid : Int), .int .u16 (c.ssn : Int), .int .u32 (c.ppid : Int), .slice s.dA s.dn s.dc, .slice s.aA s.an s.ac, .slice s.gA s.gn s.gc, .slice s.uA s.un s.uc, .slice s.cA s.cn s.cc, .bool bad]
theorem Bk.r0 {W : World} {b : Nat} {A : Option Addr} {n cap : Nat} {c : Ck} {s : Ls} {bad : Bool} {t : TypeId} (h : Bk W b (rv A n cap c s bad) t) : W.cell? ⟨b, 0, none⟩ = some (.slice A n cap) := h.cell 0
theorem Bk.r1 {W : World} {b : Nat} {A : Option Addr} {n cap : Nat} {c : Ck} {s : Ls} {bad : Bool} {t : TypeId} (h : Bk W b (rv A n cap c s bad) t) : W.cell? ⟨b, 1, none⟩ = some (.int .u8 (c.kd : Int)) := h.cell 1
theorem Bk.r2 {W : World} {b : Nat} {A : Option Addr} {n cap : Nat} {c : Ck} {s : Ls} {bad : Bool} {t : TypeId} (h : Bk W b (rv A n cap c s bad) t) : W.cell? ⟨b, 2, none⟩ = some (.int .u8 (c.fl : Int)) := h.cell 2
theorem Bk.r3 {W : World} {b : Nat} {A : Option Addr} {n cap : Nat} {c : Ck} {s : Ls} {bad : Bool} {t : TypeId} (h : Bk W b (rv A n cap c s bad) t) : W.cell? ⟨b, 3, none⟩ = some (.int .u32 (c.tag : Int)) := h.cell 3
theorem Bk.r4 {W : World} {b : Nat} {A : Option Addr} {n cap : Nat} {c : Ck} {s : Ls} {bad : Bool} {t : TypeId} (h : Bk W b (rv A n cap c s bad) t) : W.cell? ⟨b, 4, none⟩ = some (.int .u32 (c.rw : Int)) := h.cell 4
theorem Bk.r5 {W : World} {b : Nat} {A : Option Addr} {n cap : Nat} {c : Ck} {s : Ls} {bad : Bool} {t : TypeId} (h : Bk W b (rv A n cap c s bad) t) : W.cell? ⟨b, 5, none⟩ = some (.int .u32 (c.tsn : Int)) := h.cell 5
theorem Bk.r6 {W : World} {b : Nat} {A : Option Addr} {n cap : Nat} {c : Ck} {s : Ls} {bad : Bool} {t : TypeId} (h : Bk W b (rv A n cap c s bad) t) : W.cell? ⟨b, 6, none⟩ = some (.int .u16 (c.out : Int)) := h.cell 6
theorem Bk.r7 {W : World} {b : Nat} {A : Option Addr} {n cap : Nat} {c : Ck} {s : Ls} {bad : Bool} {t : TypeId} (h : Bk W b (rv A n cap c s bad) t) : W.cell? ⟨b, 7, none⟩ = some (.int .u16 (c.inn : Int)) := h.cell 7
theorem Bk.r8 {W : World} {b : Nat} {A : Option Addr} {n cap : Nat} {c : Ck} {s : Ls} {bad : Bool} {t : TypeId} (h : Bk W b (rv A n cap c s bad) t) : W.cell? ⟨b, 8, none⟩ = some (.int .u16 (c.sid : Int)) := h.cell 8
theorem Bk.r9 {W : World} {b : Nat} {A : Option Addr} {n cap : Nat} {c : Ck} {s : Ls} {bad : Bool} {t : TypeId} (h : Bk W b (rv A n cap c s bad) t) : W.cell? ⟨b, 9, none⟩ = some (.int .u16 (c.ssn : Int)) := h.cell 9
theorem Bk.r10 {W : World} {b : Nat} {A : Option Addr} {n cap : Nat} {c : Ck} {s : Ls} {bad : Bool} {t : TypeId} (h : Bk W b (rv A n cap c s bad) t) : W.cell? ⟨b, 10, none⟩ = some (.int .u32 (c.ppid : Int)) := h.cell 10
theorem Bk.r11 {W : World} {b : Nat} {A : Option Addr} {n cap : Nat} {c : Ck} {s : Ls} {bad : Bool} {t : TypeId} (h : Bk W b (rv A n cap c s bad) t) : W.cell? ⟨b, 11, none⟩ = some (.slice s.dA s.dn s.dc) := h.cell 11
theorem Bk.r12 {W : World} {b : Nat} {A : Option Addr} {n cap : Nat} {c : Ck} {s : Ls} {bad : Bool} {t : TypeId} (h : Bk W b (rv A n cap c s bad) t) : W.cell? ⟨b, 12, none⟩ = some (.slice s.aA s.an s.ac) := h.cell 12
theorem Bk.r13 {W : World} {b : Nat} {A : Option Addr} {n cap : Nat} {c : Ck} {s : Ls} {bad : Bool} {t : TypeId} (h : Bk W b (rv A n cap c s bad) t) : W.cell? ⟨b, 13, none⟩ = some (.slice s.gA s.gn s.gc) := h.cell 13
theorem Bk.r14 {W : World} {b : Nat} {A : Option Addr} {n cap : Nat} {c : Ck} {s : Ls} {bad : Bool} {t : TypeId} (h : Bk W b (rv A n cap c s bad) t) : W.cell? ⟨b, 14, none⟩ = some (.slice s.uA s.un s.uc) := h.cell 14
theorem Bk.r15 {W : World} {b : Nat} {A : Option Addr} {n cap : Nat} {c : Ck} {s : Ls} {bad : Bool} {t : TypeId} (h : Bk W b (rv A n cap c s bad) t) : W.cell? ⟨b, 15, none⟩ = some (.slice s.cA s.cn s.cc) := h.cell 15
theorem Bk.r16 {W : World} {b : Nat} {A : Option Addr} {n cap : Nat} {c : Ck} {s : Ls} {bad : Bool} {t : TypeId} (h : Bk W b (rv A n cap c s bad) t) : W.cell? ⟨b, 16, none⟩ = some (.bool bad) := h.cell 16
/-- The reader in block b, in a call that began at w. -/
structure Rr (w : World) (b : Nat) (r : Rt) (s : Ls) (A : Option Addr) (n cap : Nat) (W : World) : Prop where
  bk : Bk W b (rv A n cap r.c s r.bad) 65
  lo : w.heap.size ≤ b
  bl : Below w.heap.size w W
  row : Row w A (bs r.l)
  len : r.l.length = n
  le : n ≤ cap
  cm : cap ≤ maxLen
  byt : Byt r.l
  sm : n ≤ 65531
/-- Only block b, and what is new, is otherwise. -/
def Ot (W W' : World) (b : Nat) : Prop := W.grownBy W' (some b)
theorem Ot.refl (W : World) (b : Nat) : Ot W W b := ⟨rfl, rfl, rfl, Nat.le_refl _, fun _ _ _ => rfl⟩
theorem Ot.trans {A B C : World} {b : Nat} (h : Ot A B b) (k : Ot B C b) : Ot A C b := ⟨k.os.trans h.os, k.tape.trans h.tape, k.output.trans h.output, Nat.le_trans h.size k.size, fun i hi hne => (k.block i (Nat.lt_of_lt_of_le hi h.size) hne).trans (h.block i hi hne)⟩
theorem Ot.drewN {W W' : World} {b : Nat} (h : Ot W W' b) (q : Nat) : Ot W (W'.drewN q) b := ⟨h.os, h.tape, h.output, h.size, h.block⟩
theorem Ot.drew {W W' : World} {b : Nat} (h : Ot W W' b) : Ot W W'.drew b := ⟨h.os, h.tape, h.output, h.size, h.block⟩
theorem Ot.set {W W' : World} {b : Nat} (h : Ot W W' b) (i : Nat) (v : Value) : Ot W (W'.setCell ⟨b, i, none⟩ v) b :=
  h.trans ⟨rfl, rfl, rfl, by simp [World.setCell], fun k _ hk => Below.heap_setCell _ _ _ k (fun e => hk (by rw [e]))⟩
theorem Ot.below {W W' : World} (b : Nat) (h : Below W.heap.size W W') : Ot W W' b := ⟨h.os, h.tape, h.output, h.size, fun k hk _ => h.block k hk⟩
theorem below_ot {B b : Nat} {w W W' : World} (h : Below B w W) (k : Ot W W' b) (hB : B ≤ W.heap.size) (hb : B ≤ b) : Below B w W' := h.grown k hB (fun j hj => by injection hj with hj; omega)
theorem owns_ot {W W' : World} {base s b : Nat} {e : TypeId} {v : Value} {n : Nat} {xs : List Value} (h : W.ownsRow base e s v n xs) (k : Ot W W' b) (hne : v.ownBlock ≠ some b) : W'.ownsRow base e s v n xs := h.kept k (.inr hne)
theorem Rr.drewN {w W : World} {b : Nat} {r : Rt} {s : Ls} {A : Option Addr} {n cap : Nat} (h : Rr w b r s A n cap W) (q : Nat) : Rr w b r s A n cap (W.drewN q) := ⟨h.bk, h.lo, below_drewN h.bl q, h.row, h.len, h.le, h.cm, h.byt, h.sm⟩
theorem Rr.drew {w W : World} {b : Nat} {r : Rt} {s : Ls} {A : Option Addr} {n cap : Nat} (h : Rr w b r s A n cap W) : Rr w b r s A n cap W.drew := ⟨h.bk, h.lo, h.bl.drew, h.row, h.len, h.le, h.cm, h.byt, h.sm⟩
theorem Rr.next {w W W' : World} {b : Nat} {r : Rt} {s : Ls} {A : Option Addr} {n cap : Nat} (h : Rr w b r s A n cap W) (hb : Below W.heap.size W W') : Rr w b r s A n cap W' := ⟨h.bk.next hb, h.lo, bnext' h.bl hb, h.row, h.len, h.le, h.cm, h.byt, h.sm⟩
/-- The chunk's field, or a slice, is stored. -/
theorem Rr.put {w W : World} {b : Nat} {r : Rt} {s s' : Ls} {A : Option Addr} {n cap : Nat} (h : Rr w b r s A n cap W) (i : Nat) (v : Value) (c' : Ck) (he : (rv A n cap r.c s r.bad).setIfInBounds i v = rv A n cap c' s' r.bad) : Rr w b ⟨r.l, c', r.bad⟩ s' A n cap (W.setCell ⟨b, i, none⟩ v) :=
  ⟨by have := h.bk.set i v; rw [he] at this; exact this, h.lo, h.bl.setCell (p := ⟨b, i, none⟩) h.lo v, h.row, h.len, h.le, h.cm, h.byt, h.sm⟩
theorem Rr.rest {w W : World} {b : Nat} {r : Rt} {s : Ls} {A : Option Addr} {n cap : Nat} (h : Rr w b r s A n cap W) (A' : Option Addr) (n' cap' : Nat) (l' : List Int) (hr : Row w A' (bs l')) (hl : l'.length = n') (hle : n' ≤ cap') (hm : cap' ≤ maxLen) (hb : Byt l') (hs : n' ≤ 65531) :
    Rr w b ⟨l', r.c, r.bad⟩ s A' n' cap' (W.setCell ⟨b, 0, none⟩ (.slice A' n' cap')) :=
  ⟨by have := h.bk.set 0 (.slice A' n' cap'); simpa [rv] using this, h.lo, h.bl.setCell (p := ⟨b, 0, none⟩) h.lo _, hr, hl, hle, hm, hb, hs⟩
theorem Rr.no {w W : World} {b : Nat} {r : Rt} {s : Ls} {A : Option Addr} {n cap : Nat} (h : Rr w b r s A n cap W) : Rr w b ⟨[], r.c, r.bad⟩ s none 0 0 (W.setCell ⟨b, 0, none⟩ (.slice none 0 0)) :=
  h.rest none 0 0 [] (Row.nil_ _ _) rfl (Nat.le_refl _) (Nat.zero_le _) (fun c hc => by simp at hc) (by omega)
theorem Rr.bad_ {w W : World} {b : Nat} {r : Rt} {s : Ls} {A : Option Addr} {n cap : Nat} (h : Rr w b r s A n cap W) (v : Bool) : Rr w b ⟨r.l, r.c, v⟩ s A n cap (W.setCell ⟨b, 16, none⟩ (.bool v)) :=
  ⟨by have := h.bk.set 16 (.bool v); simpa [rv] using this, h.lo, h.bl.setCell (p := ⟨b, 16, none⟩) h.lo _, h.row, h.len, h.le, h.cm, h.byt, h.sm⟩
theorem u16_word {u0 u1 : Nat} (h0 : u0 < 256) (h1 : u1 < 256) : bits .or .u16 ((u0 : Int) * 256) (u1 : Int) = ((256 * u0 + u1 : Nat) : Int) := by
  rw [show (u0 : Int) * 256 = ((u0 * 2 ^ 8 : Nat) : Int) by omega, u16_or_nat _ _ (by omega) (by omega), or_app (by omega)]
  omega
theorem u32_word {x y : Nat} (h0 : x < 65536) (h1 : y < 65536) : bits .or .u32 ((x : Int) * 65536) (y : Int) = ((x * 65536 + y : Nat) : Int) := by
  rw [show (x : Int) * 65536 = ((x * 2 ^ 16 : Nat) : Int) by omega, u32_or_nat _ _ (by omega) (by omega), or_app (by omega)]
/-- What a method leaves that takes a number. -/
def NOut (w : World) (b : Nat) (r' : Rt) (s : Ls) (v : Value) (W : World) (e : Ending) (W' : World) : Prop := ∃ A n cap, e = .returned v ∧ Rr w b r' s A n cap W' ∧ Ot W W' b
set_option maxRecDepth 100000 in
set_option maxHeartbeats 1000000 in
theorem two_r (w W : World) (b : Nat) (r : Rt) (s : Ls) (A : Option Addr) (n cap : Nat) (h : Rr w b r s A n cap W) :
    Calls Try.prog 89 #[.pointer (some ⟨b, 0, none⟩)] W (NOut w b r.n2.2 s (.int .u16 (r.n2.1 : Nat)) W) := by
  have HR := Lib.hid h
  have g0 := h.bk.r0
  have hsm := h.sm
  by_cases hs : n < 2
  · have hn : r.n2 = (0, { r with l := [], bad := true }) := by unfold Rt.n2; rw [if_pos (by rw [h.len]; exact hs)]
    rw [hn]
    have f0 := h.bk.frozen 0
    have f16 := h.bk.frozen 16
    have g16 := h.bk.r16
    have HN := Lib.hid ((h.no).bad_ true)
    have HO := Lib.hid (((Ot.refl W b).set 0 (.slice none 0 0)).set 16 (.bool true))
    clear h hn
    go_enter Try.func89, Try.ntmps89
    go_wp2_with fail
    go_ret
    exact ⟨_, _, _, rfl, HN.out, HO.out⟩
  · have hn : r.n2 = (nu (r.l.take 2), { r with l := r.l.drop 2 }) := by unfold Rt.n2; rw [if_neg (by rw [h.len]; exact hs)]
    rw [hn]
    have hl2 : 2 ≤ r.l.length := by rw [h.len]; omega
    obtain ⟨a, rfl, c0⟩ := Row.byte h.row (show 0 < r.l.length by omega)
    obtain ⟨a1, e1, c1⟩ := Row.byte h.row (show 1 < r.l.length by omega)
    injection e1 with e1
    subst e1
    obtain ⟨u0, h0, b0⟩ := Byt.at h.byt (show 0 < r.l.length by omega)
    obtain ⟨u1, h1, b1⟩ := Byt.at h.byt (show 1 < r.l.length by omega)
    have hv : nu (r.l.take 2) = 256 * u0 + u1 := by
      rw [nu_take (by omega), nu_take (by omega), h0, h1]
      simp [nu]
    rw [h0] at c0
    rw [h1] at c1
    have k0 : W.cell? a = some (.int .u8 (u0 : Int)) := (h.bl.cell (block_lt_of_cell (show w.cell? a = _ by rw [← c0]; congr 1))).trans (by rw [← c0]; congr 1)
    have k1 : W.cell? { block := a.block, off := a.off + 1 } = some (.int .u8 (u1 : Int)) := (h.bl.cell (block_lt_of_cell (show w.cell? { block := a.block, off := a.off + 1 } = _ by rw [← c1]; congr 1))).trans (by rw [← c1]; congr 1)
    have n0 : 0 < n := by omega
    have n1 : (0 : Int) < (n : Int) := by omega
    have n2 : (1 : Int) < (n : Int) := by omega
    have q2 : ∀ W, (Instr.slice 23 (.slice (some a) n cap) (some (.int .i64 2)) none none).run Try.prog W = .ok (.slice (cutA (some a) cap 2) (n - 2) (cap - 2)) W := fun W => run_cut_l (P := Try.prog) Try.underlying23 sz8 (k := .i64) (some a) n cap 2 (by omega) W
    have ws : IntKind.u16.wrap ((u0 : Int) * 256) = (u0 : Int) * 256 := by rw [IntKind.wrap_u16]; omega
    have HV := Lib.hid hv
    have HW := Lib.hid (u16_word b0 b1)
    have f0 := h.bk.frozen 0
    have hle := h.le
    have HN : Hid (∀ q, Rr w b ⟨r.l.drop 2, r.c, r.bad⟩ s (cutA (some a) cap 2) (n - 2) (cap - 2) ((W.drewN q).setCell ⟨b, 0, none⟩ (.slice (cutA (some a) cap 2) (n - 2) (cap - 2)))) := Lib.hid fun q =>
      (h.drewN q).rest _ _ _ (r.l.drop 2) (row_drop h.len h.le h.row) (by rw [List.length_drop, h.len]) (by have := h.le; omega) (by have := h.cm; omega) (Byt.drop h.byt 2) (by have := h.sm; omega)
    have HO := Lib.hid fun q => ((Ot.refl W b).drewN q).set 0 (.slice (cutA (some a) cap 2) (n - 2) (cap - 2))
    clear h hn hl2 h0 h1 hv c0 c1 hle
    go_enter Try.func89, Try.ntmps89
    go_wp2_with fail
    go_quiet (fail)
    go_wp2_with fail
    go_ret
    exact ⟨_, _, _, by rw [HW.out, HV.out]; rfl, HN.out _, HO.out _⟩
end Go.Proofs.Ytbliipjiilmbcaa
/-
  The reader of layer 5: four, own, data, last, piece, nothing.
-/
namespace Go.Proofs.Ytbliipjiilmbcaa
open Go.RowKit Wire Tlv Chunk

set_option maxRecDepth 100000 in
set_option maxHeartbeats 1000000 in
theorem four_r (w W : World) (b : Nat) (r : Rt) (s : Ls) (A : Option Addr) (n cap : Nat) (h : Rr w b r s A n cap W) :
    Calls Try.prog 88 #[.pointer (some ⟨b, 0, none⟩)] W (NOut w b r.n4.2 s (.int .u32 (r.n4.1 : Nat)) W) := by
  have h1 := Rt.n2_lt h.byt
  have h2 := Rt.n2_lt (Rt.n2_byt h.byt)
  have H1 := Lib.hid (two_r w W b r s A n cap h)
  have HT := Lib.hid fun W A n cap h => two_r w W b r.n2.2 s A n cap h
  have HE : Hid (r.n4 = (r.n2.1 * 65536 + r.n2.2.n2.1, r.n2.2.n2.2)) := Lib.hid rfl
  rw [HE.out]
  generalize hx : r.n2.1 = x at *
  generalize hy : r.n2.2.n2.1 = y at *
  have HW := Lib.hid (u32_word h1 h2)
  have ws : IntKind.u32.wrap ((x : Int) * 65536) = (x : Int) * 65536 := by rw [IntKind.wrap_u32]; omega
  clear h hx hy
  go_enter Try.func88, Try.ntmps88
  go_wp2_with fail
  (with_reducible refine H1.out.mono ?_)
  rintro e W1 ⟨A1, n1, c1, rfl, hr1, ho1⟩
  have HO1 := Lib.hid ho1
  have HR1 := Lib.hid hr1
  clear hr1 ho1
  go_wp2_with fail
  (with_reducible refine (HT.out _ _ _ _ HR1.out).mono ?_)
  rintro e W2 ⟨A2, n2, c2, rfl, hr2, ho2⟩
  have HO2 := Lib.hid (HO1.out.trans ho2)
  have HR2 := Lib.hid hr2
  clear hr2 ho2
  go_wp2_with fail
  go_ret
  exact ⟨_, _, _, by rw [HW.out]; rfl, HR2.out, HO2.out⟩
set_option maxHeartbeats 400000 in
theorem own_any (A : Option Addr) (n c : Nat) (l : List Int) (w : World) (hl : l.length = n) (hn : n ≤ 100000) (hr : Row w A (bs l)) :
    Calls Try.prog 95 #[.slice A n c] w fun e w' => ∃ A' c', e = .returned (.slice A' n c') ∧ Own w w' A' n c' l := by
  by_cases h0 : n = 0
  · subst h0
    have hl0 : l = [] := List.eq_nil_of_length_eq_zero hl
    subst hl0
    clear hl hr
    go_enter Try.func95, Try.ntmps95
    go_wp2_with fail
    go_ret
    exact ⟨none, 0, rfl, own_nil _⟩
  · have HC := Lib.hid (clone_any A n c l w hl hn hr)
    have d : ((n : Int) == 0) = false := by simp; omega
    clear hl hr h0
    go_enter Try.func95, Try.ntmps95
    go_wp2_with fail
    (with_reducible refine HC.out.mono ?_)
    rintro e w1 ⟨A1, c1, rfl, ho1⟩
    have HO := Lib.hid ho1
    clear ho1
    go_wp2_with fail
    go_ret
    exact ⟨_, _, rfl, HO.out⟩
theorem owns_same {W W' : World} {B z : Nat} {e : TypeId} {v : Value} {n : Nat} {xs : List Value} (h : W.ownsRow B e z v n xs) (hk : ∀ k, B ≤ k → k < W.heap.size → W'.heap[k]? = W.heap[k]?) : W'.ownsRow B e z v n xs := by
  refine ⟨h.1, ?_⟩
  rcases h.2 with h0 | ⟨g, cap, cur, hv, hg, hh, r⟩
  · exact .inl h0
  · exact .inr ⟨g, cap, cur, hv, hg, (hk g hg (Array.getElem?_eq_some_iff.1 hh).1).trans hh, r⟩
theorem owns_put {W : World} {B z b i : Nat} {u : Value} {e : TypeId} {v : Value} {n : Nat} {xs : List Value} (h : W.ownsRow B e z v n xs) (hb : b < B) : (W.setCell ⟨b, i, none⟩ u).ownsRow B e z v n xs :=
  owns_same h fun k hk _ => Below.heap_setCell _ _ _ k (by show k ≠ b; omega)
def putD (s : Ls) (A : Option Addr) (n c : Nat) : Ls := { s with dA := A, dn := n, dc := c }
theorem rv_da (A : Option Addr) (n cap : Nat) (c : Ck) (s : Ls) (bad : Bool) (l : List Int) (A' : Option Addr) (n' c' : Nat) : (rv A n cap c s bad).setIfInBounds 11 (.slice A' n' c') = rv A n cap { c with da := l } (putD s A' n' c') bad := by simp [rv, putD]
set_option maxRecDepth 100000 in
set_option maxHeartbeats 1000000 in
theorem data_r (w W : World) (b : Nat) (r : Rt) (s : Ls) (A : Option Addr) (n cap : Nat) (h : Rr w b r s A n cap W) :
    Calls Try.prog 67 #[.pointer (some ⟨b, 0, none⟩)] W fun e W' => ∃ A' n' c', e = .returned (.tuple #[]) ∧ Rr w b ⟨[], { r.c with da := r.l }, r.bad⟩ (putD s A' n' c') none 0 0 W' ∧ W'.ownsRow W.heap.size 5 1 (.slice A' n' c') n' (bs r.l) ∧ Ot W W' b := by
  have HR := Lib.hid h
  have g0 := h.bk.r0
  have HO := Lib.hid (own_any A n cap r.l W h.len (by have := h.sm; omega) (h.row.below h.bl))
  have hlt := Lib.hid h.bk.lt
  clear h
  go_enter Try.func67, Try.ntmps67
  go_wp2_with fail
  (with_reducible refine HO.out.mono ?_)
  rintro e W1 ⟨A1, c1, rfl, ho1⟩
  have hr1 := HR.out.next ho1.2
  have g11 := hr1.bk.r11
  have g0' := hr1.bk.r0
  have f11 := hr1.bk.frozen 11
  have f0 := hr1.bk.frozen 0
  have HF := Lib.hid ((hr1.put 11 (.slice A1 n c1) { r.c with da := r.l } (rv_da _ _ _ _ _ _ r.l _ _ _)).no)
  have hot := ((Ot.below b ho1.2).set 11 (.slice A1 n c1)).set 0 (.slice none 0 0)
  have HOT := Lib.hid hot
  have HOB := Lib.hid (owns_put (i := 0) (u := .slice none 0 0) (owns_put (i := 11) (u := .slice A1 n c1) ho1.1 hlt.out) hlt.out)
  clear hr1 ho1 hot
  go_wp2_with fail
  go_end0
  exact ⟨_, _, _, rfl, HF.out, HOB.out, HOT.out⟩
end Go.Proofs.Ytbliipjiilmbcaa
/-
  The reader of layer 5: reading, last, piece, nothing.
-/
namespace Go.Proofs.Ytbliipjiilmbcaa
open Go.RowKit Wire Tlv Chunk

/-- Which method reads a kind. -/
def rk (k : Nat) : Nat := if k = 0 then 61 else if k = 1 ∨ k = 2 then 62 else if k = 3 then 63 else if k = 6 ∨ k = 9 then 64 else if k = 7 then 65
  else if k = 8 ∨ k = 11 ∨ k = 14 then 66 else 67
set_option maxRecDepth 100000 in
set_option maxHeartbeats 1000000 in
theorem reading_any (w : World) (b : Nat) (k : Nat) (hc : w.cell? ⟨b, 1, none⟩ = some (.int .u8 (k : Int))) :
    Calls Try.prog 34 #[.pointer (some ⟨b, 0, none⟩)] w fun e w' => e = .returned (.func (.func (rk k)) #[.pointer (some ⟨b, 0, none⟩)] #[]) ∧ w = w' := by
  by_cases h : k = 0 ∨ k = 1 ∨ k = 2 ∨ k = 3 ∨ k = 6 ∨ k = 9 ∨ k = 7 ∨ k = 8 ∨ k = 11 ∨ k = 14
  · rcases h with rfl | rfl | rfl | rfl | rfl | rfl | rfl | rfl | rfl | rfl
    all_goals
      go_enter Try.func34, Try.ntmps34
      go_wp2
      go_ret
      exact ⟨rfl, rfl⟩
  · have hf : rk k = 67 := by
      unfold rk
      repeat rw [if_neg (by omega)]
    rw [hf]
    have d0 : ((k : Int) == 0) = false := by simp; omega
    have d1 : ((k : Int) == 1) = false := by simp; omega
    have d2 : ((k : Int) == 2) = false := by simp; omega
    have d3 : ((k : Int) == 3) = false := by simp; omega
    have d6 : ((k : Int) == 6) = false := by simp; omega
    have d7 : ((k : Int) == 7) = false := by simp; omega
    have d8 : ((k : Int) == 8) = false := by simp; omega
    have d9 : ((k : Int) == 9) = false := by simp; omega
    have d11 : ((k : Int) == 11) = false := by simp; omega
    have d14 : ((k : Int) == 14) = false := by simp; omega
    clear h hf
    go_enter Try.func34, Try.ntmps34
    go_wp2
    go_ret
    exact ⟨rfl, rfl⟩
/-- A block that a chunk's row may lie in. -/
def Typ (o : Obj) : Prop := ∃ cs t fr, o = .cells cs t fr ∧ (t = 5 ∨ t = 27 ∨ t = 63 ∨ t = 73)
/-- What keeps such blocks from lo on. -/
def Keeps (lo : Nat) (W W' : World) : Prop := ∀ k o, lo ≤ k → W.heap[k]? = some o → Typ o → W'.heap[k]? = some o
theorem owns_keep {W W' : World} {B z : Nat} {e : TypeId} {v : Value} {n : Nat} {xs : List Value} (h : W.ownsRow B e z v n xs) (ht : e = 5 ∨ e = 27 ∨ e = 63 ∨ e = 73) (hk : Keeps B W W') : W'.ownsRow B e z v n xs := by
  refine ⟨h.1, ?_⟩
  rcases h.2 with h0 | ⟨g, cap, cur, hv, hg, hh, r⟩
  · exact .inl h0
  · exact .inr ⟨g, cap, cur, hv, hg, hk g _ hg hh ⟨_, _, _, rfl, ht⟩, r⟩
theorem Keeps.below {lo : Nat} {W W' : World} (hb : Below W.heap.size W W') : Keeps lo W W' := fun k o _ h _ => (hb.block k (Array.getElem?_eq_some_iff.1 h).1).trans h
theorem Keeps.trans {lo : Nat} {A B C : World} (h : Keeps lo A B) (k : Keeps lo B C) : Keeps lo A C := fun i o hi ho ht => k i o hi (h i o hi ho ht) ht
theorem Keeps.mono {lo lo' : Nat} {W W' : World} (h : Keeps lo W W') (hl : lo ≤ lo') : Keeps lo' W W' := fun i o hi => h i o (Nat.le_trans hl hi)
theorem Keeps.setRow {lo g : Nat} {W : World} (cs : Array Value) (hg : g < lo) : Keeps lo W (W.setRow g cs) := fun k o hk ho _ => (setRow_other W g k cs (by omega)).trans ho
theorem Keeps.set {lo b i : Nat} {W : World} {v : Value} (hb : b < lo) : Keeps lo W (W.setCell ⟨b, i, none⟩ v) := fun k o hk ho _ => (Below.heap_setCell _ _ _ k (by show k ≠ b; omega)).trans ho
/-- A chunk whose rows lie in blocks from lo on. -/
def ChF (lo : Nat) (W : World) (c : Ck) (s : Ls) : Prop := ∀ W', Keeps lo W W' → Ch W' c s
theorem ChF.ch {lo : Nat} {W : World} {c : Ck} {s : Ls} (h : ChF lo W c s) : Ch W c s := h W fun _ _ _ h _ => h
theorem ChF.next {lo : Nat} {W W' : World} {c : Ck} {s : Ls} (h : ChF lo W c s) (hb : Below W.heap.size W W') : ChF lo W' c s := fun W2 h2 => h W2 ((Keeps.below hb).trans h2)
theorem ChF.lower {lo lo' : Nat} {W : World} {c : Ck} {s : Ls} (h : ChF lo W c s) (hl : lo' ≤ lo) : ChF lo' W c s := fun W2 h2 => h W2 (h2.mono hl)
theorem ChF.keep {lo : Nat} {W W' : World} {c : Ck} {s : Ls} (h : ChF lo W c s) (hk : Keeps lo W W') : ChF lo W' c s := fun W2 h2 => h W2 (hk.trans h2)
/-- What is made of a reader in the end. -/
noncomputable def fin (r : Rt) : Option Ck := if r.bad = true ∨ r.l ≠ [] then none else @ite _ (may r.c) (Classical.propDecidable _) (some r.c) none
/-- What a method leaves that reads a value. -/
def FOut (w : World) (b : Nat) (x : Tv) (W : World) (e : Ending) (W' : World) : Prop := e = .returned (.tuple #[]) ∧ ∃ (r : Rt) (s : Ls) (A : Option Addr) (n cap : Nat), Rr w b r s A n cap W' ∧ Ot W W' b ∧ (r.bad = false → r.l = [] → ChF W.heap.size W' r.c s) ∧ fin r = take x
/-- The reader at its beginning. -/
def r0 (x : Tv) : Rt := ⟨x.v, bare x, false⟩
theorem bare_ok {x : Tv} (h : x.ok) (hk : x.k ≤ 255) : (bare x).ok := by
  constructor
  all_goals first
    | (show x.k < 256; omega)
    | exact h.2.1
    | (show 0 < _; omega)
    | (intro c hc; simp [bare, zero] at hc)
/-- A chunk whose only slice, if any, is the call's own row of bytes. -/
theorem ch_data {W : World} {B : Nat} {c : Ck} {A : Option Addr} {n cap : Nat} (hok : c.ok) (ho : W.ownsRow B 5 1 (.slice A n cap) n (bs c.da)) (ha : c.ad = []) (hg : c.ga = []) (hu : c.du = []) (hc : c.ca = []) (hn : n ≤ 100000) : ChF B W c (putD nol A n cap) := fun W2 h2 => by
  have h := owns_keep ho (.inl rfl) h2
  have hz := owns_none h
  have hl : c.da.length = n := by have := h.1; simpa [bs] using this
  refine ⟨hok, ?_, ⟨A, n, cap, rfl, hl, hz.2.1, hz.2.2, by omega, row_of_own h, hz.1⟩, ?_, ?_, ?_, ?_, ?_, ?_⟩
  · constructor
    all_goals simp [putD, nol, ha, hg, hu, hc, hl]
    all_goals omega
  · rw [ha]; intro i v hv; simp [us] at hv
  · rw [hg]; intro i v hv; simp [gs] at hv
  · rw [hu]; intro i v hv; simp [us] at hv
  · rw [hc]; intro i v hv; simp [cs] at hv
  · rw [hc]; rfl
  · rw [hc]; intro i x v h1; simp at h1
theorem ch_none (B : Nat) {W : World} {c : Ck} (hok : c.ok) (hd : c.da = []) (ha : c.ad = []) (hg : c.ga = []) (hu : c.du = []) (hc : c.ca = []) : ChF B W c nol := by
  have := ch_data (W := W) (B := B) (c := c) (A := none) (n := 0) (cap := 0) hok (by rw [hd]; exact World.ownsRow_nil _ _ _ _) ha hg hu hc (by omega)
  exact this
theorem Rt.n2_eq (r : Rt) : r.n2 = ((if r.l.length < 2 then 0 else nu (r.l.take 2)), ⟨r.l.drop 2, r.c, r.bad || decide (r.l.length < 2)⟩) := by
  unfold Rt.n2
  split
  · rename_i h
    rw [List.drop_of_length_le (by omega)]
    simp [h]
  · rename_i h
    simp [h]
theorem nu_app : ∀ (b a : List Int), nu (a ++ b) = nu a * 256 ^ b.length + nu b
  | [], a => by simp [nu]
  | c :: b, a => by
    have e1 : a ++ c :: b = (a ++ [c]) ++ b := by simp
    have e2 : nu (c :: b) = nu ([c] ++ b) := rfl
    rw [e1, nu_app b (a ++ [c]), e2, nu_app b [c], nu_snoc, nu_one, List.length_cons, Nat.pow_succ]
    generalize 256 ^ b.length = p
    rw [Nat.add_mul, Nat.add_assoc, Nat.mul_comm 256 (nu a), Nat.mul_assoc, Nat.mul_comm 256 p]
theorem Rt.n4_eq (r : Rt) : r.n4.2 = ⟨r.l.drop 4, r.c, r.bad || decide (r.l.length < 4)⟩ ∧ (4 ≤ r.l.length → r.n4.1 = nu (r.l.take 4)) := by
  unfold Rt.n4
  rw [Rt.n2_eq r]
  simp only
  rw [Rt.n2_eq]
  simp only [List.drop_drop, List.length_drop]
  refine ⟨?_, fun h => ?_⟩
  · congr 1
    rw [Bool.or_assoc]
    congr 1
    rw [Bool.eq_iff_iff]
    simp
    omega
  · rw [if_neg (by omega), if_neg (by omega)]
    have e : r.l.take 4 = r.l.take 2 ++ (r.l.drop 2).take 2 := by rw [show 4 = 2 + 2 from rfl, List.take_add]
    rw [e, nu_app _ _]
    have : ((r.l.drop 2).take 2).length = 2 := by simp; omega
    rw [this]
theorem nn_at {v : List Int} {at_ sz : Nat} (h : at_ + sz ≤ v.length) : nn v at_ sz = nu ((v.drop at_).take sz) := by unfold nn; rw [if_pos h]
theorem fin_bad {r : Rt} (h : r.bad = true) : fin r = none := by unfold fin; rw [if_pos (.inl h)]
theorem fin_left {r : Rt} (h : r.l ≠ []) : fin r = none := by unfold fin; rw [if_pos (.inr h)]
theorem fin_ok {r : Rt} (hb : r.bad = false) (hl : r.l = []) : fin r = @ite _ (may r.c) (Classical.propDecidable _) (some r.c) none := by unfold fin; rw [if_neg (by simp [hb, hl])]
theorem take_raw {x : Tv} (h : x.k ≤ 255) : take x = (raw x).bind fun c => @ite _ (may c) (Classical.propDecidable _) (some c) none := by unfold take; rw [if_neg (by omega)]
theorem raw_shut {x : Tv} (h : x.k = 7) : raw x = if x.v.length = 4 then some { bare x with tsn := nn x.v 0 4 } else none := by simp [raw, h]
theorem raw_none {x : Tv} (h : x.k = 8 ∨ x.k = 11 ∨ x.k = 14) : raw x = if x.v.length = 0 then some (bare x) else none := by
  unfold raw
  rw [if_neg (by omega), if_neg (by omega), if_neg (by omega), if_neg (by omega), if_neg (by omega), if_pos h]
theorem raw_data {x : Tv} (h : ¬ (x.k = 0 ∨ x.k = 1 ∨ x.k = 2 ∨ x.k = 3 ∨ x.k = 6 ∨ x.k = 9 ∨ x.k = 7 ∨ x.k = 8 ∨ x.k = 11 ∨ x.k = 14)) : raw x = some { bare x with da := x.v } := by
  unfold raw
  rw [if_neg (by omega), if_neg (by omega), if_neg (by omega), if_neg (by omega), if_neg (by omega), if_neg (by omega)]
theorem raw_piece {x : Tv} (h : x.k = 0) : raw x = if 12 < x.v.length then some { bare x with tsn := nn x.v 0 4, sid := nn x.v 4 2, ssn := nn x.v 6 2, ppid := nn x.v 8 4, da := x.v.drop 12 } else none := by simp [raw, h]
theorem rv_tsn (A : Option Addr) (n cap : Nat) (c : Ck) (s : Ls) (bad : Bool) (x : Nat) : (rv A n cap c s bad).setIfInBounds 5 (.int .u32 (x : Int)) = rv A n cap { c with tsn := x } s bad := by simp [rv]
theorem rv_sid (A : Option Addr) (n cap : Nat) (c : Ck) (s : Ls) (bad : Bool) (x : Nat) : (rv A n cap c s bad).setIfInBounds 8 (.int .u16 (x : Int)) = rv A n cap { c with sid := x } s bad := by simp [rv]
theorem rv_ssn (A : Option Addr) (n cap : Nat) (c : Ck) (s : Ls) (bad : Bool) (x : Nat) : (rv A n cap c s bad).setIfInBounds 9 (.int .u16 (x : Int)) = rv A n cap { c with ssn := x } s bad := by simp [rv]
theorem rv_ppid (A : Option Addr) (n cap : Nat) (c : Ck) (s : Ls) (bad : Bool) (x : Nat) : (rv A n cap c s bad).setIfInBounds 10 (.int .u32 (x : Int)) = rv A n cap { c with ppid := x } s bad := by simp [rv]
set_option maxRecDepth 100000 in
set_option maxHeartbeats 1000000 in
theorem last_f (w W : World) (b : Nat) (x : Tv) (A : Option Addr) (n cap : Nat) (hx : x.ok) (hk : x.k = 7) (h : Rr w b (r0 x) nol A n cap W) :
    Calls Try.prog 65 #[.pointer (some ⟨b, 0, none⟩)] W (FOut w b x W) := by
  have HR := Lib.hid h
  have H4 := Lib.hid (four_r w W b (r0 x) nol A n cap h)
  obtain ⟨e1, e2⟩ := Rt.n4_eq (r0 x)
  have hlt := Rt.n4_lt h.byt
  have htk : ∀ v, v = (r0 x).n4.1 → fin ⟨(r0 x).n4.2.l, { bare x with tsn := v }, (r0 x).n4.2.bad⟩ = take x := fun v hv => by
    rw [e1, take_raw (by omega), raw_shut hk]
    by_cases hl : x.v.length = 4
    · rw [if_pos hl, hv, e2 (by show 4 ≤ x.v.length; omega), fin_ok (by simp [r0, hl]) (by show x.v.drop 4 = []; exact List.drop_of_length_le (by omega)), nn_at (by omega), List.drop_zero]
      rfl
    · rw [if_neg hl]
      by_cases hs : x.v.length < 4
      · rw [fin_bad (by simp [r0, hs])]
        rfl
      · rw [fin_left (by show x.v.drop 4 ≠ []; intro e; have := congrArg List.length e; simp at this; omega)]
        rfl
  have HTK := Lib.hid htk
  have HCE : Hid ((r0 x).n4.2.c = bare x) := Lib.hid (by rw [e1]; rfl)
  have HBO := Lib.hid (bare_ok hx (by omega))
  clear h e1 e2 htk
  generalize hv : (r0 x).n4.1 = v at *
  generalize (r0 x).n4.2 = r4 at *
  have HV := Lib.hid hv
  clear hv
  go_enter Try.func65, Try.ntmps65
  go_wp2_with fail
  (with_reducible refine H4.out.mono ?_)
  rintro e W1 ⟨A1, n1, c1, rfl, hr1, ho1⟩
  have f5 := hr1.bk.frozen 5
  have g5 := hr1.bk.r5
  have HF := Lib.hid (hr1.put 5 (.int .u32 (v : Int)) _ (rv_tsn _ _ _ _ _ _ v))
  have HOT := Lib.hid (ho1.set 5 (.int .u32 (v : Int)))
  clear hr1 ho1
  go_wp2_with fail
  go_end0
  refine ⟨rfl, _, _, _, _, _, HF.out, HOT.out, fun _ _ => ?_, by rw [HCE.out]; exact HTK.out _ rfl⟩
  refine ch_none _ ?_ ?_ ?_ ?_ ?_ ?_
  · show Ck.ok { r4.c with tsn := v }
    rw [HCE.out]
    have := HBO.out
    exact { this with tsn := hlt }
  all_goals (show _ = []; rw [HCE.out]; rfl)
end Go.Proofs.Ytbliipjiilmbcaa
/-
  The reader of layer 5: piece, nothing, data, as they read a value.
-/
namespace Go.Proofs.Ytbliipjiilmbcaa
open Go.RowKit Wire Tlv Chunk

set_option maxHeartbeats 400000 in
theorem nothing_f (w W : World) (b : Nat) (x : Tv) (A : Option Addr) (n cap : Nat) (hx : x.ok) (hk : x.k = 8 ∨ x.k = 11 ∨ x.k = 14) (h : Rr w b (r0 x) nol A n cap W) :
    Calls Try.prog 66 #[.pointer (some ⟨b, 0, none⟩)] W (FOut w b x W) := by
  have HR := Lib.hid h
  have htk : fin (r0 x) = take x := by
    rw [take_raw (by omega), raw_none hk]
    by_cases hl : x.v.length = 0
    · rw [if_pos hl, fin_ok rfl (List.eq_nil_of_length_eq_zero hl)]
      rfl
    · rw [if_neg hl, fin_left (by show x.v ≠ []; intro e; rw [e] at hl; exact hl rfl)]
      rfl
  have HTK := Lib.hid htk
  have HC := Lib.hid (ch_none W.heap.size (W := W) (bare_ok hx (by omega)) rfl rfl rfl rfl rfl)
  clear h htk
  go_enter Try.func66, Try.ntmps66
  go_wp2_with fail
  go_end0
  exact ⟨rfl, _, _, _, _, _, HR.out, Ot.refl _ _, fun _ _ => HC.out, HTK.out⟩
theorem data_f (w W : World) (b : Nat) (x : Tv) (A : Option Addr) (n cap : Nat) (hx : x.ok) (hk255 : x.k ≤ 255) (hk : ¬ (x.k = 0 ∨ x.k = 1 ∨ x.k = 2 ∨ x.k = 3 ∨ x.k = 6 ∨ x.k = 9 ∨ x.k = 7 ∨ x.k = 8 ∨ x.k = 11 ∨ x.k = 14)) (h : Rr w b (r0 x) nol A n cap W) :
    Calls Try.prog 67 #[.pointer (some ⟨b, 0, none⟩)] W (FOut w b x W) := by
  refine (data_r w W b (r0 x) nol A n cap h).mono ?_
  rintro e W' ⟨A', n', c', rfl, hr, hob, hot⟩
  refine ⟨rfl, _, _, _, _, _, hr, hot, fun _ _ => ?_, ?_⟩
  · have hb := bare_ok hx hk255
    exact ch_data (c := { bare x with da := x.v }) { hb with da := hx.2.2 } hob rfl rfl rfl rfl (by have := hob.1; have h2 := h.len; have h3 := h.sm; show n' ≤ 100000; simp only [r0, bs_len] at h2 this; omega)
  · rw [take_raw hk255, raw_data hk, fin_ok rfl rfl]
    rfl
set_option maxRecDepth 100000 in
set_option maxHeartbeats 1000000 in
theorem piece_f (w W : World) (b : Nat) (x : Tv) (A : Option Addr) (n cap : Nat) (hx : x.ok) (hk : x.k = 0) (h : Rr w b (r0 x) nol A n cap W) :
    Calls Try.prog 61 #[.pointer (some ⟨b, 0, none⟩)] W (FOut w b x W) := by
  have HR := Lib.hid h
  have HF4 := Lib.hid fun r W A n cap h => four_r w W b r nol A n cap h
  have HF2 := Lib.hid fun r W A n cap h => two_r w W b r nol A n cap h
  have HFD := Lib.hid fun r W A n cap h => data_r w W b r nol A n cap h
  have hby := h.byt
  have hsm := h.sm
  have hln := h.len
  have HL := Lib.hid hln
  have HBY := Lib.hid hby
  clear h hby hln
  go_enter Try.func61, Try.ntmps61
  go_wp2_with fail
  (with_reducible refine (HF4.out _ _ _ _ _ HR.out).mono ?_)
  rintro e W1 ⟨A1, n1, c1, rfl, hr1, ho1⟩
  have hlt1 := Rt.n4_lt HBY.out
  obtain ⟨e1, e1v⟩ := Rt.n4_eq (r0 x)
  generalize hv1 : (r0 x).n4.1 = v1 at *
  have f5 := hr1.bk.frozen 5
  have g5 := hr1.bk.r5
  have HR1 := Lib.hid (hr1.put 5 (.int .u32 (v1 : Int)) _ (rv_tsn _ _ _ _ _ _ v1))
  have HO1 := Lib.hid (ho1.set 5 (.int .u32 (v1 : Int)))
  generalize hq1 : (⟨(r0 x).n4.2.l, { (r0 x).n4.2.c with tsn := v1 }, (r0 x).n4.2.bad⟩ : Rt) = q1 at HR1
  have HE1 : Hid (q1 = ⟨x.v.drop 4, { bare x with tsn := v1 }, decide (x.v.length < 4)⟩) := Lib.hid (by rw [← hq1, e1]; rfl)
  have HV1 := Lib.hid e1v
  have HLT1 := Lib.hid hlt1
  clear hr1 ho1 e1 e1v hlt1 hv1 hq1
  go_wp2_with fail
  (with_reducible refine (HF2.out _ _ _ _ _ HR1.out).mono ?_)
  rintro e W2 ⟨A2, n2, c2, rfl, hr2, ho2⟩
  have hlt2 := Rt.n2_lt HR1.out.byt
  have e2 := Rt.n2_eq q1
  generalize hv2 : q1.n2.1 = v2 at *
  have f8 := hr2.bk.frozen 8
  have g8 := hr2.bk.r8
  have HR2 := Lib.hid (hr2.put 8 (.int .u16 (v2 : Int)) _ (rv_sid _ _ _ _ _ _ v2))
  have HO2 := Lib.hid ((HO1.out.trans ho2).set 8 (.int .u16 (v2 : Int)))
  generalize hq2 : (⟨q1.n2.2.l, { q1.n2.2.c with sid := v2 }, q1.n2.2.bad⟩ : Rt) = q2 at HR2
  have HE2 : Hid (q2 = ⟨x.v.drop 6, { bare x with tsn := v1, sid := v2 }, decide (x.v.length < 6)⟩) := Lib.hid (by
    rw [← hq2, e2, HE1.out]
    simp only [List.drop_drop, List.length_drop]
    congr 1
    rw [Bool.eq_iff_iff]; simp; omega)
  have HV2 : Hid (6 ≤ x.v.length → v2 = nn x.v 4 2) := Lib.hid fun hl => by
    rw [← hv2, e2, HE1.out]
    simp only [List.length_drop]
    rw [if_neg (by omega), nn_at (by omega)]
  have HLT2 := Lib.hid hlt2
  clear hr2 ho2 e2 hlt2 hv2 hq2 f5 g5
  go_wp2_with fail
  (with_reducible refine (HF2.out _ _ _ _ _ HR2.out).mono ?_)
  rintro e W3 ⟨A3, n3, c3, rfl, hr3, ho3⟩
  have hlt3 := Rt.n2_lt HR2.out.byt
  have e3 := Rt.n2_eq q2
  generalize hv3 : q2.n2.1 = v3 at *
  have f9 := hr3.bk.frozen 9
  have g9 := hr3.bk.r9
  have HR3 := Lib.hid (hr3.put 9 (.int .u16 (v3 : Int)) _ (rv_ssn _ _ _ _ _ _ v3))
  have HO3 := Lib.hid ((HO2.out.trans ho3).set 9 (.int .u16 (v3 : Int)))
  generalize hq3 : (⟨q2.n2.2.l, { q2.n2.2.c with ssn := v3 }, q2.n2.2.bad⟩ : Rt) = q3 at HR3
  have HE3 : Hid (q3 = ⟨x.v.drop 8, { bare x with tsn := v1, sid := v2, ssn := v3 }, decide (x.v.length < 8)⟩) := Lib.hid (by
    rw [← hq3, e3, HE2.out]
    simp only [List.drop_drop, List.length_drop]
    congr 1
    rw [Bool.eq_iff_iff]; simp; omega)
  have HV3 : Hid (8 ≤ x.v.length → v3 = nn x.v 6 2) := Lib.hid fun hl => by
    rw [← hv3, e3, HE2.out]
    simp only [List.length_drop]
    rw [if_neg (by omega), nn_at (by omega)]
  have HLT3 := Lib.hid hlt3
  clear hr3 ho3 e3 hlt3 hv3 hq3 f8 g8
  go_wp2_with fail
  (with_reducible refine (HF4.out _ _ _ _ _ HR3.out).mono ?_)
  rintro e W4 ⟨A4, n4, c4, rfl, hr4, ho4⟩
  have hlt4 := Rt.n4_lt HR3.out.byt
  obtain ⟨e4, e4v⟩ := Rt.n4_eq q3
  generalize hv4 : q3.n4.1 = v4 at *
  have f10 := hr4.bk.frozen 10
  have g10 := hr4.bk.r10
  have HR4 := Lib.hid (hr4.put 10 (.int .u32 (v4 : Int)) _ (rv_ppid _ _ _ _ _ _ v4))
  have HO4 := Lib.hid ((HO3.out.trans ho4).set 10 (.int .u32 (v4 : Int)))
  generalize hq4 : (⟨q3.n4.2.l, { q3.n4.2.c with ppid := v4 }, q3.n4.2.bad⟩ : Rt) = q4 at HR4
  have HE4 : Hid (q4 = ⟨x.v.drop 12, { bare x with tsn := v1, sid := v2, ssn := v3, ppid := v4 }, decide (x.v.length < 12)⟩) := Lib.hid (by
    rw [← hq4, e4, HE3.out]
    simp only [List.drop_drop, List.length_drop]
    congr 1
    rw [Bool.eq_iff_iff]; simp; omega)
  have HV4 : Hid (12 ≤ x.v.length → v4 = nn x.v 8 4) := Lib.hid fun hl => by
    rw [e4v (by rw [HE3.out]; simp; omega), HE3.out, nn_at (by omega)]
  have HLT4 := Lib.hid hlt4
  clear hr4 ho4 e4 e4v hlt4 hv4 hq4 f9 g9
  go_wp2_with fail
  (with_reducible refine (HFD.out _ _ _ _ _ HR4.out).mono ?_)
  rintro e W5 ⟨A5, n5, c5, rfl, hr5, hob5, ho5⟩
  have HR5 := Lib.hid hr5
  have HOB := Lib.hid hob5
  have hsz := HO4.out.size
  have HO5 := Lib.hid (HO4.out.trans ho5)
  clear hr5 hob5 ho5 f10 g10
  go_wp2_with fail
  go_end0
  refine ⟨rfl, _, _, _, _, _, HR5.out, HO5.out, fun _ _ => ?_, ?_⟩
  · have hb := bare_ok hx (by omega)
    have ho := HOB.out
    have hl := HOB.out.1
    have hcl : ({ q4.c with da := q4.l } : Ck) = { bare x with tsn := v1, sid := v2, ssn := v3, ppid := v4, da := x.v.drop 12 } := by rw [HE4.out]
    show ChF W.heap.size W5 ({ q4.c with da := q4.l } : Ck) _
    rw [hcl]
    have hq4l : q4.l = x.v.drop 12 := by rw [HE4.out]
    rw [hq4l] at ho hl
    refine (ch_data (c := { bare x with tsn := v1, sid := v2, ssn := v3, ppid := v4, da := x.v.drop 12 }) ?_ ho rfl rfl rfl rfl (by have h2 := HL.out; simp only [r0] at h2; rw [bs_len, List.length_drop] at hl; omega)).lower hsz
    exact { hb with tsn := HLT1.out, sid := HLT2.out, ssn := HLT3.out, ppid := HLT4.out, da := Byt.drop hx.2.2 12 }
  · rw [HE4.out, take_raw (by omega), raw_piece hk]
    by_cases h12 : x.v.length < 12
    · rw [fin_bad (by simp [h12]), if_neg (by omega)]
      rfl
    · rw [fin_ok (by simp [h12]) rfl]
      have k1 : v1 = nn x.v 0 4 := by rw [HV1.out (by show 4 ≤ x.v.length; omega), nn_at (by omega), List.drop_zero]; rfl
      rw [k1, HV2.out (by omega), HV3.out (by omega), HV4.out (by omega)]
      by_cases h13 : 12 < x.v.length
      · rw [if_pos h13]
        rfl
      · rw [if_neg h13, if_neg]
        · rfl
        · intro hm
          have := hm.1.has (.inl (by show x.k = 0; exact hk))
          apply this
          show (x.v.drop 12).length = 0
          simp; omega
end Go.Proofs.Ytbliipjiilmbcaa
/-
  What the document's param and Great do.
-/
namespace Go.Proofs.Ytbliipjiilmbcaa
open Go.RowKit Wire Tlv Chunk

/-- A slice's address and capacity, where there are none. -/
def Zc (A : Option Addr) (n c : Nat) : Prop := A = none → n = 0 ∧ c = 0
theorem own_zc {w W : World} {A : Option Addr} {n c : Nat} {l : List Int} (h : Own w W A n c l) : Zc A n c := (owns_none h.1).1
set_option maxRecDepth 100000 in
set_option maxHeartbeats 1000000 in
theorem rparam_any (w W : World) (A : Option Addr) (n c : Nat) (l : List Int) (k : Nat) (v : List Int) (B : Option Addr) (bn bc : Nat) (ho : Own w W A n c l) (hn : n ≤ 140737488000000) (hx : (⟨k, 0, v⟩ : Tv).ok) (hl : v.length = bn) (hbn : bn ≤ 140737488355328) (hr : Row W B (bs v)) (hz : Zc B bn bc) :
    Calls Try.prog 86 #[.slice A n c, .int .u16 (k : Int), .slice B bn bc] W fun e w' => ∃ A' n' c', e = .returned (.tuple #[.slice A' n' c', .int .i64 (tp false ⟨k, 0, v⟩).2]) ∧ Own w w' A' n' c' (l ++ (tp false ⟨k, 0, v⟩).1) ∧ n' ≤ n + 65540 := by
  have hP : Calls Try.prog 60 #[.bool false, .agg #[.int .u16 (k : Int), .int .u8 0, .slice B bn bc]] W (PutOut W (tp false ⟨k, 0, v⟩)) := trput_any false ⟨k, 0, v⟩ B bn bc W hx hl hbn hr hz
  have htl : (tp false ⟨k, 0, v⟩).1.length ≤ 65540 := by
    by_cases h : 65531 < v.length
    · rw [tp_long (by simp [fit]) h]
      exact Nat.zero_le _
    · rw [tp_ok (by simp [fit]) (by simp only; omega)]
      have h1 := tb_len false ⟨k, 0, v⟩
      have h2 := whl_le (4 + v.length)
      simp only at h1 ⊢
      omega
  have HP := Lib.hid hP
  have HO := Lib.hid ho
  have HTL := Lib.hid htl
  obtain ⟨i0, hi0, hz0, hz1, hz2⟩ := info_parts Try_info8
  have HI := Lib.hid hi0
  have HZ0 := Lib.hid hz0
  have HZ1 := Lib.hid hz1
  have HZ2 := Lib.hid hz2
  generalize tp false ⟨k, 0, v⟩ = t at *
  clear hP ho hr hz hl hx hbn htl hi0 hz0 hz1 hz2
  go_enter Try.func86, Try.ntmps86
  go_wp2_with fail
  (with_reducible refine HP.out.mono ?_)
  rintro e W1 ⟨A1, n1, c1, rfl, ho1⟩
  have hn1 : n1 ≤ 65540 := by rw [← ho1.len]; exact HTL.out
  have HO1 := Lib.hid ho1
  have HOw := Lib.hid (HO.out.next ho1.2)
  have hsz := HOw.out.2.size
  rcases A1 with _ | a
  · obtain ⟨rfl, rfl⟩ := own_zc ho1 rfl
    have ht0 := Lib.hid (List.eq_nil_of_length_eq_zero ho1.len)
    clear ho1
    go_wp2_with (at_builtin; refine wpList_append_own_none rfl (.tmp 17) (.tmp 18) 23 rfl w.heap.size 5 i0 1 Try.underlying23 HI.out _ _ _ rfl HOw.out.1 rfl ?_)
    go_ret2
    exact ⟨_, _, _, rfl, by rw [ht0.out, List.append_nil]; exact HOw.out, by omega⟩
  · by_cases h0 : n1 = 0
    · subst h0
      have ht0 := Lib.hid (List.eq_nil_of_length_eq_zero ho1.len)
      clear ho1
      go_wp2_with (at_builtin; refine wpList_append_own _ rfl (.tmp 17) (.tmp 18) 23 rfl w.heap.size 5 i0 (.int .u8 0) 1 1 Try.underlying23 HI.out HZ0.out HZ1.out HZ2.out rfl (by decide) _ _ _ rfl HOw.out.1 a 0 c1 [] rfl rfl (fun j u h => by simp at h) (fun u h => by simp at h) (by unfold maxLen; omega) (by omega) hsz ?_; intro v' w3 hown hgr hv; obtain ⟨A', c', rfl⟩ := own_form hown; have HN : Hid (Own w w3 A' (n + 0) c' l) := Lib.hid ⟨by rw [List.append_nil] at hown; exact hown, HOw.out.2.grown hgr hsz (fun k hk => (HOw.out.1.lt k hk).1)⟩; clear hown hgr)
      go_ret2
      exact ⟨_, _, _, rfl, by rw [ht0.out, List.append_nil]; exact HN.out, by omega⟩
    · have hp : 0 < n1 := by omega
      clear ho1 h0
      go_wp2_with (at_builtin; refine wpList_append_lies _ rfl (.tmp 17) (.tmp 18) 23 rfl w.heap.size 5 i0 (.int .u8 0) 1 1 Try.underlying23 HI.out HZ0.out HZ1.out HZ2.out rfl (by decide) _ _ _ rfl HOw.out.1 a n1 c1 (bs t.1) rfl (by rw [bs_len, HO1.out.len, Nat.mul_one]) (bcells HO1.out.row) (bs_one _) hp (by unfold maxLen; omega) (by omega) hsz _ rfl ?_; intro g9 cap9 w10 hown10 hgrow10 hat10 _; have HN : Hid (Own w w10 (some ⟨g9, 0, none⟩) (n + n1) cap9 (l ++ t.1)) := Lib.hid ⟨by rw [← bs_app]; exact hown10, HOw.out.2.grown hgrow10 hsz (fun k hk => (HOw.out.1.lt k hk).1)⟩; clear hown10 hgrow10 hat10)
      go_ret2
      exact ⟨_, _, _, rfl, HN.out, by omega⟩
/-- What Great leaves. -/
def GrOut (w : World) (s : Ls) (e : Ending) (w' : World) : Prop := ∃ b : Bool, e = .returned (.bool b) ∧ (b = false → s.cn ≤ 5000) ∧ Below w.heap.size w w'
set_option maxRecDepth 100000 in
set_option maxHeartbeats 1000000 in
theorem rGreat_any (c : Ck) (s : Ls) (w : World) (h : Ch w c s) :
    Calls Try.prog 15 #[.agg (cv c s)] w (GrOut w s) := by
  have HU : Hid (U1 w (cv c s) _) := Lib.hid (U1.new w (cv c s))
  have m1 := h.z.dm
  have m2 := h.z.am
  have m3 := h.z.gm
  have m4 := h.z.um
  have m5 := h.z.cm
  have H := Lib.hid h
  clear h
  go_enter Try.func15, Try.ntmps15
  go_upto_region 1 with fail
  generalize World.alloc w _ = W1 at HU ⊢
  have g10 := HU.out.1.c10
  have g11 := HU.out.1.c11
  have g12 := HU.out.1.c12
  have g13 := HU.out.1.c13
  have g14 := HU.out.1.c14
  go_wp2_with fail
  clear g10 g11 g12 g13
  go_loop [3, 4] (fun z i => ∃ (k : Nat) (y : Nat), k ≤ s.cn ∧ s.cn ≤ y ∧ y ≤ 1000000000000000 ∧ i = .int .i64 (k : Int) ∧ z = .int .i64 (y : Int)) (fun _ i => s.cn - (intOf i).toNat)
  case atStart => exact ⟨0, s.dn / 16 + s.an + s.gn + s.un + s.cn, by omega, by omega, by omega, rfl, by go_num⟩
  case round =>
    obtain ⟨k, y, hk, hy1, hy2, rfl, rfl⟩ := hrel
    by_cases hlt : k < s.cn
    · by_cases hy : y ≤ 5000
      · have d1 : decide ((y : Int) ≤ 5000) = true := by simp; omega
        have hkl : k < c.ca.length := by rw [H.out.z.c]; exact hlt
        have hkq : k < s.cq.length := by rw [H.out.cl]; exact hkl
        obtain ⟨a, hA, k0, k1⟩ := cause_at (H.out.cr.below HU.out.2) hkl hkq
        obtain ⟨B, bn, bc, hB, _, _, _, hbn, _⟩ := H.out.cd k _ _ (List.getElem?_eq_getElem hkl) (List.getElem?_eq_getElem hkq)
        rw [hB] at k1
        have g14' := g14
        rw [hA] at g14'
        generalize (c.ca[k]).1 = xc at k0
        clear hB
        rw [hA] at g14
        go_wp2_with fail
        go_round
        case rel => exact ⟨k + 1, y + bn / 16, by omega, by omega, by omega, by go_num, by go_num⟩
        case measure => simp [intOf]; omega
      · have d1 : decide ((y : Int) ≤ 5000) = false := by simp; omega
        have d2 : decide ((5000 : Int) < (y : Int)) = true := by simp; omega
        go_wp2_with fail
        go_ret
        exact ⟨true, rfl, (fun h => by cases h), HU.out.2⟩
    · by_cases hy : y ≤ 5000
      · have d2 : decide ((5000 : Int) < (y : Int)) = false := by simp; omega
        go_wp2_with fail
        go_ret
        exact ⟨false, rfl, fun _ => by omega, HU.out.2⟩
      · have d2 : decide ((5000 : Int) < (y : Int)) = true := by simp; omega
        go_wp2_with fail
        go_ret
        exact ⟨true, rfl, (fun h => by cases h), HU.out.2⟩
end Go.Proofs.Ytbliipjiilmbcaa
/-
  An append of bytes, possibly of none, behind a row of the call's own: in a plain list of operations.
-/
namespace Go.Proofs.Ytbliipjiilmbcaa
open Go.RowKit Wire Tlv Chunk

theorem grown_refl (W : World) (ob : Option Nat) : W.grownBy W ob := ⟨rfl, rfl, rfl, Nat.le_refl _, fun _ _ _ => rfl⟩
theorem app_step {w : World} {ops : Array Oper} {rest : List Oper} {o : Oper} {a : Act} {Q : Exit → Act → World → Prop} (hgd : o.guard = none) (s x : Operand)
    (ho : o.op = .call { callee := .builtin .append, args := #[s, x], argTypes := #[23, 23] }) (base : Nat) (A0 : Option Addr) (n c0 : Nat) (l : List Int) (hs : a.eval s = .slice A0 n c0) (hown : w.ownsRow base 5 1 (.slice A0 n c0) n (bs l))
    (A : Option Addr) (m c : Nat) (l2 : List Int) (hx : a.eval x = .slice A m c) (hl : l2.length = m) (hr : Row w A (bs l2)) (hz : A = none → m = 0 ∧ c = 0) (hb : n + m ≤ 140737488355328) (hbase : base ≤ w.heap.size)
    (h : ∀ A' n' c' w', n' = n + m → w'.ownsRow base 5 1 (.slice A' n' c') n' (bs (l ++ l2)) → Below base w w' → wpList Try.prog ops Q rest (a.put o.dst (.slice A' n' c')) w') : wpList Try.prog ops Q (o :: rest) a w := by
  obtain ⟨i0, hi0, hz0, hz1, hz2⟩ := info_parts Try_info8
  cases A with
  | none =>
    obtain ⟨rfl, rfl⟩ := hz rfl
    obtain rfl := List.eq_nil_of_length_eq_zero hl
    refine wpList_append_own_none hgd s x 23 ho base 5 i0 1 Try.underlying23 hi0 _ n (bs l) hs hown hx ?_
    exact h A0 n c0 w rfl (by simpa using hown) (Below.refl _ _)
  | some ad =>
    refine wpList_append_own _ hgd s x 23 ho base 5 i0 (.int .u8 0) 1 1 Try.underlying23 hi0 hz0 hz1 hz2 rfl (by omega) _ n (bs l) hs hown ad m c (bs l2) hx (by rw [bs_len, hl]; omega) (bcells hr) (bs_one _) (by unfold maxLen; omega) (by omega) hbase ?_
    intro v' w2 ho2 hg2 _
    obtain ⟨A', c', rfl⟩ := own_form ho2
    refine h A' (n + m) c' w2 rfl (by rw [← bs_app]; exact ho2) ?_
    exact (Below.refl base w).grown hg2 hbase (fun k hk => (hown.lt k hk).1)
end Go.Proofs.Ytbliipjiilmbcaa
