/-
  What tlv.All tells, one by one: the contract of its iterator.
-/
import Derived.Test.YtbliipjiilmbcaaYP1b
import Derived.Test.YtbliipjiilmbcaaYP1a
import Derived.Deep.LoopGhost
import Derived.WalkMore
namespace Go.Proofs.Ytbliipjiilmbcaa
open Go.RowKit Wire Tlv Go.Shelf
attribute [local go_sem] Oper.semAt_some

/-- The iterator's own blocks: whether it is of chunks, the variable of the bytes, the bytes. -/
def It (cb ob lo : Nat) (ch : Bool) (A : Option Addr) (n c : Nat) (l : List Int) (W : World) : Prop := Bk W cb #[.bool ch] 4 ∧ Bk W ob #[.slice A n c] 23 ∧ W.ownsRow lo 5 1 (.slice A n c) n (bs l)
theorem It.next {cb ob lo : Nat} {ch : Bool} {A : Option Addr} {n c : Nat} {l : List Int} {W W' : World} (h : It cb ob lo ch A n c l W) (hb : Below W.heap.size W W') : It cb ob lo ch A n c l W' := ⟨h.1.next hb, h.2.1.next hb, own_below h.2.2 hb⟩
theorem It.kept {cb ob lo hi : Nat} {ch : Bool} {A : Option Addr} {n c : Nat} {l : List Int} {W W' : World} (h : It cb ob lo ch A n c l W) (hc : lo ≤ cb ∧ cb < hi) (ho : lo ≤ ob ∧ ob < hi) (hr : ∀ g, (Value.slice A n c).ownBlock = some g → g < hi) (hk : Kept lo hi W W') : It cb ob lo ch A n c l W' := by
  refine ⟨(hk.2 _ hc.1 hc.2).trans h.1, (hk.2 _ ho.1 ho.2).trans h.2.1, h.2.2.1, ?_⟩
  rcases h.2.2.2 with h0 | ⟨g, cap, cur, hv, hg, hh, r⟩
  · exact .inl h0
  · exact .inr ⟨g, cap, cur, hv, hg, (hk.2 g hg (hr g (by rw [hv]; rfl))).trans hh, r⟩
/-- What tlv.All leaves. -/
def AllIt (w : World) (ch : Bool) (l : List Int) (e : Ending) (w' : World) : Prop := ∃ A n c ob, e = .returned (.func (.func 74) #[] #[.pointer (some ⟨ob, 0, none⟩), .pointer (some ⟨w.heap.size, 0, none⟩)]) ∧ It w.heap.size ob w.heap.size ch A n c l w' ∧ w.heap.size ≤ ob ∧ ob < w'.heap.size ∧ Below w.heap.size w w'
set_option maxHeartbeats 400000 in
theorem tall_any (ch : Bool) (A : Option Addr) (n c : Nat) (l : List Int) (w : World) (hl : l.length = n) (hn : n ≤ 100000) (hr : Row w A (bs l)) :
    Calls Try.prog 41 #[.bool ch, .slice A n c] w (AllIt w ch l) := by
  have hC := clone_any A n c l (w.alloc (.cells #[.bool ch] 4)) hl hn (hr.alloc _)
  have HC := Lib.hid hC
  clear hC hl hr
  go_enter Try.func41, Try.ntmps41
  go_wp2_with fail
  (with_reducible refine HC.out.mono ?_)
  rintro e w2 ⟨A2, c2, rfl, ho2⟩
  have hI : It w.heap.size w2.heap.size w.heap.size ch A2 n c2 l (w2.alloc (.cells #[.slice A2 n c2] 23)) :=
    ⟨((Bk.new w _ _).nextB ho2.2 (by simp)).alloc _, Bk.new _ _ _, (own_up ho2).1.alloc _⟩
  have hB : Below w.heap.size w (w2.alloc (.cells #[.slice A2 n c2] 23)) := (own_up ho2).2.alloc (own_up ho2).2.size _
  have HI := Lib.hid hI
  have HB := Lib.hid hB
  have HS := Lib.hid (own_up ho2).2.size
  clear hI hB ho2
  go_wp2_with fail
  go_ret
  exact ⟨_, _, _, _, rfl, HI.out, HS.out, by simp, HB.out⟩

/-- What is handed to a round: a thing and the error. -/
abbrev Ev := Q × Int
def pl (x : Ev) : Tv × Int := (x.1.1, x.2)
def enc (x : Ev) : Array Value := #[.agg #[.int .u16 (x.1.1.k : Int), .int .u8 (x.1.1.f : Int), x.1.2], .int .i64 x.2]
def Vev (ch : Bool) (l : List Int) (hi : Nat) (pre : List Ev) (x : Ev) (W : World) : Prop := (∃ t, ev ch l = pre.map pl ++ pl x :: t) ∧ Vo hi W x.1
/-- What is left to go over. -/
def Rest (cb ob lo : Nat) (ch : Bool) (A : Option Addr) (n c : Nat) (l : List Int) (k : Nat) (A' : Option Addr) (n' c' : Nat) : Prop :=
  n' + k = n ∧ n' ≤ c' ∧ c' ≤ maxLen ∧ ∀ W, It cb ob lo ch A n c l W → Row W A' (bs (l.drop k))
set_option maxRecDepth 100000 in
set_option maxHeartbeats 4000000 in
theorem iter_seq (ch : Bool) (A : Option Addr) (n c : Nat) (l : List Int) (cb ob lo : Nat) (w : World) (_hn : n ≤ 100000) (hb : Byt l) (hI : It cb ob lo ch A n c l w) (hc : lo ≤ cb ∧ cb < w.heap.size) (ho : lo ≤ ob ∧ ob < w.heap.size) :
    SeqT Try.prog 74 #[.pointer (some ⟨ob, 0, none⟩), .pointer (some ⟨cb, 0, none⟩)] enc (Vev ch l w.heap.size) lo w.heap.size (fun xs => xs.map pl = ev ch l) (fun pre => ∃ t, ev ch l = pre.map pl ++ t) w := fun y J Jx W hW hJ hJx hY h0 => by
  have hlen : l.length = n := by have := hI.2.2.1; simpa [bs] using this
  obtain ⟨hnone, hnc, hcm⟩ := owns_none hI.2.2
  have hblk : ∀ g, (Value.slice A n c).ownBlock = some g → g < w.heap.size := fun g hg => (hI.2.2.lt g hg).2
  have hIW := hI.next hW
  have hKept : ∀ W1 W2, It cb ob lo ch A n c l W1 → Kept lo w.heap.size W1 W2 → It cb ob lo ch A n c l W2 := fun W1 W2 h k => h.kept hc ho hblk k
  have hsz := hW.size
  have r0 := hIW.2.1.cell 0
  simp at r0
  have HK := Lib.hid hKept
  have HY := Lib.hid hY
  have HJ := Lib.hid hJ
  have HB := Lib.hid hb
  have HL := Lib.hid hlen
  have hst : Hid (It cb ob lo ch A n c l W ∧ J [] W ∧ w.heap.size ≤ W.heap.size) := ⟨hIW, h0, hsz⟩
  have hrest : Hid (Rest cb ob lo ch A n c l 0 A n c) := ⟨rfl, hnc, hcm, fun W h => row_of_owns h.2.2⟩
  clear hI hW hJ hJx hY h0 hIW hKept hsz hblk hnc hcm hnone hlen hb
  refine callsIn_wide.2 ?_
  go_enter Try.func74, Try.ntmps74
  go_wp2_with fail
  go_step3
  go_wp2_with fail
  go_step3
  go_wp2_with fail
  clear r0
  go_loopg [4] n (fun g v wr => ∃ (k : Nat) (pre : List Ev) (A' : Option Addr) (n' c' : Nat), n' = g ∧ v = .slice A' n' c' ∧ Hid (Rest cb ob lo ch A n c l k A' n' c') ∧ Hid (ev ch l = pre.map pl ++ ev ch (l.drop k)) ∧ Hid (It cb ob lo ch A n c l wr ∧ J pre wr ∧ w.heap.size ≤ wr.heap.size))
  case atStart => exact ⟨0, [], A, n, c, rfl, rfl, hrest, Lib.hid rfl, hst⟩
  case round =>
    obtain ⟨k, pre, A', n', c', rfl, rfl, hR, hE, hS⟩ := hrel
    clear hst hrest
    have hR1 := hR.out.1
    have hR2 := hR.out.2.1
    by_cases hn0 : n' = 0
    · subst hn0
      have hev : ev ch l = pre.map pl := by
        rw [hE.out, List.drop_of_length_le (by rw [HL.out]; omega), ev_nil, List.append_nil]
      have HEV := Lib.hid hev
      clear hev
      go_wp2_with fail
      try rw [Exit.noGoto_normal]
      go_end0
      exact ⟨⟨_, rfl⟩, .inl ⟨pre, HEV.out.symm, hS.out.2.1⟩⟩
    have HEE : Hid (t1 ch (l.drop k) = none → ev ch l = pre.map pl ++ [(none_, 40)]) := Lib.hid fun ht => by
      rw [hE.out, ev_none (by rw [List.length_drop, HL.out]; omega) ht]
    have hp : (0 : Int) < n' := by omega
    by_cases h4 : n' < 4
    · have ht : t1 ch (l.drop k) = none := by
        unfold t1
        rw [if_pos (by rw [List.length_drop, HL.out]; omega)]
      replace HEE := Lib.hid (HEE.out ht)
      have HVE : Hid (∀ W9, Vev ch l w.heap.size pre ((none_, .slice none 0 0), 40) W9) := Lib.hid fun W9 => ⟨⟨[], by rw [HEE.out]; rfl⟩, ⟨⟨by decide, by decide, fun c h => by simp [none_] at h⟩, none, 0, 0, rfl, by omega, World.ownsRow_nil _ _ _ _⟩⟩
      clear ht
      go_upto_region 14 with fail
      obtain ⟨fn, tmps, assign, body, hy, hRd⟩ := HY.out pre ((none_, .slice none 0 0), 40) wr hS.out.2.1 (HVE.out _)
      replace hy : (Instr.yield y #[.agg #[.int .u16 0, .int .u8 0, .slice none 0 0], .int .i64 40]).run Try.prog wr = _ := hy
      refine (wpIn_wide (n := 8)).1 ?_
      gi_wp2
      refine hRd.mono ?_
      rintro e W9 (⟨rfl, hj, _⟩ | ⟨rfl, hjx⟩)
      · have HJ9 := Lib.hid hj
        clear hj hy hRd
        gi_wp2
        try rw [Exit.noGoto_normal]
        go_end0
        exact ⟨⟨_, rfl⟩, .inl ⟨pre ++ [((none_, .slice none 0 0), 40)], by rw [HEE.out]; simp [pl], HJ9.out⟩⟩
      · have HJ9 := Lib.hid hjx
        clear hjx hy hRd
        gi_wp2
        try rw [Exit.noGoto_normal]
        go_end0
        exact ⟨⟨_, rfl⟩, .inr ⟨pre ++ [((none_, .slice none 0 0), 40)], ⟨[], by rw [HEE.out]; simp [pl]⟩, HJ9.out⟩⟩
    have hn4 : 4 ≤ n' := by omega
    clear h4
    have sz : (Try.prog.info? 5).map (·.size) = some 1 := by kernel_rfl
    have hRl : (l.drop k).length = n' := by rw [List.length_drop, HL.out]; omega
    have hRb := Byt.drop HB.out k
    have hRr := hR.out.2.2.2
    have hcm := hR.out.2.2.1
    have q2 : ∀ W, (Instr.slice 23 (.slice A' n' c') (some (.int .i64 2)) none none).run Try.prog W = .ok (.slice (cutA A' c' 2) (n' - 2) (c' - 2)) W := fun W => run_cut_l (P := Try.prog) Try.underlying23 sz (k := .i64) A' n' c' 2 (by omega) W
    obtain ⟨m, hm⟩ : ∃ m, ln (l.drop k) = m := ⟨_, rfl⟩
    have hm16 : m < 65536 := by rw [← hm]; exact nu_lt 2 _ (by rw [List.length_take, List.length_drop, hRl]; omega) (Byt.take (Byt.drop hRb 2) 2)
    have hwm := whl_le m
    obtain ⟨s, hs⟩ : ∃ s, whl m = s := ⟨_, rfl⟩
    have cN : Calls Try.prog 75 #[.slice (cutA A' c' 2) (n' - 2) (c' - 2)] wr fun e w' => e = .returned (.int .i64 (m : Nat)) ∧ ∃ q, w' = wr.drewN q := by
      have := tnumber_any (cutA A' c' 2) (n' - 2) (c' - 2) ((l.drop k).drop 2) wr (by rw [List.length_drop, hRl]) (by omega) (Byt.drop hRb 2) (row_drop hRl hR2 (hRr wr hS.out.1))
      rw [show nu (((l.drop k).drop 2).take 2) = m from hm] at this
      exact this
    have cW : ∀ W, Calls Try.prog 76 #[.int .i64 (m : Int)] W fun e w' => e = .returned (.int .i64 (s : Nat)) ∧ W = w' := fun W => by
      rw [← hs]
      exact whole_any m W (by omega)
    have HT : Hid (t1 ch (l.drop k) = if m < 4 ∨ n' < s then none else if (((l.drop k).take s).drop m).all (· == 0) then some (⟨kk ch (l.drop k), ff ch (l.drop k), ((l.drop k).take m).drop 4⟩, s) else none) := by
      unfold t1
      rw [hRl, hm, hs, if_neg (by omega)]
      exact Lib.hid rfl
    rw [hs] at hwm
    have CN := Lib.hid cN
    have CW := Lib.hid cW
    have SZ := Lib.hid sz
    have HRL := Lib.hid hRl
    have HRB := Lib.hid hRb
    have HLN := Lib.hid hm
    clear cN cW sz hRl hRb hRr hm hs
    go_wp2_with fail
    refine CN.out.mono ?_
    rintro e w4 ⟨rfl, q, rfl⟩
    have hS4 : Hid (It cb ob lo ch A n c l (wr.drewN q) ∧ J pre (wr.drewN q) ∧ w.heap.size ≤ (wr.drewN q).heap.size) := ⟨hS.out.1.next (below_drewN (Below.refl _ _) q), HJ.out _ _ _ hS.out.2.1 (below_drewN (Below.refl _ _) q), hS.out.2.2⟩
    clear hS
    generalize wr.drewN q = W4 at hS4 ⊢
    go_wp2_with fail
    refine (CW.out _).mono ?_
    rintro e w5 ⟨rfl, rfl⟩
    by_cases hbad : m < 4 ∨ n' < s
    · have ht : t1 ch (l.drop k) = none := by rw [HT.out, if_pos hbad]
      replace HEE := Lib.hid (HEE.out ht)
      have HVE : Hid (∀ W9, Vev ch l w.heap.size pre ((none_, .slice none 0 0), 40) W9) := Lib.hid fun W9 => ⟨⟨[], by rw [HEE.out]; rfl⟩, ⟨⟨by decide, by decide, fun c h => by simp [none_] at h⟩, none, 0, 0, rfl, by omega, World.ownsRow_nil _ _ _ _⟩⟩
      clear ht
      by_cases hm4 : m < 4
      · clear hbad
        go_upto_region 14 with fail
        obtain ⟨fn, tmps, assign, body, hy, hRd⟩ := HY.out pre ((none_, .slice none 0 0), 40) W4 hS4.out.2.1 (HVE.out _)
        replace hy : (Instr.yield y #[.agg #[.int .u16 0, .int .u8 0, .slice none 0 0], .int .i64 40]).run Try.prog W4 = _ := hy
        refine (wpIn_wide (n := 8)).1 ?_
        gi_wp2
        refine hRd.mono ?_
        rintro e W9 (⟨rfl, hj, _⟩ | ⟨rfl, hjx⟩)
        · have HJ9 := Lib.hid hj
          clear hj hy hRd
          gi_wp2
          try rw [Exit.noGoto_normal]
          go_end0
          exact ⟨⟨_, rfl⟩, .inl ⟨pre ++ [((none_, .slice none 0 0), 40)], by rw [HEE.out]; simp [pl], HJ9.out⟩⟩
        · have HJ9 := Lib.hid hjx
          clear hjx hy hRd
          gi_wp2
          try rw [Exit.noGoto_normal]
          go_end0
          exact ⟨⟨_, rfl⟩, .inr ⟨pre ++ [((none_, .slice none 0 0), 40)], ⟨[], by rw [HEE.out]; simp [pl]⟩, HJ9.out⟩⟩
      · have hns : n' < s := by omega
        clear hbad
        go_upto_region 14 with fail
        obtain ⟨fn, tmps, assign, body, hy, hRd⟩ := HY.out pre ((none_, .slice none 0 0), 40) W4 hS4.out.2.1 (HVE.out _)
        replace hy : (Instr.yield y #[.agg #[.int .u16 0, .int .u8 0, .slice none 0 0], .int .i64 40]).run Try.prog W4 = _ := hy
        refine (wpIn_wide (n := 8)).1 ?_
        gi_wp2
        refine hRd.mono ?_
        rintro e W9 (⟨rfl, hj, _⟩ | ⟨rfl, hjx⟩)
        · have HJ9 := Lib.hid hj
          clear hj hy hRd
          gi_wp2
          try rw [Exit.noGoto_normal]
          go_end0
          exact ⟨⟨_, rfl⟩, .inl ⟨pre ++ [((none_, .slice none 0 0), 40)], by rw [HEE.out]; simp [pl], HJ9.out⟩⟩
        · have HJ9 := Lib.hid hjx
          clear hjx hy hRd
          gi_wp2
          try rw [Exit.noGoto_normal]
          go_end0
          exact ⟨⟨_, rfl⟩, .inr ⟨pre ++ [((none_, .slice none 0 0), 40)], ⟨[], by rw [HEE.out]; simp [pl]⟩, HJ9.out⟩⟩
    have hm4 : 4 ≤ m := by omega
    have hns : s ≤ n' := by omega
    have HT2 : Hid (t1 ch (l.drop k) = if (((l.drop k).take s).drop m).all (· == 0) then some (⟨kk ch (l.drop k), ff ch (l.drop k), ((l.drop k).take m).drop 4⟩, s) else none) := by
      rw [HT.out, if_neg hbad]
      exact Lib.hid rfl
    clear hbad HT
    obtain ⟨a', rfl, _⟩ := Row.byte (hR.out.2.2.2 W4 hS4.out.1) (k := 0) (by rw [HRL.out]; omega)
    obtain ⟨ad, had⟩ : ∃ ad, cutA (some a') c' m = some ad := by unfold cutA; split <;> exact ⟨_, rfl⟩
    have qms : ∀ W, (Instr.slice 23 (.slice (some a') n' c') (some (.int .i64 (m : Int))) (some (.int .i64 (s : Int))) none).run Try.prog W = .ok (.slice (some ad) (s - m) (c' - m)) W := fun W => by
      have := run_cut_lh (P := Try.prog) Try.underlying23 SZ.out (k := .i64) (k' := .i64) (some a') n' c' m s (by omega) (by omega) W
      rw [had] at this
      exact this
    have hrow : Row W4 (some ad) (bs (((l.drop k).take s).drop m)) := by
      have := (hR.out.2.2.2 W4 hS4.out.1).cut (c := c') (lo := m) (hi := s) (by omega)
      rw [had] at this
      simpa [bs] using this
    have HROW := Lib.hid hrow
    have hpl : (((l.drop k).take s).drop m).length = s - m := by rw [List.length_drop, List.length_take, HRL.out]; omega
    have HPL := Lib.hid hpl
    clear hrow hpl had
    have dm : decide ((m : Int) < 4) = false := by simp; omega
    have ds : decide ((n' : Int) < (s : Int)) = false := by simp; omega
    go_wp2_with fail
    clear dm ds q2
    go_loopg [34] (s - m) (fun g i wx => ∃ j : Nat, j + g = s - m ∧ i = .int .i64 j ∧ Hid (∀ t, m ≤ t → t < m + j → (l.drop k).getD t 0 = 0) ∧ W4 = wx)
    case atStart => exact ⟨0, by omega, rfl, Lib.hid fun t h1 h2 => by omega, rfl⟩
    case round =>
      obtain ⟨j, hj, rfl, hz, rfl⟩ := hrel
      by_cases hlt : j < s - m
      · obtain ⟨ad', had', hcell⟩ := Row.byte HROW.out (k := j) (by rw [HPL.out]; exact hlt)
        injection had' with had'
        subst had'
        obtain ⟨u, hu, hu8⟩ := Byt.at (Byt.drop (Byt.take HRB.out s) m) (k := j) (by rw [HPL.out]; exact hlt)
        rw [hu] at hcell
        have hgd : (l.drop k).getD (m + j) 0 = (u : Int) := by
          rw [← hu, getD_drop ((l.drop k).take s) j m, getD_take (by omega)]
        have HGD := Lib.hid hgd
        clear hu hgd
        by_cases hu0 : u = 0
        · subst hu0
          have HZ2 : Hid (∀ t, m ≤ t → t < m + (j + 1) → (l.drop k).getD t 0 = 0) := Lib.hid fun t h1 h2 => by
            by_cases ht : t < m + j
            · exact hz.out t h1 ht
            · rw [show t = m + j by omega, HGD.out]; rfl
          clear hz
          go_wp2_with fail
          go_roundg (gk - 1)
          case measure => omega
          case rel => exact ⟨j + 1, by omega, by go_num, HZ2, rfl⟩
        · have du : ((u : Int) != 0) = true := by simp only [bne_iff_ne, ne_eq]; omega
          have ht : t1 ch (l.drop k) = none := by
            rw [HT2.out, if_neg (not_zero (i := m + j) (by omega) (by omega) (by rw [HGD.out]; omega))]
          replace HEE := Lib.hid (HEE.out ht)
          have HVE : Hid (∀ W9, Vev ch l w.heap.size pre ((none_, .slice none 0 0), 40) W9) := Lib.hid fun W9 => ⟨⟨[], by rw [HEE.out]; rfl⟩, ⟨⟨by decide, by decide, fun c h => by simp [none_] at h⟩, none, 0, 0, rfl, by omega, World.ownsRow_nil _ _ _ _⟩⟩
          clear ht HT2 hz
          go_upto_region 14 with fail
          obtain ⟨fn, tmps, assign, body, hy, hRd⟩ := HY.out pre ((none_, .slice none 0 0), 40) W4 hS4.out.2.1 (HVE.out _)
          replace hy : (Instr.yield y #[.agg #[.int .u16 0, .int .u8 0, .slice none 0 0], .int .i64 40]).run Try.prog W4 = _ := hy
          refine (wpIn_wide (n := 8)).1 ?_
          gi_wp2
          refine hRd.mono ?_
          rintro e W9 (⟨rfl, hj, _⟩ | ⟨rfl, hjx⟩)
          · have HJ9 := Lib.hid hj
            clear hj hy hRd
            gi_wp2
            try rw [Exit.noGoto_normal]
            go_end0
            exact ⟨⟨_, rfl⟩, .inl ⟨pre ++ [((none_, .slice none 0 0), 40)], by rw [HEE.out]; simp [pl], HJ9.out⟩⟩
          · have HJ9 := Lib.hid hjx
            clear hjx hy hRd
            gi_wp2
            try rw [Exit.noGoto_normal]
            go_end0
            exact ⟨⟨_, rfl⟩, .inr ⟨pre ++ [((none_, .slice none 0 0), 40)], ⟨[], by rw [HEE.out]; simp [pl]⟩, HJ9.out⟩⟩
      · have HTS : Hid (t1 ch (l.drop k) = some (⟨kk ch (l.drop k), ff ch (l.drop k), ((l.drop k).take m).drop 4⟩, s)) := by
          rw [HT2.out, if_pos (all_zero (fun i h1 h2 => hz.out i h1 (by omega)))]
          exact Lib.hid rfl
        clear HT2 hz HEE
        go_upto_region 11 with fail
        have hmo : Try.prog.follows .mixedOrders = true := by kernel_rfl
        have qm : ∀ W, (Instr.slice 23 (.slice (some a') n' c') none (some (.int .i64 (m : Int))) none).run Try.prog W = .ok (.slice (some a') m c') W := fun W => by
          have := run_cut_h (P := Try.prog) Try.underlying23 SZ.out (k := .i64) (some a') n' c' m (by omega) W
          rwa [cut0] at this
        have hx2 : (⟨kk ch ((l.drop k).take m), ff ch ((l.drop k).take m), ((l.drop k).take m).drop 4⟩ : Tv) = ⟨kk ch (l.drop k), ff ch (l.drop k), ((l.drop k).take m).drop 4⟩ := by
          have e1 : kk ch ((l.drop k).take m) = kk ch (l.drop k) := by
            unfold kk
            rw [getD_take (by omega), List.take_take, Nat.min_eq_left (by omega)]
          have e2 : ff ch ((l.drop k).take m) = ff ch (l.drop k) := by
            unfold ff
            rw [getD_take (by omega)]
          rw [e1, e2]
        obtain ⟨x, hx⟩ : ∃ x : Tv, (⟨kk ch (l.drop k), ff ch (l.drop k), ((l.drop k).take m).drop 4⟩ : Tv) = x := ⟨_, rfl⟩
        rw [hx] at HTS hx2
        have hxo := (tb_t1 HRB.out HTS.out).1
        have hxl : x.v.length = m - 4 := by
          rw [← hx, List.length_drop, List.length_take, HRL.out]
          omega
        have hee : ev ch l = pre.map pl ++ (x, 0) :: ev ch (l.drop (k + s)) := by
          rw [hE.out, ev_some HTS.out, List.drop_drop]
        have cR : ∀ W5, Hid (It cb ob lo ch A n c l W5 ∧ J pre W5 ∧ w.heap.size ≤ W5.heap.size) → Calls Try.prog 77 #[.bool ch, .slice (some a') m c'] W5 fun e w' => ∃ A2 n2 c2, e = .returned (.agg #[.int .u16 (x.k : Int), .int .u8 (x.f : Int), .slice A2 n2 c2]) ∧ Hid (It cb ob lo ch A n c l w' ∧ J pre w' ∧ w.heap.size ≤ w'.heap.size ∧ Vev ch l w.heap.size pre ((x, .slice A2 n2 c2), 0) w') := fun W5 h => by
          have hr5 : Row W5 (some a') (bs ((l.drop k).take m)) := by
            have := (hR.out.2.2.2 W5 h.out.1).take m
            simpa [bs] using this
          have := read_any ch (some a') m c' ((l.drop k).take m) W5 (by rw [List.length_take, HRL.out]; omega) hm4 (by omega) (by omega) (Byt.take HRB.out m) hr5
          rw [hx2] at this
          refine this.mono ?_
          rintro e w' ⟨A2, n2, c2, he, ho⟩
          refine ⟨A2, n2, c2, he, h.out.1.next ho.2, HJ.out _ _ _ h.out.2.1 ho.2, Nat.le_trans h.out.2.2 ho.2.size, ⟨_, by rw [hee]; rfl⟩, hxo, A2, n2, c2, rfl, by have := ho.len; omega, own_base ho.1 h.out.2.2⟩
        have CR := Lib.hid cR
        have HEV := Lib.hid hee
        clear cR hee hxo hxl hx2 hx HTS
        have hS5 : Hid (It cb ob lo ch A n c l W4.drew ∧ J pre W4.drew ∧ w.heap.size ≤ W4.drew.heap.size) := ⟨hS4.out.1.next (Below.refl _ _).drew, HJ.out _ _ _ hS4.out.2.1 (Below.refl _ _).drew, hS4.out.2.2⟩
        have c0 := hS4.out.1.1.cell 0
        simp at c0
        refine (wpIn_wide (n := 8)).1 ?_
        gi_region_with_o (first
          | (refine ⟨trivial, ?_⟩; gi_at_call 77; (with_reducible refine (callsIn_wide.2 (CR.out _ ?_)).mono ?_); assumption; rintro e w6 ⟨A2, n2, c2, rfl, h6⟩; obtain ⟨fn, tmps, assign, body, hy, hRd⟩ := HY.out pre ((x, .slice A2 n2 c2), 0) w6 h6.out.2.1 h6.out.2.2.2; replace hy : (Instr.yield y #[.agg #[.int .u16 (x.k : Int), .int .u8 (x.f : Int), .slice A2 n2 c2], .int .i64 0]).run Try.prog w6 = _ := hy)
          | (refine hRd.mono (R' := fun e W' => ∃ b : Bool, e = .returned (.bool b) ∧ Hid ((b = true ∧ J (pre ++ [((x, .slice A2 n2 c2), 0)]) W' ∧ Kept lo w.heap.size w6 W') ∨ (b = false ∧ Jx (pre ++ [((x, .slice A2 n2 c2), 0)]) W'))) (fun e W' h => h.elim (fun h => ⟨true, h.1, .inl ⟨rfl, h.2⟩⟩) (fun h => ⟨false, h.1, .inr ⟨rfl, h.2⟩⟩)) |>.mono ?_; rintro e w7 ⟨b, rfl, h7⟩; clear hy hRd))
        have qs : ∀ W, (Instr.slice 23 (.slice (some a') n' c') (some (.int .i64 (s : Int))) none none).run Try.prog W = .ok (.slice (cutA (some a') c' s) (n' - s) (c' - s)) W := fun W => run_cut_l (P := Try.prog) Try.underlying23 SZ.out (k := .i64) (some a') n' c' s (by omega) W
        rcases h7.out with ⟨rfl, hj7, hk7⟩ | ⟨rfl, hjx⟩
        · have HS7 : Hid (It cb ob lo ch A n c l w7 ∧ J (pre ++ [((x, .slice A2 n2 c2), 0)]) w7 ∧ w.heap.size ≤ w7.heap.size) := ⟨HK.out _ _ h6.out.1 hk7, hj7, Nat.le_trans h6.out.2.2.1 hk7.1⟩
          have HR7 : Hid (Rest cb ob lo ch A n c l (k + s) (cutA (some a') c' s) (n' - s) (c' - s)) := ⟨by omega, by omega, by have := hR.out.2.2.1; omega, fun W h => by
            have := row_drop (k := s) HRL.out hR2 (hR.out.2.2.2 W h)
            rwa [List.drop_drop] at this⟩
          have HE7 : Hid (ev ch l = (pre ++ [((x, Value.slice A2 n2 c2), 0)]).map pl ++ ev ch (l.drop (k + s))) := Lib.hid (by rw [HEV.out]; simp [pl])
          clear hj7 hk7 h7 h6 c0 hS5
          go_wp2_with fail
          go_roundg (n' - s)
          case measure => omega
          case rel => exact ⟨k + s, pre ++ [((x, .slice A2 n2 c2), 0)], _, _, _, rfl, rfl, HR7, HE7, HS7⟩
        · have HJ7 := Lib.hid hjx
          clear hjx h7 h6 c0 hS5
          go_wp2_with fail
          try rw [Exit.noGoto_ret]
          refine bodyPost_ret (results_none rfl _ _ _) rfl ?_
          exact ⟨⟨_, rfl⟩, .inr ⟨pre ++ [((x, .slice A2 n2 c2), 0)], ⟨ev ch (l.drop (k + s)), by rw [HEV.out]; simp [pl]⟩, HJ7.out⟩⟩
end Go.Proofs.Ytbliipjiilmbcaa
