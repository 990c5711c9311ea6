/-
  The document's Take of causes.
-/
import Derived.Test.YtbliipjiilmbcaaYP1d
import Derived.Test.YtbliipjiilmbcaaYChunkCs2
import Derived.Deep.RegionHeld3
set_option linter.unusedVariables false
set_option linter.unusedSimpArgs false
namespace Go.Proofs.Ytbliipjiilmbcaa
open Go.RowKit Wire Tlv Chunk Go.Shelf

theorem RT.gr {w W W' : World} {xv z y : Array Value} {ob : Option Nat} (h : RT w xv z y W) (hg : W.grownBy W' ob) (hob : ∀ j, ob = some j → w.heap.size + 3 ≤ j) : RT w xv z y W' :=
  ⟨⟨(hg.block _ h.1.1.lt (fun e => by have := hob _ e.symm; omega)).trans h.1.1, (hg.block _ h.1.2.1.lt (fun e => by have := hob _ e.symm; omega)).trans h.1.2.1, h.1.2.2.grown hg h.1.2.2.size (fun j hj => by have := hob j hj; omega)⟩, (hg.block _ h.2.lt (fun e => by have := hob _ e.symm; omega)).trans h.2⟩
theorem cv_ca (c : Ck) (s : Ls) (l : List (Nat × List Int)) (A : Option Addr) (n cp : Nat) (q : List Value) : (cv c s).setIfInBounds 14 (.slice A n cp) = cv { c with ca := l } (putC s A n cp q) := by simp [cv, putC]
def cz (q : Q) : Nat × List Int := (q.1.k, q.1.v)
/-- What is kept while the document goes over causes. -/
structure Cau (w : World) (xv : Array Value) (c0 : Ck) (qs : List Q) (B : Nat) (A' : Option Addr) (n' c' j : Nat) (l : List (Nat × List Int)) (vs : List Value) (cA : Option Addr) (cc : Nat) (W : World) : Prop where
  rt : RT w xv zlit (cv { c0 with ca := l } (putC nol cA l.length cc vs)) W
  cr : Cr B l cA cc vs W
  tw : W.ownsRow B 25 3 (.slice A' n' c') n' (tf qs)
  vo : ∀ q ∈ qs, Vo B W q
  el : l = (qs.take j).map cz
  ev : vs = (qs.take j).map (·.2)
  bl : B ≤ W.heap.size
theorem Cau.next {w : World} {xv : Array Value} {c0 : Ck} {qs : List Q} {B : Nat} {A' : Option Addr} {n' c' j : Nat} {l : List (Nat × List Int)} {vs : List Value} {cA : Option Addr} {cc : Nat} {W W' : World} (h : Cau w xv c0 qs B A' n' c' j l vs cA cc W) (hb : Below W.heap.size W W') : Cau w xv c0 qs B A' n' c' j l vs cA cc W' :=
  { h with rt := h.rt.next hb, cr := h.cr.below hb, tw := own_below h.tw hb, vo := fun q hq => (h.vo q hq).next hb, bl := Nat.le_trans h.bl hb.size }
theorem Cau.ths {w : World} {xv : Array Value} {c0 : Ck} {qs : List Q} {B : Nat} {A' : Option Addr} {n' c' j : Nat} {l : List (Nat × List Int)} {vs : List Value} {cA : Option Addr} {cc : Nat} {W : World} (h : Cau w xv c0 qs B A' n' c' j l vs cA cc W) : Ths W A' qs := ⟨row_of_owns h.tw, fun q hq => (h.vo q hq).vl⟩
theorem Vo.vd {B : Nat} {W : World} {q : Q} (h : Vo B W q) : Vd B W q.1.v q.2 := by
  obtain ⟨_, A, n, c, h2, _, h4⟩ := h
  exact ⟨A, n, c, h2, h4⟩
theorem Vo.put {B b i : Nat} {u : Value} {W : World} {q : Q} (h : Vo B W q) (hb : b < B) : Vo B (W.setCell ⟨b, i, none⟩ u) q := by
  obtain ⟨h1, A, n, c, h2, h3, h4⟩ := h
  exact ⟨h1, A, n, c, h2, h3, owns_put h4 hb⟩
/-- One more cause. -/
theorem Cau.step {w : World} {xv : Array Value} {c0 : Ck} {qs : List Q} {B : Nat} {A' : Option Addr} {n' c' j : Nat} {l : List (Nat × List Int)} {vs : List Value} {cA : Option Addr} {cc : Nat} {W W' : World} {g9 : Option Addr} {cap9 : Nat} {q : Q} (h : Cau w xv c0 qs B A' n' c' j l vs cA cc W) (hB : w.heap.size + 3 ≤ B)
    (hj : qs[j]? = some q) (ho : W'.ownsRow B 73 2 (.slice g9 (l.length + 1) cap9) (l.length + 1) (cs l vs ++ [.int .u16 (q.1.k : Int), q.2])) (hg : W.grownBy W' (Value.slice cA l.length cc).ownBlock) :
    Cau w xv c0 qs B A' n' c' (j + 1) (l ++ [cz q]) (vs ++ [q.2]) g9 cap9 (W'.setCell ⟨w.heap.size + 1 + 1, 14, none⟩ (.slice g9 (l.length + 1) cap9)) := by
  have hq : q ∈ qs := List.mem_of_getElem? hj
  have hcr := Cr.snoc (x := cz q) h.cr (h.vo q hq).vd ho hg
  have hrt := (h.rt.gr hg (fun i e => Nat.le_trans hB (h.cr.2.1.lt i e).1)).set 14 (.slice g9 (l.length + 1) cap9)
  rw [cv_ca _ _ (l ++ [cz q]) _ _ _ (vs ++ [q.2])] at hrt
  have hto := h.tw.kept hg (own_apart h.tw h.cr.2.1 (by decide))
  refine ⟨?_, hcr.put (by omega), owns_put hto (by omega), fun p hp => ((h.vo p hp).kept h.cr.2.1 (by decide) hg).put (by omega), ?_, ?_, by simpa using Nat.le_trans h.bl hg.size⟩
  · have e : (l ++ [cz q]).length = l.length + 1 := by simp
    rw [e]
    exact hrt
  · rw [List.take_add_one, hj, h.el]; simp
  · rw [List.take_add_one, hj, h.ev]; simp
set_option maxRecDepth 100000 in
set_option maxHeartbeats 4000000 in
theorem rTake6 (k f : Nat) (v : List Int) (A : Option Addr) (n cp : Nat) (w : World) (hx : (⟨k, f, v⟩ : Tv).ok) (hk : k = 6) (hl : v.length = n) (hn : n ≤ 65531) (hle : n ≤ cp) (hcm : cp ≤ maxLen) (hr : Row w A (bs v)) :
    Calls Try.prog 13 #[.agg #[.int .u16 (k : Int), .int .u8 (f : Int), .slice A n cp]] w (TakeOut w (take ⟨k, f, v⟩)) := by
  have d0 : ((k : Int) == 0) = false := by simp; omega
  have d1 : ((k : Int) == 1) = false := by simp; omega
  have d2 : ((k : Int) == 2) = false := by simp; omega
  have d3 : ((k : Int) == 3) = false := by simp; omega
  have d6 : ((k : Int) == 6) = true := by simp; omega
  have d9 : ((k : Int) == 9) = false := by simp; omega
  have d7 : ((k : Int) == 7) = false := by simp; omega
  have d8 : ((k : Int) == 8) = false := by simp; omega
  have d11 : ((k : Int) == 11) = false := by simp; omega
  have d14 : ((k : Int) == 14) = false := by simp; omega
  have hk2 : k ≤ 255 := by omega
  have HTR := Lib.hid ((take_mayO (x := ⟨k, f, v⟩) hk2).trans (by rw [raw_cause (show (⟨k, f, v⟩ : Tv).k = 6 ∨ (⟨k, f, v⟩ : Tv).k = 9 by show k = 6 ∨ k = 9; omega)]))
  have HBO := Lib.hid (bare_ok hx hk2)
  have HRA : Hid (∀ W, Below w.heap.size w W → Calls Try.prog 38 #[.bool false, .slice A n cp] W (AllOut W (tl false v).1 (fun u => .tuple #[u, .bool (tl false v).2]))) := Lib.hid fun W hW => rall_any false A n cp v W hl (by omega) hle hcm hx.2.2 (hr.below hW)
  have HSH : Hid (∀ x ∈ (tl false v).1, x.ok ∧ x.v.length ≤ 65531) := Lib.hid fun x h => ⟨tl_ok v.length v (Nat.le_refl _) hx.2.2 x h, tl_short v.length v (Nat.le_refl _) hx.2.2 x h⟩
  have hlen := tl_len false v.length v (Nat.le_refl _)
  rw [hl] at hlen
  obtain ⟨xs, hxs⟩ : ∃ xs, (tl false v).1 = xs := ⟨_, rfl⟩
  obtain ⟨ok, hok⟩ : ∃ ok, (tl false v).2 = ok := ⟨_, rfl⟩
  rw [hxs, hok] at HRA
  rw [hxs] at HSH hlen
  have HTK0 : Hid (take ⟨k, f, v⟩ = (if ok = true then some { bare ⟨k, f, v⟩ with ca := xs.map (fun y => (y.k, y.v)) } else none).bind mayO) := Lib.hid (by rw [HTR.out, ← hxs, ← hok])
  obtain ⟨iC, hi0, hz0, hz1, hz2⟩ := info_parts Try_infoCause
  have HCI0 := Lib.hid hi0
  have HC0 := Lib.hid hz0
  have HC1 := Lib.hid hz1
  have HC2 := Lib.hid hz2
  clear hi0 hz0 hz1 hz2 HTR hk2 hxs hok
  have HT : Hid (RT w #[.int .u16 (k : Int), .int .u8 (f : Int), .slice A n cp] zlit (cv (bare ⟨k, f, v⟩) nol) _) := Lib.hid (RT.new w #[.int .u16 (k : Int), .int .u8 (f : Int), .slice A n cp] k f v)
  have HI := Lib.hid zlit_info
  have HO := Lib.hid zlit_one
  have wk : IntKind.u8.wrap (k : Int) = (k : Int) := by rw [IntKind.wrap_u8]; omega
  have dbig : decide ((255 : Int) < (k : Int)) = false := by simp; omega
  clear hl hr hx hk
  go_enter Try.func13, Try.ntmps13
  go_upto_region 4 with fail
  generalize World.alloc (World.alloc (World.alloc w _) _) _ = W1 at HT ⊢
  clear dbig wk
  have g2 := HT.out.1.1.cell 2
  simp at g2
  have k0 : W1.cell? ⟨w.heap.size + 1 + 1, 0, none⟩ = some (.int .u8 (k : Int)) := HT.out.2.c0
  obtain ⟨c0, hc0⟩ : ∃ c : Ck, c = bare ⟨k, f, v⟩ := ⟨_, rfl⟩
  rw [← hc0] at HT HTK0 HBO
  have HN0 : Hid (c0.da = [] ∧ c0.ad = [] ∧ c0.ga = [] ∧ c0.du = [] ∧ c0.ca = []) := Lib.hid (by rw [hc0]; exact ⟨rfl, rfl, rfl, rfl, rfl⟩)
  clear hc0
  obtain ⟨xw, hxw⟩ : ∃ xw : Array Value, xw = #[.int .u16 (k : Int), .int .u8 (f : Int), .slice A n cp] := ⟨_, rfl⟩
  rw [← hxw] at HT
  clear hxw
  go_wp2_with fail
  (with_reducible refine (HRA.out _ HT.out.below).mono ?_)
  rintro e W2 ⟨A', n', c', qs, rfl, hqs, hto⟩
  have hB : w.heap.size + 3 ≤ W1.heap.size := by have := HT.out.2.lt; omega
  have hT2 := HT.out.next hto.2.2.2
  have hst : Cau w xw c0 qs W1.heap.size A' n' c' 0 [] [] none 0 W2 := by
    refine ⟨?_, Cr.nil _ _, hto.2.1, hto.2.2.1, by simp, by simp, hto.2.2.2.size⟩
    have e : ({ c0 with ca := [] } : Ck) = c0 := by rw [← HN0.out.2.2.2.2]
    rw [e]
    exact hT2
  have HST := Lib.hid hst
  have hnl : qs.length = n' := hto.1
  have HQS := Lib.hid hqs
  have HNL := Lib.hid hnl
  have hn16 : n' ≤ 20000 := by
    have := congrArg List.length hqs
    simp at this
    omega
  generalize W1.heap.size = B at HST hB
  have HBB := Lib.hid hB
  clear hst hT2 hto hqs k0 g2 HT HRA hnl hlen
  go_wp2_with fail
  go_loopw [9] (fun i wr => ∃ j : Nat, j ≤ n' ∧ i = .int .i64 (j : Int) ∧ ∃ (l : List (Nat × List Int)) (vs : List Value) (cA : Option Addr) (cc : Nat), Hid (Cau w xw c0 qs B A' n' c' j l vs cA cc wr)) (fun i _ => n' - (intOf i).toNat)
  case atStart => exact ⟨0, by omega, rfl, [], [], none, 0, HST⟩
  case round =>
    clear HST
    obtain ⟨j, hj, rfl, l, vs, cA, cc, HCA⟩ := hrel
    by_cases hlt2 : j < n'
    · have hjq : j < qs.length := by rw [HNL.out]; exact hlt2
      have hll : l.length ≤ 20000 := by
        rw [HCA.out.el]; simp; omega
      obtain ⟨a, B3, n3, c3, rfl, s1, _, s2, e3, _⟩ := HCA.out.ths.at hjq
      have HTH := Lib.hid fun (W : World) (h1 : W.ownsRow B 25 3 (.slice (some a) n' c') n' (tf qs)) (h2 : ∀ q ∈ qs, Vo B W q) => Ths.at (W := W) ⟨row_of_owns h1, fun q hq => (h2 q hq).vl⟩ hjq
      have hqj : qs[j]? = some qs[j] := List.getElem?_eq_getElem hjq
      obtain ⟨q, hq⟩ : ∃ q, qs[j] = q := ⟨_, rfl⟩
      have HTH : Hid (∀ W : World, W.ownsRow B 25 3 (.slice (some a) n' c') n' (tf qs) → (∀ q ∈ qs, Vo B W q) → (fun W => W.cell? (a.add (j * 3)) = some (.int .u16 (qs[j].1.k : Int)) ∧ W.cell? { block := (a.add (j * 3)).block, off := (a.add (j * 3)).off + 2 } = some (.slice B3 n3 c3)) W) := Lib.hid fun W h1 h2 => by
        obtain ⟨a', _, _, _, ha, g1, _, g2, g3, _⟩ := HTH.out W h1 h2
        injection ha with ha
        subst ha
        rw [e3] at g3
        rw [← g3] at g2
        exact ⟨g1, g2⟩
      rw [hq] at hqj s1 e3 HTH
      obtain ⟨⟨xk, xf, xv⟩, u⟩ := q
      simp only at s1 e3
      subst e3
      have HQJ := Lib.hid hqj
      have hal : Below wr.drew.heap.size wr.drew (wr.drew.alloc (.cells #[.int .u16 (xk : Int), .slice B3 n3 c3] 73)) := (Below.refl _ _).alloc (Nat.le_refl _) _
      have HCU := Lib.hid ((HCA.out.next (Below.refl _ _).drew).next hal)
      have hSA : Hid ((fun W => W.cell? (a.add (j * 3)) = some (.int .u16 (xk : Int)) ∧ W.cell? { block := (a.add (j * 3)).block, off := (a.add (j * 3)).off + 2 } = some (.slice B3 n3 c3)) (wr.drew.alloc (.cells #[.int .u16 (xk : Int), .slice B3 n3 c3] 73))) := Lib.hid (HTH.out _ HCU.out.tw HCU.out.vo)
      have hs : (fun W => W.cell? (a.add (j * 3)) = some (.int .u16 (xk : Int)) ∧ W.cell? { block := (a.add (j * 3)).block, off := (a.add (j * 3)).off + 2 } = some (.slice B3 n3 c3)) wr.drew := ⟨s1, s2⟩
      have g14 : wr.drew.cell? ⟨w.heap.size + 1 + 1, 14, none⟩ = some (.slice cA l.length cc) := HCA.out.rt.2.c14
      have g14A : (wr.alloc (.cells #[.int .u16 (xk : Int), .slice B3 n3 c3] 73)).drew.cell? ⟨w.heap.size + 1 + 1, 14, none⟩ = some (.slice cA l.length cc) := HCU.out.rt.2.c14
      clear hal hqj hq s1 s2
      go_upto_region 34 with fail
      refine wp_region_held_drew (S := (fun W => W.cell? (a.add (j * 3)) = some (.int .u16 (xk : Int)) ∧ W.cell? { block := (a.add (j * 3)).block, off := (a.add (j * 3)).off + 2 } = some (.slice B3 n3 c3))) (by kernel_rfl) (hs) (fun hHeld => ?_)
      refine wpAnyH_take (i := 0) (v := ?_) rfl (by kernel_rfl) (by kernel_rfl) (by kernel_rfl) (fun _ _ _ h => h) (Or.inl ⟨by rfl, ?_⟩) (by first | assumption | trivial) ?_
      rotate_left 1
      · (intro w9 hSw; obtain ⟨s1, s2⟩ := hSw; go_simp; try (with_reducible rfl))
      try simp only [Act.put, List.setIfInBounds_toArray, List.set_cons_zero, List.set_cons_succ, List.getElem_toArray, List.getElem_cons_zero, List.getElem_cons_succ]
      refine wpAnyH_take (i := 2) (v := ?_) rfl (by kernel_rfl) (by kernel_rfl) (by kernel_rfl) (fun _ _ _ h => h) (Or.inl ⟨by rfl, ?_⟩) (by first | assumption | trivial) ?_
      rotate_left 1
      · (intro w9 hSw; obtain ⟨s1, s2⟩ := hSw; go_simp; try (with_reducible rfl))
      try simp only [Act.put, List.setIfInBounds_toArray, List.set_cons_zero, List.set_cons_succ, List.getElem_toArray, List.getElem_cons_zero, List.getElem_cons_succ]
      refine wpAnyH_take (i := 3) (v := ?_) rfl (by kernel_rfl) (by kernel_rfl) (by kernel_rfl) (fun _ _ _ h => h) (Or.inl ⟨by rfl, ?_⟩) (by first | assumption | trivial) ?_
      rotate_left 1
      · (intro w9 hSw; obtain ⟨s1, s2⟩ := hSw; go_simp; try (with_reducible rfl))
      try simp only [Act.put, List.setIfInBounds_toArray, List.set_cons_zero, List.set_cons_succ, List.getElem_toArray, List.getElem_cons_zero, List.getElem_cons_succ]
      refine wpAnyH_take (i := 4) (v := ?_) rfl (by kernel_rfl) (by kernel_rfl) (by kernel_rfl) (fun _ _ _ h => h) (Or.inl ⟨by rfl, ?_⟩) (by first | assumption | trivial) ?_
      rotate_left 1
      · (intro w9 hSw; obtain ⟨s1, s2⟩ := hSw; go_simp; try (with_reducible rfl))
      try simp only [Act.put, List.setIfInBounds_toArray, List.set_cons_zero, List.set_cons_succ, List.getElem_toArray, List.getElem_cons_zero, List.getElem_cons_succ]
      refine wpAnyH_take (i := 5) (v := ?_) rfl (by kernel_rfl) (by kernel_rfl) (by kernel_rfl) (fun _ _ _ h => h) (Or.inl ⟨by rfl, ?_⟩) (by first | assumption | trivial) ?_
      rotate_left 1
      · (intro w9 hSw; obtain ⟨s1, s2⟩ := hSw; go_simp; try (with_reducible rfl))
      try simp only [Act.put, List.setIfInBounds_toArray, List.set_cons_zero, List.set_cons_succ, List.getElem_toArray, List.getElem_cons_zero, List.getElem_cons_succ]
      refine wpAnyH_take (i := 6) (v := ?_) rfl (by kernel_rfl) (by kernel_rfl) (by kernel_rfl) (fun _ _ _ h => h) (Or.inl ⟨by rfl, ?_⟩) (by first | assumption | trivial) ?_
      rotate_left 1
      · (intro w9 hSw; obtain ⟨s1, s2⟩ := hSw; go_simp; try (with_reducible rfl))
      try simp only [Act.put, List.setIfInBounds_toArray, List.set_cons_zero, List.set_cons_succ, List.getElem_toArray, List.getElem_cons_zero, List.getElem_cons_succ]
      refine wpAnyH_take (i := 7) (v := ?_) rfl (by kernel_rfl) (by kernel_rfl) (by kernel_rfl) (fun _ _ _ h => h) (Or.inl ⟨by rfl, ?_⟩) (by first | assumption | trivial) ?_
      rotate_left 1
      · (intro w9 hSw; obtain ⟨s1, s2⟩ := hSw; go_simp; try (with_reducible rfl))
      try simp only [Act.put, List.setIfInBounds_toArray, List.set_cons_zero, List.set_cons_succ, List.getElem_toArray, List.getElem_cons_zero, List.getElem_cons_succ]
      refine wpAnyH_take (i := 8) (v := ?_) rfl (by kernel_rfl) (by kernel_rfl) (by kernel_rfl) (fun _ _ _ h => h) (Or.inl ⟨by rfl, ?_⟩) (by first | assumption | trivial) ?_
      rotate_left 1
      · (intro w9 hSw; obtain ⟨s1, s2⟩ := hSw; go_simp; try (with_reducible rfl))
      try simp only [Act.put, List.setIfInBounds_toArray, List.set_cons_zero, List.set_cons_succ, List.getElem_toArray, List.getElem_cons_zero, List.getElem_cons_succ]
      refine wpAnyH_take (i := 9) (v := ?_) rfl (by kernel_rfl) (by kernel_rfl) (by kernel_rfl) (fun _ _ _ h => h) (Or.inl ⟨by rfl, ?_⟩) (by first | assumption | trivial) ?_
      rotate_left 1
      · (intro w9 hSw; obtain ⟨s1, s2⟩ := hSw; go_simp; try (with_reducible rfl))
      try simp only [Act.put, List.setIfInBounds_toArray, List.set_cons_zero, List.set_cons_succ, List.getElem_toArray, List.getElem_cons_zero, List.getElem_cons_succ]
      refine wpAnyH_take (i := 10) (v := ?_) rfl (by kernel_rfl) (by kernel_rfl) (by kernel_rfl) (fun _ _ _ h => h) (Or.inl ⟨by rfl, ?_⟩) (by first | assumption | trivial) ?_
      rotate_left 1
      · (intro w9 hSw; obtain ⟨s1, s2⟩ := hSw; go_simp; try (with_reducible rfl))
      try simp only [Act.put, List.setIfInBounds_toArray, List.set_cons_zero, List.set_cons_succ, List.getElem_toArray, List.getElem_cons_zero, List.getElem_cons_succ]
      refine wpAnyH_take (i := 11) (v := ?_) rfl (by kernel_rfl) (by kernel_rfl) (by kernel_rfl) (fun _ _ _ h => h) (Or.inl ⟨by rfl, ?_⟩) (by first | assumption | trivial) ?_
      rotate_left 1
      · (intro w9 hSw; obtain ⟨s1, s2⟩ := hSw; go_simp; try (with_reducible rfl))
      try simp only [Act.put, List.setIfInBounds_toArray, List.set_cons_zero, List.set_cons_succ, List.getElem_toArray, List.getElem_cons_zero, List.getElem_cons_succ]
      refine wpAnyH_take (i := 12) (v := ?_) rfl (by kernel_rfl) (by kernel_rfl) (by kernel_rfl) (fun _ _ _ h => h) (Or.inl ⟨by rfl, ?_⟩) (by first | assumption | trivial) ?_
      rotate_left 1
      · (intro w9 hSw; obtain ⟨s1, s2⟩ := hSw; go_simp; try (with_reducible rfl))
      try simp only [Act.put, List.setIfInBounds_toArray, List.set_cons_zero, List.set_cons_succ, List.getElem_toArray, List.getElem_cons_zero, List.getElem_cons_succ]
      refine wpAnyH_ready (rs := [1, 13]) (by kernel_rfl) (by simp) ?_
      refine AllReadyH.cons rfl (fun K hK => ?_) (AllReadyH.cons rfl (fun K hK => ?_) AllReadyH.nil)
      · go_simp
        refine hK.out _ _ (hHeld) (fun hHeld => ?_)
        clear hK K
        try simp only [Act.put, List.setIfInBounds_toArray, List.set_cons_zero, List.set_cons_succ, List.getElem_toArray, List.getElem_cons_zero, List.getElem_cons_succ]
        refine wpAnyH_ready (rs := [13]) (by kernel_rfl) (by simp) ?_
        refine AllReadyH.cons rfl (fun K hK => ?_) AllReadyH.nil
        go_simp
        refine hK.out _ _ (hSA.out) (fun hHeld => ?_)
        clear hK K
        try simp only [Act.put, List.setIfInBounds_toArray, List.set_cons_zero, List.set_cons_succ, List.getElem_toArray, List.getElem_cons_zero, List.getElem_cons_succ]
        refine wpAnyH_ready (rs := [14]) (by kernel_rfl) (by simp) ?_
        refine AllReadyH.cons rfl (fun K hK => ?_) AllReadyH.nil
        refine step_append_lies _ rfl (.tmp 107) (.tmp 119) 30 rfl B 73 iC _ 2 32 Try.underlying30 HCI0.out HC0.out HC1.out HC2.out rfl (by decide) _ l.length _ rfl HCU.out.cr.2.1 ⟨wr.heap.size, 0, none⟩ 1 1 [.int .u16 (xk : Int), .slice B3 n3 c3] rfl rfl (bcells (Row.new wr.drew [.int .u16 (xk : Int), .slice B3 n3 c3] 73 (0, 0))) (by simp [Value.oneCell']) (by omega) (by unfold maxLen; omega) (by omega) HCU.out.bl _ rfl ?_
        intro g9 cap9 w10 hown10 hgrow10 hat10 _
        have HN := Lib.hid (HCU.out.step HBB.out HQJ.out hown10 hgrow10)
        have hrt10 := HCU.out.rt.gr hgrow10 (fun i e => Nat.le_trans HBB.out (HCU.out.cr.2.1.lt i e).1)
        have k14 := hrt10.2.c14
        have f14 := hrt10.2.frozen 14
        have hS10 : (fun W => W.cell? (a.add (j * 3)) = some (.int .u16 (xk : Int)) ∧ W.cell? { block := (a.add (j * 3)).block, off := (a.add (j * 3)).off + 2 } = some (.slice B3 n3 c3)) w10 := by
          exact HTH.out w10 (HCU.out.tw.kept hgrow10 (own_apart HCU.out.tw HCU.out.cr.2.1 (by decide))) (fun p hp => (HCU.out.vo p hp).kept HCU.out.cr.2.1 (by decide) hgrow10)
        clear hrt10 hown10 hgrow10 hat10
        refine hK.out _ _ (hS10) (fun hHeld => ?_)
        clear hK K
        try simp only [Act.put, List.setIfInBounds_toArray, List.set_cons_zero, List.set_cons_succ, List.getElem_toArray, List.getElem_cons_zero, List.getElem_cons_succ]
        refine wpAnyH_take (i := 15) (v := ?_) rfl (by kernel_rfl) (by kernel_rfl) (by kernel_rfl) (fun _ _ _ h => h) (Or.inl ⟨by rfl, ?_⟩) (by first | assumption | trivial) ?_
        rotate_left 1
        · (intro w9 hSw; obtain ⟨s1, s2⟩ := hSw; go_simp; try (with_reducible rfl))
        try simp only [Act.put, List.setIfInBounds_toArray, List.set_cons_zero, List.set_cons_succ, List.getElem_toArray, List.getElem_cons_zero, List.getElem_cons_succ]
        refine wpAnyH_ready (rs := [16]) (by kernel_rfl) (by simp) ?_
        refine AllReadyH.cons rfl (fun K hK => ?_) AllReadyH.nil
        go_simp
        have hSE : (fun W => W.cell? (a.add (j * 3)) = some (.int .u16 (xk : Int)) ∧ W.cell? { block := (a.add (j * 3)).block, off := (a.add (j * 3)).off + 2 } = some (.slice B3 n3 c3)) (w10.setCell ⟨w.heap.size + 1 + 1, 14, none⟩ (.slice (some ⟨g9, 0, none⟩) (l.length + 1) cap9)) := by
          exact HTH.out _ HN.out.tw HN.out.vo
        refine hK.out _ _ (hSE) (fun hHeld => ?_)
        clear hK K
        try simp only [Act.put, List.setIfInBounds_toArray, List.set_cons_zero, List.set_cons_succ, List.getElem_toArray, List.getElem_cons_zero, List.getElem_cons_succ]
        refine wpAnyH_done (by kernel_rfl) ?_ _
        go_wp2_with fail
        go_roundw
        case rel => exact ⟨j + 1, by omega, by go_num, _, _, _, _, HN⟩
        case measure => simp [intOf]; omega
      · go_simp
        refine hK.out _ _ (hSA.out) (fun hHeld => ?_)
        clear hK K
        try simp only [Act.put, List.setIfInBounds_toArray, List.set_cons_zero, List.set_cons_succ, List.getElem_toArray, List.getElem_cons_zero, List.getElem_cons_succ]
        refine wpAnyH_ready (rs := [1]) (by kernel_rfl) (by simp) ?_
        refine AllReadyH.cons rfl (fun K hK => ?_) AllReadyH.nil
        go_simp
        refine hK.out _ _ (hHeld) (fun hHeld => ?_)
        clear hK K
        try simp only [Act.put, List.setIfInBounds_toArray, List.set_cons_zero, List.set_cons_succ, List.getElem_toArray, List.getElem_cons_zero, List.getElem_cons_succ]
        refine wpAnyH_ready (rs := [14]) (by kernel_rfl) (by simp) ?_
        refine AllReadyH.cons rfl (fun K hK => ?_) AllReadyH.nil
        refine step_append_lies _ rfl (.tmp 107) (.tmp 119) 30 rfl B 73 iC _ 2 32 Try.underlying30 HCI0.out HC0.out HC1.out HC2.out rfl (by decide) _ l.length _ rfl HCU.out.cr.2.1 ⟨wr.heap.size, 0, none⟩ 1 1 [.int .u16 (xk : Int), .slice B3 n3 c3] rfl rfl (bcells (Row.new wr.drew [.int .u16 (xk : Int), .slice B3 n3 c3] 73 (0, 0))) (by simp [Value.oneCell']) (by omega) (by unfold maxLen; omega) (by omega) HCU.out.bl _ rfl ?_
        intro g9 cap9 w10 hown10 hgrow10 hat10 _
        have HN := Lib.hid (HCU.out.step HBB.out HQJ.out hown10 hgrow10)
        have hrt10 := HCU.out.rt.gr hgrow10 (fun i e => Nat.le_trans HBB.out (HCU.out.cr.2.1.lt i e).1)
        have k14 := hrt10.2.c14
        have f14 := hrt10.2.frozen 14
        have hS10 : (fun W => W.cell? (a.add (j * 3)) = some (.int .u16 (xk : Int)) ∧ W.cell? { block := (a.add (j * 3)).block, off := (a.add (j * 3)).off + 2 } = some (.slice B3 n3 c3)) w10 := by
          exact HTH.out w10 (HCU.out.tw.kept hgrow10 (own_apart HCU.out.tw HCU.out.cr.2.1 (by decide))) (fun p hp => (HCU.out.vo p hp).kept HCU.out.cr.2.1 (by decide) hgrow10)
        clear hrt10 hown10 hgrow10 hat10
        refine hK.out _ _ (hS10) (fun hHeld => ?_)
        clear hK K
        try simp only [Act.put, List.setIfInBounds_toArray, List.set_cons_zero, List.set_cons_succ, List.getElem_toArray, List.getElem_cons_zero, List.getElem_cons_succ]
        refine wpAnyH_take (i := 15) (v := ?_) rfl (by kernel_rfl) (by kernel_rfl) (by kernel_rfl) (fun _ _ _ h => h) (Or.inl ⟨by rfl, ?_⟩) (by first | assumption | trivial) ?_
        rotate_left 1
        · (intro w9 hSw; obtain ⟨s1, s2⟩ := hSw; go_simp; try (with_reducible rfl))
        try simp only [Act.put, List.setIfInBounds_toArray, List.set_cons_zero, List.set_cons_succ, List.getElem_toArray, List.getElem_cons_zero, List.getElem_cons_succ]
        refine wpAnyH_ready (rs := [16]) (by kernel_rfl) (by simp) ?_
        refine AllReadyH.cons rfl (fun K hK => ?_) AllReadyH.nil
        go_simp
        have hSE : (fun W => W.cell? (a.add (j * 3)) = some (.int .u16 (xk : Int)) ∧ W.cell? { block := (a.add (j * 3)).block, off := (a.add (j * 3)).off + 2 } = some (.slice B3 n3 c3)) (w10.setCell ⟨w.heap.size + 1 + 1, 14, none⟩ (.slice (some ⟨g9, 0, none⟩) (l.length + 1) cap9)) := by
          exact HTH.out _ HN.out.tw HN.out.vo
        refine hK.out _ _ (hSE) (fun hHeld => ?_)
        clear hK K
        try simp only [Act.put, List.setIfInBounds_toArray, List.set_cons_zero, List.set_cons_succ, List.getElem_toArray, List.getElem_cons_zero, List.getElem_cons_succ]
        refine wpAnyH_done (by kernel_rfl) ?_ _
        go_wp2_with fail
        go_roundw
        case rel => exact ⟨j + 1, by omega, by go_num, _, _, _, _, HN⟩
        case measure => simp [intOf]; omega
    · have hje : j = n' := by omega
      subst hje
      obtain ⟨c9, hc9⟩ : ∃ c : Ck, c = { c0 with ca := l } := ⟨_, rfl⟩
      obtain ⟨s9, hs9⟩ : ∃ s : Ls, s = putC nol cA l.length cc vs := ⟨_, rfl⟩
      have HT : Hid (RT w xw zlit (cv c9 s9) wr) := Lib.hid (by rw [hc9, hs9]; exact HCA.out.rt)
      have hl9 : l = xs.map (fun y => (y.k, y.v)) := by
        rw [HCA.out.el, List.take_of_length_le (by rw [HNL.out]; exact Nat.le_refl _), ← HQS.out, List.map_map]
        rfl
      have hll : l.length ≤ 20000 := by
        rw [HCA.out.el]; simp; omega
      have HC : Hid (ChF (w.heap.size + 1 + 1 + 1) wr c9 s9) := Lib.hid (by
        rw [hc9, hs9]
        have h1 := HN0.out
        have hb := HBO.out
        refine (ch_cause (c := { c0 with ca := l }) { hb with ca := ?_ } h1.1 h1.2.1 h1.2.2.1 h1.2.2.2.1 (by show l.length ≤ 65536; omega) ?_ HCA.out.cr).lower (by have := HBB.out; omega)
        · intro y hy
          rw [hl9] at hy
          obtain ⟨z, hz, rfl⟩ := List.mem_map.1 hy
          exact ⟨(HSH.out z hz).1.1, (HSH.out z hz).1.2.2⟩
        · intro y hy
          have hy : y ∈ l := hy
          rw [hl9] at hy
          obtain ⟨z, hz, rfl⟩ := List.mem_map.1 hy
          exact (HSH.out z hz).2)
      have HTK0 : Hid (take ⟨k, f, v⟩ = if ok = true then mayO c9 else none) := Lib.hid (by
        rw [HTK0.out, hc9, hl9]
        cases ok <;> rfl)
      clear hc9 hs9 hl9 hll HCA
      go_upto_region 43 with fail
      cases ok with
      | false =>
        have HTK : Hid (take ⟨k, f, v⟩ = none) := Lib.hid (by rw [HTK0.out]; rfl)
        clear HTK0
        go_wp2_with ((refine wpList_store_row rfl 32 (.tmp 2) (.tmp 145) rfl (w.heap.size + 1) zlit rfl rfl 32 zlit HT.out.1.2.1 HI.out rfl HO.out ?_))
        have hT9 := HT.out.row zlit
        generalize World.setRow _ _ _ = W9 at hT9 ⊢
        have hz : Bk W9 (w.heap.size + 1) (cv zero nol) 32 := hT9.1.2.1
        refine bodyPost_ret (v := .tuple #[.agg (cv zero nol), .int .i64 50]) (by simp [results, Try.results13, go_sem, hz.c0, hz.c1, hz.c2, hz.c3, hz.c4, hz.c5, hz.c6, hz.c7, hz.c8, hz.c9, hz.c10, hz.c11, hz.c12, hz.c13, hz.c14, cv]) rfl (rt_none HTK.out hT9)
      | true =>
        have HTK : Hid (take ⟨k, f, v⟩ = mayO c9) := Lib.hid (by rw [HTK0.out]; rfl)
        clear HTK0
        obtain ⟨c, hc⟩ : ∃ c : Ck, c = c9 := ⟨_, rfl⟩
        obtain ⟨s, hs⟩ : ∃ s : Ls, s = s9 := ⟨_, rfl⟩
        rw [← hc] at HT HC HTK
        rw [← hs] at HT HC
        clear hc hs
        have HCI2 := Lib.hid (cvl_info c s)
        have HCI := Lib.hid (cv_info c s)
        have HCO := Lib.hid (cv_one c s)
        have HM := Lib.hid (rfMayL c s _ HC.out.ch)
        have t0 := HT.out.2.c0
        have t1 := HT.out.2.c1
        have t2 := HT.out.2.c2
        have t3 := HT.out.2.c3
        have t4 := HT.out.2.c4
        have t5 := HT.out.2.c5
        have t6 := HT.out.2.c6
        have t7 := HT.out.2.c7
        have t8 := HT.out.2.c8
        have t9 := HT.out.2.c9
        have t10 := HT.out.2.c10
        have t11 := HT.out.2.c11
        have t12 := HT.out.2.c12
        have t13 := HT.out.2.c13
        have t14 := HT.out.2.c14
        by_cases hm : may c
        · rw [mayB_true hm] at HM
          have HTK2 := Lib.hid (HTK.out.trans (mayO_yes hm))
          clear hm HTK
          go_wp2_with fail
          (with_reducible refine HM.out.mono ?_)
          rintro e W8 ⟨rfl, hb8⟩
          have HT8 := Lib.hid (HT.out.next hb8)
          have HC8 := Lib.hid (HC.out.next hb8)
          clear hb8 t0 t1 t2 t3 t4 t5 t6 t7 t8 t9 t10 t11 t12 t13 t14
          go_wp2_with (first
            | (refine wpList_load_row rfl 32 (.tmp 4) rfl (w.heap.size + 1 + 1) rfl 32 (cv c s) (0, 0) _ HT8.out.2 Try.underlying32 rfl HCI.out ?_)
            | (refine wpList_store_row rfl 32 (.tmp 2) (.tmp 146) rfl (w.heap.size + 1) (cv c s) rfl rfl 32 zlit HT8.out.1.2.1 HCI.out (cv_size _ _).symm HCO.out ?_))
          have hT9 := HT8.out.row (cv c s)
          have hC9 := HC8.out.rowF (g := w.heap.size + 1) (by omega) (cv c s)
          generalize World.setRow W8 _ _ = W9 at hT9 hC9 ⊢
          have hz := hT9.1.2.1
          refine bodyPost_ret (v := .tuple #[.agg (cv c s), .int .i64 0]) (by simp [results, Try.results13, go_sem, hz.c0, hz.c1, hz.c2, hz.c3, hz.c4, hz.c5, hz.c6, hz.c7, hz.c8, hz.c9, hz.c10, hz.c11, hz.c12, hz.c13, hz.c14, cv]) rfl (rt_some HTK2.out hT9 hC9)
        · rw [mayB_false hm] at HM
          have HTK2 := Lib.hid (HTK.out.trans (mayO_no hm))
          clear hm HTK
          have HTK := HTK2
          go_wp2_with fail
          (with_reducible refine HM.out.mono ?_)
          rintro e W8 ⟨rfl, hb8⟩
          have HT8 := Lib.hid (HT.out.next hb8)
          clear hb8 t0 t1 t2 t3 t4 t5 t6 t7 t8 t9 t10 t11 t12 t13 t14
          go_wp2_with ((refine wpList_store_row rfl 32 (.tmp 2) (.tmp 145) rfl (w.heap.size + 1) zlit rfl rfl 32 zlit HT8.out.1.2.1 HI.out rfl HO.out ?_))
          have hT9 := HT8.out.row zlit
          generalize World.setRow _ _ _ = W9 at hT9 ⊢
          have hz : Bk W9 (w.heap.size + 1) (cv zero nol) 32 := hT9.1.2.1
          refine bodyPost_ret (v := .tuple #[.agg (cv zero nol), .int .i64 50]) (by simp [results, Try.results13, go_sem, hz.c0, hz.c1, hz.c2, hz.c3, hz.c4, hz.c5, hz.c6, hz.c7, hz.c8, hz.c9, hz.c10, hz.c11, hz.c12, hz.c13, hz.c14, cv]) rfl (rt_none HTK.out hT9)
end Go.Proofs.Ytbliipjiilmbcaa
