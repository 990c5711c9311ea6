/-
  The document's inbox: a piece comes: whichever.
-/
import Derived.Test.YtednkcjmlpgipaaYP1i
import Derived.Test.YtednkcjmlpgipaaYDiAdd3
import Derived.Test.YtednkcjmlpgipaaYDiAdd4
import Derived.Test.YtednkcjmlpgipaaYDiAdd7
import Derived.Test.YtednkcjmlpgipaaYDiAdd8
import Derived.Test.YtednkcjmlpgipaaYDiSack
import Derived.Test.YtednkcjmlpgipaaYP1h
import Derived.Test.YtednkcjmlpgipaaYIxAdd
import Derived.Test.YtednkcjmlpgipaaYIxSack
import Derived.Test.YtednkcjmlpgipaaYP1a
import Derived.Test.YtednkcjmlpgipaaYIxKnown
import Derived.Test.YtednkcjmlpgipaaYP1e
import Derived.Test.YtednkcjmlpgipaaYP1d
namespace Go.Proofs.Ytednkcjmlpgipaa
set_option maxRecDepth 4000
open Go.RowKit Go.Maps
namespace Ix
set_option linter.unusedVariables false
set_option linter.unusedSimpArgs false
open Fg (Pc Ms mv Pq put)

theorem dadd_any {W w : World} {x : Nat} {b : Ib} {L : List Me} {R : List As} (h : DX W w x b L R) (ok : b.Ok) (hk : b.K.length ≤ 800) (t f si ns pp : Nat) (d : List Int) (A : Option Addr) (k c : Nat) (hq : (⟨t, f, si, ns, pp, d⟩ : Pc).Ok) (hp : Pin W (⟨t, f, si, ns, pp, d⟩, (A, k, c))) (hkl : k ≤ 4000000) :
    Calls Try.prog 12 #[.pointer (some ⟨x, 0, none⟩), .agg #[.int .u32 (t : Int), .int .u8 (f : Int), .int .u16 (si : Int), .int .u16 (ns : Int), .int .u32 (pp : Int), .slice A k c]] w fun e w' => e = .returned (.int .i64 ((b.add ⟨t, f, si, ns, pp, d⟩).2 : Nat)) ∧ ∃ L', DX W w' x (b.add ⟨t, f, si, ns, pp, d⟩).1 L' R := by
  by_cases h0 : d.length = 0
  · exact dadd_not h ok hk t f si ns pp d A k c hq hp hkl (.inl h0)
  by_cases h1 : b.st.has t = true
  · exact dadd_not h ok hk t f si ns pp d A k c hq hp hkl (.inr (.inl h1))
  by_cases h2 : 65535 < Gp.wy b.st.cum t
  · exact dadd_not h ok hk t f si ns pp d A k c hq hp hkl (.inr (.inr h2))
  have h1f : b.st.has t = false := by simpa using h1
  have hd1 : 1 ≤ d.length := by omega
  obtain ⟨wy, hwy⟩ : ∃ wy, Gp.wy b.st.cum t = wy := ⟨_, rfl⟩
  rw [hwy] at h2
  by_cases h3 : wy = 1
  · cases h4 : b.fits ⟨t, f, si, ns, pp, d⟩ with
    | false => exact dadd_first_full h ok hk t f si ns pp d A k c hq hp hkl hd1 h1f hwy h2 h3 h4
    | true =>
      by_cases h5 : b.nx.length ≤ si
      · exact dadd_first_sid h ok hk t f si ns pp d A k c hq hp hkl hd1 h1f hwy h2 h3 h4 h5
      · cases h6 : (put b.K ⟨t, f, si, ns, pp, d⟩).2 with
        | none => exact dadd_first_none h ok hk t f si ns pp d A k c hq hp hkl hd1 h1f hwy h2 h3 h4 (by omega) h6
        | some mn => exact dadd_first_some h ok hk t f si ns pp d A k c hq hp hkl hd1 h1f hwy h2 h3 h4 (by omega) (m := mn.1) (n' := mn.2) h6
  · cases h4 : b.fits ⟨t, f, si, ns, pp, d⟩ with
    | false => exact dadd_later_full h ok hk t f si ns pp d A k c hq hp hkl hd1 h1f hwy h2 h3 h4
    | true =>
      by_cases h5 : b.nx.length ≤ si
      · exact dadd_later_sid h ok hk t f si ns pp d A k c hq hp hkl hd1 h1f hwy h2 h3 h4 h5
      · cases h6 : (put b.K ⟨t, f, si, ns, pp, d⟩).2 with
        | none => exact dadd_later_none h ok hk t f si ns pp d A k c hq hp hkl hd1 h1f hwy h2 h3 h4 (by omega) h6
        | some mn => exact dadd_later_some h ok hk t f si ns pp d A k c hq hp hkl hd1 h1f hwy h2 h3 h4 (by omega) (m := mn.1) (n' := mn.2) h6
end Ix
end Go.Proofs.Ytednkcjmlpgipaa
/-
  The inbox and the document's, side by side.
-/
namespace Go.Proofs.Ytednkcjmlpgipaa
set_option maxRecDepth 4000
open Go.RowKit Go.Maps
namespace Ix
set_option linter.unusedVariables false
set_option linter.unusedSimpArgs false
open Fg (Pc Ms mv Pq put)

def Bo (W w : World) (x y : Nat) (b c : Ib) (L M : List Me) (R : List As) : Prop := ∃ (i : Iv) (j : Dv), Nw W w (i.parts x b b.whole L (j.parts y c M R)) ∧ i.Fit b L ∧ j.Fit W c M
section
variable {W w w' : World} {x y g : Nat} {b c : Ib} {L M : List Me} {R : List As} {cs : Array Value} {t : TypeId} {a1 a2 : As}
theorem two_perm (i : Iv) (j : Dv) (wl : Nat) : (i.parts x b wl L (j.parts y c M R)).Perm (j.parts y c M (i.parts x b wl L R)) := by
  unfold Iv.parts Dv.parts
  exact List.perm_append_comm_assoc [_, _, _, _, _, _, _] [_, _, _, _, _, _] R
theorem Bo.ix (h : Bo W w x y b c L M R) : ∃ j : Dv, j.Fit W c M ∧ IX W w x b L (j.parts y c M R) := by
  obtain ⟨i, j, hN, hi, hj⟩ := h
  exact ⟨j, hj, i, hN, hi⟩
theorem Bo.of_ix {j : Dv} (hj : j.Fit W c M) (h : IX W w x b L (j.parts y c M R)) : Bo W w x y b c L M R := by
  obtain ⟨i, hN, hi⟩ := h
  exact ⟨i, j, hN, hi, hj⟩
theorem Bo.dx (h : Bo W w x y b c L M R) : ∃ i : Iv, i.Fit b L ∧ DX W w y c M (i.parts x b b.whole L R) := by
  obtain ⟨i, j, hN, hi, hj⟩ := h
  exact ⟨i, hi, j, hN.perm (two_perm i j _), hj⟩
theorem Bo.of_dx {i : Iv} (hi : i.Fit b L) (h : DX W w y c M (i.parts x b b.whole L R)) : Bo W w x y b c L M R := by
  obtain ⟨j, hN, hj⟩ := h
  exact ⟨i, j, hN.perm (two_perm i j _).symm, hi, hj⟩
theorem Bo.next (h : Bo W w x y b c L M R) (hb : Below w.heap.size w w') : Bo W w' x y b c L M R := by
  obtain ⟨i, j, hN, hi, hj⟩ := h
  exact ⟨i, j, hN.next hb, hi, hj⟩
theorem Bo.below (h : Bo W w x y b c L M R) : Below W.heap.size W w := by
  obtain ⟨i, j, hN, hi, hj⟩ := h
  exact hN.below
theorem Bo.box (h : Bo W w x y b c L M R) (cs : Array Value) (t : TypeId) : Bo W (w.alloc (.cells cs t)) x y b c L M (BkA w.heap.size cs t :: R) := by
  obtain ⟨i, j, hN, hi, hj⟩ := h
  exact ⟨i, j, (hN.box cs t).perm (by unfold Iv.parts Dv.parts; exact List.perm_middle (l₁ := [_, _, _, _, _, _, _, _, _, _, _, _, _]).symm), hi, hj⟩
theorem Bo.less (h : Bo W w x y b c L M (a1 :: R)) : Bo W w x y b c L M R := by
  obtain ⟨i, j, hN, hi, hj⟩ := h
  have h2 := hN.perm (l' := a1 :: i.parts x b b.whole L (j.parts y c M R)) (by unfold Iv.parts Dv.parts; exact List.perm_middle (l₁ := [_, _, _, _, _, _, _, _, _, _, _, _, _]))
  exact ⟨i, j, h2.drop, hi, hj⟩
theorem Bo.bk0 (h : Bo W w x y b c L M (BkA g cs t :: R)) : Bk w g cs t := by
  obtain ⟨i, j, hN, hi, hj⟩ := h
  exact hN.bk (k := 13) rfl
theorem Bo.bk1 (h : Bo W w x y b c L M (a1 :: BkA g cs t :: R)) : Bk w g cs t := by
  obtain ⟨i, j, hN, hi, hj⟩ := h
  exact hN.bk (k := 14) rfl
theorem Bo.bk2 (h : Bo W w x y b c L M (a1 :: a2 :: BkA g cs t :: R)) : Bk w g cs t := by
  obtain ⟨i, j, hN, hi, hj⟩ := h
  exact hN.bk (k := 15) rfl
theorem Bo.row1 (h : Bo W w x y b c L M R) {e : Me} (he : e ∈ L) : Row w e.2.1 (bs e.1.d) ∧ e.1.d.length = e.2.2.1 := by
  obtain ⟨i, j, hN, hi, hj⟩ := h
  obtain ⟨F, ⟨hd, _⟩, _⟩ := hN.at (k := 6) (a := DatA L) rfl
  exact ⟨Fg.own_row (hd e he).2.1, (hd e he).1⟩
theorem Bo.row2 (h : Bo W w x y b c L M R) {e : Me} (he : e ∈ M) : Row w e.2.1 (bs e.1.d) ∧ e.1.d.length = e.2.2.1 := by
  obtain ⟨i, j, hN, hi, hj⟩ := h
  obtain ⟨F, ⟨hd, _⟩, _⟩ := hN.at (k := 12) (a := DatA M) rfl
  exact ⟨Fg.own_row (hd e he).2.1, (hd e he).1⟩
theorem Bo.new (h : Nw W w R) (n : Nat) (room most : Int) (cu : Nat) (hn : n < 65536) (hc : cu < 4294967296) :
    Calls Try.prog 9 #[.int .u16 (n : Int), .int .i64 room, .int .i64 most, .int .u32 (cu : Int)] w fun e w1 => ∃ x, e = .returned (.pointer (some ⟨x, 0, none⟩)) ∧
      Calls Try.prog 10 #[.int .u16 (n : Int), .int .i64 room, .int .i64 most, .int .u32 (cu : Int)] w1 fun e w2 => ∃ y, e = .returned (.pointer (some ⟨y, 0, none⟩)) ∧ Bo W w2 x y ⟨bnd room, bnd most, ⟨cu, [], []⟩, [], List.replicate n 0, [], []⟩ ⟨bnd room, bnd most, ⟨cu, [], []⟩, [], List.replicate n 0, [], []⟩ [] [] R := by
  refine (new_any h n room most cu hn hc).mono ?_
  rintro e w1 ⟨x, rfl, hx⟩
  refine ⟨x, rfl, ?_⟩
  obtain ⟨i, hN, hi⟩ := hx
  refine (dnew_dx hN n room most cu hn hc).mono ?_
  rintro e w2 ⟨y, rfl, hy⟩
  exact ⟨y, rfl, Bo.of_dx hi hy⟩
theorem Bo.add (h : Bo W w x y b c L M R) (ok : b.Ok) {q : Pq} (hq : PIn W q) (hk : q.2.2.1 ≤ 4000000) :
    Calls Try.prog 11 #[.pointer (some ⟨x, 0, none⟩), .agg #[.int .u32 (q.1.t : Int), .int .u8 (q.1.f : Int), .int .u16 (q.1.s : Int), .int .u16 (q.1.n : Int), .int .u32 (q.1.p : Int), .slice q.2.1 q.2.2.1 q.2.2.2]] w fun e w' => e = .returned (.int .i64 ((b.add q.1).2 : Nat)) ∧ ∃ L', Bo W w' x y (b.add q.1).1 c L' M R := by
  obtain ⟨j, hj, hI⟩ := h.ix
  refine (add_any hI ok q.1 q.2.1 q.2.2.1 q.2.2.2 hq.ok hq.len hk (fun w2 h2 => hq.row.below h2.below)).mono ?_
  rintro e w' ⟨he, L', hX, _⟩
  exact ⟨he, L', Bo.of_ix hj hX⟩
theorem pin_of {q : Pq} (hq : PIn W q) (h1 : 1 ≤ q.1.d.length) : Pin W q := by
  refine ⟨hq.len, hq.row, hq.nil, fun a ha => ?_⟩
  obtain ⟨v, l', hv⟩ := List.exists_cons_of_ne_nil (l := q.1.d) (fun e => by rw [e] at h1; simp at h1)
  obtain ⟨a', ha', hc⟩ := hq.row 0 (.int .u8 v) (by rw [hv]; rfl)
  rw [ha] at ha'
  injection ha' with ha'
  subst ha'
  exact block_lt_of_cell hc
theorem Bo.dadd (h : Bo W w x y b c L M R) (ok : c.Ok) (hkl : c.K.length ≤ 800) {q : Pq} (hq : PIn W q) (hk : q.2.2.1 ≤ 4000000) :
    Calls Try.prog 12 #[.pointer (some ⟨y, 0, none⟩), .agg #[.int .u32 (q.1.t : Int), .int .u8 (q.1.f : Int), .int .u16 (q.1.s : Int), .int .u16 (q.1.n : Int), .int .u32 (q.1.p : Int), .slice q.2.1 q.2.2.1 q.2.2.2]] w fun e w' => e = .returned (.int .i64 ((c.add q.1).2 : Nat)) ∧ ∃ M', Bo W w' x y b (c.add q.1).1 L M' R := by
  obtain ⟨i, hi, hD⟩ := h.dx
  obtain ⟨⟨t, f, si, ns, pp, d⟩, A, k, cp⟩ := q
  by_cases h0 : d.length = 0
  · refine (dadd_empty hD t f si ns pp d A k cp hq.len (by have h1 : d.length = k := hq.len; omega)).mono ?_
    rintro e w' ⟨he, M', hX⟩
    exact ⟨he, M', Bo.of_dx hi hX⟩
  · refine (dadd_any hD ok hkl t f si ns pp d A k cp hq.ok (pin_of hq (by show 1 ≤ d.length; omega)) hk).mono ?_
    rintro e w' ⟨he, M', hX⟩
    exact ⟨he, M', Bo.of_dx hi hX⟩
theorem Bo.recv (h : Bo W w x y b c L M R) (ok : b.Ok) :
    Calls Try.prog 13 #[.pointer (some ⟨x, 0, none⟩)] w fun e w' => (b.rd = [] ∧ e = .returned (.tuple #[.agg #[.int .u16 0, .bool false, .int .u32 0, .slice none 0 0], .bool false]) ∧ Bo W w' x y b c L M R) ∨
      ∃ (m : Ms) (l : List Ms) (A : Option Addr) (k n : Nat), b.rd = m :: l ∧ (m, (A, k, n)) ∈ L ∧ e = .returned (.tuple #[.agg #[.int .u16 (m.s : Int), .bool m.u, .int .u32 (m.p : Int), .slice A k n], .bool true]) ∧ Bo W w' x y { b with rd := l } c L M R := by
  obtain ⟨j, hj, hI⟩ := h.ix
  refine (recv_any hI ok).mono ?_
  rintro e w' (⟨h1, h2, h3⟩ | ⟨m, l, A, k, n, h1, h2, h3, h4⟩)
  · exact .inl ⟨h1, h2, Bo.of_ix hj h3⟩
  · exact .inr ⟨m, l, A, k, n, h1, h2, h3, Bo.of_ix hj h4⟩
theorem Bo.drecv (h : Bo W w x y b c L M R) :
    Calls Try.prog 14 #[.pointer (some ⟨y, 0, none⟩)] w fun e w' => (c.rd = [] ∧ e = .returned (.tuple #[.agg #[.int .u16 0, .bool false, .int .u32 0, .slice none 0 0], .bool false]) ∧ Bo W w' x y b c L M R) ∨
      ∃ (m : Ms) (l : List Ms) (A : Option Addr) (k n : Nat), c.rd = m :: l ∧ (m, (A, k, n)) ∈ M ∧ e = .returned (.tuple #[.agg #[.int .u16 (m.s : Int), .bool m.u, .int .u32 (m.p : Int), .slice A k n], .bool true]) ∧ Bo W w' x y b { c with rd := l } L M R := by
  obtain ⟨i, hi, hD⟩ := h.dx
  refine (drecv_any hD).mono ?_
  rintro e w' (⟨h1, h2, h3⟩ | ⟨m, l, A, k, n, h1, h2, h3, h4⟩)
  · exact .inl ⟨h1, h2, Bo.of_dx hi h3⟩
  · exact .inr ⟨m, l, A, k, n, h1, h2, h3, Bo.of_dx hi h4⟩
/-- The rows of an acknowledgement stay beside the document's. -/
theorem sk_perm (i : Iv) (j : Dv) (wl : Nat) (a r : As) : (a :: (i.parts x b wl L (j.parts y c M R)).set 1 r).Perm (j.parts y c M (a :: (i.parts x b wl L R).set 1 r)) := by
  unfold Iv.parts Dv.parts
  exact List.perm_append_comm_assoc [_, _, _, _, _, _, _, _] [_, _, _, _, _, _] R
theorem Bo.sacks (h : Bo W w x y b c L M R) (ok : b.Ok) (okc : c.Ok) :
    Calls Try.prog 16 #[.pointer (some ⟨x, 0, none⟩)] w fun e w' => ∃ A1 c1 A2 c2, e = .returned (.agg #[.int .u8 3, .int .u8 0, .int .u32 0, .int .u32 (b.rwnd : Int), .int .u32 (b.st.cum : Int), .int .u16 0, .int .u16 0, .int .u16 0, .int .u16 0, .int .u32 0, .slice none 0 0, .slice none 0 0, .slice A1 b.st.gaps.length c1, .slice A2 b.st.ds.length c2, .slice none 0 0]) ∧
      Calls Try.prog 17 #[.pointer (some ⟨y, 0, none⟩)] w' fun e w'' => ∃ B1 d1 B2 d2, e = .returned (.agg #[.int .u8 3, .int .u8 0, .int .u32 0, .int .u32 (c.rwnd : Int), .int .u32 (c.st.cum : Int), .int .u16 0, .int .u16 0, .int .u16 0, .int .u16 0, .int .u32 0, .slice none 0 0, .slice none 0 0, .slice B1 c.st.gaps.length d1, .slice B2 c.st.ds.length d2, .slice none 0 0]) ∧
        Row w'' A1 (Gp.gs b.st.gaps) ∧ Row w'' A2 (ns .u32 b.st.ds) ∧ Row w'' B1 (Gp.gs c.st.gaps) ∧ Row w'' B2 (ns .u32 c.st.ds) ∧ Bo W w'' x y (b.setSt { b.st with ds := [] }) (c.setSt { c.st with ds := [] }) L M R := by
  obtain ⟨j, hj, hI⟩ := h.ix
  refine (sack_rows hI ok).mono ?_
  rintro e w' ⟨A1, c1, A2, c2, he, i, hN, hf⟩
  refine ⟨A1, c1, A2, c2, he, ?_⟩
  obtain ⟨T, hT⟩ : ∃ T, b.setSt { b.st with ds := [] } = T := ⟨_, rfl⟩
  rw [hT] at hN hf ⊢
  have hD : DX W w' y c M (RwA A1 (Gp.gs b.st.gaps) :: (i.parts x T T.whole L R).set 1 (rwith (PAs i.s T.st) A2 (ns .u32 b.st.ds))) := ⟨j, hN.perm (sk_perm i j _ _ _), hj⟩
  refine (dsack_any hD okc).mono ?_
  rintro e w'' ⟨B1, d1, B2, d2, he2, hb1, hb2, hD2⟩
  have hR := hD2.rest
  obtain ⟨F1, r1, _⟩ := hR.at (k := 0) rfl
  obtain ⟨F2, r2, _⟩ := hR.at (k := 2) (a := rwith (PAs i.s T.st) A2 (ns .u32 b.st.ds)) rfl
  refine ⟨B1, d1, B2, d2, he2, r1.1, r2.2.1, hb1, hb2, ?_⟩
  obtain ⟨T', hT'⟩ : ∃ T', c.setSt { c.st with ds := [] } = T' := ⟨_, rfl⟩
  rw [hT'] at hD2 ⊢
  obtain ⟨j', hN2, hj'⟩ := hD2
  have h1 := (hN2.perm (sk_perm (c := T') i j' _ _ _).symm).drop
  have h2 := h1.sub (k := 1) (a := rwith (PAs i.s T.st) A2 (ns .u32 b.st.ds)) (b := PAs i.s T.st) rfl (fun F r => r.1)
  exact ⟨i, j', h2, hf, hj'⟩
theorem Bo.cum (h : Bo W w x y b c L M R) : Calls Try.prog 20 #[.pointer (some ⟨x, 0, none⟩)] w fun e w' => e = .returned (.int .u32 (b.st.cum : Int)) ∧ w = w' := by
  obtain ⟨j, hj, hI⟩ := h.ix
  exact cum_any hI
theorem Bo.ready (h : Bo W w x y b c L M R) : Calls Try.prog 21 #[.pointer (some ⟨x, 0, none⟩)] w fun e w' => e = .returned (.int .i64 (b.rd.length : Int)) ∧ w = w' := by
  obtain ⟨j, hj, hI⟩ := h.ix
  exact ready_any hI
theorem Bo.held (h : Bo W w x y b c L M R) (ok : b.Ok) : Calls Try.prog 22 #[.pointer (some ⟨x, 0, none⟩)] w fun e w' => e = .returned (.int .i64 (b.held : Int)) ∧ Below w.heap.size w w' := by
  obtain ⟨j, hj, hI⟩ := h.ix
  exact held_any hI ok
theorem Bo.rwnd (h : Bo W w x y b c L M R) (ok : b.Ok) : Calls Try.prog 24 #[.pointer (some ⟨x, 0, none⟩)] w fun e w' => e = .returned (.int .u32 (b.rwnd : Int)) ∧ Below w.heap.size w w' := by
  obtain ⟨j, hj, hI⟩ := h.ix
  exact rwnd_any hI ok
theorem Bo.dheld (h : Bo W w x y b c L M R) (ok : c.Ok) : Calls Try.prog 23 #[.pointer (some ⟨y, 0, none⟩)] w fun e w' => e = .returned (.int .i64 (c.held : Int)) ∧ w = w' := by
  obtain ⟨i, hi, hD⟩ := h.dx
  exact dheld_dx hD ok
theorem Bo.drwnd (h : Bo W w x y b c L M R) (ok : c.Ok) : Calls Try.prog 25 #[.pointer (some ⟨y, 0, none⟩)] w fun e w' => e = .returned (.int .u32 (c.rwnd : Int)) ∧ w.drew = w' := by
  obtain ⟨i, hi, hD⟩ := h.dx
  exact drwnd_dx hD ok
/-- What the law loads of the document's. -/
theorem Bo.loads (h : Bo W w x y b c L M R) : ∃ (s : Nat) (A : Option Addr) (n : Nat), ∀ w2, Below w.heap.size w w2 → w2.cell? ⟨y, 3, none⟩ = some (.pointer (some ⟨s, 0, none⟩)) ∧ w2.cell? ⟨s, 0, none⟩ = some (.int .u32 (c.st.cum : Int)) ∧ w2.cell? ⟨y, 65542, none⟩ = some (.slice A c.rd.length n) := by
  obtain ⟨i, hi, j, hN0, hf⟩ := h.dx
  obtain ⟨F3, hq3, _⟩ := hN0.at (k := 4) rfl
  obtain ⟨Ar, cr, hvr, _, _⟩ := hq3.1.form
  refine ⟨j.s, Ar, cr, fun w2 hb => ?_⟩
  have hN := hN0.next hb
  have hbx := hN.bk (k := 0) rfl
  obtain ⟨F0, hs, _⟩ := hN.at (k := 1) rfl
  obtain ⟨vw, v, hsb, _⟩ := id hs
  have c7 := (hbx.cell 65542).trans (dxc_ready hf.nx)
  have e1 : c.rd.length = j.rM.length := by rw [← hf.rd, List.length_map]
  rw [hvr, ← e1] at c7
  exact ⟨(hbx.cell 3).trans dxc_head.2.2.2.1, (hsb.cell 0).trans rfl, c7⟩
end
end Ix
end Go.Proofs.Ytednkcjmlpgipaa
/-
  InboxPlays: what a call does to how many pieces wait.
-/
namespace Go.Proofs.Ytednkcjmlpgipaa
set_option maxRecDepth 4000
open Go.RowKit Go.Maps
namespace Ix
set_option linter.unusedVariables false
set_option linter.unusedSimpArgs false
open Fg (Pc Ms mv Pq put tkK del)

theorem goOn_K : ∀ (f : Nat) (b : Ib) (m : Ms), (goOn f b m).K = b.K
  | 0, b, m => rfl
  | f + 1, b, m => by
    rw [goOn]
    split
    · rfl
    · rw [goOn_K f]
      rfl
theorem deal_K (b : Ib) (m : Ms) (n : Nat) : (b.deal m n).K = b.K := by
  unfold Ib.deal
  split
  · rfl
  · split
    · exact goOn_K _ _ _
    · split <;> rfl
theorem tkK_len (K : List Pc) (t : Nat) : ∀ c, (tkK K t c).length ≤ K.length
  | 0 => Nat.le_refl _
  | c + 1 => Nat.le_trans (List.length_filter_le _ _) (tkK_len K t c)
theorem put_len (K : List Pc) (x : Pc) : (put K x).1.length ≤ K.length + 1 := by
  unfold put
  split
  · exact Nat.le_succ _
  · split
    · simp
    · refine Nat.le_trans (tkK_len _ _ _) ?_
      simp
theorem join_len (b : Ib) (x : Pc) : (b.join x).K.length ≤ b.K.length + 1 := by
  cases h : (put b.K x).2 with
  | none =>
    rw [join_none h]
    exact put_len _ _
  | some mn =>
    rw [join_some (m := mn.1) (n := mn.2) h, deal_K]
    exact put_len _ _
theorem add_klen (b : Ib) (x : Pc) (h : b.st.Ok) (ht : x.t < 4294967296) : (b.add x).1.K.length ≤ b.K.length + 1 := by
  have hn : (b.noted x.t).K = b.K := by
    obtain ⟨s', _, e'⟩ := noted_is (b := b) (t := x.t) h ht
    rw [e']
    rfl
  rcases add_ways b x with ⟨e, _⟩ | ⟨_, _, e⟩ | ⟨_, _, _, e⟩ | ⟨_, _, _, _, e⟩ | ⟨_, _, _, _, e⟩
  · rw [e]; exact Nat.le_succ _
  · rw [e]
    show (b.noted x.t).K.length ≤ _
    rw [hn]; exact Nat.le_succ _
  · rw [e]; exact Nat.le_succ _
  · rw [e]
    show (b.noted x.t).K.length ≤ _
    rw [hn]; exact Nat.le_succ _
  · rw [e]
    show ((b.noted x.t).join x).K.length ≤ _
    have := join_len (b.noted x.t) x
    rw [hn] at this
    exact this
end Ix
end Go.Proofs.Ytednkcjmlpgipaa
