/-
  TlvGoes: the walk.
-/
import Derived.Test.YtlcmfhikcdppoaaTlvPuts
import Derived.Sort.CutIn
namespace Go.Proofs.Ytlcmfhikcdppoaa
open Go.RowKit Wire Tlv Go.Shelf
attribute [local go_sem] Oper.semAt_some

theorem KeepsOthers.of_below {W W' : World} (h : Below W.heap.size W W') : KeepsOthers W W' := ⟨h.size, fun k _ hk _ => (h.block k (Array.getElem?_eq_some_iff.1 hk).1).trans hk⟩
theorem Tb.set {B b : Nat} {qs : List Q} {A : Option Addr} {n c : Nat} {W : World} {cs : Array Value} {t : TypeId} (h : Tb B qs A n c W) (hb : Bk W b cs t) (h1 : t ≠ 5) (h2 : t ≠ 25) (i : Nat) (u : Value) : Tb B qs A n c (W.setCell ⟨b, i, none⟩ u) :=
  ⟨h.1, owns_set h.2.1 hb h2 i, fun q hq => (h.2.2 q hq).set hb h1 i u⟩
theorem Tb.ths {B : Nat} {qs : List Q} {A : Option Addr} {n c : Nat} {W : World} (h : Tb B qs A n c W) : Ths W A qs := ⟨row_of_owns h.2.1, fun q hq => (h.2.2 q hq).vl⟩
/-- What stands through the law's loops: the number, the result, the wanted things, whether it ends well. -/
def Gx (w : World) (b7 b8 B : Nat) (most : Int) (well : Bool) (A : Option Addr) (N c : Nat) (qs : List Q) (W : World) : Prop := Bk W w.heap.size #[.int .i64 most] 3 ∧ Bk W (w.heap.size + 1) #[.bool false] 4 ∧ Bk W b7 #[.slice A N c] 32 ∧ Bk W b8 #[.bool well] 4 ∧ Tb B qs A N c W ∧ Below w.heap.size w W
theorem Gx.next {w : World} {b7 b8 B : Nat} {most : Int} {well : Bool} {A : Option Addr} {N c : Nat} {qs : List Q} {W W' : World} (h : Gx w b7 b8 B most well A N c qs W) (hb : Below W.heap.size W W') : Gx w b7 b8 B most well A N c qs W' :=
  ⟨h.1.next hb, h.2.1.next hb, h.2.2.1.next hb, h.2.2.2.1.next hb, h.2.2.2.2.1.next hb, bnext' h.2.2.2.2.2 hb⟩
theorem Gx.alloc {w : World} {b7 b8 B : Nat} {most : Int} {well : Bool} {A : Option Addr} {N c : Nat} {qs : List Q} {W : World} (h : Gx w b7 b8 B most well A N c qs W) (o : Obj) : Gx w b7 b8 B most well A N c qs (W.alloc o) := h.next ((Below.refl _ _).alloc (Nat.le_refl _) o)
theorem Gx.calm {w : World} {b7 b8 B C : Nat} {most : Int} {well : Bool} {A : Option Addr} {N c : Nat} {qs : List Q} {W W' : World} (h : Gx w b7 b8 B most well A N c qs W) (hw : w.heap.size ≤ C) (hc : Calm C W W') : Gx w b7 b8 B most well A N c qs W' :=
  ⟨h.1.calm hc, h.2.1.calm hc, h.2.2.1.calm hc, h.2.2.2.1.calm hc, h.2.2.2.2.1.calm hc, h.2.2.2.2.2.trans (hc.1.mono hw)⟩
theorem Gx.set {w : World} {b7 b8 B d : Nat} {most : Int} {well : Bool} {A : Option Addr} {N c : Nat} {qs : List Q} {W : World} {cs : Array Value} {t : TypeId} (h : Gx w b7 b8 B most well A N c qs W) (hd : Bk W d cs t) (h1 : t ≠ 5) (h2 : t ≠ 25) (hw : w.heap.size + 1 < d) (h7 : d ≠ b7) (h8 : d ≠ b8) (u : Value) :
    Gx w b7 b8 B most well A N c qs (W.setCell ⟨d, 0, none⟩ u) :=
  ⟨h.1.other (by omega) 0 u, h.2.1.other (by omega) 0 u, h.2.2.1.other (Ne.symm h7) 0 u, h.2.2.2.1.other (Ne.symm h8) 0 u, h.2.2.2.2.1.set hd h1 h2 0 u, h.2.2.2.2.2.setCell (p := ⟨d, 0, none⟩) (by show w.heap.size ≤ d; omega) u⟩
/-- Between two rounds of the first loop. -/
def Gi (G : World → Prop) (g N hi : Nat) (pre : List Ev) (W : World) : Prop := G W ∧ Bk W (g + 1 + 1) #[.int .i64 ((min pre.length N : Nat) : Int)] 3 ∧ Bk W (g + 1 + 1 + 1) #[.bool (decide (N < pre.length))] 4 ∧ hi ≤ W.heap.size
theorem Gi.calm {G : World → Prop} {g N hi B : Nat} {pre : List Ev} {W W' : World} (hG : ∀ W W', G W → Calm B W W' → G W') (h : Gi G g N hi pre W) (hc : Calm B W W') : Gi G g N hi pre W' := ⟨hG _ _ h.1 hc, h.2.1.calm hc, h.2.2.1.calm hc, Nat.le_trans h.2.2.2 hc.1.size⟩
/-- The result stored, both marks taken. -/
theorem two_marks {w w9 : World} {D D2 : Nat} (h1 : Bk w9 (w.heap.size + 1) #[.bool false] 4) (hB : Below w.heap.size w w9) (hd : w9.heap[D]? = some (.deferred (some []))) (hd2 : w9.heap[D2]? = some (.deferred (some []))) (hne : D < D2) (hw : w.heap.size + 1 < D) :
    (w9.setCell ⟨w.heap.size + 1, 0, none⟩ (.bool true)).heap[D2]? = some (.deferred (some [])) ∧ ((w9.setCell ⟨w.heap.size + 1, 0, none⟩ (.bool true)).putObj D2 (.deferred none)).heap[D]? = some (.deferred (some [])) ∧
      (((w9.setCell ⟨w.heap.size + 1, 0, none⟩ (.bool true)).putObj D2 (.deferred none)).putObj D (.deferred none)).cell? ⟨w.heap.size + 1, 0, none⟩ = some (.bool true) ∧ Below w.heap.size w (((w9.setCell ⟨w.heap.size + 1, 0, none⟩ (.bool true)).putObj D2 (.deferred none)).putObj D (.deferred none)) := by
  have e2 : (w9.setCell ⟨w.heap.size + 1, 0, none⟩ (.bool true)).heap[D2]? = some (.deferred (some [])) := (Below.heap_setCell _ _ _ D2 (by show D2 ≠ w.heap.size + 1; omega)).trans hd2
  have e1 : (w9.setCell ⟨w.heap.size + 1, 0, none⟩ (.bool true)).heap[D]? = some (.deferred (some [])) := (Below.heap_setCell _ _ _ D (by show D ≠ w.heap.size + 1; omega)).trans hd
  have e3 : ((w9.setCell ⟨w.heap.size + 1, 0, none⟩ (.bool true)).putObj D2 (.deferred none)).heap[D]? = some (.deferred (some [])) := (World.putObj_heap_other (by omega)).trans e1
  have c1 := Calm.of_put (B := w.heap.size) (.deferred none) e2 rfl (by omega)
  have c2 := Calm.of_put (B := w.heap.size) (.deferred none) e3 rfl (by omega)
  have b1 := h1.set 0 (.bool true)
  simp at b1
  have g0 := ((b1.calm c1).calm c2).cell 0
  simp at g0
  exact ⟨e2, e3, g0, ((hB.setCell (p := ⟨w.heap.size + 1, 0, none⟩) (by simp) _).trans c1.1).trans c2.1⟩
theorem ev_split {ch : Bool} {l : List Int} {P t : List (Tv × Int)} {y : Tv × Int} (h : ev ch l = P ++ y :: t) : ((tl ch l).1[P.length]? = some y.1 ∧ P.length < (tl ch l).1.length ∧ y.2 = 0) ∨ (P.length = (tl ch l).1.length ∧ (tl ch l).2 = false ∧ y = (none_, 40)) := by
  have e := congrArg (fun r : List (Tv × Int) => r[P.length]?) h
  simp only [List.getElem?_append_right (Nat.le_refl _), Nat.sub_self, List.getElem?_cons_zero] at e
  unfold ev at e
  by_cases hj : P.length < (tl ch l).1.length
  · left
    rw [List.getElem?_append_left (by simpa using hj), List.getElem?_map, List.getElem?_eq_getElem hj] at e
    simp only [Option.map_some, Option.some.injEq] at e
    rw [← e]
    exact ⟨List.getElem?_eq_getElem hj, hj, rfl⟩
  · right
    rw [List.getElem?_append_right (by simp; omega), List.length_map] at e
    split at e
    · simp at e
    · rename_i hf
      by_cases h0 : P.length - (tl ch l).1.length = 0
      · rw [h0] at e
        simp at e
        exact ⟨by omega, by simpa using hf, e.symm⟩
      · rw [List.getElem?_eq_none (by simp; omega)] at e
        cases e
theorem ev_length (ch : Bool) (l : List Int) : (ev ch l).length = (tl ch l).1.length + if (tl ch l).2 then 0 else 1 := by
  unfold ev
  split <;> simp_all
set_option maxRecDepth 100000 in
set_option maxHeartbeats 4000000 in
theorem tlvGoes_main (ch : Bool) (A : Option Addr) (n c : Nat) (l : List Int) (most : Int) (w : World) (hl : l.length = n) (hn : n ≤ 5000) (hnc : n ≤ c) (hcm : c ≤ maxLen) (hb : Byt l) (hr : Row w A (bs l)) (hm : -9223372036854775808 ≤ most ∧ most < 9223372036854775808) :
    Calls Try.prog 4 #[.bool ch, .slice A n c, .int .i64 most] w fun e w' => e = .returned (.bool true) ∧ Below w.heap.size w w' := by
  have HK := Lib.hid known_any
  have HRA := Lib.hid fun W (h : Below w.heap.size w W) => rall_any ch A n c l W hl (by omega) hnc hcm hb (hr.below h)
  have HTA := Lib.hid fun W (h : Below w.heap.size w W) => tall_any ch A n c l W hl (by omega) (hr.below h)
  have HLA := Lib.hid fun W (h : Below w.heap.size w W) => list_any ch A n c l W hl (by omega) hb (hr.below h)
  have HL := Lib.hid hl
  have HB := Lib.hid hb
  have HM := Lib.hid hm
  have d1 : decide ((5000 : Int) < (n : Int)) = false := by simp; omega
  have hb0 : Below w.heap.size w ((w.alloc (.cells #[.int .i64 most] 3)).alloc (.cells #[.bool false] 4)) := ((Below.refl _ _).alloc (Nat.le_refl _) _).alloc (by simp) _
  have hp0 : Hid (Bk ((w.alloc (.cells #[.int .i64 most] 3)).alloc (.cells #[.bool false] 4)) w.heap.size #[.int .i64 most] 3 ∧ Bk ((w.alloc (.cells #[.int .i64 most] 3)).alloc (.cells #[.bool false] 4)) (w.heap.size + 1) #[.bool false] 4) := by
    have e2 := Bk.new (w.alloc (.cells #[.int .i64 most] 3)) #[.bool false] 4
    rw [World.size_alloc] at e2
    exact ⟨(Bk.new w _ _).alloc _, e2⟩
  have HB0 := Lib.hid hb0
  clear hl hnc hcm hb hr hb0 hm
  refine calls_marks Try.func4 rfl ?_
  simp only [Try.ntmps4, List.size_toArray, List.length_cons, List.length_nil, Nat.reduceAdd, Nat.reduceSub, Array.replicate_succ, Array.replicate_zero, List.push_toArray, List.append_toArray, List.nil_append, List.cons_append]
  go_wp2_with fail
  refine (HK.out _).mono ?_
  rintro e w1 ⟨rfl, hb1⟩
  have HB1 := Lib.hid (bnext' HB0.out hb1)
  have HP1 : Hid (Bk w1 w.heap.size #[.int .i64 most] 3 ∧ Bk w1 (w.heap.size + 1) #[.bool false] 4) := ⟨hp0.out.1.next hb1, hp0.out.2.next hb1⟩
  clear hb1 hp0 HB0
  go_wp2_with fail
  refine (HRA.out w1 HB1.out).mono ?_
  rintro e w2 ⟨A7, N, c7, qs, rfl, hqs, ht2⟩
  have hg2 : Gx w w2.heap.size (w2.heap.size + 1) w1.heap.size most (tl ch l).2 A7 N c7 qs ((((w2.alloc (.cells #[.slice A7 N c7] 32)).alloc (.cells #[.bool (tl ch l).2] 4)).alloc (.cells #[.int .i64 0] 3)).alloc (.cells #[.bool false] 4)) := by
    have e8 := Bk.new (w2.alloc (.cells #[.slice A7 N c7] 32)) #[.bool (tl ch l).2] 4
    rw [World.size_alloc] at e8
    have hb2 : Below w.heap.size w w2 := bnext' HB1.out ht2.2.2.2
    have hs2 := hb2.size
    exact ⟨(((((HP1.out.1.nextB ht2.2.2.2 HP1.out.1.lt).alloc _).alloc _).alloc _).alloc _), (((((HP1.out.2.nextB ht2.2.2.2 HP1.out.2.lt).alloc _).alloc _).alloc _).alloc _), (((Bk.new w2 _ _).alloc _).alloc _).alloc _, (e8.alloc _).alloc _,
      ⟨ht2.1, (((ht2.2.1.alloc _).alloc _).alloc _).alloc _, fun q hq => ((((ht2.2.2.1 q hq).next ((Below.refl _ _).alloc (Nat.le_refl _) _)).next ((Below.refl _ _).alloc (Nat.le_refl _) _)).next ((Below.refl _ _).alloc (Nat.le_refl _) _)).next ((Below.refl _ _).alloc (Nat.le_refl _) _)⟩,
      (((hb2.alloc hs2 _).alloc (by simp; omega) _).alloc (by simp; omega) _).alloc (by simp; omega) _⟩
  have h9 : Bk ((((w2.alloc (.cells #[.slice A7 N c7] 32)).alloc (.cells #[.bool (tl ch l).2] 4)).alloc (.cells #[.int .i64 0] 3)).alloc (.cells #[.bool false] 4)) (w2.heap.size + 1 + 1) #[.int .i64 0] 3 := by
    have e8 := Bk.new ((w2.alloc (.cells #[.slice A7 N c7] 32)).alloc (.cells #[.bool (tl ch l).2] 4)) #[.int .i64 0] 3
    simp only [World.size_alloc] at e8
    exact e8.alloc _
  have h10 : Bk ((((w2.alloc (.cells #[.slice A7 N c7] 32)).alloc (.cells #[.bool (tl ch l).2] 4)).alloc (.cells #[.int .i64 0] 3)).alloc (.cells #[.bool false] 4)) (w2.heap.size + 1 + 1 + 1) #[.bool false] 4 := by
    have e8 := Bk.new (((w2.alloc (.cells #[.slice A7 N c7] 32)).alloc (.cells #[.bool (tl ch l).2] 4)).alloc (.cells #[.int .i64 0] 3)) #[.bool false] 4
    simp only [World.size_alloc] at e8
    exact e8
  have hsz : ((((w2.alloc (.cells #[.slice A7 N c7] 32)).alloc (.cells #[.bool (tl ch l).2] 4)).alloc (.cells #[.int .i64 0] 3)).alloc (.cells #[.bool false] 4)).heap.size = w2.heap.size + 1 + 1 + 1 + 1 := by simp only [World.size_alloc]
  have hw2 : w.heap.size + 1 < w2.heap.size := by have := ht2.2.2.2.size; have := HP1.out.2.lt; omega
  have hNl : 4 * N ≤ n := by
    have := tl_len ch l.length l (Nat.le_refl _)
    rw [HL.out, ← hqs, List.length_map, ht2.1] at this
    exact this
  have HQS := Lib.hid hqs
  obtain ⟨well, hwell⟩ : ∃ well, (tl ch l).2 = well := ⟨_, rfl⟩
  rw [hwell] at hg2 h9 h10 hsz
  rw [hwell]
  have HWELL := Lib.hid hwell
  clear hqs ht2 HP1 hwell
  go_wp2_with fail
  obtain ⟨g, hg⟩ : ∃ g, w2.heap.size = g := ⟨_, rfl⟩
  rw [hg] at hg2 h9 h10 hsz hw2
  rw [hg]
  generalize (((w2.alloc (.cells #[.slice A7 N c7] 32)).alloc (.cells #[.bool well] 4)).alloc (.cells #[.int .i64 0] 3)).alloc (.cells #[.bool false] 4) = W3 at hg2 h9 h10 hsz ⊢
  clear hg
  refine (HTA.out W3 hg2.2.2.2.2.2).mono ?_
  rintro e w4 ⟨A1, n1, c1, ob, rfl, hI1, hob, hob2, hb4⟩
  rw [hsz] at hI1 hob
  have hs4 := hb4.size
  rw [hsz] at hs4
  have hn1 : n1 ≤ 100000 := by have := hI1.2.2.1; rw [bs_len, HL.out] at this; omega
  have hseq := iter_seq ch A1 n1 c1 l (g + 1 + 1 + 1 + 1) ob (g + 1 + 1 + 1 + 1) w4 hn1 HB.out hI1 ⟨Nat.le_refl _, by have := hI1.1.lt; exact this⟩ ⟨hob, hob2⟩
  have HS := Lib.hid hseq
  have HG4 := Lib.hid (hg2.next hb4)
  have H9 := Lib.hid (h9.next hb4)
  have H10 := Lib.hid (h10.next hb4)
  have HSZ := Lib.hid hsz
  clear hseq hg2 h9 h10 hI1 hb4
  go_wp2_with fail
  -- LOOP1
  have hws : w.heap.size ≤ w4.heap.size := by omega
  have HG0 : Hid (Gi (Gx w g (g + 1) w1.heap.size most well A7 N c7 qs) g N w4.heap.size [] w4) := ⟨HG4.out, by simpa using H9.out, by simpa using H10.out, Nat.le_refl _⟩
  have hmo : Try.prog.follows .mixedOrders = true := by kernel_rfl
  clear H9 H10 HG4
  refine (wpIn_wide (n := 9)).1 ?_
  refine range_wpIn (gf := 19) (lb := #[.pointer (some ⟨ob, 0, none⟩), .pointer (some ⟨g + 1 + 1 + 1 + 1, 0, none⟩)]) rfl (enters_of Try.func19 (by kernel_rfl) rfl) HS.out (Nat.le_refl _) (fun _ => rfl)
    (Gi (Gx w g (g + 1) w1.heap.size most well A7 N c7 qs) g N w4.heap.size) (fun _ _ _ => False) (fun pre A B h hc => h.calm (fun _ _ h hc => h.calm hws hc) hc) (fun c pre A B h hc => h) HG0.out
    (fun pre x a W => ∃ Bx, Bk W Bx #[.int .u16 (x.1.1.k : Int), .int .u8 (x.1.1.f : Int), x.1.2] 25 ∧ Gi (Gx w g (g + 1) w1.heap.size most well A7 N c7 qs) g N w4.heap.size pre W ∧ Vev ch l w4.heap.size pre x W ∧
      a = { tmps := #[.bool ch, .slice A n c, .int .i64 most, undef, undef, .pointer (some ⟨w.heap.size, 0, none⟩), .pointer (some ⟨w.heap.size + 1, 0, none⟩), .pointer (some ⟨g, 0, none⟩), .pointer (some ⟨g + 1, 0, none⟩), .pointer (some ⟨g + 1 + 1, 0, none⟩), .pointer (some ⟨g + 1 + 1 + 1, 0, none⟩), .pointer (some ⟨Bx, 0, none⟩), .int .i64 x.2, undef, undef, undef, .bool true, .bool false, .slice A n c, .int .i64 (n : Int), .bool false, .tuple #[.slice A7 N c7, .bool well], .bool ch, .slice A n c, .tuple #[.slice A7 N c7, .bool well], .slice A7 N c7, .bool well, .bool ch, .slice A n c, .func (.func 19) #[] #[.pointer (some ⟨ob, 0, none⟩), .pointer (some ⟨g + 1 + 1 + 1 + 1, 0, none⟩)], .agg #[.int .u16 (x.1.1.k : Int), .int .u8 (x.1.1.f : Int), x.1.2], .int .i64 x.2, undef, undef, undef, undef, undef, undef, undef, undef, undef, undef, undef, undef, undef, undef, undef, undef, undef, undef, undef, undef, undef, undef, undef, undef, undef, undef, undef, undef, undef, undef, undef, undef, undef, undef, undef, undef, undef, undef, undef, undef, undef, undef, undef, undef, undef, undef, undef, undef, undef, undef, undef, undef, undef, undef, undef, undef, undef, undef, undef, undef, undef, undef, undef, undef, undef, undef, undef, undef, undef, undef, undef, undef, undef, undef, undef, undef, undef, undef, undef, undef, undef, undef, undef, undef, undef, undef, undef, undef, undef, undef, undef, undef], defers := [] })
    (fun pre x a₁ A B ⟨Bx, h1, h2, h3, h4⟩ hc => ⟨Bx, h1.calm hc, h2.calm (fun _ _ h hc => h.calm hws hc) hc, ⟨h3.1, h3.2.calm hc⟩, h4⟩) ?assign ?body ?done ?stop
  case assign =>
    intro y pre x W K hi hv hK
    obtain ⟨A2, n2, c2, hx2, _⟩ := hv.2.2
    have hbel : Below W.heap.size W (W.alloc (.cells #[.int .u16 (x.1.1.k : Int), .int .u8 (x.1.1.f : Int), x.1.2] 25)) := (Below.refl _ _).alloc (Nat.le_refl _) _
    have hla := hK _ _ hbel ⟨W.heap.size, Bk.new _ _ _, hi.calm (fun _ _ h hc => h.calm hws hc) (Calm.of_below hbel hi.2.2.2), ⟨hv.1, hv.2.next hbel⟩, rfl⟩
    rw [hx2] at hla
    have HLA := Lib.hid hla
    obtain ⟨⟨xt, xv⟩, xe⟩ := x
    simp only at hx2
    subst hx2
    clear hi hv hK hbel hla
    simp only [enc]
    gi_wp2
    exact HLA.out
  case body =>
    rintro y pre ⟨⟨xt, xv⟩, xe⟩ a₁ W hsize ⟨Bx, hx, hi, hv, rfl⟩
    obtain ⟨A2, n2, c2, hx2, _⟩ := hv.2.2
    simp only at hx2
    subst hx2
    simp only at hx
    obtain ⟨t, ht⟩ := hv.1
    have hsp := ev_split ht
    have hql : qs.length = N := hi.1.2.2.2.2.1.1
    have hN : (tl ch l).1.length = N := by rw [← HQS.out, List.length_map]; exact hql
    rw [hN, ← HQS.out, HWELL.out, List.length_map, List.getElem?_map] at hsp
    have hpn : pre.length ≤ N := by
      rcases hsp with ⟨_, h, _⟩ | ⟨h, _⟩ <;> omega
    obtain ⟨hgx, h9, h10, hhi⟩ := hi
    rw [Nat.min_eq_left hpn] at h9
    rw [show decide (N < pre.length) = false by simp; omega] at h10
    obtain ⟨j, hj⟩ : ∃ j, pre.length = j := ⟨_, rfl⟩
    have HPJ := Lib.hid hj
    rw [hj] at h9 hpn hsp
    clear hj
    rcases hsp with ⟨hq1, hjN, hxe⟩ | ⟨hjN, hwf, hq2⟩
    · have hjq : j < qs.length := by omega
      rw [List.getElem?_eq_getElem hjq] at hq1
      simp only [pl, Option.map_some, Option.some.injEq] at hq1
      simp only [pl] at hxe
      subst hxe
      subst hq1
      have hd10 := h10.set 0 (.bool false)
      simp at hd10
      have hg1 := hgx.set (d := g + 1 + 1 + 1) h10 (by decide) (by decide) (by omega) (by omega) (by omega) (.bool false)
      have h91 := h9.other (c := g + 1 + 1 + 1) (by omega) 0 (.bool false)
      have hx1 := hx.other (c := g + 1 + 1 + 1) (by intro e; subst e; have := (show W.heap[g + 1 + 1 + 1]? = _ from hx).symm.trans h10; simp at this) 0 (.bool false)
      have hv1 := hv.2.set h10 (by decide) 0 (.bool false)
      have r10 := h10.cell 0
      have r9 := h9.cell 0
      have r7 := hgx.2.2.1.cell 0
      have r8 := hgx.2.2.2.1.cell 0
      have s10 := hd10.cell 0
      have s9 := h91.cell 0
      have f9 := h91.frozen 0
      have f10 := h10.frozen 0
      have s7 := hg1.2.2.1.cell 0
      have x0 := hx1.cell 0
      have x1 := hx1.cell 1
      have x2 := hx1.cell 2
      simp at r10 r9 r7 r8 s10 s9 s7 x0 x1 x2
      obtain ⟨a7, rB, m, d, hA7, y0, y1, y2, ye, yl, yc, ym, yn, yo, yr, yz⟩ := hg1.2.2.2.2.1.ths.at hjq
      subst hA7
      have HV1 := Lib.hid hv1
      have HG1 := Lib.hid hg1
      have HX1 := Lib.hid hx1
      have H91 := Lib.hid h91
      have H101 := Lib.hid hd10
      have hjN' : (j : Int) < (N : Int) := by omega
      have cS : ∀ W5, Hid (Gx w g (g + 1) w1.heap.size most well (some a7) N c7 qs W5 ∧ Vo w4.heap.size W5 (qs[j].1, .slice A2 n2 c2)) → Calls Try.prog 12 #[.agg #[.int .u16 (qs[j].1.k : Int), .int .u8 (qs[j].1.f : Int), .slice A2 n2 c2], .agg #[.int .u16 (qs[j].1.k : Int), .int .u8 (qs[j].1.f : Int), .slice rB m d]] W5 fun e w' => e = .returned (.bool true) ∧ Below W5.heap.size W5 w' := fun W5 h => by
        obtain ⟨_, B1, m1, d1, _, _, _, _, e1, l1, _, _, _, _, q1, _⟩ := h.out.1.2.2.2.2.1.ths.at hjq
        rw [ye] at e1
        injection e1 with e1 e3 e4
        subst e1; subst e3; subst e4
        obtain ⟨B2, m2, d2, e2, l2, _, _, _, _, q2, _⟩ := h.out.2.vl
        injection e2 with e2 e5 e6
        subst e2; subst e5; subst e6
        exact same_any qs[j].1 _ _ _ _ _ _ W5 l2 l1 q2 q1
      have CS := Lib.hid cS
      have hSt : Hid (Gx w g (g + 1) w1.heap.size most well (some a7) N c7 qs (W.setCell ⟨g + 1 + 1 + 1, 0, none⟩ (.bool false)).drew ∧ Vo w4.heap.size (W.setCell ⟨g + 1 + 1 + 1, 0, none⟩ (.bool false)).drew (qs[j].1, .slice A2 n2 c2)) := ⟨hg1.next (Below.refl _ _).drew, hv1.next (Below.refl _ _).drew⟩
      have HKO : Hid (KeepsOthers W (W.setCell ⟨g + 1 + 1 + 1, 0, none⟩ (.bool false)) ∧ Kept (g + 1 + 1 + 1 + 1) w4.heap.size W (W.setCell ⟨g + 1 + 1 + 1, 0, none⟩ (.bool false)) ∧ W.heap.size ≤ (W.setCell ⟨g + 1 + 1 + 1, 0, none⟩ (.bool false)).heap.size) := ⟨KeepsOthers.setCell _ _ _, Kept.of_set _ (.inl (by show g + 1 + 1 + 1 < g + 1 + 1 + 1 + 1; omega)), by simp [World.setCell]⟩
      clear hx hv hgx h9 h10 hd10 hg1 h91 hx1 hv1 ht cS
      gi_wp2
      all_goals first
        | (exfalso; have hund : ∃ b : Bool, some undef = some (Value.bool b) := ⟨_, by assumption⟩; obtain ⟨b, hb⟩ := hund; simp [undef] at hb; done)
        | skip
      refine ⟨trivial, ?_⟩
      gi_wp2
      clear r10 r9 r7 r8 f10
      gi_cut [71] from 59 (fun v W9 => v = .bool false ∧ Hid (Below (W.setCell ⟨g + 1 + 1 + 1, 0, none⟩ (.bool false)).heap.size (W.setCell ⟨g + 1 + 1 + 1, 0, none⟩ (.bool false)) W9))
      case first =>
        gi_region_with_o (first
          | (refine ⟨trivial, ?_⟩; gi_at_call 12; (with_reducible refine (CallsIn.inRound y (callsIn_wide.2 (CS.out _ ?_))).mono ?_); assumption; rintro e w6 ⟨rfl, hb6⟩))
        all_goals
          have hfin := (Below.refl _ _).drew.trans hb6
          have HFIN := Lib.hid hfin
          clear hfin hb6
          gi_wp2
          gi_meet
          case rel => exact ⟨by simp; omega, HFIN⟩
      case rest =>
        obtain ⟨rfl, hb6⟩ := hcut
        have HG6 := Lib.hid (HG1.out.next hb6.out)
        have H96 := Lib.hid (H91.out.next hb6.out)
        have H106 := Lib.hid (H101.out.next hb6.out)
        have HO6 : Hid (KeepsOthers W wc ∧ Kept (g + 1 + 1 + 1 + 1) w4.heap.size W wc ∧ W.heap.size ≤ wc.heap.size) := ⟨HKO.out.1.trans (KeepsOthers.of_below hb6.out), HKO.out.2.1.trans (Kept.of_below hb6.out (Nat.le_trans hhi HKO.out.2.2)), Nat.le_trans HKO.out.2.2 hb6.out.size⟩
        have q9 := H96.out.cell 0
        have f9' := H96.out.frozen 0
        simp at q9
        have hn9 := H96.out.set 0 (.int .i64 ((j : Int) + 1))
        simp at hn9
        have HN9 := Lib.hid hn9
        clear hb6 hn9 s10 s9 f9 s7 x0 x1 x2 y0 y1 y2
        gi_wp2
        refine ⟨(HO6.out.1.trans (KeepsOthers.setCell _ _ _)).from _, HO6.out.2.1.trans (Kept.of_set _ (.inl (by show g + 1 + 1 < g + 1 + 1 + 1 + 1; omega))), HG6.out.set (d := g + 1 + 1) H96.out (by decide) (by decide) (by omega) (by omega) (by omega) _, ?_, ?_, Nat.le_trans hhi (Nat.le_trans HO6.out.2.2 (by simp [World.setCell]))⟩
        · rw [List.length_append, HPJ.out, List.length_singleton, Nat.min_eq_left (by omega)]
          exact HN9.out
        · rw [List.length_append, HPJ.out, List.length_singleton, show decide (N < j + 1) = false by simp; omega]
          exact H106.out.other (by omega) 0 _
    · simp only [pl, Prod.mk.injEq] at hq2
      obtain ⟨rfl, rfl⟩ := hq2
      subst hjN
      subst hwf
      have hn2 : n2 = 0 := by
        obtain ⟨_, m2, _, e2, l2, _⟩ := hv.2.vl
        injection e2 with _ e2 _
        rw [e2, ← l2]
        rfl
      subst hn2
      have hS := same_any none_ A2 0 c2 none 0 0 W rfl rfl (by intro i v h; simp [bs, none_] at h) (by intro i v h; simp [bs, none_] at h)
      have HSM : Hid (Calls Try.prog 12 #[.agg #[.int .u16 0, .int .u8 0, .slice A2 0 c2], .agg #[.int .u16 0, .int .u8 0, .slice none 0 0]] W fun e w' => e = .returned (.bool true) ∧ Below W.heap.size W w') := hS
      replace hx : Bk W Bx #[.int .u16 0, .int .u8 0, .slice A2 0 c2] 25 := hx
      have r10 := h10.cell 0
      have r9 := h9.cell 0
      have r7 := hgx.2.2.1.cell 0
      have r8 := hgx.2.2.2.1.cell 0
      have x0 := hx.cell 0
      have x1 := hx.cell 1
      have x2 := hx.cell 2
      simp at r10 r9 r7 r8 x0 x1 x2
      have HGX := Lib.hid hgx
      have H9 := Lib.hid h9
      have H10 := Lib.hid h10
      simp only [none_]
      clear hx hv hgx h9 h10 ht hS
      gi_wp2_with (refine ⟨trivial, ?_⟩; gi_at_call 12; refine (CallsIn.inRound y (callsIn_wide.2 HSM.out)).mono ?_; rintro e w6 ⟨rfl, hb6⟩; have h106 := H10.out.next hb6; have s10 := h106.cell 0; have f10 := h106.frozen 0; simp at s10; have hs10 := h106.set 0 (.bool true); simp at hs10; have t10 := hs10.cell 0; simp at t10; have HG6 := Lib.hid (HGX.out.next hb6); have H96 := Lib.hid (H9.out.next hb6); have HS10 := Lib.hid hs10; have H106 := Lib.hid h106; have HB6 := Lib.hid hb6; clear h106 hs10 hb6)
      refine ⟨((KeepsOthers.of_below HB6.out).trans (KeepsOthers.setCell _ _ _)).from _, (Kept.of_below HB6.out hhi).trans (Kept.of_set _ (.inl (by show g + 1 + 1 + 1 < g + 1 + 1 + 1 + 1; omega))), HG6.out.set (d := g + 1 + 1 + 1) H106.out (by decide) (by decide) (by omega) (by omega) (by omega) _, ?_, ?_, Nat.le_trans hhi (Nat.le_trans HB6.out.size (by simp [World.setCell]))⟩
      · rw [List.length_append, HPJ.out, List.length_singleton, Nat.min_eq_right (by omega)]
        exact H96.out.other (by omega) 0 _
      · rw [List.length_append, HPJ.out, List.length_singleton, show decide (j < j + 1) = true by simp]
        exact HS10.out
  case done =>
    rintro D xs W hD hS ⟨hgx, h9, h10, hhi⟩ hK
    have hxl : xs.length = N + if well then 0 else 1 := by
      have h1 := congrArg List.length hS
      have h2 := hgx.2.2.2.2.1.1
      rw [List.length_map, ev_length, ← HQS.out, List.length_map, h2, HWELL.out] at h1
      exact h1
    rw [show min xs.length N = N by rw [hxl]; split <;> omega] at h9
    rw [show decide (N < xs.length) = !well by rw [hxl]; cases well <;> simp] at h10
    have r9 := h9.cell 0
    have r7 := hgx.2.2.1.cell 0
    have r8 := hgx.2.2.2.1.cell 0
    have r10 := h10.cell 0
    simp at r9 r7 r8 r10
    have hbw : (!well == well) = false := by cases well <;> rfl
    have hbelow : Below W.heap.size W (W.alloc (.cells #[.int .i64 0] 3)) := (Below.refl _ _).alloc (Nat.le_refl _) _
    have HG5 := Lib.hid (hgx.next hbelow)
    have HP13 : Hid (Bk (W.alloc (.cells #[.int .i64 0] 3)) W.heap.size #[.int .i64 0] 3) := Bk.new _ _ _
    have HD5 : Hid ((W.alloc (.cells #[.int .i64 0] 3)).heap[D]? = some (.deferred (some []))) := (hbelow.block _ (Array.getElem?_eq_some_iff.1 hK).1).trans hK
    have hDW := (Array.getElem?_eq_some_iff.1 hK).1
    have HG := Lib.hid hgx
    have hgW : g + 1 < W.heap.size := hgx.2.2.2.1.lt
    clear hgx h9 h10 hS hxl hK hbelow
    go_wp2_with fail
    clear r9 r7 r8 r10
    refine (HTA.out _ HG5.out.2.2.2.2.2).mono ?_
    rintro e w5 ⟨A2, n2, c2, ob2, rfl, hI2, hob2', hob22, hb5⟩
    have hseq2 := iter_seq ch A2 n2 c2 l (W.heap.size + 1) ob2 (W.heap.size + 1) w5 (by have := hI2.2.2.1; rw [bs_len, HL.out] at this; omega) HB.out (by simpa using hI2) ⟨Nat.le_refl _, by have := hI2.1.lt; simpa using this⟩ ⟨by simpa using hob2', hob22⟩
    have HS2 := Lib.hid hseq2
    have HG6 := Lib.hid (HG5.out.next hb5)
    have HP6 := Lib.hid (HP13.out.next hb5)
    have HD6 : Hid (w5.heap[D]? = some (.deferred (some []))) := (hb5.block _ (Array.getElem?_eq_some_iff.1 HD5.out).1).trans HD5.out
    have hs5 := hb5.size
    rw [World.size_alloc] at hs5
    clear hseq2 hI2 hob2' hb5 HP13 HD5 HG5 HG
    go_wp2_with fail
    rename_i K hKK
    have hcont : ∀ (D2 : Nat) (W9 : World) (kk : Nat), w5.heap.size ≤ D2 → Hid (Gx w g (g + 1) w1.heap.size most well A7 N c7 qs W9 ∧ W9.heap[D]? = some (.deferred (some [])) ∧ Bk W9 W.heap.size #[.int .i64 (kk : Int)] 3 ∧ W9.heap[D2]? = some (.deferred (some []))) → Hid (well = true → (kk : Int) = min (N : Int) (max most 1)) →
        K { tmps := #[.bool ch, .slice A n c, .int .i64 most, undef, undef, .pointer (some ⟨w.heap.size, 0, none⟩), .pointer (some ⟨w.heap.size + 1, 0, none⟩), .pointer (some ⟨g, 0, none⟩), .pointer (some ⟨g + 1, 0, none⟩), .pointer (some ⟨g + 1 + 1, 0, none⟩), .pointer (some ⟨g + 1 + 1 + 1, 0, none⟩), undef, undef, .pointer (some ⟨W.heap.size, 0, none⟩), undef, undef, .bool true, .bool false, .slice A n c, .int .i64 (n : Int), .bool false, .tuple #[.slice A7 N c7, .bool well], .bool ch, .slice A n c, .tuple #[.slice A7 N c7, .bool well], .slice A7 N c7, .bool well, .bool ch, .slice A n c, .func (.func 19) #[] #[.pointer (some ⟨ob, 0, none⟩), .pointer (some ⟨g + 1 + 1 + 1 + 1, 0, none⟩)], undef, undef, undef, undef, undef, undef, undef, undef, undef, undef, undef, undef, undef, undef, undef, undef, undef, undef, undef, undef, undef, undef, undef, undef, undef, undef, undef, undef, undef, undef, undef, undef, undef, undef, undef, undef, undef, undef, undef, undef, undef, undef, undef, undef, .int .i64 (N : Int), .slice A7 N c7, .int .i64 (N : Int), .bool false, .bool false, .bool (!well), .bool well, .bool false, .bool false, .bool ch, .slice A n c, .func (.func 19) #[] #[.pointer (some ⟨ob2, 0, none⟩), .pointer (some ⟨W.heap.size + 1, 0, none⟩)], undef, undef, undef, undef, undef, undef, undef, undef, undef, undef, undef, undef, undef, undef, undef, undef, undef, undef, undef, undef, undef, undef, undef, undef, undef, undef, undef, undef, undef, undef, undef, undef, undef, undef, undef, undef, undef, undef], defers := [{ target := .collected D2, args := #[] }, { target := .collected D, args := #[] }] } W9 := by
      intro D2 W9 kk hD2 hst hkk
      have hpw := HLA.out W9 hst.out.1.2.2.2.2.2
      refine hKK _ _ ?_
      have r8 := hst.out.1.2.2.2.1.cell 0
      simp at r8
      go_wp2_with fail
      refine hpw.mono ?_
      rintro e w9 ⟨A9, n9, c9, qs9, rfl, hq9, ht9⟩
      have hst9 : Hid (Gx w g (g + 1) w1.heap.size most well A7 N c7 qs w9 ∧ w9.heap[D]? = some (.deferred (some [])) ∧ Bk w9 W.heap.size #[.int .i64 (kk : Int)] 3 ∧ w9.heap[D2]? = some (.deferred (some []))) :=
        ⟨hst.out.1.next ht9.2.2.2, (ht9.2.2.2.block _ (Array.getElem?_eq_some_iff.1 hst.out.2.1).1).trans hst.out.2.1, hst.out.2.2.1.next ht9.2.2.2, (ht9.2.2.2.block _ (Array.getElem?_eq_some_iff.1 hst.out.2.2.2).1).trans hst.out.2.2.2⟩
      have HQ9 := Lib.hid hq9
      have HT9 := Lib.hid ht9.ths
      have HL9 := Lib.hid ht9.1
      clear hq9 ht9 hst hpw r8
      have r8 := hst9.out.1.2.2.2.1.cell 0
      have r1 := hst9.out.1.2.1.cell 0
      have f1 := hst9.out.1.2.1.frozen 0
      have r7 := hst9.out.1.2.2.1.cell 0
      have r0 := hst9.out.1.1.cell 0
      have r13 := hst9.out.2.2.1.cell 0
      simp at r8 r1 r7 r0 r13
      have hd1 : D < D2 := by omega
      have HFIN := Lib.hid (two_marks hst9.out.1.2.1 hst9.out.1.2.2.2.2.2 hst9.out.2.1 hst9.out.2.2.2 hd1 (by omega))
      have hql : qs.length = N := hst9.out.1.2.2.2.2.1.1
      cases well with
      | false =>
        have hlist : tlist ch l = ([], 40) := by unfold tlist; rw [if_neg (by rw [HWELL.out]; decide)]
        rw [hlist] at HQ9 ⊢
        have hq0 : qs9 = [] := by simpa using HQ9.out
        have hn0 : n9 = 0 := by rw [← HL9.out, hq0]; rfl
        subst hn0
        clear hlist hq0 hst9
        go_wp2_with fail
        obtain ⟨k1, k2, k3, k4⟩ := HFIN.out
        clear HFIN r8 r1 f1 r7 r0 r13
        generalize World.setCell w9 _ _ = W10 at k1 k2 k3 k4 ⊢
        refine ⟨by simp, .inl ⟨_, _, rfl, run_takeDeferred k1, ?_⟩⟩
        refine ⟨by simp, .inl ⟨_, _, rfl, run_takeDeferred k2, ?_⟩⟩
        exact ⟨.bool true, by simp [results, Try.results4, go_sem, k3], rfl, k4⟩
      | true =>
        have hlist : tlist ch l = ((tl ch l).1, 0) := by unfold tlist; rw [if_pos HWELL.out]
        rw [hlist] at HQ9 ⊢
        have hsm := sameAll_any A9 n9 c9 qs9 A7 N c7 qs w9 (by have := congrArg List.length HQ9.out; rw [List.length_map, HL9.out] at this; have h2 := congrArg List.length HQS.out; rw [List.length_map, hql] at h2; simp only at this; omega) HL9.out hql (by rw [HQ9.out, HQS.out]) HT9.out hst9.out.1.2.2.2.2.1.ths
        have HSM := Lib.hid hsm
        have hkk' := hkk.out rfl
        have HKK := Lib.hid hkk'
        have HST := Lib.hid hst9
        have d9 : ((kk : Int) == min (N : Int) (max most 1)) = true := by rw [hkk']; simp
        clear hlist hsm hkk' hst9 HFIN r1 f1
        go_wp2_with fail
        refine HSM.out.mono ?_
        rintro e w10 ⟨rfl, hb10⟩
        have hg10 := HST.out.1.next hb10
        have hd10 : w10.heap[D]? = some (.deferred (some [])) := (hb10.block _ (Array.getElem?_eq_some_iff.1 HST.out.2.1).1).trans HST.out.2.1
        have hd210 : w10.heap[D2]? = some (.deferred (some [])) := (hb10.block _ (Array.getElem?_eq_some_iff.1 HST.out.2.2.2).1).trans HST.out.2.2.2
        have HFIN := Lib.hid (two_marks hg10.2.1 hg10.2.2.2.2.2 hd10 hd210 hd1 (by omega))
        have r1' := hg10.2.1.cell 0
        have f1' := hg10.2.1.frozen 0
        have r7' := hg10.2.2.1.cell 0
        have r0' := hg10.1.cell 0
        have r13' := (HST.out.2.2.1.next hb10).cell 0
        simp at r1' r7' r0' r13'
        clear hg10 hd10 hd210 hb10
        go_wp2_with fail
        all_goals first
          | (have e : ((kk : Int) == (N : Int)) = true := (by have := HKK.out; simp only [beq_iff_eq]; omega); simp only [e]; clear e)
          | (have e : ((kk : Int) == most) = true := (by have := HKK.out; simp only [beq_iff_eq]; omega); simp only [e]; clear e)
          | (have e : ((kk : Int) == 1) = true := (by have := HKK.out; simp only [beq_iff_eq]; omega); simp only [e]; clear e)
          | (have e : (kk == N) = true := (by have := HKK.out; simp only [beq_iff_eq]; omega); simp only [e]; clear e)
          | (have e : (kk == 1) = true := (by have := HKK.out; simp only [beq_iff_eq]; omega); simp only [e]; clear e)
        all_goals
          obtain ⟨k1, k2, k3, k4⟩ := HFIN.out
          clear HFIN r8 r1' f1' r7' r0' r13'
          generalize World.setCell w10 _ _ = W10 at k1 k2 k3 k4 ⊢
          refine ⟨by simp, .inl ⟨_, _, rfl, run_takeDeferred k1, ?_⟩⟩
          refine ⟨by simp, .inl ⟨_, _, rfl, run_takeDeferred k2, ?_⟩⟩
          exact ⟨.bool true, by simp [results, Try.results4, go_sem, k3], rfl, k4⟩
    have hpre0 : Hid (Gx w g (g + 1) w1.heap.size most well A7 N c7 qs w5 ∧ w5.heap[D]? = some (.deferred (some [])) ∧ Bk w5 W.heap.size #[.int .i64 ((([] : List Ev).length : Nat) : Int)] 3 ∧ w5.heap.size ≤ w5.heap.size) := ⟨HG6.out, HD6.out, HP6.out, Nat.le_refl _⟩
    have hws5 : w.heap.size ≤ w5.heap.size := by omega
    have hD5 : D < w5.heap.size := by omega
    have HEL := Lib.hid (ev_len ch l)
    clear HG6 HD6 HP6
    refine (wpIn_wide (n := 9)).1 ?_
    refine range_wpIn (gf := 19) (lb := #[.pointer (some ⟨ob2, 0, none⟩), .pointer (some ⟨W.heap.size + 1, 0, none⟩)]) rfl (enters_of Try.func19 (by kernel_rfl) rfl) HS2.out (Nat.le_refl _) (fun _ => rfl)
      (fun pre W9 => (Gx w g (g + 1) w1.heap.size most well A7 N c7 qs W9 ∧ W9.heap[D]? = some (.deferred (some [])) ∧ Bk W9 W.heap.size #[.int .i64 ((pre.length : Nat) : Int)] 3 ∧ w5.heap.size ≤ W9.heap.size) ∧ (pre.length = 0 ∨ (pre.length : Int) < most))
      (fun q pre W9 => q = .exit 2 ∧ (Gx w g (g + 1) w1.heap.size most well A7 N c7 qs W9 ∧ W9.heap[D]? = some (.deferred (some [])) ∧ Bk W9 W.heap.size #[.int .i64 ((pre.length : Nat) : Int)] 3 ∧ w5.heap.size ≤ W9.heap.size) ∧ 1 ≤ pre.length ∧ most ≤ (pre.length : Int) ∧ (pre.length = 1 ∨ (pre.length : Int) - 1 < most))
      (fun pre A' B' h hc => ⟨⟨h.1.1.calm hws5 hc, (hc.1.block _ hD5).trans h.1.2.1, h.1.2.2.1.calm hc, Nat.le_trans h.1.2.2.2 hc.1.size⟩, h.2⟩)
      (fun q pre A' B' h hc => ⟨h.1, ⟨h.2.1.1.calm hws5 hc, (hc.1.block _ hD5).trans h.2.1.2.1, h.2.1.2.2.1.calm hc, Nat.le_trans h.2.1.2.2.2 hc.1.size⟩, h.2.2⟩) ⟨hpre0.out, .inl rfl⟩
      (fun pre x a W9 => ((Gx w g (g + 1) w1.heap.size most well A7 N c7 qs W9 ∧ W9.heap[D]? = some (.deferred (some [])) ∧ Bk W9 W.heap.size #[.int .i64 ((pre.length : Nat) : Int)] 3 ∧ w5.heap.size ≤ W9.heap.size) ∧ (pre.length = 0 ∨ (pre.length : Int) < most)) ∧ pre.length ≤ 2000 ∧
        a = { tmps := #[.bool ch, .slice A n c, .int .i64 most, undef, undef, .pointer (some ⟨w.heap.size, 0, none⟩), .pointer (some ⟨w.heap.size + 1, 0, none⟩), .pointer (some ⟨g, 0, none⟩), .pointer (some ⟨g + 1, 0, none⟩), .pointer (some ⟨g + 1 + 1, 0, none⟩), .pointer (some ⟨g + 1 + 1 + 1, 0, none⟩), undef, undef, .pointer (some ⟨W.heap.size, 0, none⟩), undef, undef, .bool true, .bool false, .slice A n c, .int .i64 (n : Int), .bool false, .tuple #[.slice A7 N c7, .bool well], .bool ch, .slice A n c, .tuple #[.slice A7 N c7, .bool well], .slice A7 N c7, .bool well, .bool ch, .slice A n c, .func (.func 19) #[] #[.pointer (some ⟨ob, 0, none⟩), .pointer (some ⟨g + 1 + 1 + 1 + 1, 0, none⟩)], undef, undef, undef, undef, undef, undef, undef, undef, undef, undef, undef, undef, undef, undef, undef, undef, undef, undef, undef, undef, undef, undef, undef, undef, undef, undef, undef, undef, undef, undef, undef, undef, undef, undef, undef, undef, undef, undef, undef, undef, undef, undef, undef, undef, .int .i64 (N : Int), .slice A7 N c7, .int .i64 (N : Int), .bool false, .bool false, .bool (!well), .bool well, .bool false, .bool false, .bool ch, .slice A n c, .func (.func 19) #[] #[.pointer (some ⟨ob2, 0, none⟩), .pointer (some ⟨W.heap.size + 1, 0, none⟩)], .agg #[.int .u16 (x.1.1.k : Int), .int .u8 (x.1.1.f : Int), x.1.2], .int .i64 x.2, undef, undef, undef, undef, undef, undef, undef, undef, undef, undef, undef, undef, undef, undef, undef, undef, undef, undef, undef, undef, undef, undef, undef, undef, undef, undef, undef, undef, undef, undef, undef, undef, undef, undef, undef, undef], defers := [] })
      (fun pre x a₁ A' B' h hc => ⟨⟨⟨h.1.1.1.calm hws5 hc, (hc.1.block _ hD5).trans h.1.1.2.1, h.1.1.2.2.1.calm hc, Nat.le_trans h.1.1.2.2.2 hc.1.size⟩, h.1.2⟩, h.2⟩) ?assign2 ?body2 ?done2 ?stop2
    case assign2 =>
      intro y pre x W9 K2 hi hv hK2
      have hpl : pre.length ≤ 2000 := by
        obtain ⟨t, ht⟩ := hv.1
        have := HEL.out
        rw [ht, HL.out] at this
        simp at this
        omega
      have hla := hK2 _ _ (Below.refl _ _) ⟨hi, hpl, rfl⟩
      have HLA := Lib.hid hla
      obtain ⟨⟨xt, xv⟩, xe⟩ := x
      clear hi hv hK2 hla hpl
      simp only [enc]
      gi_wp2
      exact HLA.out
    case body2 =>
      rintro y pre ⟨⟨xt, xv⟩, xe⟩ a₁ W9 hsize ⟨⟨⟨hgx, hd, hp, hhi⟩, hmm⟩, hpl, rfl⟩
      obtain ⟨j, hj⟩ : ∃ j, pre.length = j := ⟨_, rfl⟩
      have HPJ := Lib.hid hj
      rw [hj] at hp hmm hpl
      clear hj
      have r13 := hp.cell 0
      have f13 := hp.frozen 0
      simp at r13
      have hp1 := hp.set 0 (.int .i64 ((j : Int) + 1))
      simp at hp1
      have hg1 := hgx.set (d := W.heap.size) hp (by decide) (by decide) (by omega) (by omega) (by omega) (.int .i64 ((j : Int) + 1))
      have s5 := hg1.1.cell 0
      have s13 := hp1.cell 0
      simp at s5 s13
      have hDne : D ≠ W.heap.size := by omega
      have HFIN : Hid (Gx w g (g + 1) w1.heap.size most well A7 N c7 qs (W9.setCell ⟨W.heap.size, 0, none⟩ (.int .i64 ((j : Int) + 1))) ∧ (W9.setCell ⟨W.heap.size, 0, none⟩ (.int .i64 ((j : Int) + 1))).heap[D]? = some (.deferred (some [])) ∧ Bk (W9.setCell ⟨W.heap.size, 0, none⟩ (.int .i64 ((j : Int) + 1))) W.heap.size #[.int .i64 ((j : Int) + 1)] 3 ∧ w5.heap.size ≤ (W9.setCell ⟨W.heap.size, 0, none⟩ (.int .i64 ((j : Int) + 1))).heap.size) :=
        ⟨hg1, (Below.heap_setCell _ _ _ D hDne).trans hd, hp1, Nat.le_trans hhi (by simp [World.setCell])⟩
      have HKO : Hid (KeepsOthers W9 (W9.setCell ⟨W.heap.size, 0, none⟩ (.int .i64 ((j : Int) + 1))) ∧ Kept (W.heap.size + 1) w5.heap.size W9 (W9.setCell ⟨W.heap.size, 0, none⟩ (.int .i64 ((j : Int) + 1)))) := ⟨KeepsOthers.setCell _ _ _, Kept.of_set _ (.inl (by show W.heap.size < W.heap.size + 1; omega))⟩
      clear hgx hd hp hp1 hg1
      by_cases hst : most ≤ (j : Int) + 1
      · have dst : decide (most ≤ (j : Int) + 1) = true := by simpa using hst
        gi_wp2
        refine ⟨HKO.out.1.from _, rfl, ?_, by simp, ?_, ?_⟩
        · rw [List.length_append, HPJ.out]
          exact HFIN.out
        · rw [List.length_append, HPJ.out]
          simpa using hst
        · rw [List.length_append, HPJ.out]
          simp
          omega
      · have dst : decide (most ≤ (j : Int) + 1) = false := by simpa using hst
        gi_wp2
        refine ⟨HKO.out.1.from _, HKO.out.2, ?_, ?_⟩
        · rw [List.length_append, HPJ.out]
          exact HFIN.out
        · rw [List.length_append, HPJ.out]
          simp
          omega
    case done2 =>
      rintro D2 xs2 W9 hD2 hS2 ⟨⟨hgx, hd, hp, hhi⟩, hmm⟩ hK2
      have hk2 : well = true → ((xs2.length : Nat) : Int) = min (N : Int) (max most 1) := fun hw => by
        have h1 := congrArg List.length hS2
        have h2 := hgx.2.2.2.2.1.1
        rw [List.length_map, ev_length, ← HQS.out, List.length_map, h2, HWELL.out, hw] at h1
        simp at h1
        omega
      have hc := hcont D2 W9 xs2.length hD2 ⟨hgx, hd, hp, hK2⟩ (Lib.hid hk2)
      have HC := Lib.hid hc
      exact HC.out
    case stop2 =>
      rintro D2 q pre W9 hD2 ⟨t, ht⟩ ⟨rfl, ⟨hgx, hd, hp, hhi⟩, hp1, hp2, hp3⟩ hK2
      have hk2 : well = true → ((pre.length : Nat) : Int) = min (N : Int) (max most 1) := fun hw => by
        have h1 := congrArg List.length ht
        have h2 := hgx.2.2.2.2.1.1
        rw [ev_length, ← HQS.out, List.length_map, h2, HWELL.out, hw] at h1
        simp at h1
        omega
      have hc := hcont D2 W9 pre.length hD2 ⟨hgx, hd, hp, hK2⟩ (Lib.hid hk2)
      have HC := Lib.hid hc
      clear hgx hd hp hK2 hc hcont hk2 ht hKK
      gi_wp2
      exact HC.out
  case stop =>
    rintro D c pre W hD _ h _
    exact h.elim
end Go.Proofs.Ytlcmfhikcdppoaa
