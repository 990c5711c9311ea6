/-
  A message is put together out of kept pieces: take, walked.
-/
import Derived.Test.YtednkcjmlpgipaaYFgBounds
namespace Go.Proofs.Ytednkcjmlpgipaa
set_option maxRecDepth 4000
open Go.RowKit Go.Maps
namespace Fg
set_option linter.unusedVariables false

/-- A message as a value. -/
def mv (s : Nat) (u : Bool) (p : Nat) (A : Option Addr) (k c : Nat) : Array Value := #[.int .u16 (s : Int), .bool u, .int .u32 (p : Int), .slice A k c]
/-- In the loop. -/
structure TkI (w W : World) (F : Nat → Prop) (j b6 b8 : Nat) (h : Int) (K : List Pc) (f i : Nat) (x : Pc) (cs : Array Value) (A : Option Addr) (n c : Nat) : Prop where
  msg : Bk W b6 (mv x.s (un x.f) x.p A n c) 39
  own : W.ownsRow w.heap.size 5 1 (.slice A n c) n (bs (tkD K f i))
  jn : JB j h (tkK K f i) W F
  kp : Kp w W F
  pc : Bk W b8 cs 33
theorem kp_set (W : World) (b o : Nat) (v : Value) : Kp W (W.setCell ⟨b, o, none⟩ v) (fun k => k = b) := Kp.grown (setc_grown W b o v) (fun g e => by injection e with e; exact e.symm)
theorem JB.set {j : Nat} {x : Int} {K : List Pc} {W : World} {F : Nat → Prop} (h : JB j x K W F) {b : Nat} (hb : ¬ F b) (o : Nat) (v : Value) : JB j x K (W.setCell ⟨b, o, none⟩ v) F :=
  (JB_fr j x K).frame W _ _ F h (kp_set W b o v) (fun k hk e => hb (by rw [← e]; exact hk))
theorem kps {W W' : World} {F : Nat → Prop} (h : Kp W W' F) {b : Nat} (hb : W.heap.size ≤ b) (o : Nat) (v : Value) : Kp W (W'.setCell ⟨b, o, none⟩ v) F :=
  h.trans (kp_set W' b o v) (fun k e => .inr (by rw [e]; exact hb))
theorem Row.keep8 {w w' : World} {A : Option Addr} {l : List Int} (h : Row w A (bs l)) (hk : ∀ p n, w.cell? p = some (.int .u8 n) → w'.cell? p = some (.int .u8 n)) : Row w' A (bs l) := fun i v hv => by
  obtain ⟨a, e, hc⟩ := h i v hv
  unfold bs at hv
  rw [List.getElem?_map] at hv
  obtain ⟨n, _, rfl⟩ := Option.map_eq_some_iff.1 hv
  exact ⟨a, e, hk _ _ hc⟩
/-- The number of bytes turns. -/
theorem JB.turn {j : Nat} {x : Int} {K : List Pc} {W : World} {F : Nat → Prop} (h : JB j x K W F) (y : Int) : JB j y K (W.setCell ⟨j, 1, none⟩ (.int .i64 y)) F := by
  obtain ⟨m, hb, ⟨D, hw, hv, hf, ha, hl⟩, hj, hok⟩ := h
  have hjm : j ≠ m := fun e => by
    obtain ⟨es, clock, hh⟩ := owns_block hw
    rw [← e, show W.heap[j]? = _ from hb] at hh
    cases hh
  refine ⟨m, ?_, ⟨D, hw.kept (setc_grown W j 1 _) (fun e => by injection e with e; exact hjm e.symm), ⟨hv.size, hv.none, fun t z hz => ?_⟩, hf, ha, fun k hk => by simpa [World.setCell] using hl k hk⟩, hj, hok⟩
  · have := hb.set 1 (.int .i64 y)
    simpa using this
  · obtain ⟨g1, A, k, c, g2, g3⟩ := hv.some t z hz
    refine ⟨g1, A, k, c, g2, g3.len, Row.keep8 g3.row fun p n hp => ?_, g3.nil, g3.ins⟩
    by_cases e : p.block = j
    · exfalso
      obtain ⟨pb, po, ps⟩ := p
      simp only at e
      subst e
      unfold World.cell? at hp
      rw [show W.heap[pb]? = _ from hb] at hp
      simp only at hp
      rcases po with _ | _ | po <;> simp at hp
    · rw [World.cell?_of_block (w := W) (w' := W.setCell ⟨j, 1, none⟩ (.int .i64 y)) (a := p) ((kp_set W j 1 _).block _ (block_lt_of_cell hp) e)]
      exact hp
/-- Its bytes are laid behind. -/
theorem tk_app {w wr w9 : World} {F : Nat → Prop} {j b0 b8 : Nat} {h : Int} {K : List Pc} {f i : Nat} {x : Pc} {cs : Array Value} {A : Option Addr} {n cp : Nat} (hS : TkI w wr F j b0 b8 h K f i x cs A n cp) (hb0 : w.heap.size ≤ b0) (hF : ∀ k, F k → k < w.heap.size) (hne : b0 ≠ b8)
    {A9 : Option Addr} {N c9 : Nat} {d : List Int} (ho : w9.ownsRow w.heap.size 5 1 (.slice A9 N c9) N (bs (tkD K f i ++ d))) (hg : wr.grownBy w9 (Value.slice A n cp).ownBlock) :
    Bk (w9.setCell ⟨b0, 3, none⟩ (.slice A9 N c9)) b0 (mv x.s (un x.f) x.p A9 N c9) 39 ∧ (w9.setCell ⟨b0, 3, none⟩ (.slice A9 N c9)).ownsRow w.heap.size 5 1 (.slice A9 N c9) N (bs (tkD K f i ++ d)) ∧
      JB j h (tkK K f i) (w9.setCell ⟨b0, 3, none⟩ (.slice A9 N c9)) F ∧ Kp w (w9.setCell ⟨b0, 3, none⟩ (.slice A9 N c9)) F ∧ Bk (w9.setCell ⟨b0, 3, none⟩ (.slice A9 N c9)) b8 cs 33 := by
  have hof : (Value.slice A n cp).ownBlock ≠ some b0 := own_off hS.own hS.msg (by decide)
  have hop : (Value.slice A n cp).ownBlock ≠ some b8 := own_off hS.own hS.pc (by decide)
  have m9 : Bk w9 b0 _ _ := hS.msg.kept hg (fun e => hof e.symm)
  have p9 : Bk w9 b8 _ _ := hS.pc.kept hg (fun e => hop e.symm)
  have hk9 : Kp wr w9 (fun k => (Value.slice A n cp).ownBlock = some k) := Kp.grown hg (fun g e => e)
  have hnF : ¬ F b0 := fun h => by have := hF b0 h; omega
  have j9 : JB j h (tkK K f i) w9 F := (JB_fr j h _).frame wr w9 _ F hS.jn hk9 (fun b hb e => by have h1 := (hS.own.lt b e).1; have h2 := hF b hb; omega)
  have of9 : (Value.slice A9 N c9).ownBlock ≠ some b0 := own_off ho m9 (by decide)
  refine ⟨m9.set 3 _, ho.kept (setc_grown w9 b0 3 _) (.inr of9), j9.set hnF 3 _, kps (hS.kp.trans hk9 (fun b e => .inr (hS.own.lt b e).1)) hb0 3 _, p9.other (Ne.symm hne) 3 _⟩
/-- It is kept no more. -/
theorem tk_del {w W : World} {F : Nat → Prop} {j b0 b8 : Nat} {h : Int} {K : List Pc} {f i : Nat} {x y : Pc} {cs : Array Value} {A9 : Option Addr} {N c9 : Nat} (hb0 : w.heap.size ≤ b0) (hb8 : w.heap.size ≤ b8) (hF : ∀ k, F k → k < w.heap.size) (hy : look (tkK K f i) (fw f i) = some y) (hD : tkD K f (i + 1) = tkD K f i ++ y.d)
    (hm : Bk W b0 (mv x.s (un x.f) x.p A9 N c9) 39) (ho : W.ownsRow w.heap.size 5 1 (.slice A9 N c9) N (bs (tkD K f i ++ y.d))) (hj : JB j h (tkK K f i) W F) (hk : Kp w W F) (hp : Bk W b8 cs 33) :
    ∃ m W', W.cell? ⟨j, 0, none⟩ = some (.map (some m)) ∧ (∀ ty, (Builtin.delete_ #[139, 23] ty #[.map (some m), .int .u32 (fw f i : Int)]).run Try.prog W = .ok (.tuple #[]) W') ∧ TkI w W' F j b0 b8 h K f (i + 1) x cs A9 N c9 := by
  obtain ⟨m, hb, hmk, hf, hok⟩ := hj
  have hfm : F m := by obtain ⟨D, _, _, hf, _⟩ := hmk; exact hf
  obtain ⟨W', h1, h2, h3⟩ := mk_drop hmk (fw_lt f i) hy 0
  have hml := hF m hfm
  have hjm : j ≠ m := fun e => by
    obtain ⟨D, hw, _⟩ := hmk
    obtain ⟨es, clock, hh⟩ := owns_block hw
    rw [← e, show W.heap[j]? = _ from hb] at hh
    cases hh
  have kk : Kp W W' (fun k => k = m) := Kp.grown h3 (fun g e => by injection e with e; exact e.symm)
  refine ⟨m, W', (hb.cell 0).trans rfl, fun ty => ?_, hm.kept h3 (fun e => by injection e with e; omega), ?_, ⟨m, hb.kept h3 (fun e => by injection e with e; exact hjm e), h2, hf, ok_del hok _⟩, hk.trans kk (fun b e => .inl (by rw [e]; exact hfm)), hp.kept h3 (fun e => by injection e with e; omega)⟩
  · have e : (Builtin.delete_ #[139, 23] ty #[.map (some m), .int .u32 (fw f i : Int)]) = (Builtin.delete_ #[139, 23] 0 #[.map (some m), .int .u32 (fw f i : Int)]) := rfl
    rw [e]
    exact h1
  · rw [hD]
    refine ho.kept h3 ?_
    cases hg : (Value.slice A9 N c9).ownBlock with
    | none => exact .inl rfl
    | some g => exact .inr (fun e => by injection e with e; have := (ho.lt g hg).1; omega)
set_option maxHeartbeats 1000000 in
theorem take_any (w : World) (F : Nat → Prop) (j f c : Nat) (K : List Pc) (x : Pc) (h : JA j K w F) (hf : f < 4294967296) (hx : look K f = some x) (hall : ∀ i, i ≤ c → (look K (fw f i)).isSome = true) (hc : c + 1 ≤ K.length) (hlen : K.length < 1000000000) (hheld : held K < 1000000000) :
    Calls Try.prog 85 #[.pointer (some ⟨j, 0, none⟩), .int .u32 (f : Int), .int .u32 (fw f c : Int)] w fun e w' => ∃ A n cp, e = .returned (.tuple #[.agg (mv x.s (un x.f) x.p A n cp), .int .u16 (x.n : Int)]) ∧ JA j (tkK K f (c + 1)) w' F ∧ Kp w w' F ∧
      (tkD K f (c + 1)).length = n ∧ n ≤ cp ∧ Row w' A (bs (tkD K f (c + 1))) ∧ (A = none → n = 0 ∧ cp = 0) ∧ w'.ownsRow w.heap.size 5 1 (.slice A n cp) n (bs (tkD K f (c + 1))) := by
  have HAP : Hid (Apart K) := Lib.hid (by obtain ⟨m, _, ⟨D, _, _, _, ha, _⟩, _⟩ := h; exact ha)
  have HOK : Hid (∀ y ∈ K, y.Ok) := Lib.hid (by obtain ⟨m, _, _, _, hok⟩ := h; exact hok)
  have HALL := Lib.hid hall
  have HT := Lib.hid (tk_held (t := f) HAP.out (c := c + 1) (by omega) (fun i hi => hall i (by omega)))
  have HTI : Hid (∀ i, i ≤ c + 1 → held (tkK K f i) + (tkD K f i).length = held K ∧ (tkK K f i).length + i = K.length) := Lib.hid fun i hi => tk_held HAP.out (by omega) (fun k hk => hall k (by omega))
  have z1 := n_un (HOK.out x (look_mem hx).1).f
  have HX := Lib.hid hx
  have HLEN := Lib.hid hlen
  have HHE := Lib.hid hheld
  have H1 : Hid (JA j K (w.alloc (.cells #[.int .u16 0, .bool false, .int .u32 0, .slice none 0 0] 39)) F) := Lib.hid (h.next ((Below.refl _ _).alloc (Nat.le_refl _) _))
  have HB6 : Hid (Bk (w.alloc (.cells #[.int .u16 0, .bool false, .int .u32 0, .slice none 0 0] 39)) w.heap.size #[.int .u16 0, .bool false, .int .u32 0, .slice none 0 0] 39) := Lib.hid (Bk.new _ _ _)
  have HK6 : Hid (Kp w (w.alloc (.cells #[.int .u16 0, .bool false, .int .u32 0, .slice none 0 0] 39)) F) := Lib.hid (Kp.below ((Below.refl _ _).alloc (Nat.le_refl _) _))
  have HF : Hid (∀ k, F k → k < w.heap.size) := Lib.hid fun k hk => JB.lt h hk
  clear h hall hx hlen hheld
  obtain ⟨l, hl⟩ : ∃ l, fw f c = l := ⟨_, rfl⟩
  have HL := Lib.hid hl
  rw [hl]
  clear hl
  go_enter Try.func85, Try.ntmps85
  go_upto_region 1 with fail
  obtain ⟨b0, hb0⟩ : ∃ b0, w.heap.size = b0 := ⟨_, rfl⟩
  have HB0 := Lib.hid hb0
  rw [hb0] at HB6 ⊢
  clear hb0
  generalize w.alloc (.cells #[.int .u16 0, .bool false, .int .u32 0, .slice none 0 0] 39) = w1 at H1 HB6 HK6 ⊢
  obtain ⟨m, c0, c1, hm, _⟩ := H1.out.cells
  obtain ⟨A1, k1, cc1, _, hr1, _⟩ := mk_some hm hf HX.out
  unfold pv at hr1
  clear c1 hm
  go_upto_region 2 with fail
  have HB8 : Hid (Bk (w1.alloc (.cells #[.int .u32 (x.t : Int), .int .u8 (x.f : Int), .int .u16 (x.s : Int), .int .u16 (x.n : Int), .int .u32 (x.p : Int), .slice A1 k1 cc1] 33)) w1.heap.size (pv x A1 k1 cc1) 33) := Lib.hid (Bk.new _ _ _)
  have HB62 : Hid (Bk (w1.alloc (.cells #[.int .u32 (x.t : Int), .int .u8 (x.f : Int), .int .u16 (x.s : Int), .int .u16 (x.n : Int), .int .u32 (x.p : Int), .slice A1 k1 cc1] 33)) b0 _ _) := Lib.hid (HB6.out.alloc _)
  have HJ2 : Hid (JA j K (w1.alloc (.cells #[.int .u32 (x.t : Int), .int .u8 (x.f : Int), .int .u16 (x.s : Int), .int .u16 (x.n : Int), .int .u32 (x.p : Int), .slice A1 k1 cc1] 33)) F) := Lib.hid (H1.out.next ((Below.refl _ _).alloc (Nat.le_refl _) _))
  have HK2 : Hid (Kp w (w1.alloc (.cells #[.int .u32 (x.t : Int), .int .u8 (x.f : Int), .int .u16 (x.s : Int), .int .u16 (x.n : Int), .int .u32 (x.p : Int), .slice A1 k1 cc1] 33)) F) := Lib.hid (HK6.out.trans (F' := F) (Kp.below ((Below.refl _ _).alloc (Nat.le_refl _) _)) (fun b hb => .inl hb))
  have HB8L : Hid (w.heap.size ≤ w1.heap.size) := Lib.hid HK6.out.size
  have HNE : Hid (b0 ≠ w1.heap.size) := Lib.hid (by have := HB6.out.lt; omega)
  clear H1 HB6 HK6 c0 hr1
  generalize w1.alloc (.cells #[.int .u32 (x.t : Int), .int .u8 (x.f : Int), .int .u16 (x.s : Int), .int .u16 (x.n : Int), .int .u32 (x.p : Int), .slice A1 k1 cc1] 33) = w2 at HB8 HB62 HJ2 HK2 ⊢
  generalize w1.heap.size = b8 at HB8 HB8L HNE ⊢
  have g0 := HB62.out.cell 0
  have g1 := HB62.out.cell 1
  have g2 := HB62.out.cell 2
  have g3 := HB62.out.cell 3
  simp at g0 g1 g2 g3
  have y1 := HB8.out.cell 1
  have y2 := HB8.out.cell 2
  have y4 := HB8.out.cell 4
  simp [pv] at y1 y2 y4
  have f0 := HB62.out.frozen 0
  have f1 := HB62.out.frozen 1
  have f2 := HB62.out.frozen 2
  have f3 := HB62.out.frozen 3
  go_upto_region 3 with fail
  have HS : Hid (TkI w ((((w2.setCell ⟨b0, 0, none⟩ (.int .u16 (x.s : Int))).setCell ⟨b0, 1, none⟩ (.bool (un x.f))).setCell ⟨b0, 2, none⟩ (.int .u32 (x.p : Int))).setCell ⟨b0, 3, none⟩ (.slice none 0 0)) F j b0 b8 (held K : Int) K f 0 x (pv x A1 k1 cc1) none 0 0) := Lib.hid (by
    have hnF : ¬ F b0 := fun h => by have := HF.out b0 h; rw [HB0.out] at this; omega
    have hge : w.heap.size ≤ b0 := Nat.le_of_eq HB0.out
    refine ⟨?_, World.ownsRow_nil _ _ _ _, (((HJ2.out.set hnF 0 _).set hnF 1 _).set hnF 2 _).set hnF 3 _, kps (kps (kps (kps HK2.out hge 0 _) hge 1 _) hge 2 _) hge 3 _, (((HB8.out.other (Ne.symm HNE.out) 0 _).other (Ne.symm HNE.out) 1 _).other (Ne.symm HNE.out) 2 _).other (Ne.symm HNE.out) 3 _⟩
    exact (((HB62.out.set 0 _).set 1 _).set 2 _).set 3 _)
  clear g0 g1 g2 g3 y1 y2 y4 f0 f1 f2 f3 z1 HB8 HB62 HJ2 HK2
  generalize (((w2.setCell ⟨b0, 0, none⟩ (.int .u16 (x.s : Int))).setCell ⟨b0, 1, none⟩ (.bool (un x.f))).setCell ⟨b0, 2, none⟩ (.int .u32 (x.p : Int))).setCell ⟨b0, 3, none⟩ (.slice none 0 0) = w3 at HS ⊢
  have HC3 : Hid ((pv x A1 k1 cc1)[3]? = some (.int .u16 (x.n : Int))) := Lib.hid rfl
  generalize pv x A1 k1 cc1 = cs8 at HS HC3
  go_wp2_with fail
  go_loopg [9] (c + 1) (fun g v9 wr => ∃ (i : Nat) (A : Option Addr) (n cp : Nat), i + g = c + 1 ∧ v9 = .int .u32 (fw f i : Int) ∧ Hid (TkI w wr F j b0 b8 (held K : Int) K f i x cs8 A n cp))
  case atStart => exact ⟨0, none, 0, 0, by omega, by rw [show fw f 0 = f by unfold fw; omega], HS⟩
  case round =>
    obtain ⟨i, A, n, cp, hi, rfl, hS⟩ := hrel
    clear HS
    by_cases hlt : i < c + 1
    · have dn : ((fw f i : Int) != ((l : Int) + 1) % 4294967296) = true := by have := HLEN.out; rw [← HL.out, bne_iff_ne]; unfold fw; omega
      have hil : i < 4294967296 := by have := HLEN.out; omega
      obtain ⟨y, hy⟩ := Option.isSome_iff_exists.1 (HALL.out i (by omega))
      have hy2 : look (tkK K f i) (fw f i) = some y := by rw [tk_look (Nat.le_refl _) hil]; exact hy
      have HY := Lib.hid hy2
      have hdy : tkD K f (i + 1) = tkD K f i ++ y.d := by rw [tkD, dat, hy]
      have HDY := Lib.hid hdy
      obtain ⟨mm, c0, c1, hm, _⟩ := JB.cells hS.out.jn
      obtain ⟨A2, k2, cc2, hs2, hr2⟩ := mk_at hm (fw_lt f i) hy2
      have hr2a := (hr2 wr rfl).1
      have hr2b := (hr2 wr.drew rfl).1
      have HR2 := Lib.hid hs2
      have HM := Lib.hid hm
      have hnb : n + k2 ≤ held K := by
        have h1 := HTI.out (i + 1) (by omega)
        rw [hdy, List.length_append, hs2.len] at h1
        have h2 := hS.out.own.1
        rw [bs_len] at h2
        omega
      have HNB := Lib.hid hnb
      have g3 := hS.out.msg.cell 3
      simp [mv] at g3
      have f3 := hS.out.msg.frozen 3
      have q5 := fun (W : World) => field5 W (.int .u32 (y.t : Int)) (.int .u8 (y.f : Int)) (.int .u16 (y.s : Int)) (.int .u16 (y.n : Int)) (.int .u32 (y.p : Int)) (.slice A2 k2 cc2) rfl
      have q1 : ((fw f i : Int) + 1) % 4294967296 = (fw f (i + 1) : Int) := by unfold fw; omega
      unfold pv at hr2a hr2b
      clear hr2 hy hy2 hdy hm hs2 c1 hnb
      obtain ⟨t, ht⟩ : ∃ t, fw f i = t := ⟨_, rfl⟩
      have HTT := Lib.hid ht
      rw [ht] at hr2a hr2b q1 dn ⊢
      clear ht
      obtain ⟨u, hu⟩ : ∃ u, fw f (i + 1) = u := ⟨_, rfl⟩
      have HU := Lib.hid hu
      rw [hu] at q1
      clear hu
      go_upto_region 6 with fail
      have o1 : wr.drew.ownsRow w.heap.size 5 1 (.slice A n cp) n (bs (tkD K f i)) := hS.out.own
      have HO1 := Lib.hid o1
      have hszw : w.heap.size ≤ wr.drew.heap.size := hS.out.kp.size
      have HRW : Hid (Row wr.drew A2 (bs y.d)) := Lib.hid HR2.out.row
      have HNL := Lib.hid HR2.out.nil
      have HLE := Lib.hid HR2.out.len
      have hof : (Value.slice A n cp).ownBlock ≠ some b0 := own_off o1 (b := b0) hS.out.msg (by decide)
      have HOF := Lib.hid hof
      have HMS : Hid (Bk wr.drew b0 (mv x.s (un x.f) x.p A n cp) 39) := Lib.hid hS.out.msg
      clear o1 hof
      first | go_region_law (first
        | (refine app_reg rfl (.tmp 33) (.tmp 40) rfl w.heap.size A n cp (tkD K f i) rfl HO1.out A2 k2 cc2 y.d rfl HLE.out HRW.out HNL.out (n + k2) rfl (by have := HNB.out; have := HHE.out; omega) hszw ?_; intro A9 c9 w9 hown9 hgr9; have HW9 := Lib.hid hown9; have HG9 := Lib.hid hgr9; have hm9 := HMS.out.kept hgr9 (fun e => HOF.out e.symm); have g9 := hm9.cell 3; simp [mv] at g9; have f9 := hm9.frozen 3; have HM9 := Lib.hid hm9; clear hown9 hgr9 hm9)) | fail
      all_goals
        obtain ⟨a1, a2, a3, a4, a5⟩ := tk_app hS.out (Nat.le_of_eq HB0.out) HF.out HNE.out HW9.out (grown_undrew HG9.out)
        obtain ⟨m2, w10, c02, hd2, hS2⟩ := tk_del (Nat.le_of_eq HB0.out) HB8L.out HF.out HY.out HDY.out a1 a2 a3 a4 a5
        rw [HTT.out] at hd2
        have HS2 := Lib.hid hS2
        have hd20 := hd2 0
        clear a1 a2 a3 a4 a5 hS2 hd2 g9 f9 hr2a hr2b
        generalize w9.setCell ⟨b0, 3, none⟩ (.slice A9 (n + k2) c9) = w9b at c02 hd20 ⊢
        go_wp2_with fail
        go_roundg (gk - 1)
        case measure => omega
        case rel => exact ⟨i + 1, A9, n + k2, c9, by omega, by rw [HU.out]; go_num, HS2⟩
    · obtain rfl : i = c + 1 := by omega
      have dn : ((fw f (c + 1) : Int) != ((l : Int) + 1) % 4294967296) = false := by
        have := HLEN.out
        rw [← HL.out, bne_eq_false_iff_eq]
        unfold fw
        omega
      obtain ⟨t, ht⟩ : ∃ t, fw f (c + 1) = t := ⟨_, rfl⟩
      rw [ht] at dn ⊢
      clear ht
      obtain ⟨hh1, hh2⟩ := HT.out
      have hnl := hS.out.own.1
      rw [bs_len] at hnl
      have hN : n = (tkD K f (c + 1)).length := by omega
      have HN := Lib.hid hN
      have HH1 := Lib.hid hh1
      obtain ⟨mm, c0, c1, hm, fz⟩ := JB.cells hS.out.jn
      have g0 := hS.out.msg.cell 0
      have g1 := hS.out.msg.cell 1
      have g2 := hS.out.msg.cell 2
      have g3 := hS.out.msg.cell 3
      simp [mv] at g0 g1 g2 g3
      clear hm hh1 hh2 hnl hN HTI HALL
      go_upto_region 8 with fail
      have g3d : wr.drew.cell? ⟨b0, 3, none⟩ = some (.slice A n cp) := g3
      have c1d : wr.drew.cell? ⟨j, 1, none⟩ = some (.int .i64 (held K : Int)) := c1
      have hwr : wrap64 ((held K : Int) - (n : Int)) = (held (tkK K f (c + 1)) : Int) := by
        have h1 := HH1.out
        have h2 := HN.out
        have h3 := HHE.out
        clear g3d c1d g0 g1 g2 g3 c0 c1 fz dn
        go_arith
      have HWR := Lib.hid hwr
      clear hwr
      go_region
      rw [HWR.out]
      have hnF : ¬ F b0 := fun h => by have := HF.out b0 h; rw [HB0.out] at this; omega
      have hjF : F j := by obtain ⟨m, _, _, hj, _⟩ := hS.out.jn; exact hj
      have hjl := HF.out j hjF
      have hnj : b0 ≠ j := fun e => hnF (by rw [e]; exact hjF)
      have hnj8 : b8 ≠ j := fun e => by have := HB8L.out; omega
      have HM5 : Hid (Bk (wr.setCell ⟨j, 1, none⟩ (.int .i64 (held (tkK K f (c + 1)) : Int))).drew b0 (mv x.s (un x.f) x.p A n cp) 39) := Lib.hid (hS.out.msg.other hnj 1 _)
      have ho5 : (wr.setCell ⟨j, 1, none⟩ (.int .i64 (held (tkK K f (c + 1)) : Int))).ownsRow w.heap.size 5 1 (.slice A n cp) n (bs (tkD K f (c + 1))) := hS.out.own.kept (setc_grown wr j 1 _) (by
        cases hg : (Value.slice A n cp).ownBlock with
        | none => exact .inl rfl
        | some g => exact .inr (fun e => by injection e with e; have := (hS.out.own.lt g hg).1; omega))
      have HO5 : Hid ((wr.setCell ⟨j, 1, none⟩ (.int .i64 (held (tkK K f (c + 1)) : Int))).drew.ownsRow w.heap.size 5 1 (.slice A n cp) n (bs (tkD K f (c + 1)))) := Lib.hid ho5
      clear ho5
      have HJ5 : Hid (JA j (tkK K f (c + 1)) (wr.setCell ⟨j, 1, none⟩ (.int .i64 (held (tkK K f (c + 1)) : Int))).drew F) := Lib.hid (JB.next (JB.turn hS.out.jn (held (tkK K f (c + 1)) : Int)) (Below.refl _ _).drew)
      have HK5 : Hid (Kp w (wr.setCell ⟨j, 1, none⟩ (.int .i64 (held (tkK K f (c + 1)) : Int))).drew F) := by
        have h := hS.out.kp.trans (kp_set wr j 1 (.int .i64 (held (tkK K f (c + 1)) : Int))) (fun b e => .inl (by rw [e]; exact hjF))
        exact Lib.hid ⟨h.os, h.tape, h.output, h.size, h.block⟩
      have HP5 : Hid (Bk (wr.setCell ⟨j, 1, none⟩ (.int .i64 (held (tkK K f (c + 1)) : Int))).drew b8 cs8 33) := Lib.hid (hS.out.pc.other hnj8 1 _)
      clear g3d c1d g0 g1 g2 g3 c0 c1 fz hnF hjF hjl hnj hnj8 hS HWR
      generalize (wr.setCell ⟨j, 1, none⟩ (.int .i64 (held (tkK K f (c + 1)) : Int))).drew = w5 at HM5 HO5 HJ5 HK5 HP5 ⊢
      have g0 := HM5.out.cell 0
      have g1 := HM5.out.cell 1
      have g2 := HM5.out.cell 2
      have g3 := HM5.out.cell 3
      simp [mv] at g0 g1 g2 g3
      have f0 := HM5.out.frozen 0
      have f1 := HM5.out.frozen 1
      have f2 := HM5.out.frozen 2
      have f3 := HM5.out.frozen 3
      have y3 := (HP5.out.cell 3).trans HC3.out
      have g0d : w5.drew.cell? ⟨b0, 0, none⟩ = _ := g0
      have g1d : w5.drew.cell? ⟨b0, 1, none⟩ = _ := g1
      have g2d : w5.drew.cell? ⟨b0, 2, none⟩ = _ := g2
      have g3d : w5.drew.cell? ⟨b0, 3, none⟩ = _ := g3
      have y3d : w5.drew.cell? ⟨b8, 3, none⟩ = _ := y3
      have hn8 : b8 ≠ b0 := Ne.symm HNE.out
      go_upto_region 9 with fail
      go_region
      have hnF : ¬ F b0 := fun h => by have := HF.out b0 h; rw [HB0.out] at this; omega
      have hge : w.heap.size ≤ b0 := Nat.le_of_eq HB0.out
      have hob : (Value.slice A n cp).ownBlock ≠ some b0 := own_off HO5.out HM5.out (by decide)
      have HM6 : Hid (Bk ((((w5.setCell ⟨b0, 0, none⟩ (.int .u16 (x.s : Int))).setCell ⟨b0, 1, none⟩ (.bool (un x.f))).setCell ⟨b0, 2, none⟩ (.int .u32 (x.p : Int))).setCell ⟨b0, 3, none⟩ (.slice A n cp)).drew b0 (mv x.s (un x.f) x.p A n cp) 39) := Lib.hid ((((HM5.out.set 0 _).set 1 _).set 2 _).set 3 _)
      have HO6 : Hid (((((w5.setCell ⟨b0, 0, none⟩ (.int .u16 (x.s : Int))).setCell ⟨b0, 1, none⟩ (.bool (un x.f))).setCell ⟨b0, 2, none⟩ (.int .u32 (x.p : Int))).setCell ⟨b0, 3, none⟩ (.slice A n cp)).drew.ownsRow w.heap.size 5 1 (.slice A n cp) n (bs (tkD K f (c + 1)))) := by
        have h := (((HO5.out.kept (setc_grown _ b0 0 (.int .u16 (x.s : Int))) (.inr hob)).kept (setc_grown _ b0 1 (.bool (un x.f))) (.inr hob)).kept (setc_grown _ b0 2 (.int .u32 (x.p : Int))) (.inr hob)).kept (setc_grown _ b0 3 (.slice A n cp)) (.inr hob)
        exact Lib.hid h
      have HJ6 : Hid (JA j (tkK K f (c + 1)) ((((w5.setCell ⟨b0, 0, none⟩ (.int .u16 (x.s : Int))).setCell ⟨b0, 1, none⟩ (.bool (un x.f))).setCell ⟨b0, 2, none⟩ (.int .u32 (x.p : Int))).setCell ⟨b0, 3, none⟩ (.slice A n cp)).drew F) := by
        have h := (((JB.set HJ5.out hnF 0 (.int .u16 (x.s : Int))).set hnF 1 (.bool (un x.f))).set hnF 2 (.int .u32 (x.p : Int))).set hnF 3 (.slice A n cp)
        exact Lib.hid (JB.next h (Below.refl _ _).drew)
      have HK6 : Hid (Kp w ((((w5.setCell ⟨b0, 0, none⟩ (.int .u16 (x.s : Int))).setCell ⟨b0, 1, none⟩ (.bool (un x.f))).setCell ⟨b0, 2, none⟩ (.int .u32 (x.p : Int))).setCell ⟨b0, 3, none⟩ (.slice A n cp)).drew F) := by
        have h := kps (kps (kps (kps HK5.out hge 0 (.int .u16 (x.s : Int))) hge 1 (.bool (un x.f))) hge 2 (.int .u32 (x.p : Int))) hge 3 (.slice A n cp)
        exact Lib.hid ⟨h.os, h.tape, h.output, h.size, h.block⟩
      clear g0 g1 g2 g3 f0 f1 f2 f3 y3 g0d g1d g2d g3d y3d hn8 hnF hge hob HM5 HO5 HJ5 HK5 HP5
      generalize ((((w5.setCell ⟨b0, 0, none⟩ (.int .u16 (x.s : Int))).setCell ⟨b0, 1, none⟩ (.bool (un x.f))).setCell ⟨b0, 2, none⟩ (.int .u32 (x.p : Int))).setCell ⟨b0, 3, none⟩ (.slice A n cp)).drew = w6 at HM6 HO6 HJ6 HK6 ⊢
      have g0 := HM6.out.cell 0
      have g1 := HM6.out.cell 1
      have g2 := HM6.out.cell 2
      have g3 := HM6.out.cell 3
      simp [mv] at g0 g1 g2 g3
      go_wp2_with fail
      (try simp only [Exit.inBlock, Exit.then])
      refine bodyPost_ret (v := .tuple #[.agg #[.int .u16 (x.s : Int), .bool (un x.f), .int .u32 (x.p : Int), .slice A n cp], .int .u16 (x.n : Int)]) (by simp [results, Try.results85, go_sem, g0, g1, g2, g3]) rfl ?_
      have hcap : n ≤ cp ∧ (A = none → n = 0 ∧ cp = 0) := by
        rcases HO6.out.2 with ⟨h1, h2⟩ | ⟨g, cap, cur, h1, _, _, h2, h3, _⟩
        · simp only [Value.slice.injEq] at h1
          obtain ⟨_, e1, e2⟩ := h1
          exact ⟨by omega, fun _ => ⟨e1, e2⟩⟩
        · simp only [Value.slice.injEq] at h1
          obtain ⟨rfl, _, rfl⟩ := h1
          exact ⟨h2, fun e => by cases e⟩
      exact ⟨A, n, cp, rfl, HJ6.out, HK6.out, HN.out.symm, hcap.1, row_of_own HO6.out, hcap.2, HO6.out⟩
end Fg
end Go.Proofs.Ytednkcjmlpgipaa
