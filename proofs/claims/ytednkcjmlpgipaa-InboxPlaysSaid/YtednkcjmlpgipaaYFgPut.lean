/-
  A piece comes: Put, walked.
-/
import Derived.Test.YtednkcjmlpgipaaYFgTake
namespace Go.Proofs.Ytednkcjmlpgipaa
set_option maxRecDepth 4000
open Go.RowKit Go.Maps
namespace Fg
set_option linter.unusedVariables false

theorem JB.mono {j : Nat} {x : Int} {K : List Pc} {w : World} {F G : Nat → Prop} (h : JB j x K w F) (hi : ∀ b, F b → G b) (hl : ∀ b, G b → b < w.heap.size) : JB j x K w G := by
  obtain ⟨m, hb, ⟨D, hw, hv, hf, ha, _⟩, hj, hok⟩ := h
  exact ⟨m, hb, ⟨D, hw, hv.mono hi, hi _ hf, ha, hl⟩, hi _ hj, hok⟩
/-- It is kept. -/
theorem jb_put {w : World} {F : Nat → Prop} {j : Nat} {h : Int} {K : List Pc} (hj : JB j h K w F) (x : Pc) (hok : x.Ok) (hx : look K x.t = none) (hn : K.length < 1000000000) {A : Option Addr} {k c : Nat} (hs : Sl w F A k c x.d) :
    ∃ m W', w.cell? ⟨j, 0, none⟩ = some (.map (some m)) ∧ (Instr.mapUpdate 139 (.map (some m)) (.int .u32 (x.t : Int)) (.agg (pv x A k c))).run Try.prog w = .ok () W' ∧ JB j h (K ++ [x]) W' F ∧ w.grownBy W' (some m) ∧ F m ∧ ∀ b cs t, Bk w b cs t → b ≠ m := by
  obtain ⟨m, hb, hmk, hf, hoks⟩ := hj
  have hfm : F m := by obtain ⟨D, _, _, hf, _⟩ := hmk; exact hf
  obtain ⟨W', h1, h2, h3⟩ := mk_put hmk x hx hok.t hn hs
  have hbm : ∀ b cs t, Bk w b cs t → b ≠ m := fun b cs t hb e => by
    obtain ⟨D, hw, _⟩ := hmk
    obtain ⟨es, clock, hh⟩ := owns_block hw
    rw [← e, show w.heap[b]? = _ from hb] at hh
    cases hh
  have hjm : j ≠ m := hbm _ _ _ hb
  exact ⟨m, W', (hb.cell 0).trans rfl, h1, ⟨m, hb.kept h3 (fun e => by injection e with e; exact hjm e), h2, hf, fun y hy => by
    rcases List.mem_append.1 hy with hy | hy
    · exact hoks y hy
    · simp only [List.mem_singleton] at hy
      rw [hy]
      exact hok⟩, h3, hfm, hbm⟩
def zmv : Array Value := #[.int .u16 0, .bool false, .int .u32 0, .slice none 0 0]
/-- The clone's row joins. -/
theorem jb_join {w2 w3 : World} {F : Nat → Prop} {j : Nat} {h : Int} {K : List Pc} (hj : JB j h K w2 F) {b3 b4 : Nat} {x : Pc} {A0 : Option Addr} {k0 c0 : Nat} (hp : Bk w2 b3 (pv x A0 k0 c0) 33) (hm : Bk w2 b4 zmv 39) (hn : b4 ≠ b3) (hb3 : ¬ F b3) {A' : Option Addr} {c' : Nat} (ho : Own w2 w3 A' k0 c' x.d) :
    JB j h K (w3.setCell ⟨b3, 5, none⟩ (.slice A' k0 c')) (fun b => F b ∨ (Value.slice A' k0 c').ownBlock = some b) ∧ Bk (w3.setCell ⟨b3, 5, none⟩ (.slice A' k0 c')) b3 (pv x A' k0 c') 33 ∧ Bk (w3.setCell ⟨b3, 5, none⟩ (.slice A' k0 c')) b4 zmv 39 ∧
      Sl (w3.setCell ⟨b3, 5, none⟩ (.slice A' k0 c')) (fun b => F b ∨ (Value.slice A' k0 c').ownBlock = some b) A' k0 c' x.d := by
  have hp3 := hp.next ho.2
  have hob : (Value.slice A' k0 c').ownBlock ≠ some b3 := own_off ho.1 hp3 (by decide)
  have ho2 := ho.1.kept (setc_grown w3 b3 5 (.slice A' k0 c')) (.inr hob)
  refine ⟨JB.mono ((hj.next ho.2).set hb3 5 _) (fun b hb => .inl hb) (fun b hb => ?_), hp3.set 5 _, (hm.next ho.2).other hn 5 _, ho.len, row_of_own ho2, fun e => ?_, fun a e => .inr (by rw [e]; rfl)⟩
  · rcases hb with hb | hb
    · have h1 := hj.lt hb
      have h2 := ho.2.size
      simp [World.setCell]
      omega
    · have := (ho2.lt b hb).2
      exact this
  · rcases ho.1.2 with ⟨h1, h2⟩ | ⟨g, cap, cur, h1, _⟩
    · simp only [Value.slice.injEq] at h1
      exact ⟨h2, h1.2.2⟩
    · simp only [Value.slice.injEq] at h1
      rw [e] at h1
      cases h1.1
/-- A message is laid into a variable of its own. -/
theorem msg_set {w W : World} {F F' : Nat → Prop} {j b4 : Nat} {K : List Pc} {c0 c1 c2 c3 : Value} (hm : Bk W b4 #[c0, c1, c2, c3] 39) (hj : JA j K W F') (hk : Kp w W F) (hF : ¬ F' b4) (hb : w.heap.size ≤ b4) (v0 v1 v2 v3 : Value) :
    Bk ((((W.setCell ⟨b4, 0, none⟩ v0).setCell ⟨b4, 1, none⟩ v1).setCell ⟨b4, 2, none⟩ v2).setCell ⟨b4, 3, none⟩ v3) b4 #[v0, v1, v2, v3] 39 ∧
      JA j K ((((W.setCell ⟨b4, 0, none⟩ v0).setCell ⟨b4, 1, none⟩ v1).setCell ⟨b4, 2, none⟩ v2).setCell ⟨b4, 3, none⟩ v3) F' ∧
      Kp w ((((W.setCell ⟨b4, 0, none⟩ v0).setCell ⟨b4, 1, none⟩ v1).setCell ⟨b4, 2, none⟩ v2).setCell ⟨b4, 3, none⟩ v3) F :=
  ⟨(((hm.set 0 v0).set 1 v1).set 2 v2).set 3 v3, (((JB.set hj hF 0 v0).set hF 1 v1).set hF 2 v2).set hF 3 v3, kps (kps (kps (kps hk hb 0 v0) hb 1 v1) hb 2 v2) hb 3 v3⟩
theorem row_off {W : World} {b : Nat} {cs : Array Value} {t : TypeId} (hb : Bk W b cs t) (hcs : ∀ v ∈ cs.toList, ∀ n, v ≠ .int .u8 n) {A : Option Addr} {l : List Int} (hr : Row W A (bs l)) {W' : World} (hk : ∀ k, k < W.heap.size → k ≠ b → W'.heap[k]? = W.heap[k]?) : Row W' A (bs l) :=
  Row.keep8 hr fun p n hp => by
    by_cases e : p.block = b
    · exfalso
      obtain ⟨pb, po, ps⟩ := p
      simp only at e
      subst e
      unfold World.cell? at hp
      rw [show W.heap[pb]? = _ from hb] at hp
      simp only at hp
      split at hp
      · cases hp
      · exact hcs _ (by simpa using Array.mem_of_getElem? hp) n rfl
    · rw [World.cell?_of_block (w := W) (w' := W') (a := p) (hk _ (block_lt_of_cell hp) e)]
      exact hp
theorem four_other (W : World) (b : Nat) (v0 v1 v2 v3 : Value) : ∀ k, k < W.heap.size → k ≠ b → ((((W.setCell ⟨b, 0, none⟩ v0).setCell ⟨b, 1, none⟩ v1).setCell ⟨b, 2, none⟩ v2).setCell ⟨b, 3, none⟩ v3).heap[k]? = W.heap[k]? := fun k _ hne => by
  rw [Below.heap_setCell _ _ _ _ hne, Below.heap_setCell _ _ _ _ hne, Below.heap_setCell _ _ _ _ hne, Below.heap_setCell _ _ _ _ hne]
theorem mv_no8 (s : Nat) (u : Bool) (p : Nat) (A : Option Addr) (k c : Nat) : ∀ v ∈ (mv s u p A k c).toList, ∀ n, v ≠ .int .u8 n := fun v hv n e => by
  subst e
  simp [mv] at hv
theorem own_four {W W' : World} {B b n c : Nat} {cs : Array Value} {t : TypeId} {A : Option Addr} {l : List Int} (hb : Bk W b cs t) (ht : t ≠ 5) (ho : W.ownsRow B 5 1 (.slice A n c) n (bs l)) (hk : ∀ k, k < W.heap.size → k ≠ b → W'.heap[k]? = W.heap[k]?) : W'.ownsRow B 5 1 (.slice A n c) n (bs l) := by
  have h1 := own_off ho hb ht
  refine ⟨ho.1, ?_⟩
  rcases ho.2 with h2 | ⟨g, cap, cur, hv, hg, hh, r⟩
  · exact .inl h2
  · exact .inr ⟨g, cap, cur, hv, hg, (hk g (Array.getElem?_eq_some_iff.1 hh).1 (fun e => h1 (by rw [hv, e]; rfl))).trans hh, r⟩
/-- What is told. -/
def told (lo : Nat) (F' : Nat → Prop) (w' : World) (e : Ending) : Option (Ms × Nat) → Prop
  | none => e = .returned (.tuple #[.agg zmv, .int .u16 0, .bool false])
  | some (m, s) => ∃ A n c, e = .returned (.tuple #[.agg (mv m.s m.u m.p A n c), .int .u16 (s : Int), .bool true]) ∧ m.d.length = n ∧ n ≤ c ∧ Row w' A (bs m.d) ∧ (A = none → n = 0 ∧ c = 0) ∧ ∃ B, lo ≤ B ∧ (∀ k, F' k → k < B) ∧ w'.ownsRow B 5 1 (.slice A n c) n (bs m.d)
set_option maxHeartbeats 1000000 in
theorem put_any (w : World) (F : Nat → Prop) (j : Nat) (K : List Pc) (x : Pc) (A0 : Option Addr) (k0 c0 : Nat) (h : JA j K w F) (hok : x.Ok) (hl : x.d.length = k0) (hk : k0 ≤ 4000000) (hr : Row w A0 (bs x.d)) (hlen : K.length < 100000000) (hheld : held K < 100000000) :
    Calls Try.prog 54 #[.pointer (some ⟨j, 0, none⟩), .agg (pv x A0 k0 c0)] w fun e w' => ∃ F', (∀ b, F' b → F b ∨ w.heap.size ≤ b) ∧ JA j (put K x).1 w' F' ∧ Kp w w' F ∧ told w.heap.size F' w' e (put K x).2 := by
  have H := Lib.hid h
  have HOK := Lib.hid hok
  have HL := Lib.hid hl
  have HR := Lib.hid hr
  have HF : Hid (∀ k, F k → k < w.heap.size) := Lib.hid fun k hk => JB.lt h hk
  have HHE := Lib.hid hheld
  have HLEN := Lib.hid hlen
  have HT := Lib.hid hok.t
  clear h hok hl hr hheld hlen
  unfold pv
  go_enter Try.func54, Try.ntmps54
  go_upto_region 1 with fail
  have HW0 : Hid (Below w.heap.size w ((w.alloc (.cells #[.int .u32 (x.t : Int), .int .u8 (x.f : Int), .int .u16 (x.s : Int), .int .u16 (x.n : Int), .int .u32 (x.p : Int), .slice A0 k0 c0] 33)).alloc (.cells #[.int .u16 0, .bool false, .int .u32 0, .slice none 0 0] 39))) := Lib.hid (two_new _ _ _)
  have HP3 : Hid (Bk ((w.alloc (.cells #[.int .u32 (x.t : Int), .int .u8 (x.f : Int), .int .u16 (x.s : Int), .int .u16 (x.n : Int), .int .u32 (x.p : Int), .slice A0 k0 c0] 33)).alloc (.cells #[.int .u16 0, .bool false, .int .u32 0, .slice none 0 0] 39)) w.heap.size (pv x A0 k0 c0) 33) := Lib.hid ((Bk.new _ _ _).alloc _)
  have HM4 : Hid (Bk ((w.alloc (.cells #[.int .u32 (x.t : Int), .int .u8 (x.f : Int), .int .u16 (x.s : Int), .int .u16 (x.n : Int), .int .u32 (x.p : Int), .slice A0 k0 c0] 33)).alloc (.cells #[.int .u16 0, .bool false, .int .u32 0, .slice none 0 0] 39)) (w.heap.size + 1) zmv 39) := Lib.hid (by
    have := Bk.new (w.alloc (.cells #[.int .u32 (x.t : Int), .int .u8 (x.f : Int), .int .u16 (x.s : Int), .int .u16 (x.n : Int), .int .u32 (x.p : Int), .slice A0 k0 c0] 33)) zmv 39
    rw [show (w.alloc (.cells #[.int .u32 (x.t : Int), .int .u8 (x.f : Int), .int .u16 (x.s : Int), .int .u16 (x.n : Int), .int .u32 (x.p : Int), .slice A0 k0 c0] 33)).heap.size = w.heap.size + 1 by simp] at this
    exact this)
  generalize ((w.alloc (.cells #[.int .u32 (x.t : Int), .int .u8 (x.f : Int), .int .u16 (x.s : Int), .int .u16 (x.n : Int), .int .u32 (x.p : Int), .slice A0 k0 c0] 33)).alloc (.cells #[.int .u16 0, .bool false, .int .u32 0, .slice none 0 0] 39)) = w1 at HW0 HP3 HM4 ⊢
  obtain ⟨b4, hb4⟩ : ∃ b4, w.heap.size + 1 = b4 := ⟨_, rfl⟩
  obtain ⟨b3, hb3⟩ : ∃ b3, w.heap.size = b3 := ⟨_, rfl⟩
  have HB4 : Hid (w.heap.size ≤ b4 ∧ b4 ≠ b3) := Lib.hid (by omega)
  have HB3 := Lib.hid hb3
  rw [hb4] at HM4 ⊢
  rw [hb3] at HP3 ⊢
  clear hb4 hb3
  have HJ1 : Hid (JA j K w1 F) := Lib.hid (H.out.next HW0.out)
  have HK1 : Hid (Kp w w1 F) := Lib.hid (Kp.below HW0.out)
  have C1 := Lib.hid (has_any w1 F j x.t K HJ1.out HT.out)
  have y0 := (HP3.out.cell 0)
  simp [pv] at y0
  clear H
  cases hlk : look K x.t with
  | some y =>
    have HP : Hid (put K x = (K, none)) := Lib.hid (by unfold put; rw [hlk]; rfl)
    rw [hlk] at C1
    clear hlk
    go_wp2_with (go_at_call 82; (with_reducible refine C1.out.mono ?_); rintro e w2 ⟨rfl, hb2⟩)
    have HM := HM4.out.next hb2
    have g0 := HM.cell 0
    have g1 := HM.cell 1
    have g2 := HM.cell 2
    have g3 := HM.cell 3
    simp [zmv] at g0 g1 g2 g3
    have HK2 : Hid (Kp w w2 F) := Lib.hid (HK1.out.trans (F' := F) (Kp.below hb2) (fun b hb => .inl hb))
    have HJ2 : Hid (JA j K w2 F) := Lib.hid (HJ1.out.next hb2)
    clear hb2 HM
    (try simp only [Exit.inBlock, Exit.then])
    refine bodyPost_ret (v := .tuple #[.agg #[.int .u16 0, .bool false, .int .u32 0, .slice none 0 0], .int .u16 0, .bool false]) (by simp [results, Try.results54, go_sem, g0, g1, g2, g3]) rfl ?_
    exact ⟨F, fun b hb => .inl hb, by rw [HP.out]; exact HJ2.out, HK2.out, by rw [HP.out]; rfl⟩
  | none =>
    have HLK := Lib.hid hlk
    rw [hlk] at C1
    clear hlk
    go_upto_region 2 with (go_at_call 82; (with_reducible refine C1.out.mono ?_); rintro e w2 ⟨rfl, hb2⟩)
    have HP := Lib.hid (HP3.out.next hb2)
    have HM := Lib.hid (HM4.out.next hb2)
    have HJ2 := Lib.hid (HJ1.out.next hb2)
    have HW2 := Lib.hid (bnext HW0.out hb2)
    have HK2 : Hid (Kp w w2 F) := Lib.hid (Kp.below HW2.out)
    have HC := Lib.hid (clone_any A0 k0 c0 x.d w2 HL.out hk (HR.out.below HW2.out))
    have HB3L : Hid (b3 < w2.heap.size) := Lib.hid HP.out.lt
    have y5 := (HP.out.cell 5)
    simp [pv] at y5
    clear hb2 HP3 HM4 HJ1 HK1 HW0 C1 y0
    go_wp2_with (go_at_call 83; (with_reducible refine HC.out.mono ?_); rintro e w3 ⟨A', c', rfl, ho3⟩; have f5 := (HP.out.next ho3.2).frozen 5; have y5b := ((HP.out.next ho3.2).cell 5); simp [pv] at y5b)
    have hb3F : ¬ F b3 := fun h => by have := HF.out b3 h; have := HB3.out; omega
    have hob4 : (Value.slice A' k0 c').ownBlock ≠ some b4 := own_off ho3.1 (HM.out.next ho3.2) (by decide)
    have HF6 : Hid (¬ (F b4 ∨ (Value.slice A' k0 c').ownBlock = some b4)) := Lib.hid fun h => by
      rcases h with h | h
      · have := HF.out b4 h; have := HB4.out.1; omega
      · exact hob4 h
    obtain ⟨j4, p4, m4, s4⟩ := jb_join HJ2.out HP.out HM.out HB4.out.2 hb3F ho3
    obtain ⟨m, w5, c5, hu5, j5, g5, fm5, jm5⟩ := jb_put (JB.next j4 (Below.refl _ _).drew) x HOK.out HLK.out (by have := HLEN.out; omega) (A := A') (k := k0) (c := c') ⟨s4.len, s4.row, s4.nil, s4.ins⟩
    have HJ5 := Lib.hid j5
    have hge : w.heap.size ≤ b3 := Nat.le_of_eq HB3.out
    have hml : F m ∨ w.heap.size ≤ m := by
      rcases fm5 with h | h
      · exact .inl h
      · exact .inr (Nat.le_trans HW2.out.size (ho3.1.lt m h).1)
    have HF5 : Hid (∀ b, F b ∨ (Value.slice A' k0 c').ownBlock = some b → F b ∨ w.heap.size ≤ b) := Lib.hid fun b hb => by
      rcases hb with h | h
      · exact .inl h
      · exact .inr (Nat.le_trans HW2.out.size (ho3.1.lt b h).1)
    have HK5 : Hid (Kp w w5 F) := by
      have h := kps ((HK2.out).trans (F' := F) (Kp.below ho3.2) (fun b hb => .inl hb)) hge 5 (.slice A' k0 c')
      have h2 : Kp w (w3.setCell ⟨b3, 5, none⟩ (.slice A' k0 c')).drew F := ⟨h.os, h.tape, h.output, h.size, h.block⟩
      exact Lib.hid (h2.trans (Kp.grown (F := fun k => k = m) g5 (fun g e => by injection e with e; exact e.symm)) (fun b e => by rw [e]; exact hml))
    have HP5 : Hid (Bk w5 b3 (pv x A' k0 c') 33) := Lib.hid (Bk.kept (W := (w3.setCell ⟨b3, 5, none⟩ (.slice A' k0 c')).drew) p4 g5 (fun e => by injection e with e; exact jm5 _ _ _ p4 e))
    have HM5 : Hid (Bk w5 b4 zmv 39) := Lib.hid (Bk.kept (W := (w3.setCell ⟨b3, 5, none⟩ (.slice A' k0 c')).drew) m4 g5 (fun e => by injection e with e; exact jm5 _ _ _ m4 e))
    have p0 := p4.cell 0
    have p1 := p4.cell 1
    have p2 := p4.cell 2
    have p3 := p4.cell 3
    have p4' := p4.cell 4
    have p5 := p4.cell 5
    simp [pv] at p0 p1 p2 p3 p4' p5
    unfold pv at hu5
    clear j4 p4 m4 s4 j5 g5 y5 y5b f5
    generalize w3.setCell ⟨b3, 5, none⟩ (.slice A' k0 c') = w4 at c5 hu5 p0 p1 p2 p3 p4' p5 ⊢
    have q0 : w4.drew.cell? ⟨b3, 0, none⟩ = _ := p0
    have q1 : w4.drew.cell? ⟨b3, 1, none⟩ = _ := p1
    have q2 : w4.drew.cell? ⟨b3, 2, none⟩ = _ := p2
    have q3 : w4.drew.cell? ⟨b3, 3, none⟩ = _ := p3
    have q4 : w4.drew.cell? ⟨b3, 4, none⟩ = _ := p4'
    have q5 : w4.drew.cell? ⟨b3, 5, none⟩ = _ := p5
    go_region
    clear c5 hu5 p0 p1 p2 p3 p4' p5 q0 q1 q2 q3 q4 q5 jm5 fm5 hml hge hb3F HP HM HJ2 HK2 HW2
    have y0 := (HP5.out.cell 0)
    have y5 := (HP5.out.cell 5)
    simp [pv] at y0 y5
    obtain ⟨mm, c0, c1, _, fz⟩ := JB.cells HJ5.out
    have y5d : w5.drew.cell? ⟨b3, 5, none⟩ = _ := y5
    have c1d : w5.drew.cell? ⟨j, 1, none⟩ = _ := c1
    go_upto_region 4 with fail
    have hwr : wrap64 ((held K : Int) + (k0 : Int)) = (held (K ++ [x]) : Int) := by
      have h3 := HHE.out
      rw [held_app, HL.out]
      clear y5d c1d y0 y5 c0 c1 fz
      go_arith
    go_region
    rw [hwr]
    have hjF : F j ∨ (Value.slice A' k0 c').ownBlock = some j := by obtain ⟨m, _, _, hj, _⟩ := HJ5.out; exact hj
    have hjb : ∀ b cs t, Bk w5 b cs t → t ≠ 141 → b ≠ j := fun b cs t hb hne e => by
      obtain ⟨m, hbj, _⟩ := HJ5.out
      rw [e] at hb
      have := (show w5.heap[j]? = _ from hb).symm.trans hbj
      simp at this
      exact hne this.2
    have HP6 : Hid (Bk (w5.setCell ⟨j, 1, none⟩ (.int .i64 (held (K ++ [x]) : Int))).drew b3 (pv x A' k0 c') 33) := Lib.hid (HP5.out.other (hjb _ _ _ HP5.out (by decide)) 1 _)
    have HM6 : Hid (Bk (w5.setCell ⟨j, 1, none⟩ (.int .i64 (held (K ++ [x]) : Int))).drew b4 zmv 39) := Lib.hid (HM5.out.other (hjb _ _ _ HM5.out (by decide)) 1 _)
    have HJ6 : Hid (JA j (K ++ [x]) (w5.setCell ⟨j, 1, none⟩ (.int .i64 (held (K ++ [x]) : Int))).drew (fun b => F b ∨ (Value.slice A' k0 c').ownBlock = some b)) := Lib.hid (JB.next (JB.turn HJ5.out (held (K ++ [x]) : Int)) (Below.refl _ _).drew)
    have HK6 : Hid (Kp w (w5.setCell ⟨j, 1, none⟩ (.int .i64 (held (K ++ [x]) : Int))).drew F) := by
      have h := HK5.out.trans (F := F) (kp_set w5 j 1 (.int .i64 (held (K ++ [x]) : Int))) (fun b e => by rw [e]; exact HF5.out j hjF)
      exact Lib.hid ⟨h.os, h.tape, h.output, h.size, h.block⟩
    clear y0 y5 c0 c1 fz y5d c1d hwr hjF hjb HP5 HM5 HJ5 HK5
    generalize (w5.setCell ⟨j, 1, none⟩ (.int .i64 (held (K ++ [x]) : Int))).drew = w6 at HP6 HM6 HJ6 HK6 ⊢
    obtain ⟨F', hF'⟩ : ∃ F' : Nat → Prop, (fun b => F b ∨ (Value.slice A' k0 c').ownBlock = some b) = F' := ⟨_, rfl⟩
    have HF7 : Hid (¬ F' b4) := Lib.hid (by rw [← hF']; exact HF6.out)
    have HF8 : Hid (∀ b, F' b → F b ∨ w.heap.size ≤ b) := Lib.hid (by rw [← hF']; exact HF5.out)
    rw [hF'] at HJ6
    clear HF6 HF5 hob4 hF'
    have y0 := (HP6.out.cell 0)
    simp [pv] at y0
    have hlk : look (K ++ [x]) x.t = some x := by rw [look_app, HLK.out]; simp
    have hl1 : (K ++ [x]).length = K.length + 1 := by simp
    have hoks : ∀ y ∈ K ++ [x], y.Ok := by obtain ⟨m, _, _, _, h⟩ := HJ6.out; exact h
    have C1 := Lib.hid (bounds_any w6 F' j x.t (K ++ [x]) HJ6.out hoks HT.out (by rw [hlk]; rfl) (by have := HLEN.out; omega))
    have HPUT : Hid (put K x = match bnd (K ++ [x]) x.t (K.length + 1) 0 0 with
      | none => (K ++ [x], none)
      | some (a, b) => (tkK (K ++ [x]) (bw x.t a) (a + b + 1), some (tell (K ++ [x]) (bw x.t a) (a + b + 1)))) := by
      have : put K x = match bnd (K ++ [x]) x.t (K.length + 1) 0 0 with
        | none => (K ++ [x], none)
        | some (a, b) => (tkK (K ++ [x]) (bw x.t a) (a + b + 1), some (tell (K ++ [x]) (bw x.t a) (a + b + 1))) := by
        unfold put
        rw [HLK.out]
        rfl
      exact Lib.hid this
    rw [hl1] at C1
    have HBS : Hid (∀ a b, bnd (K ++ [x]) x.t (K.length + 1) 0 0 = some (a, b) → Chain (K ++ [x]) x.t a b) := Lib.hid fun a b h => (bnd_some (chain_start (by rw [hlk]; rfl)) h).1
    clear hlk hl1 hoks
    cases hbn : bnd (K ++ [x]) x.t (K.length + 1) 0 0 with
    | none =>
      rw [hbn] at C1 HPUT
      simp only [bres] at C1
      clear hbn HBS
      go_upto_region 8 with (go_at_call 84; (with_reducible refine C1.out.mono ?_); rintro e w7 ⟨rfl, hb7⟩)
      have HM7 := Lib.hid (HM6.out.next hb7)
      have HJ7 : Hid (JA j (K ++ [x]) w7 F') := Lib.hid (HJ6.out.next hb7)
      have HK7 : Hid (Kp w w7 F) := Lib.hid (HK6.out.trans (F' := F) (Kp.below hb7) (fun b hb => .inl hb))
      have g0 := HM7.out.cell 0
      have g1 := HM7.out.cell 1
      have g2 := HM7.out.cell 2
      have g3 := HM7.out.cell 3
      simp [zmv] at g0 g1 g2 g3
      have f0 := HM7.out.frozen 0
      have f1 := HM7.out.frozen 1
      have f2 := HM7.out.frozen 2
      have f3 := HM7.out.frozen 3
      clear hb7 HM6 HJ6 HK6 HP6 C1 y0
      go_wp2_with fail
      obtain ⟨m8, j8, k8⟩ := msg_set HM7.out HJ7.out HK7.out HF7.out HB4.out.1 (.int .u16 0) (.bool false) (.int .u32 0) (.slice none 0 0)
      clear g0 g1 g2 g3 f0 f1 f2 f3
      generalize (((w7.setCell ⟨b4, 0, none⟩ (.int .u16 0)).setCell ⟨b4, 1, none⟩ (.bool false)).setCell ⟨b4, 2, none⟩ (.int .u32 0)).setCell ⟨b4, 3, none⟩ (.slice none 0 0) = w8 at m8 j8 k8 ⊢
      have g0 := m8.cell 0
      have g1 := m8.cell 1
      have g2 := m8.cell 2
      have g3 := m8.cell 3
      simp at g0 g1 g2 g3
      refine bodyPost_ret (v := .tuple #[.agg #[.int .u16 0, .bool false, .int .u32 0, .slice none 0 0], .int .u16 0, .bool false]) (by simp [results, Try.results54, go_sem, g0, g1, g2, g3]) rfl ?_
      exact ⟨F', HF8.out, by rw [HPUT.out]; exact j8, k8, by rw [HPUT.out]; rfl⟩
    | some ab =>
      obtain ⟨a, b⟩ := ab
      rw [hbn] at C1 HPUT
      simp only [bres] at C1
      replace HPUT : Hid (put K x = (tkK (K ++ [x]) (bw x.t a) (a + b + 1), some (tell (K ++ [x]) (bw x.t a) (a + b + 1)))) := HPUT
      have HCH := Lib.hid (HBS.out a b hbn)
      have hbl := bnd_le hbn
      clear hbn HBS
      have hab : a + b < 4294967296 := by have := HLEN.out; omega
      have hap : Apart (K ++ [x]) := by obtain ⟨m, _, ⟨D, _, _, _, ha, _⟩, _⟩ := HJ6.out; exact ha
      have hcl := chain_len HT.out hap HCH.out hab
      have hcs := chain_some HT.out HCH.out hab
      obtain ⟨y, hy⟩ := (chain_ends HT.out HCH.out hab).1
      have hfl : fw (bw x.t a) (a + b) = fw x.t b := by have := HT.out; unfold fw bw; omega
      have hhe : held (K ++ [x]) < 1000000000 := by rw [held_app, HL.out]; have := HHE.out; omega
      have C2 : Hid (∀ w7, Below w6.heap.size w6 w7 → Calls Try.prog 85 #[.pointer (some ⟨j, 0, none⟩), .int .u32 (bw x.t a : Int), .int .u32 (fw x.t b : Int)] w7 fun e w' => ∃ A n cp, e = .returned (.tuple #[.agg #[.int .u16 (y.s : Int), .bool (un y.f), .int .u32 (y.p : Int), .slice A n cp], .int .u16 (y.n : Int)]) ∧ Hid (JA j (tkK (K ++ [x]) (bw x.t a) (a + b + 1)) w' F' ∧ Kp w7 w' F' ∧
        (tkD (K ++ [x]) (bw x.t a) (a + b + 1)).length = n ∧ n ≤ cp ∧ Row w' A (bs (tkD (K ++ [x]) (bw x.t a) (a + b + 1))) ∧ (A = none → n = 0 ∧ cp = 0) ∧ w'.ownsRow w7.heap.size 5 1 (.slice A n cp) n (bs (tkD (K ++ [x]) (bw x.t a) (a + b + 1))))) := Lib.hid fun w7 hb => by
        have := take_any w7 F' j (bw x.t a) (a + b) (K ++ [x]) y (HJ6.out.next hb) (bw_lt _ _) hy hcs hcl (by simp; have := HLEN.out; omega) hhe
        rw [hfl] at this
        exact this.mono fun e w' ⟨A, n, cp, h1, h2⟩ => ⟨A, n, cp, h1, Lib.hid h2⟩
      have HTL : Hid (tell (K ++ [x]) (bw x.t a) (a + b + 1) = (⟨y.s, un y.f, y.p, tkD (K ++ [x]) (bw x.t a) (a + b + 1)⟩, y.n)) := Lib.hid (by unfold tell; rw [hy])
      clear hbl hab hap hcl hcs hy hfl hhe HCH
      generalize tkD (K ++ [x]) (bw x.t a) (a + b + 1) = dd at C2 HTL
      generalize tkK (K ++ [x]) (bw x.t a) (a + b + 1) = KK at C2 HPUT
      generalize tell (K ++ [x]) (bw x.t a) (a + b + 1) = tt at HPUT HTL
      generalize bw x.t a = fa at C1 C2
      generalize fw x.t b = fb at C1 C2
      go_upto_region 7 with (go_at_call 84; (with_reducible refine C1.out.mono ?_); rintro e w7 ⟨rfl, hb7⟩)
      have HM7 := Lib.hid (HM6.out.next hb7)
      have HK7 : Hid (Kp w w7 F) := Lib.hid (HK6.out.trans (F' := F) (Kp.below hb7) (fun b hb => .inl hb))
      have C3 := Lib.hid (C2.out w7 hb7)
      have HF9 : Hid (∀ k, F' k → k < w7.heap.size) := Lib.hid fun k hk => Nat.lt_of_lt_of_le (JB.lt HJ6.out hk) hb7.size
      clear hb7 HM6 HJ6 HK6 HP6 C1 C2 y0
      go_wp2_with (go_at_call 85; (with_reducible refine C3.out.mono ?_); rintro e w8 ⟨A, n, cp, rfl, h8⟩; have HM8 := Lib.hid ((h8.out.2.1.block b4 HM7.out.lt HF7.out).trans HM7.out); have f0 := Bk.frozen HM8.out 0; have f1 := Bk.frozen HM8.out 1; have f2 := Bk.frozen HM8.out 2; have f3 := Bk.frozen HM8.out 3; have g0 := Bk.cell HM8.out 0; have g1 := Bk.cell HM8.out 1; have g2 := Bk.cell HM8.out 2; have g3 := Bk.cell HM8.out 3; simp [zmv] at g0 g1 g2 g3)
      have HK8 : Hid (Kp w w8 F) := Lib.hid (HK7.out.trans (F' := F') h8.out.2.1 HF8.out)
      obtain ⟨m9, j9, k9⟩ := msg_set HM8.out h8.out.1 HK8.out HF7.out HB4.out.1 (.int .u16 (y.s : Int)) (.bool (un y.f)) (.int .u32 (y.p : Int)) (.slice A n cp)
      have hr9 := row_off HM8.out (mv_no8 0 false 0 none 0 0) h8.out.2.2.2.2.1 (four_other w8 b4 (.int .u16 (y.s : Int)) (.bool (un y.f)) (.int .u32 (y.p : Int)) (.slice A n cp))
      have hl9 := h8.out.2.2.1
      have hc9 := h8.out.2.2.2.1
      have hz9 := h8.out.2.2.2.2.2.1
      have ho9 := own_four HM8.out (by decide) h8.out.2.2.2.2.2.2 (four_other w8 b4 (.int .u16 (y.s : Int)) (.bool (un y.f)) (.int .u32 (y.p : Int)) (.slice A n cp))
      clear g0 g1 g2 g3 f0 f1 f2 f3
      generalize (((w8.setCell ⟨b4, 0, none⟩ (.int .u16 (y.s : Int))).setCell ⟨b4, 1, none⟩ (.bool (un y.f))).setCell ⟨b4, 2, none⟩ (.int .u32 (y.p : Int))).setCell ⟨b4, 3, none⟩ (.slice A n cp) = w9 at m9 j9 k9 hr9 ho9 ⊢
      obtain ⟨m10, j10, k10⟩ := msg_set m9 j9 k9 HF7.out HB4.out.1 (.int .u16 (y.s : Int)) (.bool (un y.f)) (.int .u32 (y.p : Int)) (.slice A n cp)
      have hr10 := row_off m9 (mv_no8 y.s (un y.f) y.p A n cp) hr9 (four_other w9 b4 (.int .u16 (y.s : Int)) (.bool (un y.f)) (.int .u32 (y.p : Int)) (.slice A n cp))
      have ho10 := own_four m9 (by decide) ho9 (four_other w9 b4 (.int .u16 (y.s : Int)) (.bool (un y.f)) (.int .u32 (y.p : Int)) (.slice A n cp))
      generalize (((w9.setCell ⟨b4, 0, none⟩ (.int .u16 (y.s : Int))).setCell ⟨b4, 1, none⟩ (.bool (un y.f))).setCell ⟨b4, 2, none⟩ (.int .u32 (y.p : Int))).setCell ⟨b4, 3, none⟩ (.slice A n cp) = w10 at m10 j10 k10 hr10 ho10 ⊢
      have g0 := m10.cell 0
      have g1 := m10.cell 1
      have g2 := m10.cell 2
      have g3 := m10.cell 3
      simp at g0 g1 g2 g3
      refine bodyPost_ret (v := .tuple #[.agg #[.int .u16 (y.s : Int), .bool (un y.f), .int .u32 (y.p : Int), .slice A n cp], .int .u16 (y.n : Int), .bool true]) (by simp [results, Try.results54, go_sem, g0, g1, g2, g3]) rfl ?_
      refine ⟨F', HF8.out, by rw [HPUT.out]; exact j10, k10, ?_⟩
      rw [HPUT.out]
      simp only
      rw [HTL.out]
      exact ⟨A, n, cp, rfl, hl9, hc9, hr10, hz9, w7.heap.size, HK7.out.size, HF9.out, ho10⟩
end Fg
end Go.Proofs.Ytednkcjmlpgipaa
