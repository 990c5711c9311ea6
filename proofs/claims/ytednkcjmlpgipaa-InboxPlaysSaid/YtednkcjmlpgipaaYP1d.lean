/-
  An inbox as it lies in memory.
-/
import Derived.Test.YtednkcjmlpgipaaYP1a
import Derived.Test.YtednkcjmlpgipaaYFgPut
import Derived.Deep.RegionHeld3
import Derived.BigQuiet
import Derived.Test.YtednkcjmlpgipaaYGpRAdd3
import Derived.Test.YtednkcjmlpgipaaYP1c
namespace Go.Proofs.Ytednkcjmlpgipaa
set_option maxRecDepth 4000
open Go.RowKit Go.Maps
namespace Ix
set_option linter.unusedVariables false
set_option linter.unusedSimpArgs false
open Fg (Pc Ms mv JA JA_fr)

/-- A message and its slice. -/
abbrev Me := Ms × (Option Addr × Nat × Nat)
def mcl (e : Me) : List Value := [.int .u16 (e.1.s : Int), .bool e.1.u, .int .u32 (e.1.p : Int), .slice e.2.1 e.2.2.1 e.2.2.2]
def mf (l : List Me) : List Value := l.flatMap mcl
def mval (e : Me) : Value := .agg (mv e.1.s e.1.u e.1.p e.2.1 e.2.2.1 e.2.2.2)
theorem mf_len (l : List Me) : (mf l).length = l.length * 4 := by
  induction l with
  | nil => rfl
  | cons q l ih =>
    have e : mf (q :: l) = mcl q ++ mf l := by simp [mf]
    have hl : (mcl q).length = 4 := rfl
    rw [e, List.length_append, hl, ih, List.length_cons]
    omega
theorem mf_app (l : List Me) (e : Me) : mf (l ++ [e]) = mf l ++ mcl e := by simp [mf]
theorem mf_one : ∀ e : Me, ∀ u ∈ mcl e, u.oneCell' = true := fun e u hu => by
  simp [mcl] at hu
  rcases hu with rfl | rfl | rfl | rfl <;> rfl
abbrev PAs (s : Nat) (st : Gp.St) : As := ⟨fun w F => Gp.PSet w F s st, ⟨fun w w' F G h hk hd => Gp.PSet.frame h hk hd, fun w F h => by obtain ⟨⟨m, v, D, _, _, _, _, _, _, _, f4⟩, _⟩ := h; exact f4⟩⟩
abbrev JAs (j : Nat) (K : List Pc) : As := ⟨JA j K, JA_fr j K⟩
/-- Rows of bytes of messages. -/
def DatR (L : List Me) (w : World) (F : Nat → Prop) : Prop := (∀ e ∈ L, e.1.d.length = e.2.2.1 ∧ w.ownsRow 0 5 1 (.slice e.2.1 e.2.2.1 e.2.2.2) e.2.2.1 (bs e.1.d) ∧ ∀ g, (Value.slice e.2.1 e.2.2.1 e.2.2.2).ownBlock = some g → F g) ∧ ∀ k, F k → k < w.heap.size
theorem own_fr {w w' : World} {F : Nat → Prop} {b s : Nat} {e : TypeId} {v : Value} {n : Nat} {xs : List Value} (h : w.ownsRow b e s v n xs) (hk : Kp w w' F) (hd : ∀ g, v.ownBlock = some g → ¬ F g) : w'.ownsRow b e s v n xs := by
  refine ⟨h.1, ?_⟩
  rcases h.2 with h2 | ⟨g, cap, cur, hv, hg, hh, r⟩
  · exact .inl h2
  · exact .inr ⟨g, cap, cur, hv, hg, (hk.block g (Array.getElem?_eq_some_iff.1 hh).1 (hd g (by rw [hv]; rfl))).trans hh, r⟩
theorem DatR_fr (L : List Me) : Fr (DatR L) :=
  ⟨fun w w' F G ⟨h, hb⟩ hk hd => ⟨fun e he => ⟨(h e he).1, own_fr (h e he).2.1 hk (fun g hg => hd g ((h e he).2.2 g hg)), (h e he).2.2⟩, fun k hk2 => Nat.lt_of_lt_of_le (hb k hk2) hk.size⟩, fun w F h => h.2⟩
abbrev DatA (L : List Me) : As := ⟨DatR L, DatR_fr L⟩
/-- What is ready. -/
def QuR (v : Value) (l : List Me) (w : World) (F : Nat → Prop) : Prop := Qu w 39 4 v l.length (mf l) ∧ (∀ g, v.ownBlock = some g → F g) ∧ ∀ k, F k → k < w.heap.size
theorem QuR_fr (v : Value) (l : List Me) : Fr (QuR v l) :=
  ⟨fun w w' F G ⟨h, hf, hb⟩ hk hd => ⟨h.frame hk (fun g hg => hd g (hf g hg)), hf, fun k hk2 => Nat.lt_of_lt_of_le (hb k hk2) hk.size⟩, fun w F h => h.2.2⟩
abbrev QuA (v : Value) (l : List Me) : As := ⟨QuR v l, QuR_fr v l⟩
def zms : Value := .agg #[.int .u16 0, .bool false, .int .u32 0, .slice none 0 0]
theorem zeroM (w : World) : (zeroValue 39).run Try.prog w = .ok zms w := by kernel_rfl
def ekey (e : Me × Nat) : Nat := e.1.1.s * 65536 + e.2
/-- The map of what waits. -/
noncomputable def MT : MapKit (Me × Nat) where
  kT := 151
  mT := 99
  eT := 39
  key := ekey
  ok := fun t => t < 4294967296
  kv := kvT
  kl := klT
  val := fun e => mval e.1
  z := zms
  law := lawT
  und := Try.underlying99
  zero := zeroM
  kof := kofT
  isk := fun t h => lawT.key (kofT t h)
  ne := klT_ne
noncomputable abbrev WtA (m : Nat) (l : List (Me × Nat)) : As := AM MT m l
def eplain (e : Me × Nat) : Ms × Nat := (e.1.1, e.2)
theorem ekey_plain (e : Me × Nat) : wkey (eplain e) = ekey e := rfl
/-- The cells of an inbox. -/
def xc (room most s j : Nat) (vn : Value) (m : Nat) (v : Value) (wh : Nat) : Array Value := #[.int .i64 (room : Int), .int .i64 (most : Int), .pointer (some ⟨s, 0, none⟩), .pointer (some ⟨j, 0, none⟩), vn, .map (some m), v, .int .i64 (wh : Int)]
/-- Where the parts of an inbox lie. -/
structure Iv where
  s : Nat
  j : Nat
  m : Nat
  vn : Value
  v : Value
  wM : List (Me × Nat)
  rM : List Me
noncomputable def Iv.parts (i : Iv) (x : Nat) (b : Ib) (wh : Nat) (L : List Me) (R : List As) : List As :=
  BkA x (xc b.room b.most i.s i.j i.vn i.m i.v wh) 101 :: PAs i.s b.st :: JAs i.j b.K :: IrA .u16 22 i.vn b.nx :: WtA i.m i.wM :: QuA i.v i.rM :: DatA L :: R
structure Iv.Fit (i : Iv) (b : Ib) (L : List Me) : Prop where
  ws : i.wM.map eplain = b.ws
  rd : i.rM.map (·.1) = b.rd
  inw : ∀ e ∈ i.wM, e.1 ∈ L
  inr : ∀ e ∈ i.rM, e ∈ L
  dat : ∀ e ∈ L, e.1.d.length = e.2.2.1
/-- An inbox at x that stands so, beside R. -/
def IX (W w : World) (x : Nat) (b : Ib) (L : List Me) (R : List As) : Prop := ∃ i : Iv, Nw W w (i.parts x b b.whole L R) ∧ i.Fit b L
section
variable {W w w' : World} {x : Nat} {b : Ib} {L : List Me} {R : List As}
theorem IX.below (h : IX W w x b L R) : Below W.heap.size W w := by
  obtain ⟨i, h, _⟩ := h
  exact h.below
theorem IX.next (h : IX W w x b L R) (hb : Below w.heap.size w w') : IX W w' x b L R := by
  obtain ⟨i, h, hf⟩ := h
  exact ⟨i, h.next hb, hf⟩
theorem IX.rest (h : IX W w x b L R) : Nw W w R := by
  obtain ⟨i, h, _⟩ := h
  exact h.drop.drop.drop.drop.drop.drop.drop
theorem Iv.Fit.whole {i : Iv} (h : i.Fit b L) : b.whole = ((i.wM.map fun e => e.1.2.2.1).sum + (i.rM.map fun e => e.2.2.1).sum) := by
  unfold Ib.whole bsum
  rw [← h.ws, ← h.rd]
  simp only [List.map_map]
  congr 2
  · refine List.map_congr_left fun e he => ?_
    exact h.dat _ (h.inw e he)
  · refine List.map_congr_left fun e he => ?_
    exact h.dat _ (h.inr e he)
end
end Ix
end Go.Proofs.Ytednkcjmlpgipaa
/-
  What the document's SamePiece and SameMessage answer of things that are one; whether pieces are too great.
-/
namespace Go.Proofs.Ytednkcjmlpgipaa
set_option maxRecDepth 4000
open Go.RowKit Go.Maps
namespace Fg
set_option linter.unusedVariables false

theorem row_two {w : World} {A : Option Addr} {l : List Value} (h : Row w A l) (o o' : Obj) : Row ((w.alloc o).alloc o') A l := (h.alloc o).alloc o'
set_option maxRecDepth 100000 in
set_option maxHeartbeats 1000000 in
theorem sameMessage_any (s : Nat) (u : Bool) (p : Nat) (d : List Int) (A : Option Addr) (n c : Nat) (A' : Option Addr) (n' c' : Nat) (w : World) (hl : d.length = n) (hl' : d.length = n') (hr : Row w A (bs d)) (hr' : Row w A' (bs d)) :
    Calls Try.prog 15 #[.agg (mv s u p A n c), .agg (mv s u p A' n' c')] w fun e w' => e = .returned (.bool true) ∧ Below w.heap.size w w' := by
  unfold mv
  have h1 := row_two hr (.cells #[.int .u16 (s : Int), .bool u, .int .u32 (p : Int), .slice A n c] 39) (.cells #[.int .u16 (s : Int), .bool u, .int .u32 (p : Int), .slice A' n' c'] 39)
  have h2 := row_two hr' (.cells #[.int .u16 (s : Int), .bool u, .int .u32 (p : Int), .slice A n c] 39) (.cells #[.int .u16 (s : Int), .bool u, .int .u32 (p : Int), .slice A' n' c'] 39)
  have cv1 := run_strOf (P := Try.prog) (src := 31) (dst := 9) (c := c) Try.underlying31 Try.underlying5 Try.underlying9 hl h1
  have cv2 := run_strOf (P := Try.prog) (src := 31) (dst := 9) (c := c') Try.underlying31 Try.underlying5 Try.underlying9 hl' h2
  have HB := Lib.hid (two_new w (.cells #[.int .u16 (s : Int), .bool u, .int .u32 (p : Int), .slice A n c] 39) (.cells #[.int .u16 (s : Int), .bool u, .int .u32 (p : Int), .slice A' n' c'] 39))
  generalize strOf d = q at cv1 cv2
  clear hl hl' hr hr' h1 h2
  have hu : (u == u) = true := by simp
  go_enter Try.func15, Try.ntmps15
  go_wp2_with fail
  go_ret
  exact ⟨rfl, HB.out⟩
/-- Pieces, one behind the other, each with its slice. -/
abbrev Pq := Pc × (Option Addr × Nat × Nat)
def pcl (q : Pq) : List Value := [.int .u32 (q.1.t : Int), .int .u8 (q.1.f : Int), .int .u16 (q.1.s : Int), .int .u16 (q.1.n : Int), .int .u32 (q.1.p : Int), .slice q.2.1 q.2.2.1 q.2.2.2]
def pf (qs : List Pq) : List Value := qs.flatMap pcl
theorem pf_get : ∀ {qs : List Pq} {i : Nat} (h : i < qs.length) (k : Nat), k < 6 → (pf qs)[i * 6 + k]? = (pcl qs[i])[k]?
  | q :: qs, 0, _, k, hk => by
    have e : pf (q :: qs) = pcl q ++ pf qs := by simp [pf]
    rw [e, List.getElem?_append_left (by simp [pcl]; omega)]
    simp
  | q :: qs, i + 1, h, k, hk => by
    have ih := pf_get (qs := qs) (i := i) (by simpa using h) k hk
    have e : pf (q :: qs) = pcl q ++ pf qs := by simp [pf]
    have hl : (pcl q).length = 6 := rfl
    rw [e, List.getElem?_append_right (by omega), hl, show (i + 1) * 6 + k - 6 = i * 6 + k by omega]
    exact ih
theorem pf_len (qs : List Pq) : (pf qs).length = qs.length * 6 := by
  induction qs with
  | nil => rfl
  | cons q qs ih =>
    have e : pf (q :: qs) = pcl q ++ pf qs := by simp [pf]
    have hl : (pcl q).length = 6 := rfl
    rw [e, List.length_append, hl, ih, List.length_cons]
    omega
theorem add_off (a : Addr) (i k : Nat) (h : 0 < k) : a.add (i + k) = { block := (a.add i).block, off := (a.add i).off + k } := by
  unfold Addr.add
  by_cases h0 : i = 0
  · subst h0
    simp
    omega
  · rw [if_neg (by omega), if_neg h0]
    simp [Nat.add_assoc]
/-- The cells of one. -/
theorem pf_at {W : World} {A : Option Addr} {qs : List Pq} (h : Row W A (pf qs)) {i : Nat} (hi : i < qs.length) :
    ∃ a, A = some a ∧ W.cell? (a.add (i * 6)) = some (.int .u32 (qs[i].1.t : Int)) ∧ W.cell? { block := (a.add (i * 6)).block, off := (a.add (i * 6)).off + 1 } = some (.int .u8 (qs[i].1.f : Int)) ∧
      W.cell? { block := (a.add (i * 6)).block, off := (a.add (i * 6)).off + 2 } = some (.int .u16 (qs[i].1.s : Int)) ∧ W.cell? { block := (a.add (i * 6)).block, off := (a.add (i * 6)).off + 3 } = some (.int .u16 (qs[i].1.n : Int)) ∧
      W.cell? { block := (a.add (i * 6)).block, off := (a.add (i * 6)).off + 4 } = some (.int .u32 (qs[i].1.p : Int)) ∧ W.cell? { block := (a.add (i * 6)).block, off := (a.add (i * 6)).off + 5 } = some (.slice qs[i].2.1 qs[i].2.2.1 qs[i].2.2.2) := by
  have g := fun k hk => pf_get hi k hk
  obtain ⟨a, ha, k0⟩ := h (i * 6) _ ((g 0 (by omega)).trans rfl)
  have hc : ∀ k v, 0 < k → k < 6 → (pcl qs[i])[k]? = some v → W.cell? { block := (a.add (i * 6)).block, off := (a.add (i * 6)).off + k } = some v := fun k v h0 h6 hv => by
    obtain ⟨b, hb, kc⟩ := h (i * 6 + k) v ((g k h6).trans hv)
    rw [ha] at hb
    injection hb with hb
    subst hb
    rw [← add_off a (i * 6) k h0]
    exact kc
  exact ⟨a, ha, k0, hc 1 _ (by omega) (by omega) rfl, hc 2 _ (by omega) (by omega) rfl, hc 3 _ (by omega) (by omega) rfl, hc 4 _ (by omega) (by omega) rfl, hc 5 _ (by omega) (by omega) rfl⟩
def tot (qs : List Pq) : Nat := (qs.map fun q => q.2.2.1).sum
def great (qs : List Pq) : Bool := decide (20000 < tot qs) || decide (60 < qs.length)
theorem tot_take {qs : List Pq} {k : Nat} (h : k < qs.length) : tot (qs.take (k + 1)) = tot (qs.take k) + qs[k].2.2.1 := by
  rw [List.take_succ_eq_append_getElem h]
  unfold tot
  rw [List.map_append, List.sum_append]
  simp
theorem tot_take_le (qs : List Pq) (k : Nat) : tot (qs.take k) ≤ tot qs := by
  have : tot qs = tot (qs.take k) + tot (qs.drop k) := by
    conv => lhs; rw [← List.take_append_drop k qs]
    unfold tot
    rw [List.map_append, List.sum_append]
  omega
end Fg
end Go.Proofs.Ytednkcjmlpgipaa
/-
  The pieces of a message: plain, and as rows of the call's own.
-/
namespace Go.Proofs.Ytednkcjmlpgipaa
set_option maxRecDepth 4000
open Go.RowKit Go.Maps
namespace Fg
set_option linter.unusedVariables false
set_option linter.unusedSimpArgs false
set_option linter.unusedSimpArgs false

def part (l : List Int) (sz i : Nat) : List Int := (l.drop (i * sz)).take sz
def fb (u : Bool) : Nat := if u then 4 else 0
def cutF (u : Bool) (N i : Nat) : Nat := fb u + (if i = 0 then 2 else 0) + (if i + 1 = N then 1 else 0)
def cutN (l : List Int) (sz : Nat) : Nat := (l.length + sz - 1) / sz
def pre1 (u : Bool) (s p : Nat) (l : List Int) (sz i : Nat) : Pc := ⟨0, fb u, s, 0, p, part l sz i⟩
def cutL (u : Bool) (s p : Nat) (l : List Int) (sz : Nat) : List Pc := (List.range (cutN l sz)).map fun i => ⟨0, cutF u (cutN l sz) i, s, 0, p, part l sz i⟩
theorem cutN_of {l : List Int} {sz k : Nat} (hsz : 1 ≤ sz) (h1 : l.length ≤ k * sz) (h2 : ∀ i, i < k → i * sz < l.length) : cutN l sz = k := by
  unfold cutN
  rcases k with _ | k
  · simp at h1
    rw [h1]
    simp
    omega
  · have := h2 k (by omega)
    refine Nat.div_eq_of_lt_le ?_ ?_
    · rw [Nat.add_mul] at *
      omega
    · rw [Nat.add_mul (k + 1)]
      omega
theorem part_len {l : List Int} {sz i : Nat} : (part l sz i).length = min sz (l.length - i * sz) := by
  unfold part
  rw [List.length_take, List.length_drop]
/-- The flags of one turned. -/
def setF (q : Pq) (f : Nat) : Pq := (⟨q.1.t, f, q.1.s, q.1.n, q.1.p, q.1.d⟩, q.2)
theorem pf_setF : ∀ {qs : List Pq} {i : Nat} (h : i < qs.length) (f : Nat), (pf qs).set (i * 6 + 1) (.int .u8 (f : Int)) = pf (qs.set i (setF qs[i] f))
  | q :: qs, 0, _, f => by
    have e : pf (q :: qs) = pcl q ++ pf qs := by simp [pf]
    have e2 : pf (setF q f :: qs) = pcl (setF q f) ++ pf qs := by simp [pf]
    rw [e, List.set_append_left _ _ (by simp [pcl])]
    simp only [List.getElem_cons_zero, List.set_cons_zero]
    rw [e2]
    rfl
  | q :: qs, i + 1, h, f => by
    have ih := pf_setF (qs := qs) (i := i) (by simpa using h) f
    have e : pf (q :: qs) = pcl q ++ pf qs := by simp [pf]
    have hl : (pcl q).length = 6 := rfl
    rw [e, List.set_append_right _ _ (by omega), hl, show (i + 1) * 6 + 1 - 6 = i * 6 + 1 by omega, ih]
    simp [pf]
theorem pf_app (qs rs : List Pq) : pf (qs ++ rs) = pf qs ++ pf rs := by simp [pf]
theorem pf_one (qs : List Pq) : ∀ u ∈ pf qs, u.oneCell' = true := fun u hu => by
  obtain ⟨q, _, hq⟩ := List.mem_flatMap.1 hu
  simp [pcl] at hq
  rcases hq with rfl | rfl | rfl | rfl | rfl | rfl <;> rfl
theorem infoP : (Try.prog.info? 33).map (fun i => (i.zero, i.size, i.bytes)) = some (some (.agg #[.int .u32 0, .int .u8 0, .int .u16 0, .int .u16 0, .int .u32 0, .slice none 0 0]), 6, 40) := by kernel_rfl
/-- Its bytes are in a row of the call's own. -/
def Vq (B : Nat) (W : World) (q : Pq) : Prop := q.1.d.length = q.2.2.1 ∧ W.ownsRow B 5 1 (.slice q.2.1 q.2.2.1 q.2.2.2) q.2.2.1 (bs q.1.d)
theorem Vq.kept {B : Nat} {W W' : World} {q : Pq} {row : Option Nat} (h : Vq B W q) (hg : W.grownBy W' row) (hne : (Value.slice q.2.1 q.2.2.1 q.2.2.2).ownBlock = none ∨ (Value.slice q.2.1 q.2.2.1 q.2.2.2).ownBlock ≠ row) : Vq B W' q := ⟨h.1, h.2.kept hg hne⟩
theorem Vq.next {B : Nat} {W W' : World} {q : Pq} (h : Vq B W q) (hb : Below W.heap.size W W') : Vq B W' q := ⟨h.1, own_below h.2 hb⟩
theorem Vq.calm {B b : Nat} {W W' : World} {q : Pq} (h : Vq B W q) (hc : Calm b W W') : Vq B W' q := by
  refine ⟨h.1, h.2.1, ?_⟩
  rcases h.2.2 with h2 | ⟨g, cap, cur, hv, hg, hh, r⟩
  · exact .inl h2
  · exact .inr ⟨g, cap, cur, hv, hg, hc.2 g _ hh rfl, r⟩
theorem own_calm {B b s : Nat} {e : TypeId} {W W' : World} {v : Value} {n : Nat} {xs : List Value} (h : W.ownsRow B e s v n xs) (hc : Calm b W W') : W'.ownsRow B e s v n xs := by
  refine ⟨h.1, ?_⟩
  rcases h.2 with h2 | ⟨g, cap, cur, hv, hg, hh, r⟩
  · exact .inl h2
  · exact .inr ⟨g, cap, cur, hv, hg, hc.2 g _ hh rfl, r⟩
/-- A row of pieces of the call's own, their bytes in rows of its own. -/
structure Ps (B : Nat) (W : World) (v : Value) (qs : List Pq) : Prop where
  own : W.ownsRow B 33 6 v qs.length (pf qs)
  dat : ∀ q ∈ qs, Vq B W q
theorem Ps.next {B : Nat} {W W' : World} {v : Value} {qs : List Pq} (h : Ps B W v qs) (hb : Below W.heap.size W W') : Ps B W' v qs := ⟨own_below h.own hb, fun q hq => (h.dat q hq).next hb⟩
theorem Ps.calm {B b : Nat} {W W' : World} {v : Value} {qs : List Pq} (h : Ps B W v qs) (hc : Calm b W W') : Ps B W' v qs := ⟨own_calm h.own hc, fun q hq => (h.dat q hq).calm hc⟩
theorem Vq.lower {B b : Nat} {W : World} {q : Pq} (h : Vq B W q) (hb : b ≤ B) : Vq b W q := ⟨h.1, own_base h.2 hb⟩
theorem Ps.lower {B b : Nat} {W : World} {v : Value} {qs : List Pq} (h : Ps B W v qs) (hb : b ≤ B) : Ps b W v qs := ⟨own_base h.own hb, fun q hq => (h.dat q hq).lower hb⟩
/-- Rows of unlike elements lie apart. -/
theorem owns_apart {W : World} {B B' s s' : Nat} {e e' : TypeId} {v v' : Value} {n n' : Nat} {xs xs' : List Value} (h : W.ownsRow B e s v n xs) (h' : W.ownsRow B' e' s' v' n' xs') (hne : e ≠ e') : v.ownBlock = none ∨ v.ownBlock ≠ v'.ownBlock := by
  rcases h.2 with ⟨rfl, _⟩ | ⟨g, cap, cur, rfl, _, hg, _⟩
  · exact .inl rfl
  · refine .inr fun e1 => ?_
    rcases h'.2 with ⟨rfl, _⟩ | ⟨g', cap', cur', rfl, _, hg', _⟩
    · cases e1
    · simp only [Value.ownBlock, Option.some.injEq] at e1
      subst e1
      rw [hg] at hg'
      simp at hg'
      exact hne hg'.2
theorem Vq.set {B : Nat} {W : World} {q : Pq} (h : Vq B W q) {b : Nat} (hb : b < B) (i : Nat) (u : Value) : Vq B (W.setCell ⟨b, i, none⟩ u) q :=
  h.kept (setc_grown W b i u) (by
    cases hg : (Value.slice q.2.1 q.2.2.1 q.2.2.2).ownBlock with
    | none => exact .inl rfl
    | some g => exact .inr (fun e => by injection e with e; have := (h.2.lt g hg).1; omega))
theorem own_set {B s : Nat} {e : TypeId} {W : World} {v : Value} {n : Nat} {xs : List Value} (h : W.ownsRow B e s v n xs) {b : Nat} (hb : b < B) (i : Nat) (u : Value) : (W.setCell ⟨b, i, none⟩ u).ownsRow B e s v n xs :=
  h.kept (setc_grown W b i u) (by
    cases hg : v.ownBlock with
    | none => exact .inl rfl
    | some g => exact .inr (fun e => by injection e with e; have := (h.lt g hg).1; omega))
theorem Ps.set {B : Nat} {W : World} {v : Value} {qs : List Pq} (h : Ps B W v qs) {b : Nat} (hb : b < B) (i : Nat) (u : Value) : Ps B (W.setCell ⟨b, i, none⟩ u) v qs := ⟨own_set h.own hb i u, fun q hq => (h.dat q hq).set hb i u⟩
/-- One piece more. -/
theorem Ps.more {B : Nat} {W w2 : World} {v v' : Value} {qs : List Pq} {q : Pq} (h : Ps B W v qs) (hq : Vq B W q) (ho : w2.ownsRow B 33 6 v' (qs.length + 1) (pf qs ++ pcl q)) (hg : W.grownBy w2 v.ownBlock) : Ps B w2 v' (qs ++ [q]) := by
  have hv : ∀ p, Vq B W p → Vq B w2 p := fun p hp => hp.kept hg (owns_apart hp.2 h.own (by decide))
  refine ⟨?_, fun p hp => ?_⟩
  · rw [pf_app, List.length_append]
    have : pf [q] = pcl q := by simp [pf]
    rw [this]
    exact ho
  · rcases List.mem_append.1 hp with hp | hp
    · exact hv p (h.dat p hp)
    · simp only [List.mem_singleton] at hp
      rw [hp]
      exact hv q hq
/-- The flags of one are stored. -/
theorem Ps.flag {B : Nat} {W : World} {g n c : Nat} {qs : List Pq} (h : Ps B W (.slice (some ⟨g, 0, none⟩) n c) qs) (hn : qs.length = n) {i : Nat} (hi : i < qs.length) (f : Nat) : Ps B (W.setCell ⟨g, i * 6 + 1, none⟩ (.int .u8 (f : Int))) (.slice (some ⟨g, 0, none⟩) n c) (qs.set i (setF qs[i] f)) := by
  subst hn
  have hg : (Value.slice (some ⟨g, 0, none⟩) qs.length c).ownBlock = some g := rfl
  have hv : ∀ p, Vq B W p → Vq B (W.setCell ⟨g, i * 6 + 1, none⟩ (.int .u8 (f : Int))) p := fun p hp => hp.kept (setc_grown W g _ _) (by rw [← hg]; exact owns_apart hp.2 h.own (by decide))
  refine ⟨?_, fun p hp => ?_⟩
  · have := (World.ownsRow.stored h.own (i * 6 + 1) (.int .u8 (f : Int))).1
    rw [pf_setF hi f] at this
    simpa using this
  · rcases List.mem_or_eq_of_mem_set hp with hp | hp
    · exact hv p (h.dat p hp)
    · rw [hp]
      have := hv _ (h.dat _ (List.getElem_mem hi))
      exact this
/-- The cell of a piece's flags. -/
theorem Ps.flagCell {B : Nat} {W : World} {g n c : Nat} {qs : List Pq} (h : Ps B W (.slice (some ⟨g, 0, none⟩) n c) qs) (hn : qs.length = n) {i : Nat} (hi : i < qs.length) : W.cell? ⟨g, i * 6 + 1, none⟩ = some (.int .u8 (qs[i].1.f : Int)) ∧ W.frozen? ⟨g, i * 6 + 1, none⟩ = false := by
  subst hn
  refine ⟨?_, World.ownsRow.frozenAt h.own _⟩
  rw [World.ownsRow.cellAt h.own (i * 6 + 1) (by omega), pf_get hi 1 (by omega)]
  rfl
theorem fb_two (u : Bool) : bits .or .u8 (fb u : Int) 2 = ((fb u + 2 : Nat) : Int) := by cases u <;> decide
theorem or_one {f : Nat} (h : f = 0 ∨ f = 2 ∨ f = 4 ∨ f = 6) : bits .or .u8 (f : Int) 1 = ((f + 1 : Nat) : Int) := by
  rcases h with rfl | rfl | rfl | rfl <;> decide
/-- Where the first and the last one are marked, they are the pieces. -/
theorem cut_flags {qs : List Pq} {u : Bool} {s p sz k : Nat} {l : List Int} (hqs : qs.map (·.1) = (List.range k).map (pre1 u s p l sz)) (hN : cutN l sz = k) (hk : 0 < k) :
    ∃ (h0 : 0 < qs.length) (h1 : k - 1 < (qs.set 0 (setF qs[0] (fb u + 2))).length), qs[0].1.f = fb u ∧ (qs.set 0 (setF qs[0] (fb u + 2)))[k - 1].1.f = fb u + (if k = 1 then 2 else 0) ∧
      ((qs.set 0 (setF qs[0] (fb u + 2))).set (k - 1) (setF (qs.set 0 (setF qs[0] (fb u + 2)))[k - 1] (fb u + (if k = 1 then 2 else 0) + 1))).map (·.1) = cutL u s p l sz := by
  have hl : qs.length = k := by have := congrArg List.length hqs; simpa using this
  have h0 : 0 < qs.length := by omega
  have h1 : k - 1 < (qs.set 0 (setF qs[0] (fb u + 2))).length := by simp; omega
  have hq : ∀ i (hi : i < qs.length), qs[i].1 = pre1 u s p l sz i := fun i hi => by
    have := congrArg (fun l : List Pc => l[i]?) hqs
    simp [List.getElem?_map, List.getElem?_eq_getElem hi, List.getElem?_range (show i < k by omega)] at this
    exact this
  have hf : (qs.set 0 (setF qs[0] (fb u + 2)))[k - 1].1.f = fb u + (if k = 1 then 2 else 0) := by
    rw [List.getElem_set]
    split
    · rename_i e
      rw [if_pos (by omega)]
      rfl
    · rename_i e
      rw [if_neg (by omega), hq (k - 1) (by omega)]
      rfl
  refine ⟨h0, h1, by rw [hq 0 h0]; rfl, hf, ?_⟩
  unfold cutL
  rw [hN]
  apply List.ext_getElem
  · simp [hl]
  intro i h2 h3
  simp only [List.length_map, List.length_range] at h3
  rw [List.getElem_map, List.getElem_map, List.getElem_range, List.getElem_set]
  by_cases e1 : k - 1 = i
  · rw [if_pos e1]
    simp only [setF]
    rw [List.getElem_set]
    by_cases e2 : 0 = k - 1
    · rw [if_pos e2]
      simp only [setF]
      have e3 : k = 1 := by omega
      rw [hq 0 h0]
      simp only [pre1, cutF]
      rw [if_pos e3, if_pos (by omega), if_pos (by omega), show i = 0 by omega]
    · rw [if_neg e2]
      rw [hq (k - 1) (by omega)]
      simp only [pre1, cutF]
      rw [if_neg (by omega), if_neg (by omega), if_pos (by omega), ← e1]
  · rw [if_neg e1, List.getElem_set]
    by_cases e2 : 0 = i
    · rw [if_pos e2]
      simp only [setF]
      rw [hq 0 h0]
      simp only [pre1, cutF]
      rw [if_pos e2.symm, if_neg (by omega), ← e2]
    · rw [if_neg e2, hq i (by omega)]
      simp only [pre1, cutF]
      rw [if_neg (by omega), if_neg (by omega)]
      all_goals rfl
end Fg
end Go.Proofs.Ytednkcjmlpgipaa
/-
  The document's joiner: bit, find, Held.
-/
namespace Go.Proofs.Ytednkcjmlpgipaa
set_option maxRecDepth 4000
open Go.RowKit Go.Maps
namespace Fg
set_option linter.unusedVariables false
set_option linter.unusedSimpArgs false

theorem bit4_any (f : Nat) (w : World) (hf : f < 256) : Calls Try.prog 93 #[.int .u8 (f : Int), .int .u8 4] w fun e w' => e = .returned (.bool (un f)) ∧ w = w' := by
  have e1 : IntKind.u8.wrap ((f : Int) / 4) = ((f / 4 : Nat) : Int) := by rw [IntKind.wrap_u8]; omega
  have e0 : IntKind.u8.wrap (f : Int) = (f : Int) := by rw [IntKind.wrap_u8]; omega
  have HU : Hid ((((f / 4 : Nat) : Int) % 2 == 1) = un f) := Lib.hid (by unfold un; rw [Bool.eq_iff_iff]; simp; omega)
  have HU1 : Hid ((((f / 4 : Nat) : Int) % 2 == 1) = ((f : Int) / 4 % 2 == 1)) := Lib.hid (by rw [Bool.eq_iff_iff]; simp)
  have e2 : IntKind.u8.wrap (((f / 4 : Nat) : Int) % 2) = ((f / 4 : Nat) : Int) % 2 := by rw [IntKind.wrap_u8]; omega
  generalize un f = u at HU ⊢
  clear hf
  go_enter Try.func93, Try.ntmps93
  go_wp2_with fail
  go_ret
  refine ⟨?_, rfl⟩
  rw [← HU.out]
  first | rfl | simp
theorem bit2_any (f : Nat) (w : World) (hf : f < 256) : Calls Try.prog 93 #[.int .u8 (f : Int), .int .u8 2] w fun e w' => e = .returned (.bool (bg f)) ∧ w = w' := by
  have e1 : IntKind.u8.wrap ((f : Int) / 2) = ((f / 2 : Nat) : Int) := by rw [IntKind.wrap_u8]; omega
  have e0 : IntKind.u8.wrap (f : Int) = (f : Int) := by rw [IntKind.wrap_u8]; omega
  have HU : Hid ((((f / 2 : Nat) : Int) % 2 == 1) = bg f) := Lib.hid (by unfold bg; rw [Bool.eq_iff_iff]; simp; omega)
  have HU1 : Hid ((((f / 2 : Nat) : Int) % 2 == 1) = ((f : Int) / 2 % 2 == 1)) := Lib.hid (by rw [Bool.eq_iff_iff]; simp)
  have e2 : IntKind.u8.wrap (((f / 2 : Nat) : Int) % 2) = ((f / 2 : Nat) : Int) % 2 := by rw [IntKind.wrap_u8]; omega
  generalize bg f = u at HU ⊢
  clear hf
  go_enter Try.func93, Try.ntmps93
  go_wp2_with fail
  go_ret
  refine ⟨?_, rfl⟩
  rw [← HU.out]
  first | rfl | simp
theorem bit1_any (f : Nat) (w : World) (hf : f < 256) : Calls Try.prog 93 #[.int .u8 (f : Int), .int .u8 1] w fun e w' => e = .returned (.bool (en f)) ∧ w = w' := by
  have e1 : IntKind.u8.wrap ((f : Int) / 1) = ((f / 1 : Nat) : Int) := by rw [IntKind.wrap_u8]; omega
  have e0 : IntKind.u8.wrap (f : Int) = (f : Int) := by rw [IntKind.wrap_u8]; omega
  have HU : Hid ((((f / 1 : Nat) : Int) % 2 == 1) = en f) := Lib.hid (by unfold en; rw [Bool.eq_iff_iff]; simp; omega)
  have HU1 : Hid ((((f / 1 : Nat) : Int) % 2 == 1) = ((f : Int) / 1 % 2 == 1)) := Lib.hid (by rw [Bool.eq_iff_iff]; simp)
  have e2 : IntKind.u8.wrap (((f / 1 : Nat) : Int) % 2) = ((f / 1 : Nat) : Int) % 2 := by rw [IntKind.wrap_u8]; omega
  generalize en f = u at HU ⊢
  clear hf
  go_enter Try.func93, Try.ntmps93
  go_wp2_with fail
  go_ret
  refine ⟨?_, rfl⟩
  rw [← HU.out]
  first | rfl | simp
/-- The document's joiner lies in block j: it keeps the pieces qs. -/
structure Dj (W : World) (j : Nat) (A : Option Addr) (n c : Nat) (qs : List Pq) : Prop where
  bk : Bk W j #[.slice A n c] 103
  len : qs.length = n
  most : n ≤ 100000
  cap : n ≤ c
  max : c ≤ maxLen
  row : Row W A (pf qs)
/-- Where a piece stands; -1: nowhere. -/
def At (qs : List Pq) (t : Nat) (r : Int) : Prop := (r = -1 ∧ ∀ q ∈ qs, q.1.t ≠ t) ∨ ∃ (i : Nat) (h : i < qs.length), r = i ∧ qs[i].1.t = t ∧ ∀ k (hk : k < i), (qs[k]'(by omega)).1.t ≠ t
theorem dfind_any {W : World} {j : Nat} {A : Option Addr} {n c : Nat} {qs : List Pq} (h : Dj W j A n c qs) (t : Nat) :
    Calls Try.prog 90 #[.pointer (some ⟨j, 0, none⟩), .int .u32 (t : Int)] W fun e w' => (∃ r, e = .returned (.int .i64 r) ∧ At qs t r) ∧ W = w' := by
  have c0 := h.bk.cell 0
  have HL := Lib.hid h.len
  have HR := Lib.hid h.row
  have hn := h.most
  simp at c0
  clear h
  go_enter Try.func90, Try.ntmps90
  go_wp2_with fail
  go_loop [5] (fun v5 => ∃ k : Nat, v5 = .int .i64 k ∧ k ≤ n ∧ Hid (∀ i (hi : i < k) (hi2 : i < qs.length), qs[i].1.t ≠ t)) (fun v5 => n - (intOf v5).toNat)
  case atStart => exact ⟨0, rfl, Nat.zero_le _, Lib.hid (fun i hi => by omega)⟩
  case round =>
    obtain ⟨k, rfl, hk, HB⟩ := hrel
    by_cases hlt : k < n
    · have hkl : k < qs.length := by rw [HL.out]; exact hlt
      obtain ⟨a, rfl, g0, hgx⟩ := pf_at HR.out hkl
      clear hgx
      obtain ⟨t2, ht2⟩ : ∃ t2, qs[k].1.t = t2 := ⟨_, rfl⟩
      rw [ht2] at g0
      by_cases he : t2 = t
      · have HA : Hid (At qs t (k : Int)) := Lib.hid (.inr ⟨k, hkl, rfl, by rw [ht2, he], fun i hi => HB.out i hi (by omega)⟩)
        subst he
        clear hkl ht2
        go_wp2_with fail
        go_ret
        exact ⟨⟨_, rfl, HA.out⟩, rfl⟩
      · have HB2 : Hid (∀ i (hi : i < k + 1) (hi2 : i < qs.length), qs[i].1.t ≠ t) := Lib.hid (fun i hi hi2 => by
          by_cases e : i = k
          · subst e; rw [ht2]; exact he
          · exact HB.out i (by omega) hi2)
        clear hkl ht2 HB
        go_wp2_with fail
        go_round
        case rel => exact ⟨k + 1, by go_num, by omega, HB2⟩
        case measure => simp [intOf] <;> omega
    · have HA : Hid (At qs t (-1)) := Lib.hid (.inl ⟨rfl, fun q hq => by
        obtain ⟨i, hi, rfl⟩ := List.getElem_of_mem hq
        exact HB.out i (by have := HL.out; omega) hi⟩)
      clear HB
      go_wp2_with fail
      go_ret
      exact ⟨⟨_, rfl, HA.out⟩, rfl⟩
theorem dheld_any {W : World} {j : Nat} {A : Option Addr} {n c : Nat} {qs : List Pq} (h : Dj W j A n c qs) (ht : tot qs ≤ 1099511627776) :
    Calls Try.prog 67 #[.pointer (some ⟨j, 0, none⟩)] W fun e w' => e = .returned (.int .i64 (tot qs : Int)) ∧ W = w' := by
  have c0 := h.bk.cell 0
  have HL := Lib.hid h.len
  have HR := Lib.hid h.row
  have hn := h.most
  simp at c0
  clear h
  go_enter Try.func67, Try.ntmps67
  go_wp2_with fail
  go_loop [3, 4] (fun v3 v4 => ∃ k : Nat, v4 = .int .i64 k ∧ k ≤ n ∧ v3 = .int .i64 (tot (qs.take k) : Nat)) (fun _ v4 => n - (intOf v4).toNat)
  case atStart => exact ⟨0, rfl, Nat.zero_le _, by simp [tot]⟩
  case round =>
    obtain ⟨k, rfl, hk, rfl⟩ := hrel
    by_cases hlt : k < n
    · have hkl : k < qs.length := by rw [HL.out]; exact hlt
      obtain ⟨a, rfl, g0, g1, g2, g3, g4, g5⟩ := pf_at HR.out hkl
      have HT := Lib.hid (tot_take hkl)
      have hle := Nat.le_trans (tot_take_le qs (k + 1)) ht
      rw [tot_take hkl] at hle
      clear g0 g1 g2 g3 g4
      generalize qs[k].2.2.1 = m at g5 HT hle
      generalize qs[k].2.1 = B at g5
      generalize qs[k].2.2.2 = d at g5
      generalize tot (qs.take k) = x at HT hle
      have hw : wrap64 ((x : Int) + (m : Int)) = ((x + m : Nat) : Int) := by unfold wrap64; omega
      go_wp2_with fail
      go_round
      case rel => exact ⟨k + 1, by go_num, by omega, by rw [HT.out]; first | rfl | go_num⟩
      case measure => simp [intOf] <;> omega
    · obtain rfl : k = n := by omega
      have hta : qs.take k = qs := List.take_of_length_le (by rw [HL.out]; omega)
      rw [hta]
      go_wp2_with fail
      go_ret
      exact ⟨rfl, rfl⟩
end Fg
end Go.Proofs.Ytednkcjmlpgipaa
/-
  Sets in blocks apart: what each call makes of them.
-/
namespace Go.Proofs.Ytednkcjmlpgipaa
set_option maxRecDepth 4000
open Go.RowKit Go.Maps
namespace Gp
set_option linter.unusedVariables false

def PA (s : Nat) (st : St) (w : World) (F : Nat → Prop) : Prop := PSet w F s st
def DA (s : Nat) (st : St) (w : World) (F : Nat → Prop) : Prop := DSet w F s st
theorem PA_fr (s : Nat) (st : St) : Fr (PA s st) := ⟨fun w w' F G h hk hd => PSet.frame h hk hd, fun w F h => by obtain ⟨⟨m, v, D, _, _, _, _, _, _, _, f4⟩, _⟩ := h; exact f4⟩
theorem DA_fr (s : Nat) (st : St) : Fr (DA s st) := ⟨fun w w' F G h hk hd => DSet.frame h hk hd, fun w F h => by obtain ⟨vw, v, _, _, _, _, _, _, f4, _⟩ := h; exact f4⟩
section
variable {W w : World} {s : Nat} {st : St} {R : World → (Nat → Prop) → Prop}
theorem s_new (c : Nat) (h : Now W w R) (hR : Fr R) (hc : c < 4294967296) :
    Calls Try.prog 48 #[.int .u32 (c : Int)] w fun e w' => ∃ s, e = .returned (.pointer (some ⟨s, 0, none⟩)) ∧ Now W w' (star (PA s ⟨c, [], []⟩) R) :=
  (new_any c w hc).mono fun e w' ⟨s, F, he, hp, hn, hb⟩ => ⟨s, he, h.more hR hb hp hn ((PA_fr s _).bound w' F hp)⟩
theorem s_add (t : Nat) (h : Now W w (star (PA s st) R)) (hR : Fr R) (ht : t < 4294967296) :
    Calls Try.prog 52 #[.pointer (some ⟨s, 0, none⟩), .int .u32 (t : Int)] w fun e w' => e = .returned (.int .u8 ((st.add t).2 : Nat)) ∧ Now W w' (star (PA s (st.add t).1) R) := by
  obtain ⟨F, r, hh⟩ := h.part hR
  exact (add_any w F s t st r ht).mono fun e w' ⟨F', he, hp, hm⟩ => ⟨he, hh w' F' _ hm hp ((PA_fr s _).bound w' F' hp)⟩
theorem s_radd (t : Nat) (h : Now W w (star (DA s st) R)) (hR : Fr R) (ht : t < 4294967296) :
    Calls Try.prog 58 #[.pointer (some ⟨s, 0, none⟩), .int .u32 (t : Int)] w fun e w' => e = .returned (.int .u8 ((st.add t).2 : Nat)) ∧ Now W w' (star (DA s (st.add t).1) R) := by
  obtain ⟨F, r, hh⟩ := h.part hR
  exact (radd_any w F s t st r ht).mono fun e w' ⟨F', he, hp, hm⟩ => ⟨he, hh w' F' _ hm hp ((DA_fr s _).bound w' F' hp)⟩
theorem s_dups (h : Now W w (star (PA s st) R)) (hR : Fr R) :
    Calls Try.prog 62 #[.pointer (some ⟨s, 0, none⟩)] w fun e w' => ∃ A c, e = .returned (.slice A st.ds.length c) ∧ Now W w' (star (RA A (ns .u32 st.ds) (PA s { st with ds := [] })) R) := by
  obtain ⟨F, r, hh⟩ := h.part hR
  exact (dups_any w F s st r).mono fun e w' ⟨A, c, he, hr, ha, hp, hk⟩ => ⟨A, c, he, hh w' F _ ⟨hk, fun k h => .inl h⟩ ⟨hp, hr, ha⟩ ((PA_fr s _).bound w' F hp)⟩
theorem s_take (h : Now W w (star (DA s st) R)) (hR : Fr R) :
    Calls Try.prog 64 #[.pointer (some ⟨s, 0, none⟩)] w fun e w' => ∃ A c, e = .returned (.slice A st.ds.length c) ∧ Now W w' (star (RA A (ns .u32 st.ds) (DA s { st with ds := [] })) R) := by
  obtain ⟨F, r, hh⟩ := h.part hR
  exact (rtake_any w F s st r).mono fun e w' ⟨A, c, he, hr, ha, hp, hk⟩ => ⟨A, c, he, hh w' F _ ⟨hk, fun k h => .inl h⟩ ⟨hp, hr, ha⟩ ((DA_fr s _).bound w' F hp)⟩
theorem s_cum (h : Now W w (star (PA s st) R)) :
    Calls Try.prog 65 #[.pointer (some ⟨s, 0, none⟩)] w fun e w' => e = .returned (.int .u32 (st.cum : Int)) ∧ w = w' := by
  obtain ⟨F, ⟨F1, F2, r1, r2, _⟩, _⟩ := h
  exact cum_any w F1 s st r1
theorem s_next (t : Nat) (h : Now W w (star (PA s st) R)) (ht : t < 4294967296) :
    Calls Try.prog 81 #[.pointer (some ⟨s, 0, none⟩), .int .u32 (t : Int)] w fun e w' => e = .returned (.bool ((t : Int) == ((up st.cum 1 : Nat) : Int))) ∧ w = w' := by
  obtain ⟨F, ⟨F1, F2, r1, r2, _⟩, _⟩ := h
  exact next_any w F1 s t st r1 ht
theorem s_has (t : Nat) (h : Now W w (star (PA s st) R)) (hR : Fr R) (ht : t < 4294967296) :
    Calls Try.prog 76 #[.pointer (some ⟨s, 0, none⟩), .int .u32 (t : Int)] w fun e w' => e = .returned (.bool (st.has t)) ∧ Now W w' (star (PA s st) R) := by
  have hn := h
  obtain ⟨F, ⟨F1, F2, r1, r2, _⟩, _⟩ := h
  exact (has_any w F1 s t st r1 ht).mono fun e w' ⟨he, hb⟩ => ⟨he, hn.next (star_fr (PA_fr s st) hR) hb⟩
theorem s_rhas (t : Nat) (h : Now W w (star (DA s st) R)) (ht : t < 4294967296) :
    Calls Try.prog 57 #[.pointer (some ⟨s, 0, none⟩), .int .u32 (t : Int)] w fun e w' => e = .returned (.bool (st.has t)) ∧ w = w' := by
  obtain ⟨F, ⟨F1, F2, r1, r2, _⟩, _⟩ := h
  exact rhas_any w F1 s t st r1 ht
theorem s_gaps (h : Now W w (star (PA s st) R)) (hR : Fr R) :
    Calls Try.prog 61 #[.pointer (some ⟨s, 0, none⟩)] w fun e w' => ∃ A c, e = .returned (.slice A st.gaps.length c) ∧ Row w' A (gs st.gaps) ∧ Below w.heap.size w w' ∧ Now W w' (star (PA s st) R) := by
  have hn := h
  obtain ⟨F, ⟨F1, F2, r1, r2, _⟩, _⟩ := h
  exact (gaps_any w F1 s st r1).mono fun e w' ⟨A, c, he, hr, hb⟩ => ⟨A, c, he, hr, hb, hn.next (star_fr (PA_fr s st) hR) hb⟩
theorem s_rgaps (h : Now W w (star (DA s st) R)) (hR : Fr R) :
    Calls Try.prog 63 #[.pointer (some ⟨s, 0, none⟩)] w fun e w' => ∃ A c, e = .returned (.slice A st.gaps.length c) ∧ Row w' A (gs st.gaps) ∧ Below w.heap.size w w' ∧ Now W w' (star (DA s st) R) := by
  have hn := h
  obtain ⟨F, ⟨F1, F2, r1, r2, _⟩, _⟩ := h
  exact (rgaps_any w F1 s st r1).mono fun e w' ⟨A, c, he, hr, hb⟩ => ⟨A, c, he, hr, hb, hn.next (star_fr (DA_fr s st) hR) hb⟩
theorem gaps_len (st : St) : st.gaps.length ≤ 64 := by unfold St.gaps; simp; omega
end
end Gp
end Go.Proofs.Ytednkcjmlpgipaa
/-
  The document's comparisons of gaps and of TSNs that are one.
-/
namespace Go.Proofs.Ytednkcjmlpgipaa
set_option maxRecDepth 4000
open Go.RowKit Go.Maps
open Gp
set_option linter.unusedVariables false

theorem gs_new (w : World) (l : List (Nat × Nat)) (t : TypeId) : Row (w.alloc (.cells (gs l).toArray t)) (some ⟨w.heap.size, 0, none⟩) (gs l) := Row.new w (gs l) t (0, 0)
theorem ns_new (w : World) (k : IntKind) (l : List Nat) (t : TypeId) : Row (w.alloc (.cells (ns k l).toArray t)) (some ⟨w.heap.size, 0, none⟩) (ns k l) := Row.new w (ns k l) t (0, 0)
theorem bAlloc (w : World) (o : Obj) : Below w.heap.size w (w.alloc o) := (Below.refl _ _).alloc (Nat.le_refl _) o
theorem sgaps_same (A B : Option Addr) (n c d : Nat) (l : List (Nat × Nat)) (W : World) (hl : l.length = n) (hn : n ≤ 100000) (ha : Row W A (gs l)) (hb : Row W B (gs l)) :
    Calls Try.prog 18 #[.slice A n c, .slice B n d] W fun e w' => e = .returned (.bool true) ∧ Below W.heap.size W w' :=
  (sgaps_any A B n n c d l l W hl hl hn hn ha hb).mono fun e w' ⟨he, hb⟩ => ⟨by rw [he, decide_eq_true rfl], hb⟩
theorem tsns_same (A B : Option Addr) (n c d : Nat) (l : List Nat) (W : World) (hl : l.length = n) (hn : n ≤ 100000) (ha : Row W A (ns .u32 l)) (hb : Row W B (ns .u32 l)) :
    Calls Try.prog 19 #[.slice A n c, .slice B n d] W fun e w' => e = .returned (.bool true) ∧ Below W.heap.size W w' :=
  (tsns_any A B n n c d l l W hl hl hn hn ha hb).mono fun e w' ⟨he, hb⟩ => ⟨by rw [he, decide_eq_true rfl], hb⟩
end Go.Proofs.Ytednkcjmlpgipaa
