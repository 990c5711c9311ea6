/-
  Words on memory that all walks of this seat use: a slice that reads as cells, the world behind a call, a slice of integers that came in.
-/
import Derived.Test.YtednkcjmlpgipaaRows
import Derived.WalkKit
import Derived.WalkSpells
import Derived.WalkLawsBesides
import Derived.Lib.Hide
import Derived.Test.YtednkcjmlpgipaaChecked
import Derived.Maps.OwnSet
import Derived.Maps.RangeWalk
import Derived.Maps.Ext
import Derived.Deep.AppendLies
import Derived.Deep.RegionHeld
import Derived.Deep.Draws
import Derived.Deep.RegionLaw
import Derived.Laws.AppendOwnNone
import Derived.Handy
import Derived.BigQuiet
import Derived.BigRegion
import Derived.Deep.QuietTactic
import Derived.Outline
import Derived.DeepKeys4
import Derived.Deep.Onto
import Derived.Lib.SliceRun
import Derived.Deep.OwnRows
import Derived.OwnWalk
import Derived.Deep.RegionWith
import Derived.Deep.CutRange
import Derived.Laws.CopyOwn
import Derived.Deep.CutBlock
import Derived.Deep.LoopGhost
import Derived.Deep.RegionHeld3
import Derived.RangeFuncNested
import Derived.RangeFuncBound
import Derived.RangeFuncLeaves
import Derived.RangeFuncCalls
import Derived.Shelf.Abstract
import Derived.Shelf.RegionOpen
import Derived.OwnWalkIn
import Derived.TacticsInMore
import Derived.LoopNIn
import Derived.LoopIn
import Derived.WalkMore
import Derived.OrdersIn
import Derived.TacticsIn
import Derived.Laws.IdiomStrings
import Derived.Shelf.Small.Bits
import Derived.Shelf.SlGeneric
import Derived.Shelf.SlSortCmp.Xorshift
import Derived.Ground.SlsfProg
import Derived.Test.YtednkcjmlpgipaaProg
import Derived.Sort.AssemblyPlain
import Derived.Sort.Row
import Derived.Sort.Walk13a
import Derived.Sort.LotD4
import Derived.BigGuard
import Derived.BigCall
import Derived.CellFam
import Derived.RegionTactic
import Derived.Maps.AppendAt
import Derived.Sort.WalkA
import Derived.Laws.Bits64
import Derived.Laws.Bits64b
import Derived.ProofKit
namespace Go.Proofs.Ytednkcjmlpgipaa
open Go.RowKit

theorem ret_eq {k : IntKind} {a b : Int} (h : a = b) : Ending.returned (.int k a) = .returned (.int k b) := by rw [h]
/-- The slice value with address A reads as the cells l: asked of an address only where there is an element. -/
def Row (w : World) (A : Option Addr) (l : List Value) : Prop := ∀ i v, l[i]? = some v → ∃ a, A = some a ∧ w.cell? (a.add i) = some v
theorem Row.keep {w w' : World} {A : Option Addr} {l : List Value} (h : Row w A l) (hk : ∀ p v, w.cell? p = some v → w'.cell? p = some v) : Row w' A l :=
  fun i v hv => by obtain ⟨a, e, hc⟩ := h i v hv; exact ⟨a, e, hk _ _ hc⟩
theorem Row.alloc {w : World} {A : Option Addr} {l : List Value} (h : Row w A l) (o : Obj) : Row (w.alloc o) A l :=
  h.keep fun p _ hp => (World.cell?_alloc_lt w o p (block_lt_of_cell hp)).trans hp
theorem Row.below {w w' : World} {A : Option Addr} {l : List Value} (h : Row w A l) (hb : Below w.heap.size w w') : Row w' A l :=
  h.keep fun _ _ hp => (hb.cell (block_lt_of_cell hp)).trans hp
/-- As bytes. -/
def bs (l : List Int) : List Value := l.map (.int .u8)
theorem Row.byte {w : World} {A : Option Addr} {l : List Int} (h : Row w A (bs l)) {k : Nat} (hk : k < l.length) :
    ∃ a, A = some a ∧ w.cell? (a.add k) = some (.int .u8 (l.getD k 0)) :=
  h k _ (by simp [bs, List.getElem?_map, List.getElem?_eq_getElem hk, List.getD])
theorem Row.nil_ (w : World) (A : Option Addr) : Row w A (bs []) := fun i v h => by simp [bs] at h
theorem Row.new (w : World) (l : List Value) (t : TypeId) (fr : Nat × Nat) : Row (w.alloc (.cells l.toArray t fr)) (some ⟨w.heap.size, 0, none⟩) l := fun i v h => by
  refine ⟨_, rfl, ?_⟩
  have e : (⟨w.heap.size, 0, none⟩ : Addr).add i = ⟨w.heap.size, i, none⟩ := by unfold Addr.add; split <;> simp_all
  rw [e, cell_of_row _ _ _ _ _ _ (heap_alloc_new _ _)]
  simpa using h

theorem bnext {w : World} {a b : World} (h : Below w.heap.size w a) (k : Below a.heap.size a b) : Below w.heap.size w b := h.trans (k.mono h.size)
theorem keep_of {P : Program} {f : FuncId} {args : Array Value} {W : World} {v : Ending} (G : World → Prop) (h : Calls P f args W fun e w' => e = v ∧ Below W.heap.size W w') (hG : ∀ w', Below W.heap.size W w' → G w') :
    Calls P f args W fun e w' => e = v ∧ G w' := h.mono fun _ _ ⟨he, hw⟩ => ⟨he, hG _ hw⟩

/-- A slice of integers that came in. -/
def IsRow (k : IntKind) (w : World) (a : Option Addr) (len cap : Nat) (zs : List Int) : Prop :=
  (a = none ∧ len = 0 ∧ cap = 0 ∧ zs = []) ∨
  ∃ x, a = some x ∧ len ≤ cap ∧ cap ≤ maxLen ∧ zs.length = cap ∧ (∀ i, i < zs.length → w.cell? (x.add i) = some (.int k (zs.getD i 0))) ∧ ∀ n ∈ zs, (Lit.int k n).wf = true
def Byt (l : List Int) : Prop := ∀ c ∈ l, 0 ≤ c ∧ c < 256
theorem wf_u8 {n : Int} (h : (Lit.int .u8 n).wf = true) : 0 ≤ n ∧ n < 256 := by
  simp [Lit.wf, IntKind.min, IntKind.max, IntKind.signed, IntKind.bits] at h
  omega
theorem wf_u16 {n : Int} (h : (Lit.int .u16 n).wf = true) : 0 ≤ n ∧ n < 65536 := by
  simp [Lit.wf, IntKind.min, IntKind.max, IntKind.signed, IntKind.bits] at h
  omega
theorem wf_u32 {n : Int} (h : (Lit.int .u32 n).wf = true) : 0 ≤ n ∧ n < 4294967296 := by
  simp [Lit.wf, IntKind.min, IntKind.max, IntKind.signed, IntKind.bits] at h
  omega
theorem wf_u64 {n : Int} (h : (Lit.int .u64 n).wf = true) : 0 ≤ n ∧ n < 18446744073709551616 := by
  simp [Lit.wf, IntKind.min, IntKind.max, IntKind.signed, IntKind.bits] at h
  omega
theorem wf_i64 {n : Int} (h : (Lit.int .i64 n).wf = true) : -9223372036854775808 ≤ n ∧ n < 9223372036854775808 := by
  simp [Lit.wf, IntKind.min, IntKind.max, IntKind.signed, IntKind.bits] at h
  omega
theorem IsRow.bytes {w : World} {a : Option Addr} {len cap : Nat} {zs : List Int} (h : IsRow .u8 w a len cap zs) :
    ∃ l, l.length = len ∧ len ≤ cap ∧ cap ≤ maxLen ∧ Byt l ∧ Row w a (bs l) := by
  rcases h with ⟨rfl, rfl, rfl, rfl⟩ | ⟨x, rfl, h1, h2, h3, h4, h5⟩
  · exact ⟨[], rfl, Nat.le_refl _, Nat.zero_le _, fun c h => by simp at h, Row.nil_ _ _⟩
  · refine ⟨zs.take len, by simp; omega, h1, h2, fun c hc => wf_u8 (h5 c (List.mem_of_mem_take hc)), fun i v hv => ⟨x, rfl, ?_⟩⟩
    simp only [bs, List.map_take, List.getElem?_take] at hv
    split at hv
    · rw [List.getElem?_map] at hv
      obtain ⟨y, hy, rfl⟩ := Option.map_eq_some_iff.1 hv
      obtain ⟨hi, hy⟩ := List.getElem?_eq_some_iff.1 hy
      rw [h4 i hi]
      simp [List.getD, hy, List.getElem?_eq_getElem hi]
    · cases hv

theorem Byt.take {l : List Int} (h : Byt l) (k : Nat) : Byt (l.take k) := fun c hc => h c (List.mem_of_mem_take hc)
theorem Byt.drop {l : List Int} (h : Byt l) (k : Nat) : Byt (l.drop k) := fun c hc => h c (List.mem_of_mem_drop hc)
theorem Byt.at {l : List Int} (h : Byt l) {k : Nat} (hk : k < l.length) : ∃ c : Nat, l.getD k 0 = c ∧ c < 256 := by
  have e : l.getD k 0 = l[k] := by simp [List.getD, List.getElem?_eq_getElem hk]
  have := h l[k] (List.getElem_mem hk)
  exact ⟨l[k].toNat, by omega, by omega⟩
theorem Byt.set {l : List Int} (h : Byt l) (k : Nat) {c : Nat} (hc : c < 256) : Byt (l.set k (c : Int)) := fun x hx => by
  rcases List.mem_or_eq_of_mem_set hx with h1 | h1
  · exact h x h1
  · omega
theorem bs_set (l : List Int) (k : Nat) (c : Int) : (bs l).set k (.int .u8 c) = bs (l.set k c) := by simp [bs]
theorem bs_get {l : List Int} {k : Nat} (hk : k < l.length) : (bs l)[k]? = some (.int .u8 (l.getD k 0)) := by
  simp [bs, List.getD, List.getElem?_eq_getElem hk]
theorem bs_len (l : List Int) : (bs l).length = l.length := by simp [bs]

/-- A piece of a slice with elements of one cell: its address. -/
def cutA (A : Option Addr) (c lo : Nat) : Option Addr := if c = lo then A else A.map (·.add lo)
theorem add_add (a : Addr) (i j : Nat) : (a.add i).add j = a.add (i + j) := by
  unfold Addr.add
  by_cases hi : i = 0 <;> by_cases hj : j = 0 <;> simp [hi, hj, Nat.add_assoc]
theorem Row.cut {w : World} {A : Option Addr} {l : List Value} (h : Row w A l) {c lo hi : Nat} (hc : hi ≤ c) : Row w (cutA A c lo) ((l.take hi).drop lo) := fun i v hv => by
  rw [List.getElem?_drop, List.getElem?_take] at hv
  split at hv
  · obtain ⟨a, rfl, hcell⟩ := h _ _ hv
    refine ⟨a.add lo, by unfold cutA; rw [if_neg (by omega)]; rfl, by rw [add_add]; exact hcell⟩
  · cases hv
section
variable {P : Program} {t e : TypeId} (ht : P.underlying t = some (.slice e)) (hi : (P.info? e).map (·.size) = some 1)
include ht hi
theorem run_size1 (W : World) : (sizeOf (P.elem t)).run P W = .ok 1 W := by
  have he : P.elem t = e := by simp [Program.elem, ht]
  rw [he]
  cases hq : P.info? e with
  | none => simp [hq] at hi
  | some i =>
    simp [hq] at hi
    simp [sizeOf, typeInfo, hq, hi]
theorem run_cut_lh {k k' : IntKind} (A : Option Addr) (n c lo h : Nat) (h1 : lo ≤ h) (h2 : h ≤ c) (W : World) :
    (Instr.slice t (.slice A n c) (some (.int k (lo : Int))) (some (.int k' (h : Int))) none).run P W = .ok (.slice (cutA A c lo) (h - lo) (c - lo)) W := by
  rw [run_slice_lh W t A n c (by simp [Program.elem, ht]) k k' lo h (by omega) (by omega) (by omega), run_size1 ht hi]
  simp [Result.andThen, sliced, cutA]
theorem run_cut_h {k : IntKind} (A : Option Addr) (n c h : Nat) (h2 : h ≤ c) (W : World) :
    (Instr.slice t (.slice A n c) none (some (.int k (h : Int))) none).run P W = .ok (.slice (cutA A c 0) h c) W := by
  rw [run_slice_h W t A n c (by simp [Program.elem, ht]) k h (by omega) (by omega), run_size1 ht hi]
  simp [Result.andThen, sliced, cutA]
theorem run_cut_l {k : IntKind} (A : Option Addr) (n c lo : Nat) (h1 : lo ≤ n) (W : World) :
    (Instr.slice t (.slice A n c) (some (.int k (lo : Int))) none none).run P W = .ok (.slice (cutA A c lo) (n - lo) (c - lo)) W := by
  rw [run_slice_l W t A n c (by simp [Program.elem, ht]) k lo (by omega) (by omega), run_size1 ht hi]
  simp [Result.andThen, sliced, cutA]
end

/-- The string of bytes. -/
def strOf (l : List Int) : ByteArray := l.foldl (fun r n => r.push (UInt8.ofNat n.toNat)) ByteArray.empty
theorem run_loadRow {P : Program} {w : World} {a : Addr} {l : List Value} (hr : Row w (some a) l) : (loadCells a l.length).run P w = .ok l.toArray w :=
  run_loadCells_list (P := P) w a l fun j v hj => by
    obtain ⟨b, hb, hc⟩ := hr j v hj
    injection hb with hb
    subst hb
    exact hc
theorem run_strOf {P : Program} {w : World} {src dst e : TypeId} {A : Option Addr} {n c : Nat} {l : List Int}
    (hs : P.underlying src = some (.slice e)) (he : P.underlying e = some (.int .u8)) (hd : P.underlying dst = some .string) (hl : l.length = n) (hr : Row w A (bs l)) :
    (convert src dst (.slice A n c)).run P w = .ok (.string (strOf l)) w := by
  subst hl
  rw [run_convert_bytes_string w src dst e _ _ _ hs he hd]
  rcases A with _ | a
  · have h0 : l = [] := by
      rcases l with _ | ⟨x, l⟩
      · rfl
      · obtain ⟨a, ha, _⟩ := Row.byte hr (k := 0) (by simp)
        cases ha
    subst h0
    simp [Conv.bytesToString, strOf]
  · have h := run_loadRow (P := P) hr
    rw [show (bs l).length = l.length by simp [bs]] at h
    exact run_bytesToString w a l.length c l h
end Go.Proofs.Ytednkcjmlpgipaa
/-
  Plain words on pieces, and on what a joiner keeps. Nothing of the program is imported.
-/
namespace Go.Proofs.Ytednkcjmlpgipaa
set_option maxRecDepth 4000
namespace Fg
set_option linter.unusedVariables false

/-- A piece. -/
structure Pc where
  t : Nat
  f : Nat
  s : Nat
  n : Nat
  p : Nat
  d : List Int
/-- A message. -/
structure Ms where
  s : Nat
  u : Bool
  p : Nat
  d : List Int
structure Pc.Ok (x : Pc) : Prop where
  t : x.t < 4294967296
  f : x.f < 256
  s : x.s < 65536
  n : x.n < 65536
  p : x.p < 4294967296
  d : Byt x.d
def en (f : Nat) : Bool := f % 2 == 1
def bg (f : Nat) : Bool := f / 2 % 2 == 1
def un (f : Nat) : Bool := f / 4 % 2 == 1
def look : List Pc → Nat → Option Pc
  | [], _ => none
  | x :: K, t => if x.t = t then some x else look K t
def del (K : List Pc) (t : Nat) : List Pc := K.filter fun x => decide (x.t ≠ t)
def dat (K : List Pc) (t : Nat) : List Int := match look K t with | some x => x.d | none => []
def held (K : List Pc) : Nat := (K.map fun x => x.d.length).sum
def Apart (K : List Pc) : Prop := K.Pairwise fun x y => x.t ≠ y.t
def bw (t a : Nat) : Nat := (t + (4294967296 - a)) % 4294967296
def fw (t b : Nat) : Nat := (t + b) % 4294967296
def begs (K : List Pc) (t : Nat) : Bool := match look K t with | some x => bg x.f | none => false
def ends (K : List Pc) (t : Nat) : Bool := match look K t with | some x => en x.f | none => false
/-- Whether that piece and the next one are kept, and one message may have both. -/
def gon : Option Pc → Option Pc → Bool
  | some a, some b => !en a.f && !bg b.f && a.s == b.s && a.n == b.n && un a.f == un b.f
  | _, _ => false
def goes (K : List Pc) (t : Nat) : Bool := gon (look K t) (look K (fw t 1))
def bnd (K : List Pc) (t : Nat) : Nat → Nat → Nat → Option (Nat × Nat)
  | 0, _, _ => none
  | g + 1, a, b =>
    if begs K (bw t a) && ends K (fw t b) then some (a, b)
    else if (!begs K (bw t a) && !goes K (bw t (a + 1))) || (!ends K (fw t b) && !goes K (fw t b)) then none
    else bnd K t g (if begs K (bw t a) then a else a + 1) (if ends K (fw t b) then b else b + 1)
def tkK (K : List Pc) (t : Nat) : Nat → List Pc
  | 0 => K
  | c + 1 => del (tkK K t c) (fw t c)
def tkD (K : List Pc) (t : Nat) : Nat → List Int
  | 0 => []
  | c + 1 => tkD K t c ++ dat K (fw t c)
def tell (K : List Pc) (t : Nat) (c : Nat) : Ms × Nat := match look K t with | some x => (⟨x.s, un x.f, x.p, tkD K t c⟩, x.n) | none => (⟨0, false, 0, []⟩, 0)
/-- A piece comes: what is kept then; what is told. -/
def put (K : List Pc) (x : Pc) : List Pc × Option (Ms × Nat) :=
  if (look K x.t).isSome then (K, none)
  else match bnd (K ++ [x]) x.t (K.length + 1) 0 0 with
    | none => (K ++ [x], none)
    | some (a, b) => (tkK (K ++ [x]) (bw x.t a) (a + b + 1), some (tell (K ++ [x]) (bw x.t a) (a + b + 1)))

theorem look_mem : ∀ {K : List Pc} {t : Nat} {x : Pc}, look K t = some x → x ∈ K ∧ x.t = t
  | y :: K, t, x, h => by
    simp only [look] at h
    split at h
    · rename_i e
      injection h with h
      subst h
      exact ⟨by simp, e⟩
    · have := look_mem h
      exact ⟨by simp [this.1], this.2⟩
theorem look_none : ∀ {K : List Pc} {t : Nat}, look K t = none → ∀ x ∈ K, x.t ≠ t
  | y :: K, t, h, x, hx => by
    simp only [look] at h
    split at h
    · cases h
    · rename_i e
      rcases List.mem_cons.1 hx with rfl | hx
      · exact e
      · exact look_none h x hx
theorem look_of : ∀ {K : List Pc} {x : Pc}, Apart K → x ∈ K → look K x.t = some x
  | y :: K, x, ha, hx => by
    obtain ⟨h1, h2⟩ := List.pairwise_cons.1 ha
    simp only [look]
    rcases List.mem_cons.1 hx with rfl | hx
    · simp
    · rw [if_neg (h1 x hx)]
      exact look_of h2 hx
theorem look_app (K : List Pc) (x : Pc) (t : Nat) : look (K ++ [x]) t = if (look K t).isSome then look K t else if x.t = t then some x else none := by
  induction K with
  | nil => simp [look]
  | cons y K ih =>
    simp only [List.cons_append, look]
    by_cases e : y.t = t
    · simp [e]
    · simp [e, ih]
theorem look_del_other {K : List Pc} {t t' : Nat} (h : t' ≠ t) : look (del K t) t' = look K t' := by
  induction K with
  | nil => rfl
  | cons y K ih =>
    unfold del at ih ⊢
    rw [List.filter_cons]
    by_cases e : y.t = t
    · simp only [e, ne_eq, not_true_eq_false, decide_false, Bool.false_eq_true, if_false]
      rw [ih, look, if_neg (by rw [e]; exact Ne.symm h)]
    · simp only [e, ne_eq, not_false_eq_true, decide_true, if_true, look]
      rw [ih]
theorem look_del_same (K : List Pc) (t : Nat) : look (del K t) t = none := by
  cases h : look (del K t) t with
  | none => rfl
  | some x =>
    obtain ⟨h1, h2⟩ := look_mem h
    have := (List.mem_filter.1 h1).2
    simp [h2] at this
theorem apart_del {K : List Pc} (h : Apart K) (t : Nat) : Apart (del K t) := h.filter _
theorem apart_app {K : List Pc} {x : Pc} (h : Apart K) (hx : look K x.t = none) : Apart (K ++ [x]) :=
  List.pairwise_append.2 ⟨h, by simp, fun a ha b hb => by
    simp only [List.mem_singleton] at hb
    subst hb
    exact look_none hx a ha⟩
theorem ok_del {K : List Pc} (h : ∀ x ∈ K, x.Ok) (t : Nat) : ∀ x ∈ del K t, x.Ok := fun x hx => h x (List.mem_filter.1 hx).1
theorem del_of_none : ∀ {K : List Pc} {t : Nat}, look K t = none → del K t = K := fun {K t} h =>
  List.filter_eq_self.2 fun x hx => by simpa using look_none h x hx
theorem del_of_some : ∀ {K : List Pc} {t : Nat} {x : Pc}, Apart K → look K t = some x → held (del K t) + x.d.length = held K ∧ (del K t).length + 1 = K.length
  | y :: K, t, x, ha, h => by
    obtain ⟨h1, h2⟩ := List.pairwise_cons.1 ha
    simp only [look] at h
    unfold del held at *
    rw [List.filter_cons]
    split at h
    · rename_i e
      injection h with h
      subst h
      have hn : K.filter (fun x => decide (x.t ≠ t)) = K := List.filter_eq_self.2 fun z hz => by
        have := h1 z hz
        simp
        omega
      simp only [e, ne_eq, not_true_eq_false, decide_false, Bool.false_eq_true, if_false]
      rw [e] at *
      have hn' : K.filter (fun x => !decide (x.t = t)) = K := by simpa using hn
      simp [hn', Nat.add_comm]
    · rename_i e
      have ih := del_of_some h2 h
      unfold del held at ih
      simp only [e, ne_eq, not_false_eq_true, decide_true, if_true, List.map_cons, List.sum_cons, List.length_cons] at ih ⊢
      omega
theorem del_len (K : List Pc) (t : Nat) : (del K t).length ≤ K.length := List.length_filter_le _ _
theorem held_app (K : List Pc) (x : Pc) : held (K ++ [x]) = held K + x.d.length := by simp [held]
theorem held_get {K : List Pc} {x : Pc} (h : x ∈ K) : x.d.length ≤ held K := by
  induction K with
  | nil => cases h
  | cons y K ih =>
    simp only [held, List.map_cons, List.sum_cons] at ih ⊢
    rcases List.mem_cons.1 h with rfl | h
    · omega
    · have := ih h
      omega
theorem dat_len (K : List Pc) (t : Nat) : (dat K t).length ≤ held K := by
  unfold dat
  split
  · rename_i x h
    exact held_get (look_mem h).1
  · simp
theorem pigeon : ∀ (m : Nat) (K : List Pc) (g : Nat → Nat), (∀ i j, i < m → j < m → g i = g j → i = j) → (∀ i, i < m → (look K (g i)).isSome = true) → Apart K → m ≤ K.length
  | 0, _, _, _, _, _ => Nat.zero_le _
  | m + 1, K, g, hi, hs, ha => by
    obtain ⟨x, hx⟩ := Option.isSome_iff_exists.1 (hs m (by omega))
    have h1 := (del_of_some ha hx).2
    have ih := pigeon m (del K (g m)) g (fun i j h1 h2 => hi i j (by omega) (by omega)) (fun i h => by
      rw [look_del_other (fun e => by have := hi i m (by omega) (by omega) e; omega)]
      exact hs i (by omega)) (apart_del ha _)
    omega
theorem fw_lt (t b : Nat) : fw t b < 4294967296 := Nat.mod_lt _ (by omega)
theorem bw_lt (t b : Nat) : bw t b < 4294967296 := Nat.mod_lt _ (by omega)
theorem goes_left {K : List Pc} {t : Nat} (h : goes K t = true) : ∃ a b, look K t = some a ∧ look K (fw t 1) = some b ∧ en a.f = false ∧ bg b.f = false ∧ a.s = b.s ∧ a.n = b.n ∧ un a.f = un b.f := by
  unfold goes gon at h
  split at h
  · rename_i a b ha hb
    simp only [Bool.and_eq_true, Bool.not_eq_true', beq_iff_eq] at h
    exact ⟨a, b, ha, hb, h.1.1.1.1, h.1.1.1.2, h.1.1.2, h.1.2, h.2⟩
  · cases h
/-- From a behind to b on, each goes on with the next. -/
def Chain (K : List Pc) (t a b : Nat) : Prop := (look K t).isSome = true ∧ (∀ i, i < a → goes K (bw t (i + 1)) = true) ∧ ∀ i, i < b → goes K (fw t i) = true
theorem chain_some {K : List Pc} {t a b : Nat} (ht : t < 4294967296) (h : Chain K t a b) (hab : a + b < 4294967296) : ∀ i, i ≤ a + b → (look K (fw (bw t a) i)).isSome = true := fun i hi => by
  by_cases e : i = a
  · have : fw (bw t a) i = t := by unfold fw bw; omega
    rw [this]
    exact h.1
  · by_cases h2 : i < a
    · have h3 := h.2.1 (a - i - 1) (by omega)
      have e2 : fw (bw t a) i = bw t (a - i - 1 + 1) := by unfold fw bw; omega
      rw [e2]
      obtain ⟨x, _, hx, _⟩ := goes_left h3
      rw [hx]
      rfl
    · have h3 := h.2.2 (i - a - 1) (by omega)
      have e2 : fw (bw t a) i = fw (fw t (i - a - 1)) 1 := by unfold fw bw; omega
      rw [e2]
      obtain ⟨_, x, _, hx, _⟩ := goes_left h3
      rw [hx]
      rfl
theorem chain_len {K : List Pc} {t a b : Nat} (ht : t < 4294967296) (ha : Apart K) (h : Chain K t a b) (hab : a + b < 4294967296) : a + b + 1 ≤ K.length :=
  pigeon (a + b + 1) K (fun i => fw (bw t a) i) (fun i j h1 h2 e => by unfold fw at e; omega) (fun i hi => chain_some ht h hab i (by omega)) ha
theorem chain_left {K : List Pc} {t a b : Nat} (h : Chain K t a b) (hg : goes K (bw t (a + 1)) = true) : Chain K t (a + 1) b :=
  ⟨h.1, fun i hi => by
    by_cases e : i = a
    · rw [e]; exact hg
    · exact h.2.1 i (by omega), h.2.2⟩
theorem chain_right {K : List Pc} {t a b : Nat} (h : Chain K t a b) (hg : goes K (fw t b) = true) : Chain K t a (b + 1) :=
  ⟨h.1, h.2.1, fun i hi => by
    by_cases e : i = b
    · rw [e]; exact hg
    · exact h.2.2 i (by omega)⟩
/-- What is found is a chain that begins and ends. -/
theorem bnd_some {K : List Pc} {t : Nat} : ∀ {g a b a' b' : Nat}, Chain K t a b → bnd K t g a b = some (a', b') → Chain K t a' b' ∧ begs K (bw t a') = true ∧ ends K (fw t b') = true ∧ a ≤ a' ∧ b ≤ b'
  | 0, _, _, _, _, _, h => by simp [bnd] at h
  | g + 1, a, b, a', b', hc, h => by
    rw [bnd] at h
    split at h
    · rename_i e
      simp only [Bool.and_eq_true] at e
      simp only [Option.some.injEq, Prod.mk.injEq] at h
      obtain ⟨rfl, rfl⟩ := h
      exact ⟨hc, e.1, e.2, Nat.le_refl _, Nat.le_refl _⟩
    · split at h
      · cases h
      · rename_i e
        simp only [Bool.or_eq_true, Bool.and_eq_true, Bool.not_eq_true', not_or, not_and, Bool.not_eq_false] at e
        have := bnd_some (a := if begs K (bw t a) then a else a + 1) (b := if ends K (fw t b) then b else b + 1) (by
          have h1 : Chain K t (if begs K (bw t a) then a else a + 1) b := by
            split
            · exact hc
            · rename_i hb
              exact chain_left hc (e.1 (by simpa using hb))
          by_cases hb : ends K (fw t b) = true
          · rw [if_pos hb]; exact h1
          · rw [if_neg hb]; exact chain_right h1 (e.2 (by simpa using hb))) h
        obtain ⟨k1, k2, k3, k4, k5⟩ := this
        refine ⟨k1, k2, k3, Nat.le_trans ?_ k4, Nat.le_trans ?_ k5⟩ <;> split <;> omega
theorem bnd_le {K : List Pc} {t : Nat} : ∀ {g a b a' b' : Nat}, bnd K t g a b = some (a', b') → a' ≤ a + g ∧ b' ≤ b + g
  | 0, _, _, _, _, h => by simp [bnd] at h
  | g + 1, a, b, a', b', h => by
    rw [bnd] at h
    split at h
    · simp only [Option.some.injEq, Prod.mk.injEq] at h
      omega
    · split at h
      · cases h
      · have := bnd_le h
        refine ⟨Nat.le_trans this.1 ?_, Nat.le_trans this.2 ?_⟩ <;> split <;> omega
theorem chain_start {K : List Pc} {t : Nat} (h : (look K t).isSome = true) : Chain K t 0 0 := ⟨h, fun i hi => by omega, fun i hi => by omega⟩
/-- The rows that are taken out. -/
theorem tk_look {K : List Pc} {t : Nat} : ∀ {c i : Nat}, c ≤ i → i < 4294967296 → look (tkK K t c) (fw t i) = look K (fw t i)
  | 0, _, _, _ => rfl
  | c + 1, i, h, hi => by
    rw [tkK, look_del_other (by unfold fw; omega)]
    exact tk_look (by omega) hi
theorem tk_apart {K : List Pc} {t : Nat} (h : Apart K) : ∀ c, Apart (tkK K t c)
  | 0 => h
  | c + 1 => apart_del (tk_apart h c) _
theorem tk_ok {K : List Pc} {t : Nat} (h : ∀ x ∈ K, x.Ok) : ∀ c, ∀ x ∈ tkK K t c, x.Ok
  | 0 => h
  | c + 1 => ok_del (tk_ok h c) _
theorem tk_held {K : List Pc} {t : Nat} (ha : Apart K) : ∀ {c : Nat}, c ≤ 4294967296 → (∀ i, i < c → (look K (fw t i)).isSome = true) → held (tkK K t c) + (tkD K t c).length = held K ∧ (tkK K t c).length + c = K.length
  | 0, _, _ => by simp [tkK, tkD]
  | c + 1, hc, h => by
    obtain ⟨h1, h2⟩ := tk_held ha (c := c) (by omega) (fun i hi => h i (by omega))
    obtain ⟨x, hx⟩ := Option.isSome_iff_exists.1 (h c (by omega))
    have h3 := del_of_some (tk_apart ha c) (t := fw t c) (x := x) (by rw [tk_look (Nat.le_refl _) (by omega)]; exact hx)
    have h4 : dat K (fw t c) = x.d := by unfold dat; rw [hx]
    rw [tkK, tkD, List.length_append, h4]
    omega
theorem tk_len_le {K : List Pc} {t : Nat} : ∀ c, (tkK K t c).length ≤ K.length
  | 0 => Nat.le_refl _
  | c + 1 => Nat.le_trans (del_len _ _) (tk_len_le c)
theorem byt_dat {K : List Pc} (h : ∀ x ∈ K, x.Ok) (t : Nat) : Byt (dat K t) := by
  unfold dat
  split
  · rename_i x hx
    exact (h x (look_mem hx).1).d
  · exact fun c hc => by cases hc
end Fg
end Go.Proofs.Ytednkcjmlpgipaa
/-
  What is kept and what is told, in bytes: plain.
-/
namespace Go.Proofs.Ytednkcjmlpgipaa
set_option maxRecDepth 4000
namespace Fg
set_option linter.unusedVariables false

def Keeps (K : List Pc) (x : Pc) (R : List Pc × Option (Ms × Nat)) : Prop :=
  (R.2 = none ∧ R.1.length = K.length ∧ held R.1 = held K) ∨ (R.2 = none ∧ R.1.length = K.length + 1 ∧ held R.1 = held K + x.d.length) ∨
    ∃ m s, R.2 = some (m, s) ∧ R.1.length ≤ K.length ∧ held R.1 + m.d.length = held K + x.d.length
theorem put_keeps {K : List Pc} (x : Pc) (ha : Apart K) (ht : x.t < 4294967296) (hlen : K.length < 1000000000) : Keeps K x (put K x) := by
  unfold put
  by_cases h : (look K x.t).isSome = true
  · rw [if_pos h]
    exact .inl ⟨rfl, rfl, rfl⟩
  · rw [if_neg h]
    have hn : look K x.t = none := by simpa using h
    have hap := apart_app ha hn
    have hsome : (look (K ++ [x]) x.t).isSome = true := by rw [look_app, if_neg h, if_pos rfl]; rfl
    split
    · exact .inr (.inl ⟨rfl, by simp, held_app K x⟩)
    · rename_i a b hb
      obtain ⟨hc, _⟩ := bnd_some (chain_start hsome) hb
      have hle := bnd_le hb
      have hs := chain_some ht hc (by omega)
      have h2 := tk_held hap (c := a + b + 1) (t := bw x.t a) (by omega) (fun i hi => hs i (by omega))
      refine .inr (.inr ⟨_, _, rfl, ?_, ?_⟩)
      · have := h2.2
        simp only [List.length_append, List.length_singleton] at this
        show (tkK (K ++ [x]) (bw x.t a) (a + b + 1)).length ≤ K.length
        omega
      · have h3 := hs 0 (by omega)
        have e0 : fw (bw x.t a) 0 = bw x.t a := by unfold fw bw; omega
        rw [e0] at h3
        obtain ⟨y, hy⟩ := Option.isSome_iff_exists.1 h3
        have e : (tell (K ++ [x]) (bw x.t a) (a + b + 1)).1.d = tkD (K ++ [x]) (bw x.t a) (a + b + 1) := by unfold tell; rw [hy]
        show held (tkK (K ++ [x]) (bw x.t a) (a + b + 1)) + (tell (K ++ [x]) (bw x.t a) (a + b + 1)).1.d.length = _
        rw [e, h2.1, held_app]
end Fg
end Go.Proofs.Ytednkcjmlpgipaa
/-
  Plain words on the TSNs that came: ways that go round, a set's standing, what comes of a TSN, the gaps. Nothing of the program is imported.
-/
namespace Go.Proofs.Ytednkcjmlpgipaa
namespace Gp
set_option linter.unusedVariables false

/-- The way from a to b. -/
def wy (a b : Nat) : Nat := (b + 4294967296 - a) % 4294967296
/-- x further than c. -/
def up (c x : Nat) : Nat := (c + x) % 4294967296
theorem wy_lt (a b : Nat) : wy a b < 4294967296 := Nat.mod_lt _ (by omega)
theorem up_lt (c x : Nat) : up c x < 4294967296 := Nat.mod_lt _ (by omega)
theorem wy_up {c x : Nat} (hc : c < 4294967296) (hx : x < 4294967296) : wy c (up c x) = x := by unfold wy up; omega
theorem up_wy {c t : Nat} (hc : c < 4294967296) (ht : t < 4294967296) : up c (wy c t) = t := by unfold wy up; omega
theorem up_up (c x y : Nat) : up (up c x) y = up c (x + y) := by unfold up; omega
theorem wy_step {c t : Nat} (hc : c < 4294967296) (ht : t < 4294967296) (h : 1 ≤ wy c t) : wy (up c 1) t = wy c t - 1 := by unfold wy up at *; omega
theorem wy_back {c t : Nat} (hc : c < 4294967296) (ht : t < 4294967296) (h : wy c t = 0) : wy (up c 1) t = 4294967295 := by unfold wy up at *; omega
theorem wy_turn {c t y : Nat} (hc : c < 4294967296) (ht : t < 4294967296) : wy (up c y) (up t y) = wy c t := by unfold wy up; omega
/-- How a set stands. -/
structure St where
  cum : Nat
  ws : List Nat
  ds : List Nat
/-- Rising, each from lo to hi. -/
def Ris (lo hi : Nat) (l : List Nat) : Prop := l.Pairwise (· < ·) ∧ ∀ x ∈ l, lo ≤ x ∧ x ≤ hi
theorem Ris.tail {lo hi x : Nat} {l : List Nat} (h : Ris lo hi (x :: l)) : Ris lo hi l := ⟨(List.pairwise_cons.1 h.1).2, fun y hy => h.2 y (by simp [hy])⟩
theorem ris_len_aux : ∀ (l : List Nat) (lo hi : Nat), Ris lo hi l → lo ≤ hi + 1 → l.length + lo ≤ hi + 1
  | [], lo, hi, _, h => by simpa using h
  | x :: l, lo, hi, h, hl => by
    have h1 := List.pairwise_cons.1 h.1
    have hx := h.2 x (by simp)
    have := ris_len_aux l (x + 1) hi ⟨h1.2, fun y hy => ⟨h1.1 y hy, (h.2 y (by simp [hy])).2⟩⟩ (by omega)
    simp
    omega
theorem ris_len {l : List Nat} (h : Ris 2 65535 l) : l.length ≤ 65534 := by
  have := ris_len_aux l 2 65535 h (by omega)
  omega
def St.Ok (s : St) : Prop := s.cum < 4294967296 ∧ Ris 2 65535 s.ws ∧ s.ds.length ≤ 16 ∧ ∀ t ∈ s.ds, t < 4294967296
def psd (c t : Nat) : Bool := decide (wy c t = 0 ∨ 2147483649 ≤ wy c t)
def bfr (a b : Nat) : Bool := decide (1 ≤ wy a b ∧ wy a b ≤ 2147483647)
theorem psd_eq {c t : Nat} (hc : c < 4294967296) (ht : t < 4294967296) : psd c t = (decide (t = c) || bfr t c) := by
  have h1 : (wy c t = 0 ↔ t = c) := by unfold wy; omega
  have h2 : wy c t ≠ 0 → wy t c = 4294967296 - wy c t := by unfold wy; omega
  unfold psd bfr
  rw [Bool.eq_iff_iff]
  simp only [Bool.or_eq_true, decide_eq_true_eq, h1]
  by_cases e : t = c
  · simp [e]
  · have h3 := h2 (fun h => e (h1.1 h))
    have h4 := wy_lt c t
    simp only [e, false_or]
    omega
def St.has (s : St) (t : Nat) : Bool := psd s.cum t || decide (wy s.cum t ∈ s.ws)
def far (c t : Nat) : Bool := decide (65535 < wy c t) && !psd c t
/-- The sorted place. -/
def ins (w : Nat) : List Nat → List Nat
  | [] => [w]
  | x :: l => if x < w then x :: ins w l else w :: x :: l
theorem mem_ins (w y : Nat) : ∀ l : List Nat, y ∈ ins w l ↔ y = w ∨ y ∈ l
  | [] => by simp [ins]
  | x :: l => by
    unfold ins
    split
    · simp only [List.mem_cons, mem_ins w y l]
      constructor <;> (intro h; rcases h with h | h | h <;> simp [h])
    · simp
theorem len_ins (w : Nat) : ∀ l : List Nat, (ins w l).length = l.length + 1
  | [] => rfl
  | x :: l => by
    unfold ins
    split
    · simp [len_ins w l]
    · simp
theorem ris_ins {w lo hi : Nat} (h1 : lo ≤ w) (h2 : w ≤ hi) : ∀ {l : List Nat}, Ris lo hi l → w ∉ l → Ris lo hi (ins w l)
  | [], _, _ => ⟨by simp [ins], by simp [ins, h1, h2]⟩
  | x :: l, h, hn => by
    have hx := (List.pairwise_cons.1 h.1)
    have ht := ris_ins h1 h2 h.tail (fun hm => hn (by simp [hm]))
    unfold ins
    split
    · rename_i hlt
      refine ⟨List.pairwise_cons.2 ⟨fun y hy => ?_, ht.1⟩, fun y hy => ?_⟩
      · rcases (mem_ins w y l).1 hy with rfl | hy
        · exact hlt
        · exact hx.1 y hy
      · rcases List.mem_cons.1 hy with rfl | hy
        · exact h.2 y (by simp)
        · exact ht.2 y hy
    · rename_i hge
      have hne : w ≠ x := fun e => hn (by simp [e])
      refine ⟨List.pairwise_cons.2 ⟨fun y hy => ?_, h.1⟩, fun y hy => ?_⟩
      · rcases List.mem_cons.1 hy with rfl | hy
        · omega
        · have := hx.1 y hy; omega
      · rcases List.mem_cons.1 hy with rfl | hy
        · exact ⟨h1, h2⟩
        · exact h.2 y hy
/-- Where it stands: how many are less. -/
theorem ins_at (w : Nat) : ∀ (l : List Nat) (k : Nat), k ≤ l.length → (∀ i, i < k → l.getD i 0 < w) → (k < l.length → ¬ l.getD k 0 < w) → ins w l = l.take k ++ w :: l.drop k
  | [], k, hk, _, _ => by simp [ins]
  | x :: l, 0, _, _, h => by
    have := h (by simp)
    simp only [List.getD_cons_zero] at this
    simp [ins, this]
  | x :: l, k + 1, hk, h1, h2 => by
    have h0 := h1 0 (by omega)
    simp only [List.getD_cons_zero] at h0
    simp only [ins, h0, if_true, List.take_succ_cons, List.drop_succ_cons, List.cons_append]
    rw [ins_at w l k (by simpa using hk) (fun i hi => by simpa using h1 (i + 1) (by omega)) (fun hl => by simpa using h2 (by simpa using hl))]
/-- The cumulative TSN goes on over those that stand just behind it. -/
def norm (c : Nat) : List Nat → Nat × List Nat
  | [] => (c, [])
  | w :: l => if w = 1 then norm (up c 1) (l.map (· - 1)) else (c, w :: l)
termination_by l => l.length
theorem norm_go (c : Nat) (l : List Nat) : norm c (1 :: l) = norm (up c 1) (l.map (· - 1)) := by rw [norm]; simp
theorem norm_stop {c : Nat} {l : List Nat} (h : l.head? ≠ some 1) : norm c l = (c, l) := by
  cases l with
  | nil => rw [norm]
  | cons w l => rw [norm, if_neg (by simpa using h)]
theorem ris_less {hi : Nat} {l : List Nat} (h : Ris 1 hi (1 :: l)) : Ris 1 hi (l.map (· - 1)) := by
  have h1 := List.pairwise_cons.1 h.1
  refine ⟨List.pairwise_map.2 (h1.2.imp_of_mem fun {a b} ha hb hab => ?_), fun y hy => ?_⟩
  · have := h1.1 a ha
    omega
  · obtain ⟨x, hx, rfl⟩ := List.mem_map.1 hy
    have := h1.1 x hx
    have := h.2 x (by simp [hx])
    omega
theorem ris_two {hi : Nat} {l : List Nat} (h : Ris 1 hi l) (hh : l.head? ≠ some 1) : Ris 2 hi l := by
  refine ⟨h.1, fun x hx => ⟨?_, (h.2 x hx).2⟩⟩
  cases l with
  | nil => simp at hx
  | cons w l =>
    have hw : w ≠ 1 := by simpa using hh
    have h1 := List.pairwise_cons.1 h.1
    have := (h.2 w (by simp)).1
    rcases List.mem_cons.1 hx with rfl | hx
    · omega
    · have := h1.1 x hx; omega
theorem norm_ok {hi : Nat} : ∀ (n c : Nat) (l : List Nat), l.length ≤ n → c < 4294967296 → Ris 1 hi l → (norm c l).1 < 4294967296 ∧ Ris 2 hi (norm c l).2
  | n, c, [], hn, hc, h => by
    rw [norm]
    exact ⟨hc, by simp, by simp⟩
  | n + 1, c, w :: l, hn, hc, h => by
    by_cases hh : (w :: l).head? = some 1
    · obtain rfl : w = 1 := by simpa using hh
      rw [norm_go]
      exact norm_ok n _ _ (by simpa using hn) (up_lt _ _) (ris_less h)
    · rw [norm_stop hh]
      exact ⟨hc, ris_two h hh⟩
def St.add (s : St) (t : Nat) : St × Nat :=
  if s.has t then ({ s with ds := if s.ds.length < 16 then s.ds ++ [t] else s.ds }, 1)
  else if 65535 < wy s.cum t then (s, 2)
  else ({ cum := (norm s.cum (ins (wy s.cum t) s.ws)).1, ws := (norm s.cum (ins (wy s.cum t) s.ws)).2, ds := s.ds }, 0)
theorem has_far {s : St} (h : s.Ok) {t : Nat} : far s.cum t = true → s.has t = false := by
  intro hf
  unfold far at hf
  simp only [Bool.and_eq_true, decide_eq_true_eq, Bool.not_eq_true'] at hf
  unfold St.has
  rw [hf.2]
  simp only [Bool.false_or, decide_eq_false_iff_not]
  intro hm
  have := (h.2.1.2 _ hm).2
  omega
theorem far_of {s : St} {t : Nat} (h : s.has t = false) : far s.cum t = decide (65535 < wy s.cum t) := by
  unfold St.has at h
  simp only [Bool.or_eq_false_iff] at h
  unfold far
  rw [h.1]
  simp
theorem ins_ok {s : St} (h : s.Ok) {t : Nat} (hh : s.has t = false) (hw : wy s.cum t ≤ 65535) : Ris 1 65535 (ins (wy s.cum t) s.ws) := by
  unfold St.has psd at hh
  simp only [Bool.or_eq_false_iff, decide_eq_false_iff_not] at hh
  exact ris_ins (by omega) hw ⟨h.2.1.1, fun x hx => ⟨by have := (h.2.1.2 x hx).1; omega, (h.2.1.2 x hx).2⟩⟩ hh.2
theorem add_ok {s : St} (h : s.Ok) {t : Nat} (ht : t < 4294967296) : (s.add t).1.Ok := by
  unfold St.add
  split
  · refine ⟨h.1, h.2.1, ?_, ?_⟩
    · show (if s.ds.length < 16 then s.ds ++ [t] else s.ds).length ≤ 16
      split
      · simp; omega
      · exact h.2.2.1
    · show ∀ x ∈ (if s.ds.length < 16 then s.ds ++ [t] else s.ds), x < 4294967296
      split
      · intro x hx
        rcases List.mem_append.1 hx with hx | hx
        · exact h.2.2.2 x hx
        · simp at hx; omega
      · exact h.2.2.2
  · rename_i hh
    split
    · exact h
    · rename_i hw
      have := norm_ok (ins (wy s.cum t) s.ws).length s.cum _ (Nat.le_refl _) h.1 (ins_ok h (by simpa using hh) (by omega))
      exact ⟨this.1, this.2, h.2.2.1, h.2.2.2⟩
theorem add_code (s : St) (t : Nat) : (s.add t).2 ≤ 2 := by
  unfold St.add
  split
  · simp
  · split <;> simp
/-- The gaps: runs. -/
def gstep (g : List (Nat × Nat)) (w : Nat) : List (Nat × Nat) :=
  match g.getLast? with
  | some p => if p.2 + 1 = w then g.dropLast ++ [(p.1, w)] else g ++ [(w, w)]
  | none => [(w, w)]
def runs (ws : List Nat) : List (Nat × Nat) := ws.foldl gstep []
def St.gaps (s : St) : List (Nat × Nat) := (runs s.ws).take 64
theorem runs_snoc (l : List Nat) (w : Nat) : runs (l ++ [w]) = gstep (runs l) w := by simp [runs]
theorem gstep_len (g : List (Nat × Nat)) (w : Nat) : g.length ≤ (gstep g w).length := by
  unfold gstep
  split
  · rename_i p hp
    split
    · have : 0 < g.length := by
        cases g with
        | nil => simp at hp
        | cons => simp
      simp; omega
    · simp
  · simp_all
theorem gstep_take {g : List (Nat × Nat)} (w : Nat) (h : 65 ≤ g.length) : (gstep g w).take 64 = g.take 64 := by
  unfold gstep
  split
  · split
    · rw [List.take_append_of_le_length (by simp; omega), List.dropLast_eq_take, List.take_take, show min 64 (g.length - 1) = 64 by omega]
    · rw [List.take_append_of_le_length (by omega)]
  · simp_all
theorem fold_take : ∀ (ws : List Nat) (g : List (Nat × Nat)), 65 ≤ g.length → (ws.foldl gstep g).take 64 = g.take 64
  | [], _, _ => rfl
  | w :: ws, g, h => by
    rw [List.foldl_cons, fold_take ws _ (Nat.le_trans h (gstep_len g w)), gstep_take w h]
/-- Sixty-four are whole, and one more begins: that is all that is told. -/
theorem runs_full {l r : List Nat} {w : Nat} (h : (runs l).length = 64) (hn : ∀ p, (runs l).getLast? = some p → p.2 + 1 ≠ w) : (runs (l ++ w :: r)).take 64 = runs l := by
  have e : gstep (runs l) w = runs l ++ [(w, w)] := by
    unfold gstep
    split
    · rename_i p hp
      rw [if_neg (hn p hp)]
    · simp_all
  have e2 : runs (l ++ w :: r) = r.foldl gstep (gstep (runs l) w) := by simp [runs]
  rw [e2, fold_take r _ (by rw [e]; simp [h]), e, List.take_append_of_le_length (by omega), List.take_of_length_le (by omega)]
/-- The last run ends with the last way. -/
theorem runs_last (l : List Nat) (w : Nat) : ∃ p, (runs (l ++ [w])).getLast? = some p ∧ p.2 = w := by
  rw [runs_snoc]
  unfold gstep
  split
  · split
    · exact ⟨_, by simp; rfl, rfl⟩
    · exact ⟨_, by simp; rfl, rfl⟩
  · exact ⟨_, by simp; rfl, rfl⟩
theorem runs_nil : runs [] = [] := rfl
theorem runs_ne {l : List Nat} (h : l ≠ []) : runs l ≠ [] := by
  rcases List.eq_nil_or_concat l with rfl | ⟨m, w, rfl⟩
  · exact absurd rfl h
  · obtain ⟨p, hp, _⟩ := runs_last m w
    intro e
    rw [← List.concat_eq_append, e] at hp
    cases hp
theorem gstep_nil (w : Nat) : gstep [] w = [(w, w)] := rfl
theorem gstep_on {m : List (Nat × Nat)} {p : Nat × Nat} {w : Nat} (h : p.2 + 1 = w) : gstep (m ++ [p]) w = m ++ [(p.1, w)] := by
  unfold gstep
  simp [h]
theorem gstep_new {m : List (Nat × Nat)} {p : Nat × Nat} {w : Nat} (h : p.2 + 1 ≠ w) : gstep (m ++ [p]) w = m ++ [p] ++ [(w, w)] := by
  unfold gstep
  simp [h]
theorem take_snoc {ws : List Nat} {k : Nat} (h : k < ws.length) : ws.take (k + 1) = ws.take k ++ [ws.getD k 0] := by
  rw [List.take_succ_eq_append_getElem h]
  simp [List.getD, h]
theorem ris_at {lo hi k : Nat} {ws : List Nat} (h : Ris lo hi ws) (hk : k < ws.length) : lo ≤ ws.getD k 0 ∧ ws.getD k 0 ≤ hi := by
  have : ws.getD k 0 = ws[k] := by simp [List.getD, hk]
  rw [this]
  exact h.2 _ (List.getElem_mem hk)
theorem ris_lt {lo hi j k : Nat} {ws : List Nat} (h : Ris lo hi ws) (hjk : j < k) (hk : k < ws.length) : ws.getD j 0 < ws.getD k 0 := by
  have h1 : ws.getD k 0 = ws[k] := by simp [List.getD, hk]
  have h2 : ws.getD j 0 = ws[j] := by simp [List.getD, Nat.lt_trans hjk hk]
  rw [h1, h2]
  exact (List.pairwise_iff_getElem.1 h.1) j k _ _ hjk
/-- The last run so far ends ahead of the next way. -/
theorem last_lt {ws : List Nat} {lo hi k : Nat} {m : List (Nat × Nat)} {p : Nat × Nat} (h : Ris lo hi ws) (hk : k < ws.length) (hl : runs (ws.take k) = m ++ [p]) : p.2 < ws.getD k 0 := by
  rcases k with _ | k
  · simp [runs] at hl
  · rw [take_snoc (by omega)] at hl
    obtain ⟨q, hq, hq2⟩ := runs_last (ws.take k) (ws.getD k 0)
    rw [hl] at hq
    simp at hq
    rw [hq, hq2]
    exact ris_lt h (by omega) hk
theorem split_at {ws : List Nat} {k : Nat} (hk : k < ws.length) : ws = ws.take k ++ ws.getD k 0 :: ws.drop (k + 1) := by
  have h1 : ws.getD k 0 = ws[k] := by simp [List.getD, hk]
  rw [h1, ← List.drop_eq_getElem_cons hk, List.take_append_drop]
end Gp
end Go.Proofs.Ytednkcjmlpgipaa
/-
  Words on memory for all layers: a block that is known whole; rows of numbers of the call's own; what is kept but for some blocks; maps of the call's own.
-/
namespace Go.Proofs.Ytednkcjmlpgipaa
open Go.RowKit
set_option linter.unusedVariables false

theorem grown_refl (w : World) (r : Option Nat) : w.grownBy w r := ⟨rfl, rfl, rfl, Nat.le_refl _, fun _ _ _ => rfl⟩
theorem grown_drewN {w W : World} {r : Option Nat} (h : w.grownBy W r) (q : Nat) : w.grownBy (W.drewN q) r := ⟨h.os, h.tape, h.output, h.size, h.block⟩
/-- Block b holds just these cells. -/
def Bk (W : World) (b : Nat) (cs : Array Value) (t : TypeId) : Prop := W.heap[b]? = some (.cells cs t (0, 0))
theorem Bk.lt {W : World} {b : Nat} {cs : Array Value} {t : TypeId} (h : Bk W b cs t) : b < W.heap.size := (Array.getElem?_eq_some_iff.1 h).1
theorem Bk.next {W W' : World} {b : Nat} {cs : Array Value} {t : TypeId} (h : Bk W b cs t) (hb : Below W.heap.size W W') : Bk W' b cs t := (hb.block _ h.lt).trans h
theorem Bk.nextB {W W' : World} {B b : Nat} {cs : Array Value} {t : TypeId} (h : Bk W b cs t) (hb : Below B W W') (hlt : b < B) : Bk W' b cs t := (hb.block _ hlt).trans h
theorem Bk.drew {W : World} {b : Nat} {cs : Array Value} {t : TypeId} (h : Bk W b cs t) : Bk W.drew b cs t := h
theorem Bk.drewN {W : World} {b : Nat} {cs : Array Value} {t : TypeId} (h : Bk W b cs t) (q : Nat) : Bk (W.drewN q) b cs t := h
theorem Bk.alloc {W : World} {b : Nat} {cs : Array Value} {t : TypeId} (h : Bk W b cs t) (o : Obj) : Bk (W.alloc o) b cs t := h.next ((Below.refl _ _).alloc (Nat.le_refl _) _)
theorem Bk.new (W : World) (cs : Array Value) (t : TypeId) : Bk (W.alloc (.cells cs t)) W.heap.size cs t := heap_alloc_new _ _
theorem Bk.cell {W : World} {b : Nat} {cs : Array Value} {t : TypeId} (h : Bk W b cs t) (i : Nat) : W.cell? ⟨b, i, none⟩ = cs[i]? := by simp [World.cell?, show W.heap[b]? = _ from h]
theorem Bk.frozen {W : World} {b : Nat} {cs : Array Value} {t : TypeId} (h : Bk W b cs t) (i : Nat) : W.frozen? ⟨b, i, none⟩ = false := by simp [World.frozen?, show W.heap[b]? = _ from h]
theorem Bk.set {W : World} {b : Nat} {cs : Array Value} {t : TypeId} (h : Bk W b cs t) (i : Nat) (v : Value) : Bk (W.setCell ⟨b, i, none⟩ v) b (cs.setIfInBounds i v) t := by
  have h' : W.heap[b]? = some (.cells cs t (0, 0)) := h
  simp [Bk, World.setCell, Array.getElem?_modify, h']
theorem Bk.other {W : World} {b c : Nat} {cs : Array Value} {t : TypeId} (h : Bk W b cs t) (hne : b ≠ c) (i : Nat) (v : Value) : Bk (W.setCell ⟨c, i, none⟩ v) b cs t := by
  have h' : W.heap[b]? = some (.cells cs t (0, 0)) := h
  simp [Bk, World.setCell, Array.getElem?_modify, h', Ne.symm hne]
theorem Bk.row {W : World} {b : Nat} {cs : Array Value} {t : TypeId} (h : Bk W b cs t) : Row W (some ⟨b, 0, none⟩) cs.toList := fun i v hv => by
  refine ⟨_, rfl, ?_⟩
  have e : (⟨b, 0, none⟩ : Addr).add i = ⟨b, i, none⟩ := by unfold Addr.add; split <;> simp_all
  rw [e, h.cell i]
  simpa using hv
theorem Bk.kept {W W' : World} {b : Nat} {cs : Array Value} {t : TypeId} {row : Option Nat} (h : Bk W b cs t) (hg : W.grownBy W' row) (hne : some b ≠ row) : Bk W' b cs t := (hg.block b h.lt hne).trans h
theorem setc_grown (W : World) (b o : Nat) (v : Value) : W.grownBy (W.setCell ⟨b, o, none⟩ v) (some b) :=
  ⟨rfl, rfl, rfl, by simp [World.setCell], fun k _ hk => by
    have hne : b ≠ k := fun e => hk (by rw [e])
    simp [World.setCell, Array.getElem?_modify, hne]⟩
/-- Numbers as values. -/
def ns (k : IntKind) (l : List Nat) : List Value := l.map fun (x : Nat) => Value.int k (x : Int)
theorem ns_len (k : IntKind) (l : List Nat) : (ns k l).length = l.length := by simp [ns]
theorem ns_app (k : IntKind) (l m : List Nat) : ns k l ++ ns k m = ns k (l ++ m) := by simp [ns]
theorem ns_get {k : IntKind} {l : List Nat} {i : Nat} (h : i < l.length) : (ns k l)[i]? = some (.int k ((l.getD i 0 : Nat) : Int)) := by
  simp [ns, List.getElem?_map, List.getElem?_eq_getElem h, List.getD]
theorem ns_one (k : IntKind) (l : List Nat) : ∀ u ∈ ns k l, u.oneCell' = true := fun u hu => by
  obtain ⟨x, _, rfl⟩ := List.mem_map.1 hu
  rfl
/-- A row of numbers of the call's own. -/
def Ir (k : IntKind) (E : TypeId) (W : World) (v : Value) (l : List Nat) : Prop := W.ownsRow 0 E 1 v l.length (ns k l)
theorem Ir.nil (k : IntKind) (E : TypeId) (W : World) : Ir k E W (.slice none 0 0) [] := World.ownsRow_nil _ _ _ _
theorem Ir.form {k : IntKind} {E : TypeId} {W : World} {v : Value} {l : List Nat} (h : Ir k E W v l) : ∃ A c, v = .slice A l.length c ∧ l.length ≤ c ∧ c ≤ maxLen ∧ (∀ a, A = some a → v.ownBlock = some a.block) := by
  rcases h.2 with ⟨rfl, h0⟩ | ⟨g, cap, cur, rfl, _, _, h1, h2, _⟩
  · exact ⟨none, 0, by rw [h0], by omega, by unfold maxLen; omega, fun a ha => by cases ha⟩
  · exact ⟨_, _, rfl, h1, h2, fun a ha => by cases ha; rfl⟩
theorem Ir.row {k : IntKind} {E : TypeId} {W : World} {A : Option Addr} {n c : Nat} {l : List Nat} (h : Ir k E W (.slice A n c) l) : Row W A (ns k l) := fun i v hv => by
  rcases id h.2 with ⟨_, h0⟩ | ⟨g, cap, cur, hv2, _⟩
  · have := h.1
    have h1 := (List.getElem?_eq_some_iff.1 hv).1
    omega
  · simp only [Value.slice.injEq] at hv2
    obtain ⟨rfl, _, _⟩ := hv2
    exact ⟨_, rfl, h.cells (g := g) rfl i v hv⟩
theorem Ir.kept {k : IntKind} {E : TypeId} {W W' : World} {v : Value} {l : List Nat} {row : Option Nat} (h : Ir k E W v l) (hg : W.grownBy W' row) (hne : v.ownBlock = none ∨ v.ownBlock ≠ row) : Ir k E W' v l := World.ownsRow.kept h hg hne
/-- A row lies in no block of another type. -/
theorem Ir.off {k : IntKind} {E : TypeId} {W : World} {v : Value} {l : List Nat} (h : Ir k E W v l) {b : Nat} {cs : Array Value} {t : TypeId} (hb : Bk W b cs t) (hne : t ≠ E) : v.ownBlock ≠ some b := by
  rcases h.2 with ⟨rfl, _⟩ | ⟨g, cap, cur, rfl, _, hg, _⟩
  · intro e; cases e
  · intro e
    simp only [Value.ownBlock, Option.some.injEq] at e
    subst e
    rw [show W.heap[g]? = _ from hb] at hg
    simp at hg
    exact hne hg.2
theorem Ir.offm {k : IntKind} {E : TypeId} {W : World} {v : Value} {l : List Nat} (h : Ir k E W v l) {b : Nat} {es : Array MapEntry} {clock : Nat} (hb : W.heap[b]? = some (.map es clock)) : v.ownBlock ≠ some b := by
  rcases h.2 with ⟨rfl, _⟩ | ⟨g, cap, cur, rfl, _, hg, _⟩
  · intro e; cases e
  · intro e
    simp only [Value.ownBlock, Option.some.injEq] at e
    subst e
    rw [hb] at hg
    cases hg
theorem Ir.lt {k : IntKind} {E : TypeId} {W : World} {v : Value} {l : List Nat} (h : Ir k E W v l) {g : Nat} (hg : v.ownBlock = some g) : g < W.heap.size := (World.ownsRow.lt h g hg).2
theorem addr0 (g j : Nat) : (⟨g, 0, none⟩ : Addr).add j = ⟨g, j, none⟩ := by unfold Addr.add; split <;> simp_all
/-- An append of one number. -/
theorem ir_app {w : World} {ops : Array Oper} {rest : List Oper} {o : Oper} {a : Act} {Q : Exit → Act → World → Prop} {k : IntKind} {E S : TypeId} {bytes : Nat}
    (hu : Try.prog.underlying S = some (.slice E)) (hinf : (Try.prog.info? E).map (fun i => (i.zero, i.size, i.bytes)) = some (some (.int k 0), 1, bytes)) (hby : bytes ≤ 8) (hgd : o.guard = none) (s x : Operand)
    (ho : o.op = .call { callee := .builtin .append, args := #[s, x], argTypes := #[S, S] }) (v : Value) (l : List Nat) (hs : a.eval s = v) (hown : Ir k E w v l) (y : Nat)
    (B cap : Nat) (t : TypeId) (hx : a.eval x = .slice (some ⟨B, 0, none⟩) 1 cap) (hB : Bk w B #[.int k (y : Int)] t) (hlen : l.length ≤ 100000)
    (h : ∀ g c w', Ir k E w' (.slice (some ⟨g, 0, none⟩) (l.length + 1) c) (l ++ [y]) → w.grownBy w' v.ownBlock → (v.ownBlock = some g ∨ g = w.heap.size) → wpList Try.prog ops Q rest (a.put o.dst (.slice (some ⟨g, 0, none⟩) (l.length + 1) c)) w') :
    wpList Try.prog ops Q (o :: rest) a w := by
  obtain ⟨i0, hi0, hz0, hz1, hz2⟩ := info_parts hinf
  refine wpList_append_lies w hgd s x S ho 0 E i0 (.int k 0) 1 bytes hu hi0 hz0 hz1 hz2 rfl (by omega) v l.length (ns k l) hs hown ⟨B, 0, none⟩ 1 cap (ns k [y]) hx rfl ?_ (ns_one _ _) (by omega) (by unfold maxLen; omega) ?_ (Nat.zero_le _) _ rfl ?_
  · intro j u hj
    have := World.news_of_block (w := w) hB j u
    simpa [ns] using this (by simpa [ns] using hj)
  · have : (l.length + 1) * bytes ≤ (l.length + 1) * 8 := Nat.mul_le_mul_left _ hby
    omega
  · intro g c w' ho2 hg2 hat hlt
    refine h g c w' ?_ hg2 hat
    show w'.ownsRow 0 E 1 _ (l ++ [y]).length (ns k (l ++ [y]))
    rw [← ns_app, List.length_append]
    exact ho2
/-- W' is W but for the blocks of F, and longer. -/
structure Kp (W W' : World) (F : Nat → Prop) : Prop where
  os : W'.os = W.os
  tape : W'.tape = W.tape
  output : W'.output = W.output
  size : W.heap.size ≤ W'.heap.size
  block : ∀ k, k < W.heap.size → ¬ F k → W'.heap[k]? = W.heap[k]?
theorem Kp.refl (W : World) (F : Nat → Prop) : Kp W W F := ⟨rfl, rfl, rfl, Nat.le_refl _, fun _ _ _ => rfl⟩
theorem Kp.grown {W W' : World} {F : Nat → Prop} {row : Option Nat} (h : W.grownBy W' row) (hr : ∀ g, row = some g → F g) : Kp W W' F :=
  ⟨h.os, h.tape, h.output, h.size, fun k hk hF => h.block k hk (fun e => hF (hr k e.symm))⟩
theorem Kp.below {W W' : World} {F : Nat → Prop} (h : Below W.heap.size W W') : Kp W W' F := ⟨h.os, h.tape, h.output, h.size, fun k hk _ => h.block k hk⟩
theorem Kp.trans {W W' W'' : World} {F F' : Nat → Prop} (h : Kp W W' F) (k : Kp W' W'' F') (hF : ∀ b, F' b → F b ∨ W.heap.size ≤ b) : Kp W W'' F :=
  ⟨k.os.trans h.os, k.tape.trans h.tape, k.output.trans h.output, Nat.le_trans h.size k.size, fun b hb hn => (k.block b (Nat.lt_of_lt_of_le hb h.size) (fun e => (hF b e).elim hn (by omega))).trans (h.block b hb hn)⟩
theorem Kp.mono {W W' : World} {F F' : Nat → Prop} (h : Kp W W' F) (hF : ∀ b, F b → F' b) : Kp W W' F' := ⟨h.os, h.tape, h.output, h.size, fun b hb hn => h.block b hb (fun e => hn (hF b e))⟩
theorem Kp.to_below {B : Nat} {w W W' : World} {F : Nat → Prop} (h : Below B w W) (k : Kp W W' F) (hF : ∀ b, F b → B ≤ b) (hB : B ≤ W.heap.size) : Below B w W' :=
  h.trans ⟨k.os, k.tape, k.output, k.size, fun b hb => k.block b (Nat.lt_of_lt_of_le hb hB) (fun e => by have := hF b e; omega)⟩
theorem owns_tight {H : Type} {P : Program} {k : TypeId} {R : Value → Option (DataW H × List MemPlace)} {w : World} {b n : Nat} {D : DataW H} (h : w.ownsMap P k R b n D) : w.ownsMap P k R b (Maps.size D) D := by
  obtain ⟨es, clock, hb, F, hs, rfl⟩ := h
  exact ⟨es, clock, hb, F, by simp [Maps.size, length_sorted], rfl⟩
theorem owns_block {H : Type} {P : Program} {k : TypeId} {R : Value → Option (DataW H × List MemPlace)} {w : World} {b n : Nat} {D : DataW H} (h : w.ownsMap P k R b n D) : ∃ es clock, w.heap[b]? = some (.map es clock) := by
  obtain ⟨es, clock, hb, _⟩ := h
  exact ⟨es, clock, hb⟩
theorem Ir.frame {k : IntKind} {E : TypeId} {W W' : World} {F : Nat → Prop} {v : Value} {l : List Nat} (h : Ir k E W v l) (hk : Kp W W' F) (hd : ∀ g, v.ownBlock = some g → ¬ F g) : Ir k E W' v l := by
  refine ⟨h.1, ?_⟩
  rcases h.2 with hn | ⟨g, cap, cur, rfl, hb2, hgg, rest⟩
  · exact .inl hn
  · exact .inr ⟨g, cap, cur, rfl, hb2, (hk.block g (Ir.lt h rfl) (hd g rfl)).trans hgg, rest⟩
theorem Row.frame {W W' : World} {F : Nat → Prop} {A : Option Addr} {l : List Value} (h : Row W A l) (hk : Kp W W' F) (hd : ∀ a, A = some a → ¬ F a.block) : Row W' A l := fun i v hv => by
  obtain ⟨a, rfl, hc⟩ := h i v hv
  refine ⟨a, rfl, ?_⟩
  have hb : (a.add i).block = a.block := by unfold Addr.add; split <;> rfl
  have hlt := block_lt_of_cell hc
  rw [hb] at hlt
  rw [World.cell?_of_block (w := W) (w' := W') (a := a.add i) (by rw [hb]; exact hk.block _ hlt (hd a rfl))]
  exact hc
/-- A change of a set: nothing else has turned; its blocks are the old ones, or new. -/
def Mv (W : World) (F : Nat → Prop) (W' : World) (F' : Nat → Prop) : Prop := Kp W W' F ∧ ∀ k, F' k → F k ∨ W.heap.size ≤ k
/-- An append of numbers, possibly of none, as a step of a region that draws its order. -/
theorem ir_step {w : World} {ops : Array Oper} {o : Oper} {a : Act} {K : Act → World → Prop} {Q : Exit → Act → World → Prop} {E : Prop} {k : IntKind} {el S : TypeId} {bytes : Nat}
    (hu : Try.prog.underlying S = some (.slice el)) (hinf : (Try.prog.info? el).map (fun i => (i.zero, i.size, i.bytes)) = some (some (.int k 0), 1, bytes)) (hby : bytes ≤ 8) (hgd : o.guard = none) (s x : Operand)
    (ho : o.op = .call { callee := .builtin .append, args := #[s, x], argTypes := #[S, S] }) (B : Nat) (A0 : Option Addr) (n c0 : Nat) (l : List Nat) (hs : a.eval s = .slice A0 n c0)
    (hown : w.ownsRow B el 1 (.slice A0 n c0) n (ns k l))
    (A : Option Addr) (m c : Nat) (l2 : List Nat) (hx : a.eval x = .slice A m c) (hl : l2.length = m) (hr : Row w A (ns k l2)) (hz : A = none → m = 0 ∧ c = 0) (N : Nat) (hN : n + m = N) (hb : N ≤ 1000000) (hbase : B ≤ w.heap.size)
    (h : ∀ A' c' w', w'.ownsRow B el 1 (.slice A' N c') N (ns k (l ++ l2)) → w.grownBy w' (Value.slice A0 n c0).ownBlock → K (a.put o.dst (.slice A' N c')) w') :
    if Region.wanted o (yielded ops a.tmps) = true then Oper.wp Try.prog o a w K Q else E := by
  obtain ⟨i0, hi0, hz0, hz1, hz2⟩ := info_parts hinf
  rw [if_pos (by simp [Region.wanted, hgd])]
  subst hN
  cases A with
  | none =>
    obtain ⟨rfl, rfl⟩ := hz rfl
    obtain rfl := List.eq_nil_of_length_eq_zero hl
    have hrun := run_append_owned_none (P := Try.prog) (w := w) B S o.type el i0 1 hu hi0 _ n (ns k l) hown
    unfold Oper.wp
    simp [execOp, ho, resolve, invoke, builtin, hs, hx, hrun, Result.andThen]
    exact h A0 c0 w (by simpa using hown) ⟨rfl, rfl, rfl, Nat.le_refl _, fun _ _ _ => rfl⟩
  | some ad =>
    have hbb : (n + m) * bytes ≤ (n + m) * 8 := Nat.mul_le_mul_left _ hby
    refine wp_append_own w s x S ho B el i0 (.int k 0) 1 bytes hu hi0 hz0 hz1 hz2 rfl (by omega) _ n (ns k l) hs hown ad m c (ns k l2) hx (by rw [ns_len, hl]; omega) (fun j u hu => by obtain ⟨b, hb, hc⟩ := hr j u hu; have hb2 := Option.some.inj hb; rw [hb2]; exact hc) (ns_one _ _) (by unfold maxLen; omega) (by omega) hbase ?_
    intro v' w2 ho2 hg2 _
    rcases id ho2.2 with ⟨rfl, h0⟩ | ⟨g, cap, cur, rfl, _⟩
    · have hn0 : n + m = 0 := h0
      have := h none 0 w2 (by rw [← ns_app, hn0]; rw [hn0] at ho2; exact ho2) hg2
      rw [hn0] at this
      exact this
    · exact h _ _ w2 (by rw [← ns_app]; exact ho2) hg2
/-- .. in a plain list of operations. -/
theorem ir_many {w : World} {ops : Array Oper} {rest : List Oper} {o : Oper} {a : Act} {Q : Exit → Act → World → Prop} {k : IntKind} {el S : TypeId} {bytes : Nat}
    (hu : Try.prog.underlying S = some (.slice el)) (hinf : (Try.prog.info? el).map (fun i => (i.zero, i.size, i.bytes)) = some (some (.int k 0), 1, bytes)) (hby : bytes ≤ 8) (hgd : o.guard = none) (s x : Operand)
    (ho : o.op = .call { callee := .builtin .append, args := #[s, x], argTypes := #[S, S] }) (B : Nat) (A0 : Option Addr) (n c0 : Nat) (l : List Nat) (hs : a.eval s = .slice A0 n c0)
    (hown : w.ownsRow B el 1 (.slice A0 n c0) n (ns k l))
    (A : Option Addr) (m c : Nat) (l2 : List Nat) (hx : a.eval x = .slice A m c) (hl : l2.length = m) (hr : Row w A (ns k l2)) (hz : A = none → m = 0 ∧ c = 0) (N : Nat) (hN : n + m = N) (hb : N ≤ 1000000) (hbase : B ≤ w.heap.size)
    (h : ∀ A' c' w', w'.ownsRow B el 1 (.slice A' N c') N (ns k (l ++ l2)) → w.grownBy w' (Value.slice A0 n c0).ownBlock → wpList Try.prog ops Q rest (a.put o.dst (.slice A' N c')) w') :
    wpList Try.prog ops Q (o :: rest) a w :=
  wpList_plain hgd fun K hK => by
    have := ir_step (E := True) (ops := ops) (K := K) (Q := Q) hu hinf hby hgd s x ho B A0 n c0 l hs hown A m c l2 hx hl hr hz N hN hb hbase (fun A' c' w' h1 h2 => hK _ _ (h A' c' w' h1 h2))
    rw [if_pos (by simp [Region.wanted, hgd])] at this
    exact this
/-- A row that a call owns above a base, as a row of its own. -/
theorem ir_of_own {w : World} {B : Nat} {k : IntKind} {el : TypeId} {A : Option Addr} {n c : Nat} {l : List Nat} (hown : w.ownsRow B el 1 (.slice A n c) n (ns k l)) (hn : l.length = n) : Ir k el w (.slice A n c) l := by
  subst hn
  refine ⟨hown.1, ?_⟩
  rcases hown.2 with h | ⟨g, cap, cur, h1, h2, h3, h4⟩
  · exact .inl h
  · exact .inr ⟨g, cap, cur, h1, Nat.zero_le _, h3, h4⟩
end Go.Proofs.Ytednkcjmlpgipaa
/-
  What a world holds in blocks apart, and what becomes of it behind a change of one part.
-/
namespace Go.Proofs.Ytednkcjmlpgipaa
open Go.RowKit
set_option linter.unusedVariables false

theorem Mv.trans {W w1 w2 : World} {F F1 F2 : Nat → Prop} (h : Mv W F w1 F1) (k : Mv w1 F1 w2 F2) : Mv W F w2 F2 :=
  ⟨h.1.trans k.1 h.2, fun b hb => by
    rcases k.2 b hb with h1 | h1
    · exact h.2 b h1
    · exact .inr (Nat.le_trans h.1.size h1)⟩
theorem Mv.refl (W : World) (F : Nat → Prop) : Mv W F W F := ⟨Kp.refl _ _, fun _ h => .inl h⟩
theorem grown_undrew {w W : World} {r : Option Nat} (h : w.drew.grownBy W r) : w.grownBy W r := ⟨h.os, h.tape, h.output, h.size, h.block⟩
/-- A row of the call's own lies in no block of another type. -/
theorem own_off {w : World} {B : Nat} {e : TypeId} {s : Nat} {v : Value} {n : Nat} {xs : List Value} (h : w.ownsRow B e s v n xs) {b : Nat} {cs : Array Value} {t : TypeId} (hb : Bk w b cs t) (hne : t ≠ e) : v.ownBlock ≠ some b := by
  rcases h.2 with ⟨rfl, _⟩ | ⟨g, cap, cur, rfl, _, hg, _⟩
  · intro e; cases e
  · intro e
    simp only [Value.ownBlock, Option.some.injEq] at e
    subst e
    rw [show w.heap[g]? = _ from hb] at hg
    simp at hg
    exact hne hg.2
/-- It is kept where its blocks are kept, and its blocks are there. -/
structure Fr (R : World → (Nat → Prop) → Prop) : Prop where
  frame : ∀ (w w' : World) (F G : Nat → Prop), R w G → Kp w w' F → (∀ b, G b → ¬ F b) → R w' G
  bound : ∀ (w : World) (F : Nat → Prop), R w F → ∀ k, F k → k < w.heap.size
def emp (_w : World) (F : Nat → Prop) : Prop := ∀ k, ¬ F k
theorem emp_fr : Fr emp := ⟨fun _ _ _ _ h _ _ => h, fun _ _ h k hk => absurd hk (h k)⟩
def star (R1 R2 : World → (Nat → Prop) → Prop) (w : World) (F : Nat → Prop) : Prop :=
  ∃ F1 F2, R1 w F1 ∧ R2 w F2 ∧ (∀ k, F1 k → ¬ F2 k) ∧ (∀ k, F1 k → F k) ∧ (∀ k, F2 k → F k) ∧ ∀ k, F k → k < w.heap.size
theorem star_fr {R1 R2 : World → (Nat → Prop) → Prop} (h1 : Fr R1) (h2 : Fr R2) : Fr (star R1 R2) :=
  ⟨fun w w' F G ⟨F1, F2, r1, r2, hd, i1, i2, hb⟩ hk hg => ⟨F1, F2, h1.frame w w' F F1 r1 hk (fun b hb => hg b (i1 b hb)), h2.frame w w' F F2 r2 hk (fun b hb => hg b (i2 b hb)), hd, i1, i2, fun k hk2 => Nat.lt_of_lt_of_le (hb k hk2) hk.size⟩,
    fun w F ⟨F1, F2, r1, r2, hd, i1, i2, hb⟩ => hb⟩
/-- In w, since W: R holds of blocks that are new since then; what was there is as it was. -/
def Now (W w : World) (R : World → (Nat → Prop) → Prop) : Prop := ∃ F, R w F ∧ (∀ k, F k → W.heap.size ≤ k) ∧ (∀ k, F k → k < w.heap.size) ∧ Below W.heap.size W w
theorem Now.below {W w : World} {R : World → (Nat → Prop) → Prop} (h : Now W w R) : Below W.heap.size W w := h.choose_spec.2.2.2
theorem Now.emp (W w : World) (h : Below W.heap.size W w) : Now W w emp := ⟨fun _ => False, fun _ h => h, fun _ h => h.elim, fun _ h => h.elim, h⟩
theorem Now.comm {W w : World} {R1 R2 : World → (Nat → Prop) → Prop} (h : Now W w (star R1 R2)) : Now W w (star R2 R1) := by
  obtain ⟨F, ⟨F1, F2, r1, r2, hd, i1, i2, hb⟩, h1, h2, h3⟩ := h
  exact ⟨F, ⟨F2, F1, r2, r1, fun k h2 h1 => hd k h1 h2, i2, i1, hb⟩, h1, h2, h3⟩
theorem Now.rot {W w : World} {R1 R2 R3 : World → (Nat → Prop) → Prop} (h : Now W w (star R1 (star R2 R3))) : Now W w (star R2 (star R3 R1)) := by
  obtain ⟨F, ⟨F1, F2, r1, ⟨F3, F4, r3, r4, hd2, j1, j2, hb2⟩, hd, i1, i2, hb⟩, h1, h2, h3⟩ := h
  refine ⟨F, ⟨F3, fun k => F4 k ∨ F1 k, r3, ⟨F4, F1, r4, r1, fun k h4 h1 => hd k h1 (j2 k h4), fun k h => .inl h, fun k h => .inr h, fun k hk => ?_⟩, fun k h3' hk => ?_, fun k h => i2 k (j1 k h), fun k hk => ?_, hb⟩, h1, h2, h3⟩
  · rcases hk with h | h
    · exact hb2 k (j2 k h)
    · exact hb k (i1 k h)
  · rcases hk with h | h
    · exact hd2 k h3' h
    · exact hd k h (j1 k h3')
  · rcases hk with h | h
    · exact i2 k (j2 k h)
    · exact i1 k h
theorem Now.right {W w : World} {R1 R2 : World → (Nat → Prop) → Prop} (h : Now W w (star R1 R2)) : Now W w R2 := by
  obtain ⟨F, ⟨F1, F2, r1, r2, hd, i1, i2, hb⟩, h1, h2, h3⟩ := h
  exact ⟨F2, r2, fun k hk => h1 k (i2 k hk), fun k hk => hb k (i2 k hk), h3⟩
theorem Now.left {W w : World} {R1 R2 : World → (Nat → Prop) → Prop} (h : Now W w (star R1 R2)) : Now W w R1 := h.comm.right
/-- Reads, and new blocks. -/
theorem Now.next {W w w' : World} {R : World → (Nat → Prop) → Prop} (h : Now W w R) (hR : Fr R) (hb : Below w.heap.size w w') : Now W w' R := by
  obtain ⟨F, r, h1, h2, h3⟩ := h
  exact ⟨F, hR.frame w w' (fun _ => False) F r (Kp.below hb) (fun _ _ e => e), h1, fun k hk => Nat.lt_of_lt_of_le (h2 k hk) hb.size, bnext h3 hb⟩
/-- One part is opened, and turned. -/
theorem Now.part {W w : World} {R1 R2 : World → (Nat → Prop) → Prop} (h : Now W w (star R1 R2)) (hR : Fr R2) :
    ∃ F1, R1 w F1 ∧ ∀ (w' : World) (F1' : Nat → Prop) (R1' : World → (Nat → Prop) → Prop), Mv w F1 w' F1' → R1' w' F1' → (∀ k, F1' k → k < w'.heap.size) → Now W w' (star R1' R2) := by
  obtain ⟨F, ⟨F1, F2, r1, r2, hd, i1, i2, hb⟩, h1, h2, h3⟩ := h
  refine ⟨F1, r1, fun w' F1' R1' hm r1' hb' => ⟨fun k => F1' k ∨ F2 k, ⟨F1', F2, r1', hR.frame w w' F1 F2 r2 hm.1 (fun b hb2 hb1 => hd b hb1 hb2), fun k hk hk2 => ?_, fun k h => .inl h, fun k h => .inr h, fun k hk => ?_⟩, fun k hk => ?_, fun k hk => ?_, ?_⟩⟩
  · rcases hm.2 k hk with h | h
    · exact hd k h hk2
    · have := hb k (i2 k hk2); omega
  · rcases hk with h | h
    · exact hb' k h
    · exact Nat.lt_of_lt_of_le (hb k (i2 k h)) hm.1.size
  · rcases hk with h | h
    · rcases hm.2 k h with h | h
      · exact h1 k (i1 k h)
      · exact Nat.le_trans h3.size h
    · exact h1 k (i2 k h)
  · rcases hk with h | h
    · exact hb' k h
    · exact Nat.lt_of_lt_of_le (hb k (i2 k h)) hm.1.size
  · exact Kp.to_below h3 hm.1 (fun k hk => h1 k (i1 k hk)) h3.size
/-- Something more, in new blocks. -/
theorem Now.more {W w w' : World} {R R1 : World → (Nat → Prop) → Prop} (h : Now W w R) (hR : Fr R) (hb : Below w.heap.size w w') {F1 : Nat → Prop} (r1 : R1 w' F1) (hn : ∀ k, F1 k → w.heap.size ≤ k) (hl : ∀ k, F1 k → k < w'.heap.size) : Now W w' (star R1 R) := by
  obtain ⟨F, r, h1, h2, h3⟩ := h
  refine ⟨fun k => F1 k ∨ F k, ⟨F1, F, r1, hR.frame w w' (fun _ => False) F r (Kp.below hb) (fun _ _ e => e), fun k hk hf => ?_, fun k h => .inl h, fun k h => .inr h, fun k hk => ?_⟩, fun k hk => ?_, fun k hk => ?_, bnext h3 hb⟩
  · have := hn k hk; have := h2 k hf; omega
  · rcases hk with h | h
    · exact hl k h
    · exact Nat.lt_of_lt_of_le (h2 k h) hb.size
  · rcases hk with h | h
    · exact Nat.le_trans h3.size (hn k h)
    · exact h1 k h
  · rcases hk with h | h
    · exact hl k h
    · exact Nat.lt_of_lt_of_le (h2 k h) hb.size

/-- A row that was taken out of a set. -/
def RA (A : Option Addr) (l : List Value) (R : World → (Nat → Prop) → Prop) (w : World) (F : Nat → Prop) : Prop := R w F ∧ Row w A l ∧ ∀ a, A = some a → F a.block
theorem RA_fr {A : Option Addr} {l : List Value} {R : World → (Nat → Prop) → Prop} (hR : Fr R) : Fr (RA A l R) :=
  ⟨fun w w' F G ⟨h, hr, ha⟩ hk hd => ⟨hR.frame w w' F G h hk hd, Row.frame hr hk (fun a e => hd _ (ha a e)), ha⟩, fun w F h => hR.bound w F h.1⟩
theorem Now.unrow {W w : World} {A : Option Addr} {l : List Value} {R R2 : World → (Nat → Prop) → Prop} (h : Now W w (star (RA A l R) R2)) : Now W w (star R R2) := by
  obtain ⟨F, ⟨F1, F2, r1, r2, hd, i1, i2, hb⟩, h1, h2, h3⟩ := h
  exact ⟨F, ⟨F1, F2, r1.1, r2, hd, i1, i2, hb⟩, h1, h2, h3⟩
theorem Now.row {W w : World} {A : Option Addr} {l : List Value} {R R2 : World → (Nat → Prop) → Prop} (h : Now W w (star (RA A l R) R2)) : Row w A l := by
  obtain ⟨F, ⟨F1, F2, r1, r2, hd, i1, i2, hb⟩, h1, h2, h3⟩ := h
  exact r1.2.1

theorem Now.sub {W w : World} {R1 R2 R3 : World → (Nat → Prop) → Prop} (h : Now W w (star R1 R2)) (hs : ∀ F, R2 w F → ∃ F', (∀ k, F' k → F k) ∧ R3 w F') : Now W w (star R1 R3) := by
  obtain ⟨F, ⟨F1, F2, r1, r2, hd, i1, i2, hb⟩, h1, h2, h3⟩ := h
  obtain ⟨F', hi, r3⟩ := hs F2 r2
  exact ⟨F, ⟨F1, F', r1, r3, fun k h1 h2 => hd k h1 (hi k h2), i1, fun k h => i2 k (hi k h), hb⟩, h1, h2, h3⟩
theorem Now.drop2 {W w : World} {R1 R2 R3 : World → (Nat → Prop) → Prop} (h : Now W w (star R1 (star R2 R3))) : Now W w (star R1 R2) :=
  h.sub fun F ⟨F1, F2, r1, r2, hd, i1, i2, hb⟩ => ⟨F1, i1, r1⟩
theorem Now.drop1 {W w : World} {R1 R2 R3 : World → (Nat → Prop) → Prop} (h : Now W w (star R1 (star R2 R3))) : Now W w (star R1 R3) :=
  h.sub fun F ⟨F1, F2, r1, r2, hd, i1, i2, hb⟩ => ⟨F2, i2, r2⟩
theorem Now.assoc {W w : World} {R1 R2 R3 : World → (Nat → Prop) → Prop} (h : Now W w (star (star R1 R2) R3)) : Now W w (star R1 (star R2 R3)) := by
  obtain ⟨F, ⟨F0, F3, ⟨F1, F2, r1, r2, hd, i1, i2, hb⟩, r3, hd2, j1, j2, hb2⟩, h1, h2, h3⟩ := h
  refine ⟨F, ⟨F1, fun k => F2 k ∨ F3 k, r1, ⟨F2, F3, r2, r3, fun k h h' => hd2 k (i2 k h) h', fun k h => .inl h, fun k h => .inr h, fun k hk => ?_⟩, fun k h h' => ?_, fun k h => j1 k (i1 k h), fun k hk => ?_, hb2⟩, h1, h2, h3⟩
  · rcases hk with h | h
    · exact hb k (i2 k h)
    · exact hb2 k (j2 k h)
  · rcases h' with h' | h'
    · exact hd k h h'
    · exact hd2 k (i1 k h) h'
  · rcases hk with h | h
    · exact j1 k (i2 k h)
    · exact j2 k h
end Go.Proofs.Ytednkcjmlpgipaa
/-
  Things in blocks apart, as a list: one is taken by its place, and turned.
-/
namespace Go.Proofs.Ytednkcjmlpgipaa
set_option maxRecDepth 4000
open Go.RowKit
set_option linter.unusedVariables false
set_option linter.unusedSimpArgs false

/-- An assertion that its blocks keep. -/
structure As where
  R : World → (Nat → Prop) → Prop
  fr : Fr R
def stars : List As → World → (Nat → Prop) → Prop
  | [] => emp
  | a :: l => star a.R (stars l)
theorem stars_fr : ∀ l, Fr (stars l)
  | [] => emp_fr
  | a :: l => star_fr a.fr (stars_fr l)
def Nw (W w : World) (l : List As) : Prop := Now W w (stars l)
theorem star_swap {R1 R2 R3 : World → (Nat → Prop) → Prop} {w : World} {F : Nat → Prop} (h : star R1 (star R2 R3) w F) : star R2 (star R1 R3) w F := by
  obtain ⟨F1, F', r1, ⟨F2, F3, r2, r3, hd2, j1, j2, hb2⟩, hd, i1, i2, hb⟩ := h
  refine ⟨F2, fun k => F1 k ∨ F3 k, r2, ⟨F1, F3, r1, r3, fun k h1 h3 => hd k h1 (j2 k h3), fun k h => .inl h, fun k h => .inr h, fun k hk => ?_⟩, fun k h2 hk => ?_, fun k h => i2 k (j1 k h), fun k hk => ?_, hb⟩
  · rcases hk with h | h
    · exact hb k (i1 k h)
    · exact hb2 k (j2 k h)
  · rcases hk with h | h
    · exact hd k h (j1 k h2)
    · exact hd2 k h2 h
  · rcases hk with h | h
    · exact i1 k h
    · exact i2 k (j2 k h)
theorem stars_perm {l l' : List As} (hp : l.Perm l') : ∀ {w : World} {F : Nat → Prop}, stars l w F → stars l' w F := by
  induction hp with
  | nil => exact fun h => h
  | cons a _ ih => exact fun ⟨F1, F2, r1, r2, rest⟩ => ⟨F1, F2, r1, ih r2, rest⟩
  | swap a b l => exact fun h => star_swap h
  | trans _ _ ih1 ih2 => exact fun h => ih2 (ih1 h)
section
variable {W w w' : World} {l l' : List As}
theorem Nw.perm (h : Nw W w l) (hp : l.Perm l') : Nw W w l' := by
  obtain ⟨F, r, rest⟩ := h
  exact ⟨F, stars_perm hp r, rest⟩
theorem Nw.below (h : Nw W w l) : Below W.heap.size W w := Now.below h
theorem Nw.next (h : Nw W w l) (hb : Below w.heap.size w w') : Nw W w' l := Now.next h (stars_fr l) hb
theorem Nw.start (W : World) : Nw W W [] := Now.emp W W (Below.refl _ _)
theorem Nw.start' {W w : World} (hb : Below W.heap.size W w) : Nw W w [] := Now.emp W w hb
theorem Nw.more (h : Nw W w l) (hb : Below w.heap.size w w') (a : As) {F1 : Nat → Prop} (r1 : a.R w' F1) (hn : ∀ k, F1 k → w.heap.size ≤ k) : Nw W w' (a :: l) :=
  Now.more h (stars_fr l) hb r1 hn (a.fr.bound w' F1 r1)
theorem perm_at : ∀ {l : List As} {k : Nat} {a : As}, l[k]? = some a → l.Perm (a :: l.eraseIdx k)
  | x :: l, 0, a, h => by
    simp at h
    subst h
    exact List.Perm.refl _
  | x :: l, k + 1, a, h => by
    have ih := perm_at (l := l) (k := k) (a := a) (by simpa using h)
    exact (ih.cons x).trans (List.Perm.swap a x _)
theorem perm_set {k : Nat} {a b : As} (hk : l[k]? = some a) : (b :: l.eraseIdx k).Perm (l.set k b) := by
  obtain ⟨h, e⟩ := List.getElem?_eq_some_iff.1 hk
  have h1 := perm_at (l := l.set k b) (k := k) (a := b) (by simp [h])
  rw [List.eraseIdx_set_eq] at h1
  exact h1.symm
theorem Nw.at (h : Nw W w l) {k : Nat} {a : As} (hk : l[k]? = some a) : ∃ F, a.R w F ∧ ∀ b, F b → W.heap.size ≤ b ∧ b < w.heap.size := by
  obtain ⟨F, ⟨F1, F2, r1, r2, hd, i1, i2, hb⟩, h1, h2, _⟩ := h.perm (perm_at hk)
  exact ⟨F1, r1, fun b hb' => ⟨h1 b (i1 b hb'), h2 b (i1 b hb')⟩⟩
/-- The thing at a place is turned. -/
theorem Nw.turn (h : Nw W w l) {k : Nat} {a : As} (hk : l[k]? = some a) :
    ∃ F, a.R w F ∧ ∀ (w' : World) (F' : Nat → Prop) (b : As), Mv w F w' F' → b.R w' F' → Nw W w' (l.set k b) := by
  obtain ⟨F, r, hh⟩ := Now.part (h.perm (perm_at hk)) (stars_fr _)
  refine ⟨F, r, fun w' F' b hm r' => ?_⟩
  have h1 : Nw W w' (b :: l.eraseIdx k) := hh w' F' b.R hm r' (b.fr.bound w' F' r')
  exact h1.perm (perm_set hk)
/-- .. and something new beside it. -/
theorem Nw.turn2 (h : Nw W w l) {k : Nat} {a : As} (hk : l[k]? = some a) :
    ∃ F, a.R w F ∧ ∀ (w' : World) (F1 F2 : Nat → Prop) (b c : As), Mv w F w' F1 → b.R w' F1 → c.R w' F2 → (∀ k, F2 k → w.heap.size ≤ k ∧ ¬ F1 k) → Nw W w' (c :: l.set k b) := by
  obtain ⟨F, r, hh⟩ := Now.part (h.perm (perm_at hk)) (stars_fr _)
  refine ⟨F, r, fun w' F1 F2 b c hm r1 r2 hn => ?_⟩
  have b1 := b.fr.bound w' F1 r1
  have b2 := c.fr.bound w' F2 r2
  have h1 : Now W w' (star (star b.R c.R) (stars (l.eraseIdx k))) := hh w' (fun k => F1 k ∨ F2 k) (star b.R c.R) ⟨hm.1, fun k hk => by
    rcases hk with h1 | h1
    · exact hm.2 k h1
    · exact .inr (hn k h1).1⟩ ⟨F1, F2, r1, r2, fun k h1 h2 => (hn k h2).2 h1, fun k h => .inl h, fun k h => .inr h, fun k hk => by
      rcases hk with h1 | h1
      · exact b1 k h1
      · exact b2 k h1⟩ (fun k hk => by
      rcases hk with h1 | h1
      · exact b1 k h1
      · exact b2 k h1)
  have h2 : Nw W w' (b :: c :: l.eraseIdx k) := h1.assoc
  exact (h2.perm (List.Perm.swap c b _)).perm ((perm_set hk).cons c)
/-- Something is left out. -/
theorem Nw.drop {a : As} (h : Nw W w (a :: l)) : Nw W w l := Now.right h
theorem Nw.dropAt (h : Nw W w l) {k : Nat} {a : As} (hk : l[k]? = some a) : Nw W w (l.eraseIdx k) := (h.perm (perm_at hk)).drop
/-- A thing is read otherwise. -/
theorem Nw.sub (h : Nw W w l) {k : Nat} {a b : As} (hk : l[k]? = some a) (hs : ∀ F, a.R w F → b.R w F) : Nw W w (l.set k b) := by
  obtain ⟨F, ⟨F1, F2, r1, rest⟩, r⟩ := h.perm (perm_at hk)
  have : Nw W w (b :: l.eraseIdx k) := ⟨F, ⟨F1, F2, hs F1 r1, rest⟩, r⟩
  exact this.perm (perm_set hk)
end
/-- A block that is known whole. -/
def BkR (b : Nat) (cs : Array Value) (t : TypeId) (w : World) (F : Nat → Prop) : Prop := Bk w b cs t ∧ F b ∧ ∀ k, F k → k < w.heap.size
theorem BkR_fr (b : Nat) (cs : Array Value) (t : TypeId) : Fr (BkR b cs t) :=
  ⟨fun w w' F G ⟨h, hf, hb⟩ hk hd => ⟨(hk.block b (hb b hf) (hd b hf)).trans h, hf, fun k hk2 => Nat.lt_of_lt_of_le (hb k hk2) hk.size⟩, fun w F h => h.2.2⟩
abbrev BkA (b : Nat) (cs : Array Value) (t : TypeId) : As := ⟨BkR b cs t, BkR_fr b cs t⟩
section
variable {W w w' : World} {l : List As} {b : Nat} {cs : Array Value} {t : TypeId}
theorem Nw.bk (h : Nw W w l) {k : Nat} (hk : l[k]? = some (BkA b cs t)) : Bk w b cs t := by
  obtain ⟨F, r, _⟩ := h.at hk
  exact r.1
theorem Nw.box (h : Nw W w l) (cs : Array Value) (t : TypeId) : Nw W (w.alloc (.cells cs t)) (BkA w.heap.size cs t :: l) :=
  h.more ((Below.refl _ _).alloc (Nat.le_refl _) _) (BkA w.heap.size cs t) (F1 := fun k => k = w.heap.size) ⟨Bk.new _ _ _, rfl, fun k hk => by subst hk; simp⟩ (fun k hk => by omega)
theorem Nw.store (h : Nw W w l) {k : Nat} (hk : l[k]? = some (BkA b cs t)) (i : Nat) (v : Value) : Nw W (w.setCell ⟨b, i, none⟩ v) (l.set k (BkA b (cs.setIfInBounds i v) t)) := by
  obtain ⟨F, r, hh⟩ := h.turn hk
  refine hh _ F _ ⟨Kp.grown (setc_grown w b i v) (fun g e => by have := Option.some.inj e; rw [← this]; exact r.2.1), fun k h => .inl h⟩ ⟨r.1.set i v, r.2.1, fun k hk2 => ?_⟩
  have := r.2.2 k hk2
  simpa [World.setCell] using this
theorem Nw.drew (h : Nw W w l) : Nw W w.drew l := h.next (Below.refl _ _).drew
end
/-- A row of numbers of the call's own. -/
def IrR (k : IntKind) (E : TypeId) (v : Value) (l : List Nat) (w : World) (F : Nat → Prop) : Prop := Ir k E w v l ∧ (∀ g, v.ownBlock = some g → F g) ∧ ∀ k, F k → k < w.heap.size
theorem IrR_fr (k : IntKind) (E : TypeId) (v : Value) (l : List Nat) : Fr (IrR k E v l) :=
  ⟨fun w w' F G ⟨h, hf, hb⟩ hk hd => ⟨h.frame hk (fun g hg => hd g (hf g hg)), hf, fun k hk2 => Nat.lt_of_lt_of_le (hb k hk2) hk.size⟩, fun w F h => h.2.2⟩
abbrev IrA (k : IntKind) (E : TypeId) (v : Value) (l : List Nat) : As := ⟨IrR k E v l, IrR_fr k E v l⟩
end Go.Proofs.Ytednkcjmlpgipaa
/-
  Lists found by a number; a map that holds just such a list (each element's value as it is).
-/
namespace Go.Proofs.Ytednkcjmlpgipaa
set_option maxRecDepth 4000
open Go.RowKit Go.Maps
set_option linter.unusedVariables false
set_option linter.unusedSimpArgs false

section
variable {α : Type} (key : α → Nat)
def alook (l : List α) (t : Nat) : Option α := l.find? fun x => key x == t
def adel (l : List α) (t : Nat) : List α := l.filter fun x => !(key x == t)
def Alone (l : List α) : Prop := l.Pairwise fun x y => key x ≠ key y
variable {key}
theorem alook_some {l : List α} {t : Nat} {x : α} (h : alook key l t = some x) : x ∈ l ∧ key x = t := by
  unfold alook at h
  exact ⟨List.mem_of_find?_eq_some h, by simpa using List.find?_some h⟩
theorem alook_none {l : List α} {t : Nat} : alook key l t = none ↔ ∀ x ∈ l, key x ≠ t := by
  unfold alook
  rw [List.find?_eq_none]
  simp
theorem alook_app (l : List α) (x : α) (t : Nat) : alook key (l ++ [x]) t = if (alook key l t).isSome = true then alook key l t else if key x = t then some x else none := by
  unfold alook
  rw [List.find?_append]
  cases h : l.find? fun x => key x == t with
  | some y => simp
  | none =>
    simp only [Option.none_or, Option.isSome_none, Bool.false_eq_true, if_false, List.find?_cons, List.find?_nil]
    by_cases e : key x = t
    · simp [e]
    · have : (key x == t) = false := by simpa using e
      simp [e, this]
theorem alook_del_same {l : List α} {t : Nat} : alook key (adel key l t) t = none := alook_none.2 fun x hx => by
  have := (List.mem_filter.1 hx).2
  simpa using this
theorem alook_del_other : ∀ {l : List α} {t t' : Nat}, t' ≠ t → alook key (adel key l t) t' = alook key l t'
  | [], _, _, _ => rfl
  | x :: l, t, t', h => by
    have ih := alook_del_other (l := l) h
    unfold adel alook at *
    by_cases e : key x = t
    · have e2 : ¬ key x = t' := fun e3 => h (by rw [← e3, e])
      simp [e, e2, ih, Ne.symm h]
    · simp only [List.filter_cons, beq_iff_eq, e, Bool.not_eq_true', beq_eq_false_iff_ne, ne_eq, not_false_eq_true, if_true, List.find?_cons]
      split
      · rfl
      · exact ih
theorem adel_none {l : List α} {t : Nat} (h : alook key l t = none) : adel key l t = l := by
  unfold adel
  refine List.filter_eq_self.2 fun x hx => ?_
  have := alook_none.1 h x hx
  simpa using this
theorem adel_perm : ∀ {l : List α} {t : Nat} {x : α}, Alone key l → alook key l t = some x → l.Perm (x :: adel key l t)
  | [], t, x, _, h => by simp [alook] at h
  | y :: l, t, x, ha, h => by
    obtain ⟨h1, h2⟩ := List.pairwise_cons.1 ha
    by_cases e : key y = t
    · have hx : x = y := by
        unfold alook at h
        simp [e] at h
        exact h.symm
      subst hx
      have : adel key (x :: l) t = l := by
        unfold adel
        simp only [List.filter_cons, e, beq_self_eq_true, Bool.not_true, Bool.false_eq_true, if_false]
        refine List.filter_eq_self.2 fun z hz => ?_
        have := h1 z hz
        rw [e] at this
        simpa using Ne.symm this
      rw [this]
    · have hl : alook key l t = some x := by
        unfold alook at h ⊢
        simpa [e] using h
      have ih := adel_perm h2 hl
      have : adel key (y :: l) t = y :: adel key l t := by
        unfold adel
        simp [e]
      rw [this]
      exact (ih.cons y).trans (List.Perm.swap x y _)
theorem alone_app {l : List α} {x : α} (h : Alone key l) (hx : alook key l (key x) = none) : Alone key (l ++ [x]) := by
  refine List.pairwise_append.2 ⟨h, by simp, fun y hy z hz => ?_⟩
  simp only [List.mem_singleton] at hz
  subst hz
  exact alook_none.1 hx y hy
theorem alone_del {l : List α} {t : Nat} (h : Alone key l) : Alone key (adel key l t) := h.sublist List.filter_sublist
theorem mem_del {l : List α} {t : Nat} {x : α} (h : x ∈ adel key l t) : x ∈ l := (List.mem_filter.1 h).1
end
/-- An element reads as itself. -/
def asis (v : Value) : Option (DataW Value × List MemPlace) := some (.held v, [])
theorem asis_inj {v v' : Value} {ps : List MemPlace} (h : asis v = some (.held v', ps)) : v = v' := by
  simp [asis] at h
  exact h.1
/-- A type of maps, its keys as numbers. -/
structure MapKit (α : Type) where
  kT : TypeId
  mT : TypeId
  eT : TypeId
  key : α → Nat
  ok : Nat → Prop
  kv : Nat → Value
  kl : Nat → Lit
  val : α → Value
  z : Value
  law : Keyed Try.prog kT
  und : Try.prog.underlying mT = some (.map kT eT)
  zero : ∀ w, (zeroValue eT).run Try.prog w = .ok z w
  kof : ∀ t, ok t → keyOf Try.prog kT (kv t) = some (kl t)
  isk : ∀ t, ok t → WideAt.IsKeyLit (kl t)
  ne : ∀ t t', ok t → ok t' → t' ≠ t → kl t' ≠ kl t
section
variable {α : Type} (M : MapKit α)
structure AView (D : DataW Value) (l : List α) : Prop where
  size : Maps.size D = l.length
  none : ∀ t, M.ok t → alook M.key l t = none → Maps.has D (M.kl t) = false
  some : ∀ t x, M.ok t → alook M.key l t = some x → Maps.has D (M.kl t) = true ∧ ∀ z, D.atKey (M.kl t) z = .held (M.val x)
variable {M}
theorem aview_nil : AView M (.map []) [] := ⟨rfl, fun _ _ _ => rfl, fun _ _ _ h => by cases h⟩
theorem aview_put {D : DataW Value} {l : List α} (h : AView M D l) (hT : Tidy D) (x : α) (hok : M.ok (M.key x)) (hx : alook M.key l (M.key x) = Option.none) : AView M (D.put (M.kl (M.key x)) (.held (M.val x))) (l ++ [x]) := by
  refine ⟨?_, fun t ho ht => ?_, fun t y ho hy => ?_⟩
  · rw [size_put hT, h.none _ hok hx, h.size]
    simp
  · rw [alook_app] at ht
    split at ht
    · rename_i e
      rw [ht] at e
      cases e
    · rename_i e
      split at ht
      · cases ht
      · rename_i e2
        have hn : alook M.key l t = Option.none := by simpa using e
        rw [has_put_other (M.ne _ _ hok ho (fun e => e2 e.symm))]
        exact h.none t ho hn
  · rw [alook_app] at hy
    split at hy
    · have hne : t ≠ M.key x := fun e => by rw [e, hx] at hy; cases hy
      obtain ⟨h1, h2⟩ := h.some t y ho hy
      exact ⟨by rw [has_put_other (M.ne _ _ hok ho hne)]; exact h1, fun z => by rw [atKey_put_other (M.ne _ _ hok ho hne)]; exact h2 z⟩
    · split at hy
      · rename_i e2
        injection hy with hy
        subst hy
        rw [← e2]
        exact ⟨has_put_same hT.isMap (M.isk _ hok) _, fun z => atKey_put_same hT.isMap (M.isk _ hok) _ z⟩
      · cases hy
theorem aview_del {D : DataW Value} {l : List α} (h : AView M D l) (hT : Tidy D) (ha : Alone M.key l) (t : Nat) (hok : M.ok t) : AView M (D.del (M.kl t)) (adel M.key l t) := by
  refine ⟨?_, fun t' ho ht => ?_, fun t' y ho hy => ?_⟩
  · cases hl : alook M.key l t with
    | none => rw [del_of_not_has (h.none t hok hl), adel_none hl, h.size]
    | some x =>
      have h1 := (adel_perm ha hl).length_eq
      have h2 := size_del hT (k := M.kl t)
      rw [(h.some t x hok hl).1, h.size] at h2
      simp at h1 h2
      omega
  · by_cases e : t' = t
    · subst e
      exact has_del_same
    · rw [alook_del_other e] at ht
      rw [has_del_other (M.ne _ _ hok ho e)]
      exact h.none t' ho ht
  · by_cases e : t' = t
    · subst e
      rw [alook_del_same] at hy
      cases hy
    · rw [alook_del_other e] at hy
      obtain ⟨h1, h2⟩ := h.some t' y ho hy
      exact ⟨by rw [has_del_other (M.ne _ _ hok ho e)]; exact h1, fun z => by rw [atKey_del_other (M.ne _ _ hok ho e)]; exact h2 z⟩
variable (M)
/-- The map, in block m. -/
def AMR (m : Nat) (l : List α) (w : World) (F : Nat → Prop) : Prop :=
  ∃ D, w.ownsMap Try.prog M.kT asis m l.length D ∧ AView M D l ∧ F m ∧ Alone M.key l ∧ (∀ x ∈ l, M.ok (M.key x)) ∧ ∀ k, F k → k < w.heap.size
theorem AMR_fr (m : Nat) (l : List α) : Fr (AMR M m l) := ⟨fun w w' F G ⟨D, h, hv, h2, ha, ho, h3⟩ hk hd => ⟨D, by
    obtain ⟨es, clock, hh, r⟩ := h
    exact ⟨es, clock, (hk.block m (h3 m h2) (hd m h2)).trans hh, r⟩, hv, h2, ha, ho, fun k hk2 => Nat.lt_of_lt_of_le (h3 k hk2) hk.size⟩, fun w F ⟨D, h, hv, h2, ha, ho, h3⟩ => h3⟩
abbrev AM (m : Nat) (l : List α) : As := ⟨AMR M m l, AMR_fr M m l⟩
variable {M}
theorem amr_new (w : World) : AMR M w.heap.size [] (w.alloc (.map #[] 0)) (fun k => k = w.heap.size) := ⟨_, World.ownsMap_made w _ _ _, aview_nil, rfl, List.Pairwise.nil, fun (x : α) (h : x ∈ []) => (List.not_mem_nil h).elim, fun k hk => by subst hk; simp⟩
section
variable {m : Nat} {l : List α} {w : World} {F : Nat → Prop}
theorem AMR.none (h : AMR M m l w F) {t : Nat} (ht : M.ok t) (hl : alook M.key l t = none) (w' : World) (hw : w'.heap[m]? = w.heap[m]?) :
    (Instr.lookup M.mT (.map (some m)) (M.kv t) false).run Try.prog w' = .ok M.z w' ∧
      (Instr.lookup M.mT (.map (some m)) (M.kv t) true).run Try.prog w' = .ok (.tuple #[M.z, .bool false]) w' := by
  obtain ⟨D, h, hv, _⟩ := h
  have hn := hv.none t ht hl
  have h' : w'.ownsMap Try.prog M.kT asis m l.length D := by
    obtain ⟨es, clock, hb, r⟩ := h
    exact ⟨es, clock, hw.trans hb, r⟩
  have at0 : D.atKey (M.kl t) (.held M.z) = .held M.z := atKey_of_not_has hn _
  obtain ⟨v, ps, h1, h2⟩ := h'.lookup M.law M.und (M.zero w') (zd := .held M.z) (zp := []) rfl (M.kof t ht)
  obtain ⟨v', ps', h3, h4⟩ := h'.look_ok M.law M.und (M.zero w') (zd := .held M.z) (zp := []) rfl (M.kof t ht)
  rw [at0] at h2 h4
  rw [asis_inj h2] at h1
  rw [asis_inj h4, hn] at h3
  exact ⟨h1, h3⟩
theorem AMR.some (h : AMR M m l w F) {t : Nat} {x : α} (ht : M.ok t) (hl : alook M.key l t = some x) (w' : World) (hw : w'.heap[m]? = w.heap[m]?) :
    (Instr.lookup M.mT (.map (some m)) (M.kv t) false).run Try.prog w' = .ok (M.val x) w' ∧
      (Instr.lookup M.mT (.map (some m)) (M.kv t) true).run Try.prog w' = .ok (.tuple #[M.val x, .bool true]) w' := by
  obtain ⟨D, h, hv, _⟩ := h
  obtain ⟨hh, hat⟩ := hv.some t x ht hl
  have h' : w'.ownsMap Try.prog M.kT asis m l.length D := by
    obtain ⟨es, clock, hb, r⟩ := h
    exact ⟨es, clock, hw.trans hb, r⟩
  obtain ⟨v, ps, h1, h2⟩ := h'.lookup M.law M.und (M.zero w') (zd := .held M.z) (zp := []) rfl (M.kof t ht)
  obtain ⟨v', ps', h3, h4⟩ := h'.look_ok M.law M.und (M.zero w') (zd := .held M.z) (zp := []) rfl (M.kof t ht)
  rw [hat] at h2 h4
  rw [asis_inj h2] at h1
  rw [asis_inj h4, hh] at h3
  exact ⟨h1, h3⟩
/-- An element goes, or none. -/
theorem AMR.drop (h : AMR M m l w F) {t : Nat} (ht : M.ok t) (ty : TypeId) :
    ∃ w', (Builtin.delete_ #[M.mT, M.kT] ty #[.map (Option.some m), M.kv t]).run Try.prog w = .ok (.tuple #[]) w' ∧ AMR M m (adel M.key l t) w' F ∧ w.grownBy w' (Option.some m) := by
  obtain ⟨D, h, hv, hf, ha, ho, hlt⟩ := h
  obtain ⟨w', h1, h2, h3⟩ := h.drop M.law M.und (M.kof t ht) ty
  have hv2 := aview_del hv (h.tidy M.law) ha t ht
  have hk : Kp w w' (fun k => k = m) := Kp.grown h3.grown (fun g e => (Option.some.inj e).symm)
  exact ⟨w', h1, ⟨_, by rw [← hv2.size]; exact owns_tight h2, hv2, hf, alone_del ha, fun x hx => ho x (mem_del hx), fun k hk2 => Nat.lt_of_lt_of_le (hlt k hk2) hk.size⟩, h3.grown⟩
/-- An element comes. -/
theorem AMR.put (h : AMR M m l w F) (x : α) (hok : M.ok (M.key x)) (hx : alook M.key l (M.key x) = Option.none) (hn : l.length < 1000000000) :
    ∃ w', (Instr.mapUpdate M.mT (.map (Option.some m)) (M.kv (M.key x)) (M.val x)).run Try.prog w = .ok () w' ∧ AMR M m (l ++ [x]) w' F ∧ w.grownBy w' (Option.some m) := by
  obtain ⟨D, h, hv, hf, ha, ho, hlt⟩ := h
  obtain ⟨w', h1, h2, h3⟩ := h.store M.law M.und (by unfold maxLen; omega) (M.kof _ hok) (val := M.val x) (d := .held (M.val x)) (ps := []) rfl
  have hv2 := aview_put hv (h.tidy M.law) x hok hx
  have hk : Kp w w' (fun k => k = m) := Kp.grown h3.grown (fun g e => (Option.some.inj e).symm)
  refine ⟨w', h1, ⟨_, by rw [← hv2.size]; exact owns_tight h2, hv2, hf, alone_app ha hx, fun y hy => ?_, fun k hk2 => Nat.lt_of_lt_of_le (hlt k hk2) hk.size⟩, h3.grown⟩
  rcases List.mem_append.1 hy with h | h
  · exact ho y h
  · simp only [List.mem_singleton] at h
    subst h
    exact hok
end
end
section
variable {α β : Type} {key : α → Nat} {key' : β → Nat} {f : α → β} (hf : ∀ x, key' (f x) = key x)
include hf
theorem alook_map (l : List α) (t : Nat) : alook key' (l.map f) t = (alook key l t).map f := by
  unfold alook
  induction l with
  | nil => rfl
  | cons x l ih =>
    simp only [List.map_cons, List.find?_cons, hf]
    cases key x == t
    · exact ih
    · rfl
theorem adel_map (l : List α) (t : Nat) : adel key' (l.map f) t = (adel key l t).map f := by
  unfold adel
  rw [List.filter_map]
  congr 1
  refine List.filter_congr fun x _ => ?_
  simp [hf]
end
end Go.Proofs.Ytednkcjmlpgipaa
/-
  Plain words on an inbox: what comes of a piece, of a whole message, of a look at what is ready; what is held.
-/
namespace Go.Proofs.Ytednkcjmlpgipaa
set_option maxRecDepth 4000
namespace Ix
set_option linter.unusedVariables false
set_option linter.unusedSimpArgs false
open Fg (Pc Ms)

structure Ib where
  room : Nat
  most : Nat
  st : Gp.St
  K : List Pc
  nx : List Nat
  ws : List (Ms × Nat)
  rd : List Ms
def wkey (e : Ms × Nat) : Nat := e.1.s * 65536 + e.2
def bsum (l : List Ms) : Nat := (l.map fun m => m.d.length).sum
def Ib.whole (b : Ib) : Nat := bsum (b.ws.map (·.1)) + bsum b.rd
def Ib.held (b : Ib) : Nat := Fg.held b.K + b.whole
def Ib.rwnd (b : Ib) : Nat := b.room - b.most - b.held
def bf16 (a b : Nat) : Bool := decide (1 ≤ (b + 65536 - a) % 65536 ∧ (b + 65536 - a) % 65536 ≤ 32767)
def Ib.nxt (b : Ib) (s : Nat) : Nat := b.nx.getD s 0
/-- Its turn has come. -/
def Ib.turn (b : Ib) (m : Ms) : Ib := { b with rd := b.rd ++ [m], nx := b.nx.set m.s ((b.nxt m.s + 1) % 65536) }
/-- What is next then, as a key. -/
def Ib.nk (b : Ib) (m : Ms) : Nat := m.s * 65536 + (b.nxt m.s + 1) % 65536
def Ib.less (b : Ib) (t : Nat) : Ib := { b with ws := adel wkey b.ws t }
/-- Those whose turn it is, one behind the other. -/
def goOn : Nat → Ib → Ms → Ib
  | 0, b, _ => b
  | f + 1, b, m =>
    match alook wkey b.ws (b.nk m) with
    | none => b.turn m
    | some e => goOn f ((b.turn m).less (b.nk m)) e.1
theorem goOn_none {f : Nat} {b : Ib} {m : Ms} (h : alook wkey b.ws (b.nk m) = none) : goOn (f + 1) b m = b.turn m := by rw [goOn, h]
theorem goOn_some {f : Nat} {b : Ib} {m : Ms} {e : Ms × Nat} (h : alook wkey b.ws (b.nk m) = some e) : goOn (f + 1) b m = goOn f ((b.turn m).less (b.nk m)) e.1 := by rw [goOn, h]
def Ib.deal (b : Ib) (m : Ms) (ssn : Nat) : Ib :=
  if m.u then { b with rd := b.rd ++ [m] }
  else if ssn = b.nxt m.s then goOn (b.ws.length + 1) b m
  else if (alook wkey b.ws (m.s * 65536 + ssn)).isNone && bf16 (b.nxt m.s) ssn then { b with ws := b.ws ++ [(m, ssn)] }
  else b
def Ib.fresh (b : Ib) (t : Nat) : Bool := !b.st.has t && decide (Gp.wy b.st.cum t ≤ 65535)
def Ib.fits (b : Ib) (x : Pc) : Bool := decide (b.held + x.d.length + (if x.t = Gp.up b.st.cum 1 then 0 else b.most) ≤ b.room)
def Ib.setSt (b : Ib) (s : Gp.St) : Ib := { b with st := s }
def Ib.noted (b : Ib) (t : Nat) : Ib := b.setSt (b.st.add t).1
def Ib.join (b : Ib) (x : Pc) : Ib :=
  match (Fg.put b.K x).2 with
  | none => { b with K := (Fg.put b.K x).1 }
  | some (m, ssn) => ({ b with K := (Fg.put b.K x).1 } : Ib).deal m ssn
/-- A piece comes: how it stands then; the error's number. -/
def Ib.add (b : Ib) (x : Pc) : Ib × Nat :=
  if x.d.length = 0 then (b, 2)
  else if b.fresh x.t = false then (b.noted x.t, 4)
  else if b.fits x = false then (b, 7)
  else if b.nx.length ≤ x.s then (b.noted x.t, 100)
  else ((b.noted x.t).join x, 0)
def Ib.recv (b : Ib) : Ib × Option Ms :=
  match b.rd with
  | [] => (b, none)
  | m :: l => ({ b with rd := l }, some m)
structure Ib.Core (b : Ib) : Prop where
  room : b.room ≤ 1048576
  most : b.most ≤ 1048576
  st : b.st.Ok
  nx : b.nx.length < 65536
  nxs : ∀ n ∈ b.nx, n < 65536
  K : ∀ x ∈ b.K, x.Ok ∧ 1 ≤ x.d.length ∧ x.s < b.nx.length
  ap : Fg.Apart b.K
  ws : ∀ e ∈ b.ws, 1 ≤ e.1.d.length ∧ e.1.s < b.nx.length ∧ e.2 < 65536
  al : Alone wkey b.ws
  rd : ∀ m ∈ b.rd, 1 ≤ m.d.length
structure Ib.Ok (b : Ib) : Prop extends Ib.Core b where
  held : b.held ≤ b.room
theorem bsum_app (l : List Ms) (m : Ms) : bsum (l ++ [m]) = bsum l + m.d.length := by simp [bsum]
theorem bsum_len : ∀ {l : List Ms}, (∀ m ∈ l, 1 ≤ m.d.length) → l.length ≤ bsum l
  | [], _ => by simp
  | m :: l, h => by
    have h1 := bsum_len (l := l) (fun x hx => h x (by simp [hx]))
    have h2 := h m (by simp)
    simp only [bsum, List.map_cons, List.sum_cons, List.length_cons] at *
    omega
theorem held_len : ∀ {K : List Pc}, (∀ x ∈ K, 1 ≤ x.d.length) → K.length ≤ Fg.held K
  | [], _ => by simp
  | x :: K, h => by
    have h1 := held_len (K := K) (fun y hy => h y (by simp [hy]))
    have h2 := h x (by simp)
    simp only [Fg.held, List.map_cons, List.sum_cons, List.length_cons] at *
    omega
theorem Ib.Ok.len {b : Ib} (h : b.Ok) : b.K.length ≤ 1048576 ∧ b.ws.length ≤ 1048576 ∧ b.rd.length ≤ 1048576 ∧ Fg.held b.K ≤ 1048576 ∧ b.whole ≤ 1048576 := by
  have h1 := held_len (K := b.K) (fun x hx => (h.K x hx).2.1)
  have h2 := bsum_len (l := b.rd) h.rd
  have h3 := bsum_len (l := b.ws.map (·.1)) (fun m hm => by
    obtain ⟨e, he, rfl⟩ := List.mem_map.1 hm
    exact (h.ws e he).1)
  rw [List.length_map] at h3
  have h4 := h.held
  have h5 := h.room
  unfold Ib.held Ib.whole at h4
  unfold Ib.whole
  omega
theorem bsum_perm {l l' : List Ms} (h : l.Perm l') : bsum l = bsum l' := (h.map _).sum_nat
theorem ws_del {ws : List (Ms × Nat)} {t : Nat} {e : Ms × Nat} (ha : Alone wkey ws) (h : alook wkey ws t = some e) : bsum ((adel wkey ws t).map (·.1)) + e.1.d.length = bsum (ws.map (·.1)) ∧ (adel wkey ws t).length + 1 = ws.length := by
  have hp := adel_perm ha h
  refine ⟨?_, by rw [hp.length_eq]; rfl⟩
  rw [bsum_perm (hp.map (·.1))]
  simp [bsum]
  omega
theorem nxt_lt {b : Ib} (h : b.Core) (s : Nat) : b.nxt s < 65536 := by
  unfold Ib.nxt
  rw [List.getD, ]
  cases e : b.nx[s]? with
  | none => simp
  | some n => exact h.nxs n (List.mem_of_getElem? e)
/-- What goes on keeps all but for the message that begins it. -/
theorem goOn_ok : ∀ (f : Nat) (b : Ib) (m : Ms), (∀ e ∈ b.ws, 1 ≤ e.1.d.length ∧ e.1.s < b.nx.length ∧ e.2 < 65536) → b.nx.length < 65536 → (∀ n ∈ b.nx, n < 65536) → Alone wkey b.ws → (∀ m ∈ b.rd, 1 ≤ m.d.length) → 1 ≤ m.d.length → m.s < b.nx.length → b.ws.length < f →
    (goOn f b m).whole = b.whole + m.d.length ∧ (goOn f b m).room = b.room ∧ (goOn f b m).most = b.most ∧ (goOn f b m).st = b.st ∧ (goOn f b m).K = b.K ∧ (goOn f b m).nx.length = b.nx.length ∧ (∀ n ∈ (goOn f b m).nx, n < 65536) ∧
      (∀ e ∈ (goOn f b m).ws, 1 ≤ e.1.d.length ∧ e.1.s < b.nx.length ∧ e.2 < 65536) ∧ Alone wkey (goOn f b m).ws ∧ ∀ m' ∈ (goOn f b m).rd, 1 ≤ m'.d.length
  | 0, b, m, _, _, _, _, _, _, _, hf => by omega
  | f + 1, b, m, hw, hn, hns, ha, hr, h1, hs, hf => by
    have hset : ∀ n ∈ b.nx.set m.s ((b.nxt m.s + 1) % 65536), n < 65536 := fun n hn2 => by
      rcases List.mem_or_eq_of_mem_set hn2 with h | h
      · exact hns n h
      · omega
    have hrd : ∀ m' ∈ b.rd ++ [m], 1 ≤ m'.d.length := fun m' hm => by
      rcases List.mem_append.1 hm with h | h
      · exact hr m' h
      · simp only [List.mem_singleton] at h
        rw [h]
        exact h1
    cases e : alook wkey b.ws (b.nk m) with
    | none =>
      rw [goOn_none e]
      refine ⟨?_, rfl, rfl, rfl, rfl, by simp [Ib.turn], hset, hw, ha, hrd⟩
      unfold Ib.whole Ib.turn
      simp only [bsum_app]
      omega
    | some x =>
      rw [goOn_some e]
      have hx := (alook_some e).1
      have hd := ws_del ha e
      have ih := goOn_ok f ((b.turn m).less (b.nk m)) x.1 (fun y hy => by simpa [Ib.turn, Ib.less] using hw y (mem_del hy)) (by simpa [Ib.turn, Ib.less] using hn) hset (alone_del ha) hrd (hw x hx).1 (by simpa [Ib.turn, Ib.less] using (hw x hx).2.1) (by have := hd.2; show (adel wkey b.ws (b.nk m)).length < f; omega)
      have hl : ((b.turn m).less (b.nk m)).nx.length = b.nx.length := by simp [Ib.turn, Ib.less]
      rw [hl] at ih
      refine ⟨?_, ih.2.1, ih.2.2.1, ih.2.2.2.1, ih.2.2.2.2.1, ih.2.2.2.2.2.1, ih.2.2.2.2.2.2.1, ih.2.2.2.2.2.2.2.1, ih.2.2.2.2.2.2.2.2.1, ih.2.2.2.2.2.2.2.2.2⟩
      rw [ih.1]
      unfold Ib.whole
      have e1 : bsum ((b.turn m).less (b.nk m)).rd = bsum b.rd + m.d.length := bsum_app _ _
      have e2 : ((b.turn m).less (b.nk m)).ws = adel wkey b.ws (b.nk m) := rfl
      rw [e1, e2]
      have := hd.1
      omega
end Ix
end Go.Proofs.Ytednkcjmlpgipaa
/-
  What comes of a piece keeps an inbox in its bounds: plain.
-/
namespace Go.Proofs.Ytednkcjmlpgipaa
set_option maxRecDepth 4000
namespace Ix
set_option linter.unusedVariables false
set_option linter.unusedSimpArgs false
open Fg (Pc Ms put tkK tkD tell bnd bw fw Apart)

theorem tk_sub {K : List Pc} {t : Nat} : ∀ c, ∀ y ∈ tkK K t c, y ∈ K
  | 0, y, h => h
  | c + 1, y, h => tk_sub c y (List.mem_filter.1 h).1
theorem put_sub {K : List Pc} {x : Pc} : ∀ y ∈ (put K x).1, y ∈ K ++ [x] := fun y hy => by
  unfold put at hy
  split at hy
  · simp at hy ⊢; exact .inl hy
  · split at hy
    · exact hy
    · exact tk_sub _ y hy
theorem put_apart {K : List Pc} {x : Pc} (ha : Apart K) : Apart (put K x).1 := by
  unfold put
  split
  · exact ha
  · rename_i h
    have hap := Fg.apart_app ha (x := x) (by simpa using h)
    split
    · exact hap
    · exact Fg.tk_apart hap _
theorem tkD_pos {K : List Pc} {t : Nat} : ∀ c, 1 ≤ c → (Fg.dat K (fw t 0)).length ≤ (tkD K t c).length
  | 1, _ => by simp [tkD]
  | c + 2, _ => by
    have := tkD_pos (K := K) (t := t) (c + 1) (by omega)
    rw [tkD, List.length_append]
    omega
/-- What is told comes of a piece that was kept. -/
theorem put_tells {K : List Pc} {x : Pc} (ha : Apart K) (ht : x.t < 4294967296) (hlen : K.length < 1000000000) {m : Ms} {n : Nat} (h : (put K x).2 = some (m, n)) :
    ∃ y ∈ K ++ [x], m.s = y.s ∧ n = y.n ∧ m.p = y.p ∧ m.u = Fg.un y.f ∧ y.d.length ≤ m.d.length := by
  unfold put at h
  by_cases hk : (Fg.look K x.t).isSome = true
  · rw [if_pos hk] at h
    cases h
  · rw [if_neg hk] at h
    have hn : Fg.look K x.t = none := by simpa using hk
    have hsome : (Fg.look (K ++ [x]) x.t).isSome = true := by rw [Fg.look_app, if_neg hk, if_pos rfl]; rfl
    split at h
    · cases h
    · rename_i a b hb
      obtain ⟨hc, _⟩ := Fg.bnd_some (Fg.chain_start hsome) hb
      have hle := Fg.bnd_le hb
      have hs := Fg.chain_some ht hc (by omega)
      have h3 := hs 0 (by omega)
      have e0 : fw (bw x.t a) 0 = bw x.t a := by unfold fw bw; omega
      rw [e0] at h3
      obtain ⟨y, hy⟩ := Option.isSome_iff_exists.1 h3
      have e : tell (K ++ [x]) (bw x.t a) (a + b + 1) = (⟨y.s, Fg.un y.f, y.p, tkD (K ++ [x]) (bw x.t a) (a + b + 1)⟩, y.n) := by unfold tell; rw [hy]
      rw [e] at h
      simp only [Option.some.injEq, Prod.mk.injEq] at h
      obtain ⟨rfl, rfl⟩ := h
      refine ⟨y, (Fg.look_mem hy).1, rfl, rfl, rfl, rfl, ?_⟩
      have h5 := tkD_pos (K := K ++ [x]) (t := bw x.t a) (a + b + 1) (by omega)
      rw [e0] at h5
      have : Fg.dat (K ++ [x]) (bw x.t a) = y.d := by unfold Fg.dat; rw [hy]
      rw [this] at h5
      exact h5
theorem deal_ok {b : Ib} (h : b.Core) {m : Ms} {n : Nat} (hm : 1 ≤ m.d.length) (hs : m.s < b.nx.length) (hn : n < 65536) :
    (b.deal m n).Core ∧ (b.deal m n).whole ≤ b.whole + m.d.length ∧ (b.deal m n).room = b.room ∧ (b.deal m n).most = b.most ∧ (b.deal m n).st = b.st ∧ (b.deal m n).K = b.K ∧ (b.deal m n).nx.length = b.nx.length := by
  have hrd : ∀ m' ∈ b.rd ++ [m], 1 ≤ m'.d.length := fun m' hm' => by
    rcases List.mem_append.1 hm' with h1 | h1
    · exact h.rd m' h1
    · simp only [List.mem_singleton] at h1
      rw [h1]
      exact hm
  unfold Ib.deal
  split
  · refine ⟨⟨h.room, h.most, h.st, h.nx, h.nxs, h.K, h.ap, h.ws, h.al, hrd⟩, ?_, rfl, rfl, rfl, rfl, rfl⟩
    unfold Ib.whole
    simp only [bsum_app]
    omega
  · split
    · have g := goOn_ok (b.ws.length + 1) b m h.ws h.nx h.nxs h.al h.rd hm hs (by omega)
      obtain ⟨g1, g2, g3, g4, g5, g6, g7, g8, g9, g10⟩ := g
      exact ⟨⟨by rw [g2]; exact h.room, by rw [g3]; exact h.most, by rw [g4]; exact h.st, by rw [g6]; exact h.nx, g7, by rw [g5, g6]; exact h.K, by rw [g5]; exact h.ap, by rw [g6]; exact g8, g9, g10⟩, by omega, g2, g3, g4, g5, g6⟩
    · split
      · rename_i hq
        simp only [Bool.and_eq_true] at hq
        have hnone : alook wkey b.ws (m.s * 65536 + n) = none := by simpa using hq.1
        refine ⟨⟨h.room, h.most, h.st, h.nx, h.nxs, h.K, h.ap, fun e he => ?_, alone_app h.al hnone, h.rd⟩, ?_, rfl, rfl, rfl, rfl, rfl⟩
        · rcases List.mem_append.1 he with h1 | h1
          · exact h.ws e h1
          · simp only [List.mem_singleton] at h1
            rw [h1]
            exact ⟨hm, hs, hn⟩
        · unfold Ib.whole
          simp only [List.map_append, List.map_cons, List.map_nil, bsum_app]
          omega
      · exact ⟨h, by omega, rfl, rfl, rfl, rfl, rfl⟩
theorem setSt_core {b : Ib} (h : b.Core) {s : Gp.St} (hs : s.Ok) : (b.setSt s).Core := ⟨h.room, h.most, hs, h.nx, h.nxs, h.K, h.ap, h.ws, h.al, h.rd⟩
theorem setSt_held (b : Ib) (s : Gp.St) : (b.setSt s).held = b.held := rfl
theorem setSt_ok {b : Ib} (h : b.Ok) {s : Gp.St} (hs : s.Ok) : (b.setSt s).Ok := ⟨setSt_core h.toCore hs, by rw [setSt_held]; exact h.held⟩
theorem join_ok {b : Ib} (h : b.Core) {x : Pc} (hx : x.Ok) (hd : 1 ≤ x.d.length) (hs : x.s < b.nx.length) (hlen : b.K.length < 1000000000) :
    (b.join x).Core ∧ (b.join x).held ≤ b.held + x.d.length ∧ (b.join x).room = b.room ∧ (b.join x).most = b.most ∧ (b.join x).st = b.st ∧ (b.join x).nx.length = b.nx.length := by
  have hall : ∀ y ∈ b.K ++ [x], y.Ok ∧ 1 ≤ y.d.length ∧ y.s < b.nx.length := fun y hy => by
    rcases List.mem_append.1 hy with h1 | h1
    · exact h.K y h1
    · simp only [List.mem_singleton] at h1
      rw [h1]
      exact ⟨hx, hd, hs⟩
  have hk := Fg.put_keeps x h.ap hx.t hlen
  have hc : ({ b with K := (put b.K x).1 } : Ib).Core := ⟨h.room, h.most, h.st, h.nx, h.nxs, fun y hy => hall y (put_sub y hy), put_apart h.ap, h.ws, h.al, h.rd⟩
  unfold Ib.join
  cases e : (put b.K x).2 with
  | none =>
    refine ⟨hc, ?_, rfl, rfl, rfl, rfl⟩
    unfold Ib.held
    show Fg.held (put b.K x).1 + b.whole ≤ _
    rcases hk with ⟨_, _, h3⟩ | ⟨_, _, h3⟩ | ⟨m, s, h3, _⟩
    · omega
    · omega
    · rw [e] at h3; cases h3
  | some r =>
    obtain ⟨m, n⟩ := r
    obtain ⟨y, hy, h1, h2, _, _, h5⟩ := put_tells h.ap hx.t hlen e
    obtain ⟨k1, k2, k3⟩ := hall y hy
    have g := deal_ok hc (m := m) (n := n) (by omega) (by rw [h1]; exact k3) (by rw [h2]; exact k1.n)
    refine ⟨g.1, ?_, g.2.2.1, g.2.2.2.1, g.2.2.2.2.1, g.2.2.2.2.2.2⟩
    have g2 := g.2.1
    have g6 := g.2.2.2.2.2.1
    show Fg.held (({ b with K := (put b.K x).1 } : Ib).deal m n).K + (({ b with K := (put b.K x).1 } : Ib).deal m n).whole ≤ Fg.held b.K + b.whole + x.d.length
    rw [g6]
    have e2 : ({ b with K := (put b.K x).1 } : Ib).whole = b.whole := rfl
    rw [e2] at g2
    rcases hk with ⟨h3, _⟩ | ⟨h3, _⟩ | ⟨m', s, h3, _, h4⟩
    · rw [e] at h3; cases h3
    · rw [e] at h3; cases h3
    · rw [e] at h3
      simp only [Option.some.injEq, Prod.mk.injEq] at h3
      obtain ⟨rfl, _⟩ := h3
      show Fg.held (put b.K x).1 + _ ≤ _
      omega
theorem fits_le {b : Ib} {x : Pc} (h : b.fits x = true) : b.held + x.d.length ≤ b.room := by
  have h1 : b.held + x.d.length + (if x.t = Gp.up b.st.cum 1 then 0 else b.most) ≤ b.room := of_decide_eq_true h
  generalize (if x.t = Gp.up b.st.cum 1 then 0 else b.most) = q at h1
  omega
theorem joined_ok {b : Ib} (h : b.Ok) {s : Gp.St} (hs : s.Ok) {x : Pc} (hx : x.Ok) (hd : 1 ≤ x.d.length) (hf : b.held + x.d.length ≤ b.room) (hq : x.s < b.nx.length) :
    ((b.setSt s).join x).Ok ∧ ((b.setSt s).join x).room = b.room ∧ ((b.setSt s).join x).most = b.most ∧ ((b.setSt s).join x).nx.length = b.nx.length := by
  have hl := h.len.1
  have g := join_ok (setSt_core h.toCore hs) hx hd hq (Nat.lt_of_le_of_lt hl (by omega))
  refine ⟨⟨g.1, ?_⟩, g.2.2.1, g.2.2.2.1, g.2.2.2.2.2⟩
  have g2 := g.2.1
  rw [setSt_held] at g2
  rw [g.2.2.1]
  exact Nat.le_trans g2 hf
/-- The four ways a piece comes. -/
theorem add_ways (b : Ib) (x : Pc) : (b.add x = (b, 2) ∧ x.d.length = 0) ∨ (x.d.length ≠ 0 ∧ b.fresh x.t = false ∧ b.add x = (b.noted x.t, 4)) ∨ (x.d.length ≠ 0 ∧ b.fresh x.t = true ∧ b.fits x = false ∧ b.add x = (b, 7)) ∨
    (x.d.length ≠ 0 ∧ b.fresh x.t = true ∧ b.fits x = true ∧ b.nx.length ≤ x.s ∧ b.add x = (b.noted x.t, 100)) ∨ (x.d.length ≠ 0 ∧ b.fresh x.t = true ∧ b.fits x = true ∧ x.s < b.nx.length ∧ b.add x = ((b.noted x.t).join x, 0)) := by
  unfold Ib.add
  generalize b.noted x.t = c
  generalize b.fresh x.t = fr
  generalize b.fits x = ft
  by_cases hd : x.d.length = 0
  · exact .inl ⟨if_pos hd, hd⟩
  rw [if_neg hd]
  cases fr with
  | false => exact .inr (.inl ⟨hd, rfl, if_pos rfl⟩)
  | true =>
    rw [if_neg (by simp)]
    cases ft with
    | false => exact .inr (.inr (.inl ⟨hd, rfl, rfl, if_pos rfl⟩))
    | true =>
      rw [if_neg (by simp)]
      by_cases hq : b.nx.length ≤ x.s
      · exact .inr (.inr (.inr (.inl ⟨hd, rfl, rfl, hq, if_pos hq⟩)))
      · exact .inr (.inr (.inr (.inr ⟨hd, rfl, rfl, by omega, if_neg hq⟩)))
theorem noted_is {b : Ib} {t : Nat} (h : b.st.Ok) (ht : t < 4294967296) : ∃ s : Gp.St, s.Ok ∧ b.noted t = b.setSt s := ⟨_, Gp.add_ok h ht, rfl⟩
theorem add_ok {b : Ib} (h : b.Ok) {x : Pc} (hx : x.Ok) : (b.add x).1.Ok ∧ (b.add x).1.room = b.room ∧ (b.add x).1.most = b.most ∧ (b.add x).1.nx.length = b.nx.length := by
  obtain ⟨s, hs, e⟩ := noted_is (b := b) h.st hx.t
  rcases add_ways b x with ⟨k, _⟩ | ⟨_, _, k⟩ | ⟨_, _, _, k⟩ | ⟨_, _, _, _, k⟩ | ⟨hd, _, hf, hq, k⟩
  · rw [k]; exact ⟨h, rfl, rfl, rfl⟩
  · rw [k, e]; exact ⟨setSt_ok h hs, rfl, rfl, rfl⟩
  · rw [k]; exact ⟨h, rfl, rfl, rfl⟩
  · rw [k, e]; exact ⟨setSt_ok h hs, rfl, rfl, rfl⟩
  · rw [k, e]; exact joined_ok h hs hx (by omega) (fits_le hf) hq
theorem add_full {b : Ib} {x : Pc} (h : (b.add x).2 = 7) : (b.add x).1 = b := by
  rcases add_ways b x with ⟨k, _⟩ | ⟨_, _, k⟩ | ⟨_, _, _, k⟩ | ⟨_, _, _, _, k⟩ | ⟨_, _, _, _, k⟩ <;> rw [k] at h ⊢ <;> first | rfl | (simp at h)
theorem recv_ok {b : Ib} (h : b.Ok) : b.recv.1.Ok ∧ b.recv.1.room = b.room ∧ b.recv.1.most = b.most ∧ b.recv.1.nx = b.nx ∧ b.recv.1.st = b.st := by
  unfold Ib.recv
  split
  · exact ⟨h, rfl, rfl, rfl, rfl⟩
  · rename_i m l e
    refine ⟨⟨⟨h.room, h.most, h.st, h.nx, h.nxs, h.K, h.ap, h.ws, h.al, fun m' hm => h.rd m' (by rw [e]; exact List.mem_cons_of_mem _ hm)⟩, ?_⟩, rfl, rfl, rfl, rfl⟩
    have := h.held
    unfold Ib.held Ib.whole bsum at *
    rw [e] at this
    simp only [List.map_cons, List.sum_cons] at this
    show Fg.held b.K + ((List.map (fun m => m.d.length) (b.ws.map (·.1))).sum + (List.map (fun m => m.d.length) l).sum) ≤ b.room
    omega
end Ix
end Go.Proofs.Ytednkcjmlpgipaa
/-
  A turn (a stream, and a number there) as a key.
-/
namespace Go.Proofs.Ytednkcjmlpgipaa
set_option maxRecDepth 4000
open Go.RowKit Go.Maps
namespace Ix
set_option linter.unusedVariables false
set_option linter.unusedSimpArgs false

theorem laidOut : laidOutB Try.prog = true := by kernel_rfl
theorem wideT : (match Try.prog.underlying 151 with | some (.array _ _) | some (.struct _) => true | _ => false) = true := by rw [Try.underlying151]
theorem lawT : Keyed Try.prog 151 := Keyed.of_law (deep_law_laid laidOut (m := 3) (by omega) (of_decide_eq_true (by kernel_rfl)) (by kernel_rfl) wideT)
theorem wf16 {t : Nat} (h : t < 65536) : (Lit.int .u16 (t : Int)).wf = true := by
  simp [Lit.wf, IntKind.min, IntKind.max, IntKind.signed, IntKind.bits]
  omega
def kvT (t : Nat) : Value := .agg #[.int .u16 ((t / 65536 : Nat) : Int), .int .u16 ((t % 65536 : Nat) : Int)]
theorem turn_key {a b : Nat} (ha : a < 65536) (hb : b < 65536) : ∃ l, keyOf Try.prog 151 (.agg #[.int .u16 (a : Int), .int .u16 (b : Int)]) = some l := by
  have h1 : Try.prog.keyType 151 = true := by kernel_rfl
  have h2 : (Value.agg #[.int .u16 (a : Int), .int .u16 (b : Int)]).formed Try.prog 151 = true := by
    have c : Try.prog.cellsOf 151 = 2 := by kernel_rfl
    simp [Value.formed, Try.underlying151, c]
  have c0 : Try.prog.cellsOf 151 = 2 := by kernel_rfl
  have c1 : Try.prog.cellsOf 22 = 1 := by kernel_rfl
  have w1 := wf16 ha
  have w2 := wf16 hb
  obtain ⟨m, hm⟩ : ∃ m, Try.prog.types.size = m + 1 := ⟨Try.prog.types.size - 1, by
    have : 0 < Try.prog.types.size := of_decide_eq_true (by kernel_rfl)
    omega⟩
  unfold keyOf
  rw [Try.underlying151]
  simp only [h1, h2, Bool.and_self, if_true]
  rw [hm]
  simp [Program.keyLits, Try.underlying151, Try.underlying22, c0, c1, w1, w2, Value.cells]
theorem kof (t : Nat) (h : t < 4294967296) : ∃ l, keyOf Try.prog 151 (kvT t) = some l := turn_key (by omega) (Nat.mod_lt _ (by omega))
noncomputable def klT (t : Nat) : Lit := (keyOf Try.prog 151 (kvT t)).getD (.int .i64 0)
theorem kofT (t : Nat) (h : t < 4294967296) : keyOf Try.prog 151 (kvT t) = some (klT t) := by
  obtain ⟨l, hl⟩ := kof t h
  unfold klT
  rw [hl]
  rfl
theorem kvT_inj {t t' : Nat} (h : kvT t = kvT t') : t = t' := by
  unfold kvT at h
  simp only [Value.agg.injEq, Array.mk.injEq, List.cons.injEq, Value.int.injEq, true_and, and_true] at h
  omega
theorem klT_ne (t t' : Nat) (h : t < 4294967296) (h' : t' < 4294967296) (hne : t' ≠ t) : klT t' ≠ klT t := fun e => by
  have h1 := kofT t h
  have h2 := kofT t' h'
  rw [e] at h2
  exact hne (kvT_inj (lawT.inj h2 h1))
theorem kvT_at {a b : Nat} (hb : b < 65536) : kvT (a * 65536 + b) = .agg #[.int .u16 (a : Int), .int .u16 (b : Int)] := by
  unfold kvT
  rw [show (a * 65536 + b) / 65536 = a by omega, show (a * 65536 + b) % 65536 = b by omega]
end Ix
end Go.Proofs.Ytednkcjmlpgipaa
/-
  A row that is taken off at its front, and goes on at its end.
-/
namespace Go.Proofs.Ytednkcjmlpgipaa
set_option maxRecDepth 4000
open Go.RowKit
set_option linter.unusedVariables false
set_option linter.unusedSimpArgs false

/-- n elements of sz cells each, from somewhere in a block on. -/
def Qu (w : World) (e : TypeId) (sz : Nat) (v : Value) (n : Nat) (xs : List Value) : Prop :=
  xs.length = n * sz ∧ ((v = .slice none 0 0 ∧ n = 0) ∨ ∃ g off cap cur, v = .slice (some ⟨g, off, none⟩) n cap ∧ w.heap[g]? = some (.cells cur e (0, 0)) ∧ n ≤ cap ∧ cap ≤ maxLen ∧ off + cap * sz ≤ cur.size ∧ ∀ j u, xs[j]? = some u → cur[off + j]? = some u)
section
variable {w w' : World} {e : TypeId} {sz : Nat} {v : Value} {n : Nat} {xs : List Value}
theorem Qu.nil (w : World) (e : TypeId) (sz : Nat) : Qu w e sz (.slice none 0 0) 0 [] := ⟨by simp, .inl ⟨rfl, rfl⟩⟩
theorem Qu.of_own {B : Nat} (h : w.ownsRow B e sz v n xs) : Qu w e sz v n xs := by
  refine ⟨h.1, h.2.imp id ?_⟩
  rintro ⟨g, cap, cur, rfl, _, hg, hnc, hcm, hcs, ht⟩
  refine ⟨g, 0, cap, cur, rfl, hg, hnc, hcm, by omega, fun j u hu => ?_⟩
  rw [← ht, List.getElem?_take] at hu
  split at hu
  · simpa using hu
  · cases hu
theorem Qu.form (h : Qu w e sz v n xs) : ∃ A c, v = .slice A n c ∧ n ≤ c ∧ c ≤ maxLen := by
  rcases h.2 with ⟨rfl, rfl⟩ | ⟨g, off, cap, cur, rfl, _, h1, h2, _⟩
  · exact ⟨none, 0, rfl, Nat.le_refl _, Nat.zero_le _⟩
  · exact ⟨_, _, rfl, h1, h2⟩
theorem Qu.lt (h : Qu w e sz v n xs) : ∀ g, v.ownBlock = some g → g < w.heap.size := by
  intro k hk
  rcases h.2 with ⟨rfl, _⟩ | ⟨g, off, cap, cur, rfl, hg, _⟩
  · simp [Value.ownBlock] at hk
  · simp [Value.ownBlock] at hk
    subst hk
    exact (Array.getElem?_eq_some_iff.1 hg).1
theorem Qu.frame {F : Nat → Prop} (h : Qu w e sz v n xs) (hk : Kp w w' F) (hd : ∀ g, v.ownBlock = some g → ¬ F g) : Qu w' e sz v n xs := by
  refine ⟨h.1, h.2.imp id ?_⟩
  rintro ⟨g, off, cap, cur, rfl, hg, rest⟩
  exact ⟨g, off, cap, cur, rfl, (hk.block g (Array.getElem?_eq_some_iff.1 hg).1 (hd g rfl)).trans hg, rest⟩
/-- Its elements as cells. -/
theorem Qu.cellAt {g off c : Nat} (h : Qu w e sz (.slice (some ⟨g, off, none⟩) n c) n xs) {j : Nat} {u : Value} (hu : xs[j]? = some u) : w.cell? ⟨g, off + j, none⟩ = some u := by
  rcases h.2 with ⟨e1, _⟩ | ⟨g', off', cap, cur, hv, hg, _, _, _, hx⟩
  · cases e1
  · simp only [Value.slice.injEq, Option.some.injEq, Addr.mk.injEq] at hv
    obtain ⟨⟨rfl, rfl, _⟩, _, _⟩ := hv
    rw [cell_of_row w g (off + j) cur e (0, 0) hg]
    exact hx j u hu
theorem Qu.frozenAt {g off c : Nat} (h : Qu w e sz (.slice (some ⟨g, off, none⟩) n c) n xs) (i : Nat) : w.frozen? ⟨g, i, none⟩ = false := by
  rcases h.2 with ⟨e1, _⟩ | ⟨g', off', cap, cur, hv, hg, _⟩
  · cases e1
  · simp only [Value.slice.injEq, Option.some.injEq, Addr.mk.injEq] at hv
    obtain ⟨⟨rfl, rfl, _⟩, _, _⟩ := hv
    simp [World.frozen?, hg]
theorem Qu.pos (h : Qu w e sz v n xs) (hn : 0 < n) : ∃ g off c, v = .slice (some ⟨g, off, none⟩) n c := by
  rcases h.2 with ⟨_, h0⟩ | ⟨g, off, cap, cur, rfl, _⟩
  · omega
  · exact ⟨g, off, cap, rfl⟩
/-- Cells are written: the row as it was, but for the first sz cells. -/
theorem row_mid {cur : Array Value} {o j : Nat} {vs : List Value} (ho : o + vs.length ≤ cur.size) (hj : o + vs.length ≤ j) : (cur.toList.take o ++ vs ++ cur.toList.drop (o + vs.length)).toArray[j]? = cur[j]? := by
  simp only [List.getElem?_toArray]
  rw [List.getElem?_append_right (by simp; omega), List.getElem?_drop]
  simp only [List.length_append, List.length_take, Array.length_toList]
  rw [Array.getElem?_toList]
  congr 1
  omega
theorem row_low {cur : Array Value} {o j : Nat} {vs : List Value} (ho : o + vs.length ≤ cur.size) (hj : j < o) : (cur.toList.take o ++ vs ++ cur.toList.drop (o + vs.length)).toArray[j]? = cur[j]? := by
  simp only [List.getElem?_toArray]
  rw [List.append_assoc, List.getElem?_append_left (by simp; omega), List.getElem?_take, if_pos hj, Array.getElem?_toList]
theorem row_at {cur : Array Value} {o j : Nat} {vs : List Value} (ho : o + vs.length ≤ cur.size) (hj : j < vs.length) : (cur.toList.take o ++ vs ++ cur.toList.drop (o + vs.length)).toArray[o + j]? = vs[j]? := by
  simp only [List.getElem?_toArray]
  rw [List.append_assoc, List.getElem?_append_right (by simp; omega), List.getElem?_append_left (by simp; omega)]
  congr 1
  simp only [List.length_take, Array.length_toList]
  omega
theorem row_size {cur : Array Value} {o : Nat} {vs : List Value} (ho : o + vs.length ≤ cur.size) : (cur.toList.take o ++ vs ++ cur.toList.drop (o + vs.length)).toArray.size = cur.size := by
  simp
  omega
theorem setRow_grown (w : World) (g : Nat) (cs : Array Value) : w.grownBy (w.setRow g cs) (some g) :=
  ⟨rfl, rfl, rfl, by simp [World.setRow], fun k _ hk => setRow_other w g k cs (fun e => hk (by rw [e]))⟩
theorem zeroCells_one (z : Array Value) : Builtin.zeroCells z 1 = z := by
  unfold Builtin.zeroCells
  apply Array.ext
  · simp
  · intro i h1 h2
    simp only [Array.getElem_map, Array.getElem_range, Nat.one_mul]
    rw [Nat.mod_eq_of_lt h2]
    simp [h2]
end
section
variable {P : Program} {w : World} {e : TypeId} {sz n : Nat} {v : Value} {xs : List Value}
/-- One element more, at the end. -/
theorem run_append_qu (t ty : TypeId) (i : TypeInfo) (z : Value) (bytes : Nat) (ht : P.underlying t = some (.slice e)) (hi : P.info? e = some i) (hz : i.zero = some z) (hsize : i.size = sz) (hby : i.bytes = bytes) (hzs : z.cells.size = sz) (hsz : 0 < sz)
    (h : Qu w e sz v n xs) (ad : Addr) (c : Nat) (news : List Value) (hl : news.length = 1 * sz) (hnews : ∀ j u, news[j]? = some u → w.cell? (ad.add j) = some u) (h1 : ∀ u ∈ news, u.oneCell' = true)
    (h63 : n + 1 ≤ maxLen) (hbytes : (n + 1) * bytes ≤ 140737488355328) :
    ∃ v' w', (Builtin.append_ #[t, t] ty #[v, .slice (some ad) 1 c]).run P w = .ok v' w' ∧ Qu w' e sz v' (n + 1) (xs ++ news) ∧ w.grownBy w' v.ownBlock ∧ (∀ g, v'.ownBlock = some g → v.ownBlock = some g ∨ w.heap.size ≤ g) := by
  subst hsize
  rcases h.2 with ⟨rfl, rfl⟩ | ⟨g, off, cap, cur, rfl, hg, hnc, hcm, hcs, hx⟩
  · have hx : xs = [] := List.eq_nil_of_length_eq_zero (by simpa using h.1)
    subst hx
    obtain ⟨g, cap, w', hr, ho, hgr, hat, _⟩ := run_append_lies (P := P) (w := w) t ty 0 e i z i.size bytes ht hi hz rfl hby hzs hsz (.slice none 0 0) 0 [] (World.ownsRow_nil w 0 e i.size) ad 1 c news hl hnews h1 (by omega) h63 hbytes (Nat.zero_le _) _ rfl
    refine ⟨_, w', hr, Qu.of_own ho, hgr, fun g' hg' => .inr ?_⟩
    simp only [Value.ownBlock, Option.some.injEq] at hg'
    subst hg'
    rcases hat with h | h
    · cases h
    · omega
  · have hnl : news.length = i.size := by rw [hl, Nat.one_mul]
    by_cases hroom : n + 1 ≤ cap
    · have hmul : n * i.size + i.size ≤ cap * i.size := by
        have := Nat.mul_le_mul_right i.size hroom
        rwa [Nat.add_mul, Nat.one_mul] at this
      have hfit : off + n * i.size + news.length ≤ cur.size := by omega
      have hf := run_firstCells_some (P := P) w i.size 1 ad 1 c news hl hnews
      have hst := run_storeCells_at P g (off + n * i.size) e news 0 cur w hg (by simpa using hfit) h1
      simp only [Nat.add_zero] at hst
      refine ⟨.slice (some ⟨g, off, none⟩) (n + 1) cap, w.setRow g (cur.toList.take (off + n * i.size) ++ news ++ cur.toList.drop (off + n * i.size + news.length)).toArray, ?_, ⟨by rw [List.length_append, h.1, hl, Nat.add_mul], .inr ⟨g, off, cap, _, rfl, setRow_heap w g cur _ e _ hg, hroom, hcm, by rw [row_size hfit]; exact hcs, fun j u hu => ?_⟩⟩, setRow_grown w g _, fun g' hg' => .inl hg'⟩
      · simp [Builtin.append_, run_underlying ht, sizeOf, typeInfo, hi, Builtin.lenOf, hroom, hf, Addr.add_lit, hst]
      · by_cases hj : j < xs.length
        · rw [List.getElem?_append_left hj] at hu
          rw [row_low hfit (by rw [h.1] at hj; omega)]
          exact hx j u hu
        · rw [List.getElem?_append_right (by omega)] at hu
          have hjn := (List.getElem?_eq_some_iff.1 hu).1
          have := row_at hfit (j := j - xs.length) (by omega)
          rw [← this] at hu
          rw [show off + j = off + n * i.size + (j - xs.length) by have := h.1; omega]
          exact hu
    · have holds : ∀ j u, xs[j]? = some u → w.cell? ((⟨g, off, none⟩ : Addr).add j) = some u := fun j u hu => by
        rw [Addr.add_lit, cell_of_row w g (off + j) cur e (0, 0) hg]
        exact hx j u hu
      obtain ⟨v', w', hr, ho, hgr⟩ := run_append_arg_grows (P := P) w t ty e i z i.size bytes ht hi hz rfl hby hzs hsz ⟨g, off, none⟩ n cap xs h.1 holds ad 1 c news hl hnews (by omega) h63 hbytes
      exact ⟨v', w', hr, Qu.of_own ho, ⟨hgr.os, hgr.tape, hgr.output, hgr.size, fun k hk _ => hgr.block k hk (by simp)⟩, fun g' hg' => .inr (ho.lt g' hg').1⟩
/-- Its first element is cleared, and cut off. -/
theorem run_clear_qu {g off c : Nat} (S ty : TypeId) (z : Value) (ht : P.underlying S = some (.slice e)) (hz : ∀ w, (zeroValue e).run P w = .ok z w) (hzs : z.cells.size = sz) (hz1 : ∀ u ∈ z.cells.toList, u.oneCell' = true) (hsz : 0 < sz)
    (h : Qu w e sz (.slice (some ⟨g, off, none⟩) (n + 1) c) (n + 1) xs) :
    ∃ W', (Builtin.clear_ #[S] ty #[.slice (some ⟨g, off, none⟩) 1 1]).run P w = .ok (.tuple #[]) W' ∧ w.grownBy W' (some g) ∧ Qu W' e sz (.slice (if c = 1 then some ⟨g, off, none⟩ else some ⟨g, off + sz, none⟩) n (c - 1)) n (xs.drop sz) := by
  rcases h.2 with ⟨e1, _⟩ | ⟨g', off', cap, cur, hv', hg, hnc, hcm, hcs, hx⟩
  · cases e1
  · simp only [Value.slice.injEq, Option.some.injEq, Addr.mk.injEq] at hv'
    obtain ⟨⟨rfl, rfl, _⟩, _, rfl⟩ := hv'
    have hmul : sz ≤ c * sz := Nat.le_mul_of_pos_left sz (by omega)
    have hzl : z.cells.toList.length = sz := by simpa using hzs
    have hfit : off + z.cells.toList.length ≤ cur.size := by omega
    have hst := run_storeCells_at P g off e z.cells.toList 0 cur w hg (by simpa using hfit) hz1
    simp only [Nat.add_zero] at hst
    refine ⟨w.setRow g (cur.toList.take off ++ z.cells.toList ++ cur.toList.drop (off + z.cells.toList.length)).toArray, ?_, setRow_grown w g _, by rw [List.length_drop, h.1, Nat.add_mul]; omega, .inr ?_⟩
    · simp [Builtin.clear_, run_underlying ht, hz, zeroCells_one]
      have := hst
      simp at this
      simp [this, Result.andThen]
    · have hh := setRow_heap w g cur (cur.toList.take off ++ z.cells.toList ++ cur.toList.drop (off + z.cells.toList.length)).toArray e _ hg
      have hdrop : ∀ j u, (xs.drop sz)[j]? = some u → (cur.toList.take off ++ z.cells.toList ++ cur.toList.drop (off + z.cells.toList.length)).toArray[off + sz + j]? = some u := fun j u hu => by
        rw [List.getElem?_drop] at hu
        rw [row_mid hfit (by omega), show off + sz + j = off + (sz + j) by omega]
        exact hx _ _ hu
      by_cases hc1 : c = 1
      · subst hc1
        rw [if_pos rfl]
        obtain rfl : n = 0 := by omega
        refine ⟨g, off, 0, _, rfl, hh, Nat.le_refl _, by omega, by rw [row_size hfit]; omega, fun j u hu => ?_⟩
        have : (xs.drop sz).length = 0 := by rw [List.length_drop, h.1]; omega
        have h2 := (List.getElem?_eq_some_iff.1 hu).1
        omega
      · rw [if_neg hc1]
        refine ⟨g, off + sz, c - 1, _, rfl, hh, by omega, by omega, ?_, hdrop⟩
        rw [row_size hfit]
        have : (c - 1) * sz + sz = c * sz := by
          obtain ⟨k, rfl⟩ : ∃ k, c = k + 1 := ⟨c - 1, by omega⟩
          rw [Nat.add_sub_cancel, Nat.add_mul, Nat.one_mul]
        omega
theorem run_size_of {S : TypeId} (ht : P.underlying S = some (.slice e)) (hi : (P.info? e).map (·.size) = some sz) (W : World) : (sizeOf (P.elem S)).run P W = .ok sz W := by
  have he : P.elem S = e := by simp [Program.elem, ht]
  rw [he]
  cases hq : P.info? e with
  | none => simp [hq] at hi
  | some i =>
    simp [hq] at hi
    simp [sizeOf, typeInfo, hq, hi]
/-- q[1:] -/
theorem run_cut_front {g off c : Nat} {S : TypeId} (ht : P.underlying S = some (.slice e)) (hi : (P.info? e).map (·.size) = some sz) (W : World) :
    (Instr.slice S (.slice (some ⟨g, off, none⟩) (n + 1) c) (some (.int .i64 1)) none none).run P W = .ok (.slice (if c = 1 then some ⟨g, off, none⟩ else some ⟨g, off + sz, none⟩) n (c - 1)) W := by
  have h := run_slice_l (P := P) W S (some ⟨g, off, none⟩) (n + 1) c (by simp [Program.elem, ht]) .i64 1 (by omega) (by omega)
  rw [h, run_size_of ht hi]
  simp [Result.andThen, sliced, Addr.add_lit]
/-- q[:1:1] -/
theorem run_cut_one {g off c : Nat} {S : TypeId} (ht : P.underlying S = some (.slice e)) (hi : (P.info? e).map (·.size) = some sz) (hc : 1 ≤ c) (W : World) :
    (Instr.slice S (.slice (some ⟨g, off, none⟩) n c) none (some (.int .i64 1)) (some (.int .i64 1))).run P W = .ok (.slice (some ⟨g, off, none⟩) 1 1) W := by
  have h := run_slice_hm (P := P) W S (some ⟨g, off, none⟩) n c (by simp [Program.elem, ht]) .i64 .i64 1 1 (by omega) (by omega) (by omega)
  rw [h, run_size_of ht hi]
  simp [Result.andThen, sliced, Addr.add_lit]
end
end Go.Proofs.Ytednkcjmlpgipaa
/-
  Rows of bytes that a call owns; bytes.Clone; appends of bytes. For all layers.
-/
namespace Go.Proofs.Ytednkcjmlpgipaa
open Go.RowKit
set_option linter.unusedVariables false

theorem below_drewN {B : Nat} {a w : World} (h : Below B a w) (q : Nat) : Below B a (w.drewN q) := ⟨h.os, h.tape, h.output, h.size, h.block⟩
/-- Cells of bytes. -/
def vb (l : List Int) : Array Value := (bs l).toArray
theorem vb_size (l : List Int) : (vb l).size = l.length := by simp [vb, bs]
theorem vb_get {l : List Int} {i : Nat} (h : i < l.length) : (vb l)[i]? = some (.int .u8 (l.getD i 0)) := by
  simp [vb, bs, List.getElem?_map, List.getElem?_eq_getElem h, List.getD]
theorem vb_set (l : List Int) (i : Nat) (x : Int) : (vb l).setIfInBounds i (.int .u8 x) = vb (l.set i x) := by simp [vb, bs]
theorem Try_info8 : (Try.prog.info? 5).map (fun i => (i.zero, i.size, i.bytes)) = some (some (.int .u8 0), 1, 1) := by kernel_rfl
theorem made_bytes (n : Nat) : madeCells #[Value.int .u8 0] n = vb (List.replicate n 0) := by
  apply Array.ext_getElem?
  intro i
  by_cases hi : i < n
  · rw [vb_get (by simpa using hi)]
    simp [madeCells, hi, Nat.mod_one, List.getD]
  · rw [Array.getElem?_eq_none (by rw [size_madeCells]; omega), Array.getElem?_eq_none (by rw [vb_size]; simp; omega)]
theorem run_make_bytes (n : Nat) (h : n ≤ 281474976710656) (W : World) :
    (Instr.makeSlice 31 (.int .i64 (n : Int)) (.int .i64 (n : Int))).run Try.prog W = .ok (.slice (some ⟨W.heap.size, 0, none⟩) n n) (W.alloc (.cells (vb (List.replicate n 0)) 5)) := by
  rw [← made_bytes]
  exact run_make_row' 31 5 (.int .u8 0) 1 Try.underlying31 Try_info8 rfl .i64 .i64 n (by omega) (by omega) W
/-- A row that the call owns: its slice reads as these bytes, and may be written. -/
def Own (w W : World) (A : Option Addr) (n c : Nat) (l : List Int) : Prop := W.ownsRow w.heap.size 5 1 (.slice A n c) n (bs l) ∧ Below w.heap.size w W
theorem own_of_made (w : World) {n : Nat} {l : List Int} (h : l.length = n) (hn : n ≤ maxLen) : Own w (w.alloc (.cells (vb l) 5)) (some ⟨w.heap.size, 0, none⟩) n n l :=
  ⟨⟨by rw [bs_len, h, Nat.mul_one], .inr ⟨w.heap.size, n, vb l, rfl, Nat.le_refl _, heap_alloc_new _ _, Nat.le_refl _, hn, by rw [vb_size, h, Nat.mul_one], by rw [show (vb l).toList = bs l by simp [vb]]; exact List.take_of_length_le (by rw [bs_len]; omega)⟩⟩, (Below.refl _ _).alloc (Nat.le_refl _) _⟩
theorem Own.len {w W : World} {A : Option Addr} {n c : Nat} {l : List Int} (h : Own w W A n c l) : l.length = n := by have := h.1.1; simpa [bs] using this
theorem Own.cap {w W : World} {A : Option Addr} {n c : Nat} {l : List Int} (h : Own w W A n c l) : n ≤ c ∧ c ≤ maxLen := by
  rcases h.1.2 with ⟨h1, h2⟩ | ⟨g, cap, cur, h1, _, _, h2, h3, _⟩
  · simp only [Value.slice.injEq] at h1
    obtain ⟨_, h1, h3⟩ := h1
    exact ⟨by omega, by subst h3; exact Nat.zero_le _⟩
  · simp only [Value.slice.injEq] at h1
    obtain ⟨_, _, rfl⟩ := h1
    exact ⟨h2, h3⟩
theorem row_of_own {W : World} {base : Nat} {A : Option Addr} {n c : Nat} {l : List Int} (h : W.ownsRow base 5 1 (.slice A n c) n (bs l)) : Row W A (bs l) := fun i v hv => by
  rcases id h.2 with ⟨_, h0⟩ | ⟨g, cap, cur, hv2, _⟩
  · have := h.1
    have h1 := (List.getElem?_eq_some_iff.1 hv).1
    omega
  · simp only [Value.slice.injEq] at hv2
    obtain ⟨rfl, _, _⟩ := hv2
    exact ⟨_, rfl, h.cells (g := g) rfl i v hv⟩
theorem Own.row {w W : World} {A : Option Addr} {n c : Nat} {l : List Int} (h : Own w W A n c l) : Row W A (bs l) := row_of_own h.1
theorem bnext' {w a b : World} (h : Below w.heap.size w a) (k : Below a.heap.size a b) : Below w.heap.size w b := h.trans (k.mono h.size)
theorem Own.next {w W W' : World} {A : Option Addr} {n c : Nat} {l : List Int} (h : Own w W A n c l) (hb : Below W.heap.size W W') : Own w W' A n c l :=
  ⟨h.1.kept (row := none) ⟨hb.os, hb.tape, hb.output, hb.size, fun k hk _ => hb.block k hk⟩ (by cases hv : Value.ownBlock (.slice A n c) <;> simp), bnext' h.2 hb⟩
theorem Own.drew {w W : World} {A : Option Addr} {n c : Nat} {l : List Int} (h : Own w W A n c l) : Own w W.drew A n c l := ⟨h.1, h.2.drew⟩
theorem bcells {w : World} {a : Addr} {l : List Value} (h : Row w (some a) l) : ∀ j u, l[j]? = some u → w.cell? (a.add j) = some u := fun j u hu => by
  obtain ⟨b, hb, hc⟩ := h j u hu
  injection hb with hb
  subst hb
  exact hc
theorem Row.take {w : World} {A : Option Addr} {l : List Value} (h : Row w A l) (k : Nat) : Row w A (l.take k) := fun i v hv => by
  rw [List.getElem?_take] at hv
  split at hv
  · exact h i v hv
  · cases hv
theorem cut0 (A : Option Addr) (c : Nat) : cutA A c 0 = A := by
  unfold cutA
  split
  · rfl
  · cases A <;> simp [Addr.add]
theorem bs_one (l : List Int) : ∀ u ∈ bs l, u.oneCell' = true := fun u hu => by
  obtain ⟨x, _, rfl⟩ := List.mem_map.1 hu
  rfl
theorem bs_app (l m : List Int) : bs l ++ bs m = bs (l ++ m) := by simp [bs]
theorem own_form {w : World} {base : Nat} {e : TypeId} {s : Nat} {v : Value} {n : Nat} {xs : List Value} (h : w.ownsRow base e s v n xs) : ∃ A c, v = .slice A n c := by
  rcases h.2 with ⟨rfl, rfl⟩ | ⟨g, cap, _, rfl, _⟩
  · exact ⟨none, 0, rfl⟩
  · exact ⟨_, _, rfl⟩
theorem own_nil (w : World) : Own w w none 0 0 [] := ⟨World.ownsRow_nil _ _ _ _, Below.refl _ _⟩
set_option maxRecDepth 100000 in
set_option maxHeartbeats 400000 in
theorem clone_big (A : Option Addr) (n c : Nat) (l : List Int) (w : World) (hl : l.length = n) (hn : n ≤ 1000000000) (hr : Row w A (bs l)) :
    Calls Try.prog 83 #[.slice A n c] w fun e w' => ∃ A' c', e = .returned (.slice A' n c') ∧ Own w w' A' n c' l := by
  rcases A with _ | a
  · have h0 : l = [] := by
      rcases l with _ | ⟨x, l⟩
      · rfl
      · obtain ⟨a, ha, _⟩ := Row.byte hr (k := 0) (by simp)
        cases ha
    subst h0
    obtain rfl : n = 0 := by simpa using hl.symm
    clear hr hl
    have hnil := fun W : World => Lib.run_eql_slice_nil (P := Try.prog) W 31 5 none 0 c 0 0 Try.underlying31
    go_enter Try.func83, Try.ntmps83
    go_wp2
    go_ret
    exact ⟨none, 0, rfl, own_nil _⟩
  · obtain ⟨i0, hi0, hz0, hz1, hz2⟩ := info_parts Try_info8
    have HI := Lib.hid hi0
    have HZ0 := Lib.hid hz0
    have HZ1 := Lib.hid hz1
    have HZ2 := Lib.hid hz2
    have HR := Lib.hid hr
    have HN := Lib.hid hn
    clear hi0 hz0 hz1 hz2 hr hn
    have hnil := fun W : World => Lib.run_eql_slice_nil (P := Try.prog) W 31 5 (some a) n c 0 0 Try.underlying31
    have HL := Lib.hid hl
    clear hl
    go_enter Try.func83, Try.ntmps83
    go_wp2_with (at_builtin; refine wpList_append_own _ rfl (.tmp 5) (.tmp 6) 31 rfl w.heap.size 5 i0 (.int .u8 0) 1 1 Try.underlying31 HI.out HZ0.out HZ1.out HZ2.out rfl (by omega) _ 0 [] rfl (World.ownsRow_made w #[] 0 (Nat.le_refl _) (by decide) rfl) a n c (bs l) rfl (by rw [bs_len, HL.out]; omega) (bcells (HR.out.alloc _)) (bs_one l) (by have := HN.out; unfold maxLen; omega) (by have := HN.out; omega) (by simp) ?_; intro v' w2 hown hgr hv)
    rw [Nat.zero_add, List.nil_append] at hown
    obtain ⟨A', c', rfl⟩ := own_form hown
    go_wp2
    go_ret
    exact ⟨A', c', rfl, hown, ((Below.refl _ _).alloc (Nat.le_refl _) _).grown hgr (by simp) fun k hk => by injection hk with hk; exact Nat.le_of_eq hk⟩
theorem clone_any (A : Option Addr) (n c : Nat) (l : List Int) (w : World) (hl : l.length = n) (hn : n ≤ 4000000) (hr : Row w A (bs l)) :
    Calls Try.prog 83 #[.slice A n c] w fun e w' => ∃ A' c', e = .returned (.slice A' n c') ∧ Own w w' A' n c' l := clone_big A n c l w hl (by omega) hr
theorem own_base {W : World} {b b' : Nat} {e : TypeId} {s : Nat} {v : Value} {n : Nat} {xs : List Value} (h : W.ownsRow b e s v n xs) (hb : b' ≤ b) : W.ownsRow b' e s v n xs := by
  refine ⟨h.1, ?_⟩
  rcases h.2 with h2 | ⟨g, cap, cur, hv, hg, r⟩
  · exact Or.inl h2
  · exact Or.inr ⟨g, cap, cur, hv, Nat.le_trans hb hg, r⟩
theorem own_below {W W' : World} {b : Nat} {e : TypeId} {s : Nat} {v : Value} {n : Nat} {xs : List Value} (h : W.ownsRow b e s v n xs) (hb : Below W.heap.size W W') : W'.ownsRow b e s v n xs :=
  h.kept (row := none) ⟨hb.os, hb.tape, hb.output, hb.size, fun k hk _ => hb.block k hk⟩ (by cases v.ownBlock <;> simp)
theorem own_cells {W : World} {base g n c : Nat} {l : List Int} (h : W.ownsRow base 5 1 (.slice (some ⟨g, 0, none⟩) n c) n (bs l)) :
    ∃ cur : List Value, W.heap[g]? = some (.cells cur.toArray 5 (0, 0)) ∧ cur.length = c ∧ cur.take n = bs l ∧ base ≤ g ∧ n ≤ c ∧ c ≤ maxLen := by
  rcases h.2 with ⟨h1, _⟩ | ⟨g', cap, cur, hv, hb, hg, h1, h2, h3, h4⟩
  · cases h1
  · simp only [Value.slice.injEq, Option.some.injEq, Addr.mk.injEq] at hv
    obtain ⟨⟨rfl, _, _⟩, _, rfl⟩ := hv
    exact ⟨cur.toList, by simpa using hg, by simpa using h3, by simpa using h4, hb, h1, h2⟩
theorem row_of_block {W : World} {g n : Nat} {cur : List Value} {l : List Int} (h : W.heap[g]? = some (.cells cur.toArray 5 (0, 0))) (ht : cur.take n = bs l) : Row W (some ⟨g, 0, none⟩) (bs l) := fun i v hv => by
  refine ⟨_, rfl, ?_⟩
  have e : (⟨g, 0, none⟩ : Addr).add i = ⟨g, i, none⟩ := by unfold Addr.add; split <;> simp_all
  rw [e, cell_of_row _ _ _ _ _ _ h]
  rw [← ht, List.getElem?_take] at hv
  split at hv
  · simpa using hv
  · cases hv
theorem row_drop {W : World} {A : Option Addr} {l : List Int} {n c k : Nat} (hl : l.length = n) (hnc : n ≤ c) (hr : Row W A (bs l)) : Row W (cutA A c k) (bs (l.drop k)) := by
  have := hr.cut (c := c) (lo := k) hnc
  rw [List.take_of_length_le (by simp [bs]; omega)] at this
  simpa [bs] using this
theorem app_step {w : World} {ops : Array Oper} {rest : List Oper} {o : Oper} {a : Act} {Q : Exit → Act → World → Prop} (hgd : o.guard = none) (s x : Operand)
    (ho : o.op = .call { callee := .builtin .append, args := #[s, x], argTypes := #[31, 31] }) (base : Nat) (A0 : Option Addr) (n c0 : Nat) (l : List Int) (hs : a.eval s = .slice A0 n c0) (hown : w.ownsRow base 5 1 (.slice A0 n c0) n (bs l))
    (A : Option Addr) (m c : Nat) (l2 : List Int) (hx : a.eval x = .slice A m c) (hl : l2.length = m) (hr : Row w A (bs l2)) (hz : A = none → m = 0 ∧ c = 0) (hb : n + m ≤ 140737488355328) (hbase : base ≤ w.heap.size)
    (h : ∀ A' n' c' w', n' = n + m → w'.ownsRow base 5 1 (.slice A' n' c') n' (bs (l ++ l2)) → Below base w w' → wpList Try.prog ops Q rest (a.put o.dst (.slice A' n' c')) w') : wpList Try.prog ops Q (o :: rest) a w := by
  obtain ⟨i0, hi0, hz0, hz1, hz2⟩ := info_parts Try_info8
  cases A with
  | none =>
    obtain ⟨rfl, rfl⟩ := hz rfl
    obtain rfl := List.eq_nil_of_length_eq_zero hl
    refine wpList_append_own_none hgd s x 31 ho base 5 i0 1 Try.underlying31 hi0 _ n (bs l) hs hown hx ?_
    exact h A0 n c0 w rfl (by simpa using hown) (Below.refl _ _)
  | some ad =>
    refine wpList_append_own _ hgd s x 31 ho base 5 i0 (.int .u8 0) 1 1 Try.underlying31 hi0 hz0 hz1 hz2 rfl (by omega) _ n (bs l) hs hown ad m c (bs l2) hx (by rw [bs_len, hl]; omega) (bcells hr) (bs_one _) (by unfold maxLen; omega) (by omega) hbase ?_
    intro v' w2 ho2 hg2 _
    obtain ⟨A', c', rfl⟩ := own_form ho2
    refine h A' (n + m) c' w2 rfl (by rw [← bs_app]; exact ho2) ?_
    exact (Below.refl base w).grown hg2 hbase (fun k hk => (hown.lt k hk).1)
/-- .. as a step of a region that draws its order. -/
theorem app_reg {w : World} {ops : Array Oper} {o : Oper} {a : Act} {K : Act → World → Prop} {Q : Exit → Act → World → Prop} {E : Prop} (hgd : o.guard = none) (s x : Operand)
    (ho : o.op = .call { callee := .builtin .append, args := #[s, x], argTypes := #[31, 31] }) (B : Nat) (A0 : Option Addr) (n c0 : Nat) (l : List Int) (hs : a.eval s = .slice A0 n c0) (hown : w.ownsRow B 5 1 (.slice A0 n c0) n (bs l))
    (A : Option Addr) (m c : Nat) (l2 : List Int) (hx : a.eval x = .slice A m c) (hl : l2.length = m) (hr : Row w A (bs l2)) (hz : A = none → m = 0 ∧ c = 0) (N : Nat) (hN : n + m = N) (hb : N ≤ 140737488355328) (hbase : B ≤ w.heap.size)
    (h : ∀ A' c' w', w'.ownsRow B 5 1 (.slice A' N c') N (bs (l ++ l2)) → w.grownBy w' (Value.slice A0 n c0).ownBlock → K (a.put o.dst (.slice A' N c')) w') :
    if Region.wanted o (yielded ops a.tmps) = true then Oper.wp Try.prog o a w K Q else E := by
  obtain ⟨i0, hi0, hz0, hz1, hz2⟩ := info_parts Try_info8
  rw [if_pos (by simp [Region.wanted, hgd])]
  subst hN
  cases A with
  | none =>
    obtain ⟨rfl, rfl⟩ := hz rfl
    obtain rfl := List.eq_nil_of_length_eq_zero hl
    have hrun := run_append_owned_none (P := Try.prog) (w := w) B 31 o.type 5 i0 1 Try.underlying31 hi0 _ n (bs l) hown
    unfold Oper.wp
    simp [execOp, ho, resolve, invoke, builtin, hs, hx, hrun, Result.andThen]
    exact h A0 c0 w (by simpa using hown) ⟨rfl, rfl, rfl, Nat.le_refl _, fun _ _ _ => rfl⟩
  | some ad =>
    refine wp_append_own w s x 31 ho B 5 i0 (.int .u8 0) 1 1 Try.underlying31 hi0 hz0 hz1 hz2 rfl (by omega) _ n (bs l) hs hown ad m c (bs l2) hx (by rw [bs_len, hl]; omega) (bcells hr) (bs_one _) (by unfold maxLen; omega) (by omega) hbase ?_
    intro v' w2 ho2 hg2 _
    obtain ⟨A', c', rfl⟩ := own_form ho2
    exact h A' c' w2 (by rw [← bs_app]; exact ho2) hg2
end Go.Proofs.Ytednkcjmlpgipaa
/-
  A joiner as it lies in memory.
-/
namespace Go.Proofs.Ytednkcjmlpgipaa
set_option maxRecDepth 4000
open Go.RowKit Go.Maps
namespace Fg
set_option linter.unusedVariables false

theorem law32 : Keyed Try.prog 23 := int_keyed Try.underlying23
theorem wf32 {t : Nat} (h : t < 4294967296) : (Lit.int .u32 (t : Int)).wf = true := by
  simp [Lit.wf, IntKind.min, IntKind.max, IntKind.signed, IntKind.bits]
  omega
theorem key32 {t : Nat} (h : t < 4294967296) : keyOf Try.prog 23 (.int .u32 (t : Int)) = some (.int .u32 (t : Int)) := keyOf_int_mk Try.underlying23 (wf32 h)
/-- An element reads as itself. -/
def tok (v : Value) : Option (DataW Value × List MemPlace) := some (.held v, [])
theorem tok_inj {v v' : Value} {ps : List MemPlace} (h : tok v = some (.held v', ps)) : v = v' := by
  simp [tok] at h
  exact h.1
/-- A piece as a value. -/
def pv (x : Pc) (A : Option Addr) (k c : Nat) : Array Value := #[.int .u32 (x.t : Int), .int .u8 (x.f : Int), .int .u16 (x.s : Int), .int .u16 (x.n : Int), .int .u32 (x.p : Int), .slice A k c]
def zpc : Value := .agg #[.int .u32 0, .int .u8 0, .int .u16 0, .int .u16 0, .int .u32 0, .slice none 0 0]
theorem zeroP (w : World) : (zeroValue 33).run Try.prog w = .ok zpc w := by kernel_rfl
theorem field1 (w : World) (v0 v1 v2 v3 v4 v5 : Value) (h : v1.oneCell' = true) : (Instr.field 33 (.agg #[v0, v1, v2, v3, v4, v5]) 1).run Try.prog w = .ok v1 w := by
  cases v1 <;> first | kernel_rfl | (simp [Value.oneCell'] at h)
theorem field5 (w : World) (v0 v1 v2 v3 v4 v5 : Value) (h : v5.oneCell' = true) : (Instr.field 33 (.agg #[v0, v1, v2, v3, v4, v5]) 5).run Try.prog w = .ok v5 w := by
  cases v5 <;> first | kernel_rfl | (simp [Value.oneCell'] at h)
/-- A slice that reads as bytes, in blocks of F. -/
structure Sl (w : World) (F : Nat → Prop) (A : Option Addr) (k c : Nat) (l : List Int) : Prop where
  len : l.length = k
  row : Row w A (bs l)
  nil : A = none → k = 0 ∧ c = 0
  ins : ∀ a, A = some a → F a.block
theorem Sl.frame {W W' : World} {F G : Nat → Prop} {A : Option Addr} {k c : Nat} {l : List Int} (h : Sl W G A k c l) (hk : Kp W W' F) (hd : ∀ b, G b → ¬ F b) : Sl W' G A k c l :=
  ⟨h.len, Row.frame h.row hk (fun a e => hd _ (h.ins a e)), h.nil, h.ins⟩
theorem Sl.mono {w : World} {F G : Nat → Prop} {A : Option Addr} {k c : Nat} {l : List Int} (h : Sl w F A k c l) (hi : ∀ b, F b → G b) : Sl w G A k c l := ⟨h.len, h.row, h.nil, fun a e => hi _ (h.ins a e)⟩
def kl (t : Nat) : Lit := .int .u32 (t : Int)
theorem kl_is (t : Nat) : WideAt.IsKeyLit (kl t) := by simp [kl, WideAt.IsKeyLit]
theorem kl_ne {t t' : Nat} (h : t' ≠ t) : kl t' ≠ kl t := by
  intro e
  unfold kl at e
  injection e with _ e
  exact h (by exact_mod_cast e)
/-- The map of what is kept. -/
structure View (D : DataW Value) (K : List Pc) (w : World) (F : Nat → Prop) : Prop where
  size : Maps.size D = K.length
  none : ∀ t, look K t = none → Maps.has D (kl t) = false
  some : ∀ t x, look K t = some x → Maps.has D (kl t) = true ∧ ∃ A k c, (∀ z, D.atKey (kl t) z = .held (.agg (pv x A k c))) ∧ Sl w F A k c x.d
theorem View.frame {W W' : World} {D : DataW Value} {K : List Pc} {F G : Nat → Prop} (h : View D K W G) (hk : Kp W W' F) (hd : ∀ b, G b → ¬ F b) : View D K W' G :=
  ⟨h.size, h.none, fun t x hx => by obtain ⟨h1, A, k, c, h2, h3⟩ := h.some t x hx; exact ⟨h1, A, k, c, h2, h3.frame hk hd⟩⟩
theorem View.mono {D : DataW Value} {K : List Pc} {w : World} {F G : Nat → Prop} (h : View D K w F) (hi : ∀ b, F b → G b) : View D K w G :=
  ⟨h.size, h.none, fun t x hx => by obtain ⟨h1, A, k, c, h2, h3⟩ := h.some t x hx; exact ⟨h1, A, k, c, h2, h3.mono hi⟩⟩
theorem view_nil (w : World) (F : Nat → Prop) : View (.map []) [] w F := ⟨rfl, fun t _ => rfl, fun t x h => by cases h⟩
theorem view_put {D : DataW Value} {K : List Pc} {w : World} {F : Nat → Prop} (h : View D K w F) (hT : Tidy D) (x : Pc) (hx : look K x.t = Option.none) {A : Option Addr} {k c : Nat} (hs : Sl w F A k c x.d) :
    View (D.put (kl x.t) (.held (.agg (pv x A k c)))) (K ++ [x]) w F := by
  refine ⟨?_, fun t ht => ?_, fun t y hy => ?_⟩
  · rw [size_put hT, h.none _ hx, h.size]
    simp
  · rw [look_app] at ht
    split at ht
    · rename_i e
      rw [ht] at e
      cases e
    · rename_i e
      split at ht
      · cases ht
      · rename_i e2
        have hn : look K t = Option.none := by simpa using e
        rw [has_put_other (kl_ne (fun e => e2 e.symm))]
        exact h.none t hn
  · rw [look_app] at hy
    split at hy
    · have hne : t ≠ x.t := fun e => by rw [e, hx] at hy; cases hy
      obtain ⟨h1, A', k', c', h2, h3⟩ := h.some t y hy
      exact ⟨by rw [has_put_other (kl_ne hne)]; exact h1, A', k', c', fun z => by rw [atKey_put_other (kl_ne hne)]; exact h2 z, h3⟩
    · split at hy
      · rename_i e2
        injection hy with hy
        subst hy
        rw [← e2]
        exact ⟨has_put_same hT.isMap (kl_is _) _, A, k, c, fun z => atKey_put_same hT.isMap (kl_is _) _ z, hs⟩
      · cases hy
theorem view_del {D : DataW Value} {K : List Pc} {w : World} {F : Nat → Prop} (h : View D K w F) (hT : Tidy D) (ha : Apart K) (t : Nat) : View (D.del (kl t)) (del K t) w F := by
  refine ⟨?_, fun t' ht => ?_, fun t' y hy => ?_⟩
  · cases hl : look K t with
    | none => rw [del_of_not_has (h.none t hl), del_of_none hl, h.size]
    | some x =>
      have h1 := (del_of_some ha hl).2
      have h2 := size_del hT (k := kl t)
      rw [(h.some t x hl).1, h.size] at h2
      simp at h2
      omega
  · by_cases e : t' = t
    · subst e
      exact has_del_same
    · rw [look_del_other e] at ht
      rw [has_del_other (kl_ne e)]
      exact h.none t' ht
  · by_cases e : t' = t
    · subst e
      rw [look_del_same] at hy
      cases hy
    · rw [look_del_other e] at hy
      obtain ⟨h1, A', k', c', h2, h3⟩ := h.some t' y hy
      exact ⟨by rw [has_del_other (kl_ne e)]; exact h1, A', k', c', fun z => by rw [atKey_del_other (kl_ne e)]; exact h2 z, h3⟩
/-- The map, in block m. -/
def MK (m : Nat) (K : List Pc) (w : World) (F : Nat → Prop) : Prop :=
  ∃ D, w.ownsMap Try.prog 23 tok m K.length D ∧ View D K w F ∧ F m ∧ Apart K ∧ ∀ k, F k → k < w.heap.size
theorem MK_fr (m : Nat) (K : List Pc) : Fr (MK m K) := ⟨fun w w' F G ⟨D, h, hv, h2, ha, h3⟩ hk hd => ⟨D, by
    obtain ⟨es, clock, hh, r⟩ := h
    exact ⟨es, clock, (hk.block m (h3 m h2) (hd m h2)).trans hh, r⟩, hv.frame hk hd, h2, ha, fun k hk2 => Nat.lt_of_lt_of_le (h3 k hk2) hk.size⟩, fun w F ⟨D, h, hv, h2, ha, h3⟩ => h3⟩
theorem mk_new (w : World) : MK w.heap.size [] (w.alloc (.map #[] 0)) (fun k => k = w.heap.size) := ⟨_, World.ownsMap_made w _ _ _, view_nil _ _, rfl, List.Pairwise.nil, fun k hk => by subst hk; simp⟩
theorem mk_none {m : Nat} {K : List Pc} {w : World} {F : Nat → Prop} (h : MK m K w F) {t : Nat} (ht : t < 4294967296) (hl : look K t = none) :
    (Instr.lookup 139 (.map (some m)) (.int .u32 (t : Int)) false).run Try.prog w = .ok zpc w ∧
      (Instr.lookup 139 (.map (some m)) (.int .u32 (t : Int)) true).run Try.prog w = .ok (.tuple #[zpc, .bool false]) w := by
  obtain ⟨D, h, hv, _⟩ := h
  have hn := hv.none t hl
  have at0 : D.atKey (kl t) (.held zpc) = .held zpc := atKey_of_not_has hn _
  obtain ⟨v, ps, h1, h2⟩ := h.lookup law32 Try.underlying139 (zeroP w) (zd := .held zpc) (zp := []) rfl (key32 ht)
  obtain ⟨v', ps', h3, h4⟩ := h.look_ok law32 Try.underlying139 (zeroP w) (zd := .held zpc) (zp := []) rfl (key32 ht)
  have e1 : v = zpc := by
    have : tok v = some (D.atKey (kl t) (.held zpc), ps) := h2
    rw [at0] at this
    exact tok_inj this
  have e2 : v' = zpc := by
    have : tok v' = some (D.atKey (kl t) (.held zpc), ps') := h4
    rw [at0] at this
    exact tok_inj this
  have hn' : Maps.has D (.int .u32 (t : Int)) = false := hn
  rw [e1] at h1
  rw [e2, hn'] at h3
  exact ⟨h1, h3⟩
theorem mk_at {m : Nat} {K : List Pc} {w : World} {F : Nat → Prop} (h : MK m K w F) {t : Nat} {x : Pc} (ht : t < 4294967296) (hl : look K t = some x) :
    ∃ A k c, Sl w F A k c x.d ∧ ∀ w' : World, w'.heap[m]? = w.heap[m]? → (Instr.lookup 139 (.map (some m)) (.int .u32 (t : Int)) false).run Try.prog w' = .ok (.agg (pv x A k c)) w' ∧
      (Instr.lookup 139 (.map (some m)) (.int .u32 (t : Int)) true).run Try.prog w' = .ok (.tuple #[.agg (pv x A k c), .bool true]) w' := by
  obtain ⟨D, h, hv, _⟩ := h
  obtain ⟨hh, A, k, c, hat, hs⟩ := hv.some t x hl
  refine ⟨A, k, c, hs, fun w' hw => ?_⟩
  have h' : w'.ownsMap Try.prog 23 tok m K.length D := by
    obtain ⟨es, clock, hb, r⟩ := h
    exact ⟨es, clock, hw.trans hb, r⟩
  obtain ⟨v, ps, h1, h2⟩ := h'.lookup law32 Try.underlying139 (zeroP w') (zd := .held zpc) (zp := []) rfl (key32 ht)
  obtain ⟨v', ps', h3, h4⟩ := h'.look_ok law32 Try.underlying139 (zeroP w') (zd := .held zpc) (zp := []) rfl (key32 ht)
  have e1 : v = .agg (pv x A k c) := by
    have : tok v = some (D.atKey (kl t) (.held zpc), ps) := h2
    rw [hat] at this
    exact tok_inj this
  have e2 : v' = .agg (pv x A k c) := by
    have : tok v' = some (D.atKey (kl t) (.held zpc), ps') := h4
    rw [hat] at this
    exact tok_inj this
  have hn' : Maps.has D (.int .u32 (t : Int)) = true := hh
  rw [e1] at h1
  rw [e2, hn'] at h3
  exact ⟨h1, h3⟩
theorem mk_some {m : Nat} {K : List Pc} {w : World} {F : Nat → Prop} (h : MK m K w F) {t : Nat} {x : Pc} (ht : t < 4294967296) (hl : look K t = some x) :
    ∃ A k c, Sl w F A k c x.d ∧ (Instr.lookup 139 (.map (some m)) (.int .u32 (t : Int)) false).run Try.prog w = .ok (.agg (pv x A k c)) w ∧
      (Instr.lookup 139 (.map (some m)) (.int .u32 (t : Int)) true).run Try.prog w = .ok (.tuple #[.agg (pv x A k c), .bool true]) w := by
  obtain ⟨A, k, c, hs, h⟩ := mk_at h ht hl
  exact ⟨A, k, c, hs, h w rfl⟩
theorem MK.alloc {m : Nat} {K : List Pc} {W : World} {F : Nat → Prop} (h : MK m K W F) (o : Obj) : MK m K (W.alloc o) F :=
  (MK_fr m K).frame W _ (fun _ => False) F h (Kp.below ((Below.refl _ _).alloc (Nat.le_refl _) _)) (fun _ _ e => e)
theorem MK.lt {m : Nat} {K : List Pc} {w : World} {F : Nat → Prop} (h : MK m K w F) : m < w.heap.size := by
  obtain ⟨D, h, _⟩ := h
  exact h.lt
/-- .. in all worlds with one block more. -/
theorem mk_some' {m : Nat} {K : List Pc} {w : World} {F : Nat → Prop} (h : MK m K w F) {t : Nat} {x : Pc} (ht : t < 4294967296) (hl : look K t = some x) :
    ∃ A k c, Sl w F A k c x.d ∧ (∀ o, (Instr.lookup 139 (.map (some m)) (.int .u32 (t : Int)) false).run Try.prog (w.alloc o) = .ok (.agg (pv x A k c)) (w.alloc o)) ∧
      ∀ o, (Instr.lookup 139 (.map (some m)) (.int .u32 (t : Int)) true).run Try.prog (w.alloc o) = .ok (.tuple #[.agg (pv x A k c), .bool true]) (w.alloc o) := by
  have hlt := h.lt
  obtain ⟨A, k, c, hs, h⟩ := mk_at h ht hl
  have e : ∀ o, (w.alloc o).heap[m]? = w.heap[m]? := fun o => ((Below.refl w.heap.size w).alloc (Nat.le_refl _) o).block _ hlt
  exact ⟨A, k, c, hs, fun o => (h _ (e o)).1, fun o => (h _ (e o)).2⟩
/-- The joiner, in block j. -/
def JB (j : Nat) (h : Int) (K : List Pc) (w : World) (F : Nat → Prop) : Prop :=
  ∃ m, Bk w j #[.map (some m), .int .i64 h] 141 ∧ MK m K w F ∧ F j ∧ (∀ x ∈ K, x.Ok)
theorem JB_fr (j : Nat) (h : Int) (K : List Pc) : Fr (JB j h K) := ⟨fun w w' F G ⟨m, h, hm, hf, ho⟩ hk hd => ⟨m, (hk.block j ((MK_fr m K).bound _ _ hm j hf) (hd j hf)).trans h, (MK_fr m K).frame w w' F G hm hk hd, hf, ho⟩, fun w F ⟨m, h, hm, hf, ho⟩ => (MK_fr m K).bound _ _ hm⟩
theorem JB.cells {j : Nat} {x : Int} {K : List Pc} {w : World} {F : Nat → Prop} (h : JB j x K w F) :
    ∃ m, w.cell? ⟨j, 0, none⟩ = some (.map (some m)) ∧ w.cell? ⟨j, 1, none⟩ = some (.int .i64 x) ∧ MK m K w F ∧ w.frozen? ⟨j, 1, none⟩ = false := by
  obtain ⟨m, hb, hm, _⟩ := h
  exact ⟨m, (hb.cell 0).trans rfl, (hb.cell 1).trans rfl, hm, hb.frozen 1⟩
def JA (j : Nat) (K : List Pc) : World → (Nat → Prop) → Prop := JB j (held K : Int) K
theorem JA_fr (j : Nat) (K : List Pc) : Fr (JA j K) := JB_fr j _ K
theorem JB.next {j : Nat} {x : Int} {K : List Pc} {W W' : World} {F : Nat → Prop} (h : JB j x K W F) (hb : Below W.heap.size W W') : JB j x K W' F := (JB_fr j x K).frame W W' (fun _ => False) F h (Kp.below hb) (fun _ _ e => e)
theorem JA.next {j : Nat} {K : List Pc} {W W' : World} {F : Nat → Prop} (h : JA j K W F) (hb : Below W.heap.size W W') : JA j K W' F := JB.next h hb
theorem JB.lt {j : Nat} {x : Int} {K : List Pc} {W : World} {F : Nat → Prop} (h : JB j x K W F) {k : Nat} (hk : F k) : k < W.heap.size := (JB_fr j x K).bound W F h k hk
/-- An element goes. -/
theorem mk_drop {m : Nat} {K : List Pc} {w : World} {F : Nat → Prop} (h : MK m K w F) {t : Nat} {x : Pc} (ht : t < 4294967296) (hx : look K t = some x) (ty : TypeId) :
    ∃ w', (Builtin.delete_ #[139, 23] ty #[.map (some m), .int .u32 (t : Int)]).run Try.prog w = .ok (.tuple #[]) w' ∧ MK m (del K t) w' F ∧ w.grownBy w' (some m) := by
  obtain ⟨D, h, hv, hf, ha, hlt⟩ := h
  obtain ⟨w', h1, h2, h3⟩ := h.drop law32 Try.underlying139 (key32 ht) ty
  have hv2 := view_del hv (h.tidy law32) ha t
  have hk : Kp w w' (fun k => k = m) := Kp.grown h3.grown (fun g e => by injection e with e; exact e.symm)
  refine ⟨w', h1, ⟨_, by rw [← hv2.size]; exact owns_tight h2, ⟨hv2.size, hv2.none, fun t' y hy => ?_⟩, hf, apart_del ha t, fun k hk2 => Nat.lt_of_lt_of_le (hlt k hk2) hk.size⟩, h3.grown⟩
  obtain ⟨g1, A, k, c, g2, g3⟩ := hv2.some t' y hy
  obtain ⟨es, clock, hh⟩ := owns_block h
  refine ⟨g1, A, k, c, g2, g3.len, ?_, g3.nil, g3.ins⟩
  refine Row.keep g3.row fun p v hp => ?_
  by_cases e : p.block = m
  · unfold World.cell? at hp
    rw [e, hh] at hp
    cases hp
  · rw [World.cell?_of_block (w := w) (w' := w') (a := p) (hk.block _ (block_lt_of_cell hp) e)]
    exact hp
/-- An element comes. -/
theorem mk_put {m : Nat} {K : List Pc} {w : World} {F : Nat → Prop} (h : MK m K w F) (x : Pc) (hx : look K x.t = none) (hok : x.t < 4294967296) (hn : K.length < 1000000000) {A : Option Addr} {k c : Nat} (hs : Sl w F A k c x.d) :
    ∃ w', (Instr.mapUpdate 139 (.map (some m)) (.int .u32 (x.t : Int)) (.agg (pv x A k c))).run Try.prog w = .ok () w' ∧ MK m (K ++ [x]) w' F ∧ w.grownBy w' (some m) := by
  obtain ⟨D, h, hv, hf, ha, hlt⟩ := h
  obtain ⟨w', h1, h2, h3⟩ := h.store law32 Try.underlying139 (by unfold maxLen; omega) (key32 hok) (val := .agg (pv x A k c)) (d := .held (.agg (pv x A k c))) (ps := []) rfl
  have hv2 := view_put hv (h.tidy law32) x hx hs
  have hk : Kp w w' (fun k => k = m) := Kp.grown h3.grown (fun g e => by injection e with e; exact e.symm)
  refine ⟨w', h1, ⟨_, by rw [← hv2.size]; exact owns_tight h2, ⟨hv2.size, hv2.none, fun t' y hy => ?_⟩, hf, apart_app ha hx, fun k hk2 => Nat.lt_of_lt_of_le (hlt k hk2) hk.size⟩, h3.grown⟩
  obtain ⟨g1, A, k, c, g2, g3⟩ := hv2.some t' y hy
  obtain ⟨es, clock, hh⟩ := owns_block h
  refine ⟨g1, A, k, c, g2, g3.len, ?_, g3.nil, g3.ins⟩
  refine Row.keep g3.row fun p v hp => ?_
  by_cases e : p.block = m
  · unfold World.cell? at hp
    rw [e, hh] at hp
    cases hp
  · rw [World.cell?_of_block (w := w) (w' := w') (a := p) (hk.block _ (block_lt_of_cell hp) e)]
    exact hp
end Fg
end Go.Proofs.Ytednkcjmlpgipaa
/-
  A joiner is made; what is asked of it: has, Held, Len: and of none.
-/
namespace Go.Proofs.Ytednkcjmlpgipaa
set_option maxRecDepth 4000
open Go.RowKit Go.Maps
namespace Fg
set_option linter.unusedVariables false

theorem ret_b {a b : Bool} (h : a = b) : Ending.returned (.bool a) = .returned (.bool b) := by rw [h]
theorem JA.cells {j : Nat} {K : List Pc} {w : World} {F : Nat → Prop} (h : JA j K w F) :
    ∃ m, w.cell? ⟨j, 0, none⟩ = some (.map (some m)) ∧ w.cell? ⟨j, 1, none⟩ = some (.int .i64 (held K : Int)) ∧ MK m K w F ∧ w.frozen? ⟨j, 1, none⟩ = false := by
  obtain ⟨m, hb, hm, _⟩ := h
  exact ⟨m, (hb.cell 0).trans rfl, (hb.cell 1).trans rfl, hm, hb.frozen 1⟩
theorem new_any (W : World) :
    Calls Try.prog 49 #[] W fun e w' => ∃ j F, e = .returned (.pointer (some ⟨j, 0, none⟩)) ∧ JA j [] w' F ∧ (∀ k, F k → W.heap.size ≤ k) ∧ Below W.heap.size W w' := by
  have hmk := @run_makeMap Try.prog
  go_enter Try.func49, Try.ntmps49
  go_wp2
  go_ret
  refine ⟨W.heap.size + 1, fun k => k = W.heap.size ∨ k = W.heap.size + 1, rfl, ⟨W.heap.size, ?_, ⟨.map [], ?_, view_nil _ _, .inl rfl, List.Pairwise.nil, fun k hk => ?_⟩, .inr rfl, fun x hx => by cases hx⟩, fun k hk => by omega, ((Below.refl _ _).alloc (Nat.le_refl _) _).alloc (by simp) _⟩
  · have := Bk.new (W.alloc (.map #[] 0)) #[.map (some W.heap.size), .int .i64 0] 141
    show Bk _ _ #[.map (some W.heap.size), .int .i64 0] _
    simpa using this
  · exact (World.ownsMap_made W Try.prog 23 tok).alloc _
  · simp; omega
theorem s_new {W w : World} {R : World → (Nat → Prop) → Prop} (h : Now W w R) (hR : Fr R) :
    Calls Try.prog 49 #[] w fun e w' => ∃ j, e = .returned (.pointer (some ⟨j, 0, none⟩)) ∧ Now W w' (star (JA j []) R) :=
  (new_any w).mono fun e w' ⟨j, F, he, hj, hn, hb⟩ => ⟨j, he, h.more hR hb hj hn (fun k hk => (JA_fr j []).bound _ _ hj k hk)⟩
theorem held_any (W : World) (F : Nat → Prop) (j : Nat) (K : List Pc) (h : JA j K W F) :
    Calls Try.prog 66 #[.pointer (some ⟨j, 0, none⟩)] W fun e w' => e = .returned (.int .i64 (held K : Int)) ∧ W = w' := by
  obtain ⟨m, c0, c1, hm, _⟩ := h.cells
  clear h
  generalize held K = x at c1 ⊢
  go_enter Try.func66, Try.ntmps66
  go_wp2
  go_ret
  exact ⟨rfl, rfl⟩
theorem held_nil (W : World) : Calls Try.prog 66 #[.pointer none] W fun e w' => e = .returned (.int .i64 0) ∧ W = w' := by
  go_enter Try.func66, Try.ntmps66
  go_wp2
  go_ret
  exact ⟨rfl, rfl⟩
theorem has_any (W : World) (F : Nat → Prop) (j t : Nat) (K : List Pc) (h : JA j K W F) (ht : t < 4294967296) :
    Calls Try.prog 82 #[.pointer (some ⟨j, 0, none⟩), .int .u32 (t : Int)] W fun e w' => e = .returned (.bool (look K t).isSome) ∧ Below W.heap.size W w' := by
  obtain ⟨m, c0, c1, hm, _⟩ := h.cells
  clear h c1
  cases hl : look K t with
  | none =>
    have hr := (mk_none hm ht hl).2
    unfold zpc at hr
    clear hm hl ht
    go_enter Try.func82, Try.ntmps82
    go_wp2
    go_ret
    exact ⟨rfl, by first | exact (Below.refl _ _).alloc (Nat.le_refl _) _ | exact ((Below.refl _ _).alloc (Nat.le_refl _) _).setCell (by simp) _⟩
  | some x =>
    obtain ⟨A, k, c, hs, _, hr⟩ := mk_some hm ht hl
    unfold pv at hr
    clear hm hl ht hs
    go_enter Try.func82, Try.ntmps82
    go_wp2
    go_ret
    exact ⟨rfl, by first | exact (Below.refl _ _).alloc (Nat.le_refl _) _ | exact ((Below.refl _ _).alloc (Nat.le_refl _) _).setCell (by simp) _⟩
end Fg
end Go.Proofs.Ytednkcjmlpgipaa
/-
  Whether one piece goes on with the next: the closure of bounds.
-/
namespace Go.Proofs.Ytednkcjmlpgipaa
set_option maxRecDepth 4000
open Go.RowKit Go.Maps
namespace Fg
set_option linter.unusedVariables false

theorem ceq (a b : Nat) : ((a : Int) == (b : Int)) = (a == b) := by
  rw [Bool.eq_iff_iff, beq_iff_eq, beq_iff_eq]
  omega
theorem and1 : ∀ f : Nat, f < 256 → bits .and .u8 (f : Int) 1 = ((f % 2 : Nat) : Int) := by decide +kernel
theorem and2 : ∀ f : Nat, f < 256 → bits .and .u8 (f : Int) 2 = ((f / 2 % 2 * 2 : Nat) : Int) := by decide +kernel
theorem and4 : ∀ f : Nat, f < 256 → bits .and .u8 (f : Int) 4 = ((f / 4 % 2 * 4 : Nat) : Int) := by decide +kernel
theorem e_en {f : Nat} (h : f < 256) : (bits .and .u8 (f : Int) 1 == 0) = !en f := by
  rw [and1 f h]
  unfold en
  rcases Nat.mod_two_eq_zero_or_one f with e | e <;> rw [e] <;> rfl
theorem n_en {f : Nat} (h : f < 256) : (bits .and .u8 (f : Int) 1 != 0) = en f := by
  unfold bne
  rw [e_en h, Bool.not_not]
theorem e_bg {f : Nat} (h : f < 256) : (bits .and .u8 (f : Int) 2 == 0) = !bg f := by
  rw [and2 f h]
  unfold bg
  rcases Nat.mod_two_eq_zero_or_one (f / 2) with e | e <;> rw [e] <;> rfl
theorem n_bg {f : Nat} (h : f < 256) : (bits .and .u8 (f : Int) 2 != 0) = bg f := by
  unfold bne
  rw [e_bg h, Bool.not_not]
theorem e_un {f : Nat} (h : f < 256) : (bits .and .u8 (f : Int) 4 == 0) = !un f := by
  rw [and4 f h]
  unfold un
  rcases Nat.mod_two_eq_zero_or_one (f / 4) with e | e <;> rw [e] <;> rfl
theorem n_un {f : Nat} (h : f < 256) : (bits .and .u8 (f : Int) 4 != 0) = un f := by
  unfold bne
  rw [e_un h, Bool.not_not]
theorem ofInt_8 (a : Nat) (ha : a < 256) : (BitVec.ofInt 8 (a : Int)).toNat = a := by
  rw [BitVec.ofInt_natCast, BitVec.toNat_ofNat]; exact Nat.mod_eq_of_lt (by omega)
theorem xor_8 {a b : Nat} (ha : a < 256) (hb : b < 256) : bits .xor .u8 (a : Int) (b : Int) = ((a ^^^ b : Nat) : Int) ∧ a ^^^ b < 256 := by
  have hx : a ^^^ b < 2 ^ 8 := Nat.xor_lt_two_pow (by omega) (by omega)
  refine ⟨?_, by omega⟩
  show IntKind.u8.wrap ((BitVec.ofInt 8 (a : Int) ^^^ BitVec.ofInt 8 (b : Int)).toNat : Int) = _
  rw [BitVec.toNat_xor, ofInt_8 a (by omega), ofInt_8 b (by omega)]
  simp only [IntKind.wrap, IntKind.signed, IntKind.bits]
  simp
  omega
theorem un_bit (f : Nat) : un f = f.testBit 2 := by
  unfold un
  rw [Nat.testBit_eq_decide_div_mod_eq]
  rcases Nat.mod_two_eq_zero_or_one (f / 4) with e | e <;> simp [e]
theorem e_xor {a b : Nat} (ha : a < 256) (hb : b < 256) : (bits .and .u8 (bits .xor .u8 (a : Int) (b : Int)) 4 == 0) = (un a == un b) := by
  rw [(xor_8 ha hb).1, e_un (xor_8 ha hb).2, un_bit, Nat.testBit_xor, ← un_bit, ← un_bit]
  cases un a <;> cases un b <;> rfl
end Fg
end Go.Proofs.Ytednkcjmlpgipaa
/-
  Whether one piece goes on with the next: the closure of bounds, walked.
-/
namespace Go.Proofs.Ytednkcjmlpgipaa
set_option maxRecDepth 4000
open Go.RowKit Go.Maps
namespace Fg
set_option linter.unusedVariables false

theorem lt_of_cell {W : World} {b i : Nat} {v : Value} (h : W.cell? ⟨b, i, none⟩ = some v) : b < W.heap.size := block_lt_of_cell h
theorem cell_alloc {W : World} {b i : Nat} {v : Value} (h : W.cell? ⟨b, i, none⟩ = some v) (o : Obj) : (W.alloc o).cell? ⟨b, i, none⟩ = some v := (World.cell?_alloc_lt W o ⟨b, i, none⟩ (block_lt_of_cell h)).trans h
theorem two_new (W : World) (o o' : Obj) : Below W.heap.size W ((W.alloc o).alloc o') := ((Below.refl _ _).alloc (Nat.le_refl _) _).alloc (by simp) _
set_option maxHeartbeats 1000000 in
theorem goes_any (W : World) (F : Nat → Prop) (b j t : Nat) (K : List Pc) (h : JA j K W F) (hok : ∀ x ∈ K, x.Ok) (hb : Bk W b #[.pointer (some ⟨j, 0, none⟩)] 97) (ht : t < 4294967296) :
    Calls Try.prog 109 #[.int .u32 (t : Int), .pointer (some ⟨b, 0, none⟩)] W fun e w' => e = .returned (.bool (goes K t)) ∧ Below W.heap.size W w' := by
  obtain ⟨m, c0, c1, hm, hfz⟩ := h.cells
  have hc := hb.cell 0
  simp only [Array.getElem?_singleton, if_true] at hc
  have hc1 := fun o => cell_alloc hc o
  have c01 := fun o => cell_alloc c0 o
  clear h c1 hb hfz
  obtain ⟨u, hu⟩ : ∃ u, (t + 1) % 4294967296 = u := ⟨_, rfl⟩
  have hul : u < 4294967296 := by omega
  have hG : goes K t = gon (look K t) (look K u) := by unfold goes fw; rw [hu]
  have HG := Lib.hid hG
  have hui : ((t : Int) + 1) % 4294967296 = (u : Int) := by omega
  clear hG
  obtain ⟨r, hr0⟩ : ∃ r, goes K t = r := ⟨_, rfl⟩
  rw [hr0] at HG ⊢
  clear hr0
  have hx : ∃ (q : Pc) (p : Bool) (A : Option Addr) (k c : Nat), Hid (look K t = if p then some q else none) ∧ q.Ok ∧ (Instr.lookup 139 (.map (some m)) (.int .u32 (t : Int)) true).run Try.prog W = .ok (.tuple #[.agg (pv q A k c), .bool p]) W := by
    cases hl : look K t with
    | none => exact ⟨⟨0, 0, 0, 0, 0, []⟩, false, none, 0, 0, rfl, ⟨by decide, by decide, by decide, by decide, by decide, fun c h => by cases h⟩, (mk_none hm ht hl).2⟩
    | some x =>
      obtain ⟨A, k, c, hs, _, hr⟩ := mk_some hm ht hl
      exact ⟨x, true, A, k, c, rfl, hok x (look_mem hl).1, hr⟩
  have hy : ∃ (q : Pc) (p : Bool) (A : Option Addr) (k c : Nat), Hid (look K u = if p then some q else none) ∧ q.Ok ∧ ∀ o, (Instr.lookup 139 (.map (some m)) (.int .u32 (u : Int)) true).run Try.prog (W.alloc o) = .ok (.tuple #[.agg (pv q A k c), .bool p]) (W.alloc o) := by
    cases hl : look K u with
    | none => exact ⟨⟨0, 0, 0, 0, 0, []⟩, false, none, 0, 0, rfl, ⟨by decide, by decide, by decide, by decide, by decide, fun c h => by cases h⟩, fun o => (mk_none (MK.alloc hm o) hul hl).2⟩
    | some x =>
      obtain ⟨A, k, c, hs, _, hr⟩ := mk_some' hm hul hl
      exact ⟨x, true, A, k, c, rfl, hok x (look_mem hl).1, hr⟩
  obtain ⟨q, p, A, k, c, hl, ho, hr⟩ := hx
  obtain ⟨q', p', A', k', c', hl', ho', hr'⟩ := hy
  unfold pv at hr hr'
  have e1 := e_en ho.f
  have e2 := e_bg ho'.f
  have e3 := e_xor ho.f ho'.f
  have E1 := Lib.hid e1
  have E2 := Lib.hid e2
  have E3 := Lib.hid e3
  clear e1 e2 e3 ho ho' hm hok hul hu ht
  obtain ⟨qt, qf, qs, qn, qp, qd⟩ := q
  obtain ⟨qt', qf', qs', qn', qp', qd'⟩ := q'
  simp only at hr hr' E1 E2 E3
  go_enter Try.func109, Try.ntmps109
  go_upto_region 3 with fail
  cases p with
  | false =>
    have HR : Hid (r = false) := Lib.hid (by rw [HG.out, hl.out]; rfl)
    cases p' with
    | false =>
      go_wp2_with fail
      go_ret
      exact ⟨ret_b HR.out.symm, two_new _ _ _⟩
    | true =>
      go_wp2_with fail
      go_ret
      exact ⟨ret_b HR.out.symm, two_new _ _ _⟩
  | true =>
    cases p' with
    | false =>
      have HR : Hid (r = false) := Lib.hid (by rw [HG.out, hl.out, hl'.out]; rfl)
      go_wp2_with fail
      go_ret
      exact ⟨ret_b HR.out.symm, two_new _ _ _⟩
    | true =>
      have HR : Hid (r = (!en qf && !bg qf' && qs == qs' && qn == qn' && un qf == un qf')) := Lib.hid (by rw [HG.out, hl.out, hl'.out]; rfl)
      clear HG hl hl' hr hr'
      obtain ⟨b1, hb1⟩ : ∃ b1, (!en qf) = b1 := ⟨_, rfl⟩
      obtain ⟨b2, hb2⟩ : ∃ b2, (!bg qf') = b2 := ⟨_, rfl⟩
      obtain ⟨b5, hb5⟩ : ∃ b5, (un qf == un qf') = b5 := ⟨_, rfl⟩
      have z1 := E1.out
      have z2 := E2.out
      have z3 := E3.out
      rw [hb1] at HR z1
      rw [hb2] at HR z2
      rw [hb5] at HR z3
      have zs := ceq qs qs'
      have zn := ceq qn qn'
      obtain ⟨b3, hb3⟩ : ∃ b3, (qs == qs') = b3 := ⟨_, rfl⟩
      obtain ⟨b4, hb4⟩ : ∃ b4, (qn == qn') = b4 := ⟨_, rfl⟩
      rw [hb3] at HR zs
      rw [hb4] at HR zn
      clear hb1 hb2 hb3 hb4 hb5 E1 E2 E3
      cases b1 with
      | false =>
        go_wp2_with fail
        go_ret
        exact ⟨ret_b (by rw [HR.out]; rfl), two_new _ _ _⟩
      | true =>
      cases b2 with
      | false =>
        go_wp2_with fail
        go_ret
        exact ⟨ret_b (by rw [HR.out]; rfl), two_new _ _ _⟩
      | true =>
      cases b3 with
      | false =>
        go_wp2_with fail
        go_ret
        exact ⟨ret_b (by rw [HR.out]; rfl), two_new _ _ _⟩
      | true =>
      cases b4 with
      | false =>
        go_wp2_with fail
        go_ret
        exact ⟨ret_b (by rw [HR.out]; rfl), two_new _ _ _⟩
      | true =>
      cases b5 with
      | false =>
        go_wp2_with fail
        go_ret
        exact ⟨ret_b (by rw [HR.out]; rfl), two_new _ _ _⟩
      | true =>
        go_wp2_with fail
        go_ret
        exact ⟨ret_b (by rw [HR.out]; rfl), two_new _ _ _⟩
end Fg
end Go.Proofs.Ytednkcjmlpgipaa
/-
  The program's set of TSNs and the document's, as they lie in memory.
-/
namespace Go.Proofs.Ytednkcjmlpgipaa
open Go.RowKit
namespace Gp
set_option linter.unusedVariables false

/-- The map holds just the TSNs whose ways are told. -/
def MapOk (D : DataW Unit) (c : Nat) (ws : List Nat) : Prop := (∀ t : Nat, t < 4294967296 → Maps.has D (.int .u32 (t : Int)) = decide (wy c t ∈ ws)) ∧ Maps.size D = ws.length
def psetT : TypeId := 138
def u32T : TypeId := 23
/-- The program's set, in block s; all its blocks are among F. -/
def PS0 (W : World) (F : Nat → Prop) (s : Nat) (st : St) : Prop :=
  ∃ m v D, Bk W s #[.int .u32 (st.cum : Int), .map (some m), v] 138 ∧ W.ownsMap Try.prog 23 (unitElem (H := Unit)) m st.ws.length D ∧ MapOk D st.cum st.ws ∧ Ir .u32 23 W v st.ds ∧
    F s ∧ F m ∧ (∀ g, v.ownBlock = some g → F g) ∧ (∀ k, F k → k < W.heap.size)
def PSet (W : World) (F : Nat → Prop) (s : Nat) (st : St) : Prop := PS0 W F s st ∧ st.Ok
theorem PS0.frame {W W' : World} {F G : Nat → Prop} {s : Nat} {st : St} (h : PS0 W G s st) (hk : Kp W W' F) (hd : ∀ b, G b → ¬ F b) : PS0 W' G s st := by
  obtain ⟨m, v, D, hb, hm, hM, hv, f1, f2, f3, f4⟩ := h
  have hg : ∀ b, G b → W'.heap[b]? = W.heap[b]? := fun b hb => hk.block b (f4 b hb) (hd b hb)
  refine ⟨m, v, D, (hg s f1).trans hb, ?_, hM, ?_, f1, f2, f3, fun k hk2 => Nat.lt_of_lt_of_le (f4 k hk2) hk.size⟩
  · obtain ⟨es, clock, hh, r⟩ := hm
    exact ⟨es, clock, (hg m f2).trans hh, r⟩
  · refine ⟨hv.1, ?_⟩
    rcases hv.2 with hn | ⟨g, cap, cur, rfl, hb2, hgg, rest⟩
    · exact .inl hn
    · exact .inr ⟨g, cap, cur, rfl, hb2, (hg g (f3 g rfl)).trans hgg, rest⟩
theorem PSet.frame {W W' : World} {F G : Nat → Prop} {s : Nat} {st : St} (h : PSet W G s st) (hk : Kp W W' F) (hd : ∀ b, G b → ¬ F b) : PSet W' G s st := ⟨h.1.frame hk hd, h.2⟩
/-- The document's set. -/
def DSet (W : World) (F : Nat → Prop) (s : Nat) (st : St) : Prop :=
  ∃ vw v, Bk W s #[.int .u32 (st.cum : Int), vw, v] 54 ∧ Ir .i64 2 W vw st.ws ∧ Ir .u32 23 W v st.ds ∧
    F s ∧ (∀ g, vw.ownBlock = some g → F g) ∧ (∀ g, v.ownBlock = some g → F g) ∧ (∀ k, F k → k < W.heap.size) ∧ st.Ok
theorem DSet.frame {W W' : World} {F G : Nat → Prop} {s : Nat} {st : St} (h : DSet W G s st) (hk : Kp W W' F) (hd : ∀ b, G b → ¬ F b) : DSet W' G s st := by
  obtain ⟨vw, v, hb, hw, hv, f1, f2, f3, f4, ok⟩ := h
  exact ⟨vw, v, (hk.block s (f4 s f1) (hd s f1)).trans hb, hw.frame hk (fun g hg => hd g (f2 g hg)), hv.frame hk (fun g hg => hd g (f3 g hg)), f1, f2, f3, fun k hk2 => Nat.lt_of_lt_of_le (f4 k hk2) hk.size, ok⟩
end Gp
end Go.Proofs.Ytednkcjmlpgipaa
/-
  Numbers that go round: the program's (serial) and the document's.
-/
namespace Go.Proofs.Ytednkcjmlpgipaa
open Go.RowKit
namespace Gp
set_option linter.unusedVariables false

theorem wrap_sub {a b : Nat} (ha : a < 4294967296) (hb : b < 4294967296) : IntKind.u32.wrap ((b : Int) - (a : Int)) = ((wy a b : Nat) : Int) := by
  rw [IntKind.wrap_u32]; unfold wy; omega
theorem wrap_add {a b : Nat} : IntKind.u32.wrap ((a : Int) + (b : Int)) = ((up a b : Nat) : Int) := by
  rw [IntKind.wrap_u32]; unfold up; omega
theorem way_any (a b : Nat) (w : World) (ha : a < 4294967296) (hb : b < 4294967296) :
    Calls Try.prog 108 #[.int .u32 (a : Int), .int .u32 (b : Int)] w fun e w' => e = .returned (.int .u32 (wy a b : Nat)) ∧ w = w' := by
  have hw := wrap_sub ha hb
  go_enter Try.func108, Try.ntmps108
  go_wp2
  go_ret
  exact ⟨rfl, rfl⟩
theorem span_any (a b : Nat) (w : World) (ha : a < 4294967296) (hb : b < 4294967296) :
    Calls Try.prog 77 #[.int .u32 (a : Int), .int .u32 (b : Int)] w fun e w' => e = .returned (.int .u32 (wy a b : Nat)) ∧ w = w' := by
  go_enter Try.func77, Try.ntmps77
  go_wp2_with (go_at_call 108; refine (way_any _ _ _ (by assumption) (by assumption)).mono ?_; rintro e w' ⟨rfl, rfl⟩)
  go_ret
  exact ⟨rfl, rfl⟩
theorem before_any (a b : Nat) (w : World) (ha : a < 4294967296) (hb : b < 4294967296) :
    Calls Try.prog 118 #[.int .u32 (a : Int), .int .u32 (b : Int)] w fun e w' => e = .returned (.bool (bfr a b)) ∧ w = w' := by
  have hlt := wy_lt a b
  have h0 : (a = b → bfr a b = false) ∧ (a ≠ b → bfr a b = decide (wy a b ≤ 2147483647)) := by
    unfold bfr
    refine ⟨fun e => ?_, fun e => ?_⟩
    · have : wy a b = 0 := by unfold wy; omega
      simp [this]
    · have : 1 ≤ wy a b := by unfold wy; omega
      simp [this]
  have H0 := Lib.hid h0
  clear h0
  have hx : bits .xor .u32 IntKind.u32.max 0 = 4294967295 := by decide +kernel
  have hsg : IntKind.u32.signed = false := rfl
  go_enter Try.func118, Try.ntmps118
  by_cases hab : a = b
  · have hz : ((a : Int) != (b : Int)) = false := by simp; omega
    have HA := Lib.hid hab
    clear hab
    go_wp2_with (go_at_call 108; refine (way_any _ _ _ (by assumption) (by assumption)).mono ?_; rintro e w' ⟨rfl, rfl⟩)
    go_ret
    exact ⟨by rw [H0.out.1 HA.out]; rfl, rfl⟩
  · have hz : ((a : Int) != (b : Int)) = true := by simp; omega
    go_wp2_with (go_at_call 108; refine (way_any _ _ _ (by assumption) (by assumption)).mono ?_; rintro e w' ⟨rfl, rfl⟩)
    go_ret
    refine ⟨?_, rfl⟩
    rw [H0.out.2 hab]
    simp
    try omega
theorem rway_any (a b : Nat) (w : World) (ha : a < 4294967296) (hb : b < 4294967296) :
    Calls Try.prog 56 #[.int .i64 (a : Int), .int .i64 (b : Int), .int .i64 4294967296] w fun e w' => e = .returned (.int .i64 (wy a b : Nat)) ∧ w = w' := by
  have h0 : (a ≤ b → ((wy a b : Nat) : Int) = (b : Int) - a) ∧ (b < a → ((wy a b : Nat) : Int) = 4294967296 + (b : Int) - a) := by unfold wy; omega
  have H0 := Lib.hid h0
  clear h0
  go_enter Try.func56, Try.ntmps56
  by_cases hab : a ≤ b
  · go_wp2
    go_ret
    exact ⟨ret_eq (H0.out.1 hab).symm, rfl⟩
  · go_wp2
    go_ret
    exact ⟨ret_eq (H0.out.2 (by omega)).symm, rfl⟩
theorem ret_b {a b : Bool} (h : a = b) : Ending.returned (.bool a) = .returned (.bool b) := by rw [h]
theorem bfr_int (a b : Nat) : bfr a b = (decide ((1 : Int) ≤ (wy a b : Nat)) && decide (((wy a b : Nat) : Int) ≤ 2147483647)) := by
  unfold bfr
  generalize wy a b = x
  by_cases h1 : 1 ≤ x
  · by_cases h2 : x ≤ 2147483647
    · rw [decide_eq_true (show 1 ≤ x ∧ x ≤ 2147483647 from ⟨h1, h2⟩), decide_eq_true (show (1 : Int) ≤ (x : Int) by omega), decide_eq_true (show (x : Int) ≤ 2147483647 by omega)]; rfl
    · rw [decide_eq_false (show ¬ (1 ≤ x ∧ x ≤ 2147483647) from fun h => h2 h.2), decide_eq_false (show ¬ (x : Int) ≤ 2147483647 by omega), Bool.and_false]
  · rw [decide_eq_false (show ¬ (1 ≤ x ∧ x ≤ 2147483647) from fun h => h1 h.1), decide_eq_false (show ¬ (1 : Int) ≤ (x : Int) by omega), Bool.false_and]
theorem rbefore_aux (x : Nat) (a b : Int) (r : Bool) (w : World) (h0 : r = (decide ((1 : Int) ≤ (x : Int)) && decide ((x : Int) ≤ 2147483647))) (hx : x < 4294967296)
    (ha : 0 ≤ a) (ha2 : a ≤ 4294967295) (hb : 0 ≤ b) (hb2 : b ≤ 4294967295)
    (HW : Hid (∀ W, Calls Try.prog 56 #[.int .i64 a, .int .i64 b, .int .i64 4294967296] W fun e w' => e = .returned (.int .i64 (x : Nat)) ∧ W = w')) :
    Calls Try.prog 89 #[.int .u32 a, .int .u32 b] w fun e w' => e = .returned (.bool r) ∧ w = w' := by
  have H0 := Lib.hid h0
  clear h0
  by_cases h1 : 1 ≤ x
  · have hd : decide ((1 : Int) ≤ (x : Int)) = true := decide_eq_true (by omega)
    go_enter Try.func89, Try.ntmps89
    go_wp2_with (go_at_call 56; refine (HW.out _).mono ?_; rintro e w' ⟨rfl, rfl⟩)
    go_ret
    exact ⟨ret_b (by rw [H0.out, hd, Bool.true_and]), rfl⟩
  · have hd : decide ((1 : Int) ≤ (x : Int)) = false := decide_eq_false (by omega)
    go_enter Try.func89, Try.ntmps89
    go_wp2_with (go_at_call 56; refine (HW.out _).mono ?_; rintro e w' ⟨rfl, rfl⟩)
    go_ret
    exact ⟨ret_b (by rw [H0.out, hd, Bool.false_and]), rfl⟩
theorem rbefore_any (a b : Nat) (w : World) (ha : a < 4294967296) (hb : b < 4294967296) :
    Calls Try.prog 89 #[.int .u32 (a : Int), .int .u32 (b : Int)] w fun e w' => e = .returned (.bool (bfr a b)) ∧ w = w' :=
  rbefore_aux (wy a b) a b _ w (bfr_int a b) (wy_lt a b) (by omega) (by omega) (by omega) (by omega) (Lib.hid fun W => rway_any a b W ha hb)
end Gp
end Go.Proofs.Ytednkcjmlpgipaa
/-
  What is asked of the program's set: cumulative TSN, passed, far, waits, Has, Next, Len: and of no set.
-/
namespace Go.Proofs.Ytednkcjmlpgipaa
open Go.RowKit Go.Maps
namespace Gp
set_option linter.unusedVariables false

theorem law32 : Keyed Try.prog 23 := int_keyed Try.underlying23
theorem zeroU (w : World) : (zeroValue 144).run Try.prog w = .ok (.agg #[]) w := by kernel_rfl
theorem wf32 {t : Nat} (h : t < 4294967296) : (Lit.int .u32 (t : Int)).wf = true := by
  simp [Lit.wf, IntKind.min, IntKind.max, IntKind.signed, IntKind.bits]; omega
theorem key32 {t : Nat} (h : t < 4294967296) : keyOf Try.prog 23 (.int .u32 (t : Int)) = some (.int .u32 (t : Int)) := keyOf_int_mk Try.underlying23 (wf32 h)
/-- The cells of a set. -/
theorem PS0.cells {W : World} {F : Nat → Prop} {s : Nat} {st : St} (h : PS0 W F s st) :
    ∃ m v D, (W.cell? ⟨s, 0, none⟩ = some (.int .u32 (st.cum : Int)) ∧ W.cell? ⟨s, 1, none⟩ = some (.map (some m)) ∧ W.cell? ⟨s, 2, none⟩ = some v) ∧ (W.frozen? ⟨s, 0, none⟩ = false ∧ W.frozen? ⟨s, 1, none⟩ = false ∧ W.frozen? ⟨s, 2, none⟩ = false) ∧
      W.ownsMap Try.prog 23 (unitElem (H := Unit)) m st.ws.length D ∧ MapOk D st.cum st.ws ∧ Ir .u32 23 W v st.ds := by
  obtain ⟨m, v, D, hb, hm, hM, hv, f1, f2, f3, f4⟩ := h
  exact ⟨m, v, D, ⟨(hb.cell 0).trans rfl, (hb.cell 1).trans rfl, (hb.cell 2).trans rfl⟩, ⟨hb.frozen 0, hb.frozen 1, hb.frozen 2⟩, hm, hM, hv⟩
theorem PSet.cells {W : World} {F : Nat → Prop} {s : Nat} {st : St} (h : PSet W F s st) :
    ∃ m v D, (W.cell? ⟨s, 0, none⟩ = some (.int .u32 (st.cum : Int)) ∧ W.cell? ⟨s, 1, none⟩ = some (.map (some m)) ∧ W.cell? ⟨s, 2, none⟩ = some v) ∧ (W.frozen? ⟨s, 0, none⟩ = false ∧ W.frozen? ⟨s, 1, none⟩ = false ∧ W.frozen? ⟨s, 2, none⟩ = false) ∧
      W.ownsMap Try.prog 23 (unitElem (H := Unit)) m st.ws.length D ∧ MapOk D st.cum st.ws ∧ Ir .u32 23 W v st.ds ∧ st.Ok := by
  obtain ⟨m, v, D, a, b, c, d, e⟩ := h.1.cells
  exact ⟨m, v, D, a, b, c, d, e, h.2⟩
theorem cum_any (W : World) (F : Nat → Prop) (s : Nat) (st : St) (h : PSet W F s st) :
    Calls Try.prog 65 #[.pointer (some ⟨s, 0, none⟩)] W fun e w' => e = .returned (.int .u32 (st.cum : Int)) ∧ W = w' := by
  obtain ⟨m, v, D, ⟨c0, _, _⟩, _⟩ := h.cells
  clear h
  go_enter Try.func65, Try.ntmps65
  go_wp2
  go_ret
  exact ⟨rfl, rfl⟩
theorem cum_nil (W : World) : Calls Try.prog 65 #[.pointer none] W fun e w' => e = .returned (.int .u32 0) ∧ W = w' := by
  go_enter Try.func65, Try.ntmps65
  go_wp2
  go_ret
  exact ⟨rfl, rfl⟩
theorem passed_any (W : World) (F : Nat → Prop) (s t : Nat) (st : St) (h : PSet W F s st) (ht : t < 4294967296) :
    Calls Try.prog 106 #[.pointer (some ⟨s, 0, none⟩), .int .u32 (t : Int)] W fun e w' => e = .returned (.bool (psd st.cum t)) ∧ W = w' := by
  obtain ⟨m, v, D, ⟨c0, _, _⟩, _, _, _, _, ok⟩ := h.cells
  have hc := ok.1
  have hp := psd_eq hc ht
  clear h ok
  obtain ⟨c, hcc⟩ : ∃ c, c = st.cum := ⟨_, rfl⟩
  rw [← hcc] at hc hp c0 ⊢
  clear hcc
  by_cases e : t = c
  · have e2 : ((t : Int) == (c : Int)) = true := by simp; omega
    have HP : Hid (psd c t = true) := Lib.hid (by rw [hp, decide_eq_true e, Bool.true_or])
    clear hp e
    go_enter Try.func106, Try.ntmps106
    go_wp2_with (go_at_call 118; refine (before_any _ _ _ (by assumption) (by assumption)).mono ?_; rintro e w' ⟨rfl, rfl⟩)
    go_ret
    exact ⟨ret_b HP.out.symm, rfl⟩
  · have e2 : ((t : Int) == (c : Int)) = false := by simp; omega
    have HP : Hid (psd c t = bfr t c) := Lib.hid (by rw [hp, decide_eq_false e, Bool.false_or])
    clear hp
    go_enter Try.func106, Try.ntmps106
    go_wp2_with (go_at_call 118; refine (before_any _ _ _ (by assumption) (by assumption)).mono ?_; rintro e w' ⟨rfl, rfl⟩)
    go_ret
    exact ⟨ret_b HP.out.symm, rfl⟩
theorem far_any (W : World) (F : Nat → Prop) (s t : Nat) (st : St) (h : PSet W F s st) (ht : t < 4294967296) :
    Calls Try.prog 78 #[.pointer (some ⟨s, 0, none⟩), .int .u32 (t : Int)] W fun e w' => e = .returned (.bool (far st.cum t)) ∧ W = w' := by
  obtain ⟨m, v, D, ⟨c0, _, _⟩, _, _, _, _, ok⟩ := h.cells
  have hc := ok.1
  have HP := Lib.hid (passed_any W F s t st h ht)
  clear h ok
  obtain ⟨c, hcc⟩ : ∃ c, c = st.cum := ⟨_, rfl⟩
  rw [← hcc] at hc HP c0 ⊢
  clear hcc
  have HS := Lib.hid (span_any c t W hc ht)
  have hf : far c t = (decide (65535 < wy c t) && !psd c t) := rfl
  have HF := Lib.hid hf
  clear hf
  generalize far c t = r at HF ⊢
  generalize psd c t = p at HF HP
  have hlt := wy_lt c t
  generalize wy c t = x at HF HS hlt
  by_cases e : 65535 < x
  · have ed : decide (65535 < x) = true := decide_eq_true e
    have HR : Hid (r = !p) := Lib.hid (by rw [HF.out, ed, Bool.true_and])
    have ez : decide ((65535 : Int) < (x : Int)) = true := decide_eq_true (by omega)
    clear HF ed e
    go_enter Try.func78, Try.ntmps78
    go_wp2_with (first | (go_at_call 77; refine HS.out.mono ?_; rintro e w' ⟨rfl, rfl⟩) | (go_at_call 106; refine HP.out.mono ?_; rintro e w' ⟨rfl, rfl⟩))
    go_ret
    exact ⟨ret_b HR.out.symm, rfl⟩
  · have ed : decide (65535 < x) = false := decide_eq_false e
    have HR : Hid (r = false) := Lib.hid (by rw [HF.out, ed, Bool.false_and])
    have ez : decide ((65535 : Int) < (x : Int)) = false := decide_eq_false (by omega)
    clear HF ed e
    go_enter Try.func78, Try.ntmps78
    go_wp2_with (first | (go_at_call 77; refine HS.out.mono ?_; rintro e w' ⟨rfl, rfl⟩) | (go_at_call 106; refine HP.out.mono ?_; rintro e w' ⟨rfl, rfl⟩))
    go_ret
    exact ⟨ret_b HR.out.symm, rfl⟩
theorem waits_any (W : World) (F : Nat → Prop) (s t : Nat) (st : St) (h : PS0 W F s st) (ht : t < 4294967296) :
    Calls Try.prog 107 #[.pointer (some ⟨s, 0, none⟩), .int .u32 (t : Int)] W fun e w' => e = .returned (.bool (decide (wy st.cum t ∈ st.ws))) ∧ Below W.heap.size W w' := by
  obtain ⟨m, v, D, ⟨_, c1, _⟩, _, hm, hM, _⟩ := h.cells
  have hh := Lib.hid (hM.1 t ht)
  have hkey := key32 ht
  have HK := Lib.hid hkey
  clear h hM hkey ht
  generalize decide (wy st.cum t ∈ st.ws) = r at hh ⊢
  go_enter Try.func107, Try.ntmps107
  go_wp2_with (at_lookup; refine wpList_lookup_own_unit _ rfl _ _ 136 rfl 23 144 law32 Try.underlying136 (zeroU _) m _ D rfl hm _ _ rfl HK.out ?_)
  go_ret
  exact ⟨ret_b hh.out, by first | exact (Below.refl _ _).alloc (Nat.le_refl _) _ | exact ((Below.refl _ _).alloc (Nat.le_refl _) _).setCell (by simp) _⟩
end Gp
end Go.Proofs.Ytednkcjmlpgipaa
/-
  A TSN comes to the program's set: Has, Next, noteTwice, goOn, Add.
-/
namespace Go.Proofs.Ytednkcjmlpgipaa
open Go.RowKit Go.Maps
namespace Gp
set_option linter.unusedVariables false

theorem PSet.below {W W' : World} {F : Nat → Prop} {s : Nat} {st : St} (h : PSet W F s st) (hb : Below W.heap.size W W') : PSet W' F s st :=
  h.frame (F := fun _ => False) (Kp.below hb) (fun _ _ e => e)
theorem PS0.below {W W' : World} {F : Nat → Prop} {s : Nat} {st : St} (h : PS0 W F s st) (hb : Below W.heap.size W W') : PS0 W' F s st :=
  h.frame (F := fun _ => False) (Kp.below hb) (fun _ _ e => e)
theorem has_any (W : World) (F : Nat → Prop) (s t : Nat) (st : St) (h : PSet W F s st) (ht : t < 4294967296) :
    Calls Try.prog 76 #[.pointer (some ⟨s, 0, none⟩), .int .u32 (t : Int)] W fun e w' => e = .returned (.bool (st.has t)) ∧ Below W.heap.size W w' := by
  have HP := Lib.hid (passed_any W F s t st h ht)
  have HW := Lib.hid (waits_any W F s t st h.1 ht)
  have HF : Hid (st.has t = (psd st.cum t || decide (wy st.cum t ∈ st.ws))) := Lib.hid rfl
  clear h ht
  generalize st.has t = r at HF ⊢
  generalize psd st.cum t = p at HF HP
  generalize decide (wy st.cum t ∈ st.ws) = q at HF HW
  cases p
  · have HR : Hid (r = q) := Lib.hid (by rw [HF.out, Bool.false_or])
    clear HF
    go_enter Try.func76, Try.ntmps76
    go_wp2_with (first | (go_at_call 106; refine HP.out.mono ?_; rintro e w' ⟨rfl, rfl⟩) | (go_at_call 107; refine HW.out.mono ?_; rintro e w1 ⟨rfl, hb⟩))
    go_ret
    exact ⟨ret_b HR.out.symm, hb⟩
  · have HR : Hid (r = true) := Lib.hid (by rw [HF.out, Bool.true_or])
    clear HF
    go_enter Try.func76, Try.ntmps76
    go_wp2_with (first | (go_at_call 106; refine HP.out.mono ?_; rintro e w' ⟨rfl, rfl⟩) | (go_at_call 107; refine HW.out.mono ?_; rintro e w1 ⟨rfl, hb⟩))
    go_ret
    exact ⟨ret_b HR.out.symm, Below.refl _ _⟩
theorem has_nil (t : Nat) (W : World) : Calls Try.prog 76 #[.pointer none, .int .u32 (t : Int)] W fun e w' => e = .returned (.bool false) ∧ W = w' := by
  go_enter Try.func76, Try.ntmps76
  go_wp2_with fail
  go_ret
  exact ⟨rfl, rfl⟩
theorem next_any (W : World) (F : Nat → Prop) (s t : Nat) (st : St) (h : PSet W F s st) (ht : t < 4294967296) :
    Calls Try.prog 81 #[.pointer (some ⟨s, 0, none⟩), .int .u32 (t : Int)] W fun e w' => e = .returned (.bool ((t : Int) == ((up st.cum 1 : Nat) : Int))) ∧ W = w' := by
  obtain ⟨m, v, D, ⟨c0, _, _⟩, _⟩ := h.cells
  clear h
  have hw := wrap_add (a := st.cum) (b := 1)
  have hw2 : IntKind.u32.wrap ((st.cum : Int) + 1) = ((up st.cum 1 : Nat) : Int) := hw
  clear hw
  go_enter Try.func81, Try.ntmps81
  go_wp2_with fail
  go_ret
  exact ⟨rfl, rfl⟩
theorem next_nil (t : Nat) (W : World) : Calls Try.prog 81 #[.pointer none, .int .u32 (t : Int)] W fun e w' => e = .returned (.bool false) ∧ W = w' := by
  go_enter Try.func81, Try.ntmps81
  go_wp2_with fail
  go_ret
  exact ⟨rfl, rfl⟩
theorem info32 : (Try.prog.info? 23).map (fun i => (i.zero, i.size, i.bytes)) = some (some (.int .u32 0), 1, 4) := by kernel_rfl
/-- What has changed of a set: it lies in the old blocks, and in new ones. -/
theorem new_fp {W w' : World} {F : Nat → Prop} (hF : ∀ k, F k → k < W.heap.size) (hsz : W.heap.size ≤ w'.heap.size) {g : Nat} (hg : g < w'.heap.size) (k : Nat) (h : F k ∨ (k = g ∧ W.heap.size ≤ k)) : k < w'.heap.size := by
  rcases h with h | ⟨rfl, h⟩
  · exact Nat.lt_of_lt_of_le (hF k h) hsz
  · exact hg
set_option maxHeartbeats 1000000 in
theorem twice_any (W : World) (F : Nat → Prop) (s t : Nat) (st : St) (h : PSet W F s st) (ht : t < 4294967296) :
    Calls Try.prog 79 #[.pointer (some ⟨s, 0, none⟩), .int .u32 (t : Int)] W fun e w' =>
      ∃ F', e = .returned (.tuple #[]) ∧ PSet w' F' s { st with ds := if st.ds.length < 16 then st.ds ++ [t] else st.ds } ∧ Mv W F w' F' := by
  obtain ⟨⟨m, v, D, hb, hm, hM, hv, f1, f2, f3, f4⟩, ok⟩ := h
  have c2 := (hb.cell 2).trans rfl
  have z2 := hb.frozen 2
  obtain ⟨A, c, hve, hlc, hcm, hA⟩ := hv.form
  subst hve
  by_cases hl : st.ds.length < 16
  · rw [if_pos hl]
    have HB := Lib.hid hb
    have HM := Lib.hid hm
    have HV := Lib.hid hv
    have HMO := Lib.hid hM
    have HOK := Lib.hid ok
    have HA := Lib.hid hA
    clear hb hm hv hM ok hA hcm
    have HSV : Hid ((Value.slice A st.ds.length c).ownBlock ≠ some s) := Lib.hid (HV.out.off HB.out (by decide))
    have HMV : Hid ((Value.slice A st.ds.length c).ownBlock ≠ some m) := Lib.hid (by obtain ⟨es, clock, hh⟩ := owns_block HM.out; exact HV.out.offm hh)
    have HSM : Hid (s ≠ m) := Lib.hid (by obtain ⟨es, clock, hh⟩ := owns_block HM.out; intro e; subst e; rw [show W.heap[s]? = _ from HB.out] at hh; cases hh)
    obtain ⟨n, hn⟩ : ∃ n, n = st.ds.length := ⟨_, rfl⟩
    rw [← hn] at hl hlc c2 HSV HMV
    have HN := Lib.hid hn
    have hlz : decide ((n : Int) < 16) = true := decide_eq_true (by omega)
    clear hn
    go_enter Try.func79, Try.ntmps79
    go_wp2_with (at_builtin; refine ir_app (k := .u32) (E := 23) (S := 43) Try.underlying43 info32 (by omega) rfl _ _ rfl (.slice A n c) st.ds rfl (by rw [HN.out]; exact HV.out.kept (World.grownBy_alloc W _ none) (by cases hv : (Value.slice A st.ds.length c).ownBlock <;> simp)) t W.heap.size 1 23 rfl (Bk.new W _ _) (by have := HN.out; omega) ?_; intro g c' w2 hown hgr hat; have hb2 := (HB.out.kept (World.grownBy_alloc W _ none) (by simp)).kept hgr (fun e => HSV.out e.symm); have c22 := (hb2.cell 2).trans rfl; have z22 := hb2.frozen 2)
    go_end0
    have hgr1 : W.grownBy w2 (Value.slice A n c).ownBlock := (World.grownBy_alloc W _ _).trans hgr
    have hgt : g < w2.heap.size := Ir.lt hown rfl
    have hs2 := setc_grown w2 s 2 (.slice (some ⟨g, 0, none⟩) (st.ds.length + 1) c')
    have hgs : s ≠ g := fun e => by
      have := Ir.off hown hb2 (by decide)
      exact this (by rw [e]; rfl)
    have hsz : W.heap.size ≤ w2.heap.size := hgr1.size
    refine ⟨fun k => F k ∨ (k = g ∧ W.heap.size ≤ k), rfl, ⟨⟨m, .slice (some ⟨g, 0, none⟩) (st.ds.length + 1) c', D, hb2.set 2 _, ?_, HMO.out, ?_, .inl f1, .inl f2, ?_, ?_⟩, ?_⟩, ?_, ?_⟩
    · exact (HM.out.kept hgr1 (fun e => HMV.out e.symm)).kept hs2 (by simpa using HSM.out.symm)
    · have := Ir.kept hown hs2 (.inr (by simpa [Value.ownBlock] using hgs.symm))
      exact this
    · intro g2 hg2
      obtain rfl : g = g2 := by simpa [Value.ownBlock] using hg2
      rcases hat with hat | hat
      · exact .inl (f3 g (by rw [HN.out] at hat; exact hat))
      · refine .inr ⟨rfl, ?_⟩
        rw [hat]
        simp
    · exact fun k hk => Nat.lt_of_lt_of_le (new_fp f4 hsz hgt k hk) hs2.size
    · refine ⟨HOK.out.1, HOK.out.2.1, ?_, ?_⟩
      · simp
        have := HN.out
        omega
      · intro x hx
        rcases List.mem_append.1 hx with hx | hx
        · exact HOK.out.2.2.2 x hx
        · simp at hx; omega
    · refine (Kp.grown hgr1 (fun g2 hg2 => f3 g2 (by rw [HN.out] at hg2; exact hg2))).trans (F' := F) (Kp.grown hs2 (fun g2 hg2 => by injection hg2 with e; rw [← e]; exact f1)) (fun b hb => .inl hb)
    · rintro k (hk | ⟨_, hk⟩)
      · exact .inl hk
      · exact .inr hk
  · rw [if_neg hl]
    have hlz : decide ((st.ds.length : Int) < 16) = false := decide_eq_false (by omega)
    have HH : Hid (PSet W F s st) := Lib.hid ⟨⟨m, _, D, hb, hm, hM, hv, f1, f2, f3, f4⟩, ok⟩
    clear hb hm hM hv f1 f2 f3 f4 ok hA
    go_enter Try.func79, Try.ntmps79
    go_wp2_with fail
    go_end0
    exact ⟨F, rfl, HH.out, Kp.refl _ _, fun k hk => .inl hk⟩
theorem mapok_go {D : DataW Unit} {c : Nat} {l : List Nat} (h : MapOk D c (1 :: l)) (hc : c < 4294967296) (hr : Ris 1 65535 (1 :: l)) (hT : Tidy D) : MapOk (D.del (.int .u32 ((up c 1 : Nat) : Int))) (up c 1) (l.map (· - 1)) := by
  have h1 := List.pairwise_cons.1 hr.1
  refine ⟨fun t ht => ?_, ?_⟩
  · by_cases e : t = up c 1
    · subst e
      rw [has_del_same]
      symm
      simp only [decide_eq_false_iff_not]
      intro hm
      obtain ⟨x, hx, hxe⟩ := List.mem_map.1 hm
      have := h1.1 x hx
      have hz : wy (up c 1) (up c 1) = 0 := by unfold wy; have := up_lt c 1; omega
      omega
    · have hne : (Lit.int .u32 (t : Int)) ≠ Lit.int .u32 ((up c 1 : Nat) : Int) := by
        intro e2
        injection e2 with _ e3
        exact e (by exact_mod_cast e3)
      rw [has_del_other hne, h.1 t ht]
      rw [decide_eq_decide]
      by_cases hz : wy c t = 0
      · have hb := wy_back hc ht hz
        rw [hz, hb]
        constructor
        · intro hm
          rcases List.mem_cons.1 hm with hm | hm
          · omega
          · have := h1.1 0 hm; omega
        · intro hm
          obtain ⟨x, hx, hxe⟩ := List.mem_map.1 hm
          have := hr.2 x (by simp [hx])
          omega
      · have hs := wy_step hc ht (by omega)
        have hne1 : wy c t ≠ 1 := fun e1 => e (by rw [← up_wy hc ht, e1])
        rw [hs]
        constructor
        · intro hm
          rcases List.mem_cons.1 hm with hm | hm
          · exact absurd hm hne1
          · exact List.mem_map.2 ⟨_, hm, rfl⟩
        · intro hm
          obtain ⟨x, hx, hxe⟩ := List.mem_map.1 hm
          have := h1.1 x hx
          obtain rfl : x = wy c t := by omega
          exact List.mem_cons_of_mem _ hx
  · have h2 := size_del (k := .int .u32 ((up c 1 : Nat) : Int)) hT
    have h3 : Maps.has D (.int .u32 ((up c 1 : Nat) : Int)) = true := by
      rw [h.1 _ (up_lt c 1), wy_up hc (by omega)]
      simp
    rw [h3, h.2] at h2
    simp at h2 ⊢
    omega
theorem has_one {c : Nat} {l : List Nat} (hc : c < 4294967296) (hr : Ris 1 65535 l) : (decide (wy c (up c 1) ∈ l) = true ↔ l.head? = some 1) := by
  rw [wy_up hc (by omega), decide_eq_true_eq]
  cases l with
  | nil => simp
  | cons x l =>
    have h1 := List.pairwise_cons.1 hr.1
    have hx := hr.2 x (by simp)
    constructor
    · intro hm
      rcases List.mem_cons.1 hm with hm | hm
      · simp [← hm]
      · have := h1.1 1 hm; omega
    · intro he
      have : x = 1 := by simpa using he
      simp [this]
set_option maxHeartbeats 1000000 in
theorem goon_any (W : World) (F : Nat → Prop) (s : Nat) (st : St) (h : PS0 W F s st) (hc : st.cum < 4294967296) (hr : Ris 1 65535 st.ws) :
    Calls Try.prog 80 #[.pointer (some ⟨s, 0, none⟩)] W fun e w' =>
      e = .returned (.tuple #[]) ∧ PS0 w' F s { cum := (norm st.cum st.ws).1, ws := (norm st.cum st.ws).2, ds := st.ds } ∧ Kp W w' F := by
  have H := Lib.hid h
  have HC := Lib.hid hc
  have HR := Lib.hid hr
  clear h hc hr
  go_enter Try.func80, Try.ntmps80
  go_wp2
  go_loopg [8] st.ws.length (fun k _ wr => ∃ c l, Hid (l.length = k) ∧ Hid (c < 4294967296) ∧ Hid (Ris 1 65535 l) ∧ Hid (norm st.cum st.ws = norm c l) ∧ Hid (PS0 wr F s { cum := c, ws := l, ds := st.ds }) ∧ Hid (Kp W wr F))
  case atStart => exact ⟨st.cum, st.ws, rfl, HC, HR, rfl, H, Lib.hid (Kp.refl _ _)⟩
  case round =>
    obtain ⟨c, l, hk, hc, hr, hN, HP, HK⟩ := hrel
    clear H HC HR
    have hw2 : IntKind.u32.wrap ((c : Int) + 1) = ((up c 1 : Nat) : Int) := wrap_add (a := c) (b := 1)
    have HW := Lib.hid (waits_any wr F s (up c 1) _ HP.out (up_lt c 1))
    obtain ⟨m, v, D, ⟨c0, c1, _⟩, ⟨z0, _, _⟩, _⟩ := HP.out.cells
    by_cases hh : l.head? = some 1
    · have HT : Hid (decide (wy c (up c 1) ∈ l) = true) := Lib.hid ((has_one hc.out hr.out).2 hh)
      have HH := Lib.hid hh
      clear hh
      go_wp2_with fail
      refine HW.out.mono ?_
      rintro e w1 ⟨rfl, hb1⟩
      rw [HT.out]
      have HP1 := Lib.hid (HP.out.below hb1)
      have HK1 : Hid (Kp W w1 F) := Lib.hid (HK.out.trans (F' := fun _ => False) (Kp.below hb1) (fun _ e => e.elim))
      clear hb1 HW HT HP HK c0 c1 z0
      obtain ⟨m, v, D, hb, hm, hM, hv, f1, f2, f3, f4⟩ := HP1.out
      have hsm : s ≠ m := by
        obtain ⟨es, clock, hh⟩ := owns_block hm
        intro e
        subst e
        rw [show w1.heap[s]? = _ from hb] at hh
        cases hh
      have c0 := (hb.cell 0).trans rfl
      have z0 := hb.frozen 0
      have hg2 := setc_grown w1 s 0 (.int .u32 ((up c 1 : Nat) : Int))
      have hb2 := hb.set 0 (.int .u32 ((up c 1 : Nat) : Int))
      have hown := hm.kept hg2 (by simpa using hsm.symm)
      have hv2 := hv.kept hg2 (.inr (hv.off hb (by decide)))
      have HB := Lib.hid hb
      have HM := Lib.hid hM
      have HSM := Lib.hid hsm
      have HV2 := Lib.hid hv2
      have HB2 := Lib.hid hb2
      have HG2 := Lib.hid hg2
      have HO2 := Lib.hid hown
      clear hb hm hM hv hv2 hb2 hg2 hown hsm
      go_wp2_with fail
      clear c0 z0
      generalize w1.setCell ⟨s, 0, none⟩ (.int .u32 ((up c 1 : Nat) : Int)) = w2 at HB2 HG2 HO2 HV2 ⊢
      have c20 := (HB2.out.cell 0).trans rfl
      have c21 := (HB2.out.cell 1).trans rfl
      obtain ⟨w3, hd3, ho3, ht3⟩ := HO2.out.drew.drop law32 Try.underlying136 (key32 (up_lt c 1)) 0
      have HO3 := Lib.hid ho3
      have HT3 := Lib.hid ht3
      clear ho3 ht3
      go_region
      go_wp2_with fail
      obtain ⟨r, rfl⟩ : ∃ r, l = 1 :: r := by
        cases l with
        | nil => cases HH.out
        | cons x r => exact ⟨r, by have := HH.out; simp at this; rw [this]⟩
      have hgr3 : w2.grownBy w3 (some m) := ⟨HT3.out.grown.os, HT3.out.grown.tape, HT3.out.grown.output, HT3.out.grown.size, HT3.out.grown.block⟩
      have hmo := mapok_go HM.out hc.out hr.out (HO2.out.tidy law32)
      have hmap : w3.ownsMap Try.prog 23 (unitElem (H := Unit)) m (r.map (· - 1)).length (D.del (.int .u32 ((up c 1 : Nat) : Int))) := by
        rw [← hmo.2]
        exact owns_tight HO3.out
      go_roundg r.length
      case measure => have := hk.out; simp at this; omega
      case rel =>
        refine ⟨up c 1, r.map (· - 1), Lib.hid (by simp), Lib.hid (up_lt c 1), Lib.hid (ris_less hr.out), Lib.hid (by rw [hN.out, norm_go]), Lib.hid ⟨m, v, _, HB2.out.kept hgr3 (by simpa using HSM.out), hmap, hmo, HV2.out.kept hgr3 ?_, f1, f2, f3, fun k hk => Nat.lt_of_lt_of_le (f4 k hk) (Nat.le_trans HG2.out.size hgr3.size)⟩, Lib.hid ?_⟩
        · right
          obtain ⟨es, clock, hh⟩ := owns_block HO2.out
          exact HV2.out.offm hh
        · exact (HK1.out.trans (F' := F) (Kp.grown HG2.out (fun g hg => by injection hg with e; rw [← e]; exact f1)) (fun b hb => .inl hb)).trans (F' := F) (Kp.grown hgr3 (fun g hg => by injection hg with e; rw [← e]; exact f2)) (fun b hb => .inl hb)
    · have HT : Hid (decide (wy c (up c 1) ∈ l) = false) := Lib.hid (by
        cases hd : decide (wy c (up c 1) ∈ l)
        · rfl
        · exact absurd ((has_one hc.out hr.out).1 hd) hh)
      have HN2 : Hid (norm st.cum st.ws = (c, l)) := Lib.hid (by rw [hN.out, norm_stop hh])
      clear hh
      go_wp2_with fail
      refine HW.out.mono ?_
      rintro e w1 ⟨rfl, hb1⟩
      rw [HT.out]
      have HP1 := Lib.hid (HP.out.below hb1)
      have HK1 : Hid (Kp W w1 F) := Lib.hid (HK.out.trans (F' := fun _ => False) (Kp.below hb1) (fun _ e => e.elim))
      clear hb1 HW HT HP HK c0 c1 z0
      go_wp2_with fail
      go_end0
      exact ⟨rfl, by rw [HN2.out]; exact HP1.out, HK1.out⟩
theorem mapok_put {D : DataW Unit} {c t : Nat} {l : List Nat} (h : MapOk D c l) (hc : c < 4294967296) (ht : t < 4294967296) (hn : wy c t ∉ l) (hT : Tidy D) : MapOk (D.put (.int .u32 (t : Int)) (.agg [])) c (ins (wy c t) l) := by
  have hk : WideAt.IsKeyLit (.int .u32 (t : Int)) := by simp [WideAt.IsKeyLit]
  refine ⟨fun x hx => ?_, ?_⟩
  · by_cases e : x = t
    · subst e
      rw [has_put_same hT.isMap hk]
      symm
      rw [decide_eq_true_eq, mem_ins]
      exact .inl rfl
    · have hne : (Lit.int .u32 (x : Int)) ≠ Lit.int .u32 (t : Int) := by
        intro e2
        injection e2 with _ e3
        exact e (by exact_mod_cast e3)
      rw [has_put_other hne, h.1 x hx, decide_eq_decide, mem_ins]
      constructor
      · exact .inr
      · rintro (hm | hm)
        · exact absurd (by rw [← up_wy hc hx, hm, up_wy hc ht]) e
        · exact hm
  · rw [size_put hT, h.1 t ht, decide_eq_false hn, len_ins, h.2]
    simp
set_option maxHeartbeats 1000000 in
theorem add_any (W : World) (F : Nat → Prop) (s t : Nat) (st : St) (h : PSet W F s st) (ht : t < 4294967296) :
    Calls Try.prog 52 #[.pointer (some ⟨s, 0, none⟩), .int .u32 (t : Int)] W fun e w' =>
      ∃ F', e = .returned (.int .u8 ((st.add t).2 : Nat)) ∧ PSet w' F' s (st.add t).1 ∧ Mv W F w' F' := by
  have HF := Lib.hid (far_any W F s t st h ht)
  have HH := Lib.hid (has_any W F s t st h ht)
  have H := Lib.hid h
  have ok := h.2
  clear h
  by_cases hh : st.has t = true
  · have hff : far st.cum t = false := by
      cases e : far st.cum t
      · rfl
      · rw [has_far ok e] at hh; cases hh
    have HR : Hid (st.add t = ({ st with ds := if st.ds.length < 16 then st.ds ++ [t] else st.ds }, 1)) := Lib.hid (by unfold St.add; rw [if_pos hh])
    rw [hh] at HH
    rw [hff] at HF
    clear hh hff ok
    go_enter Try.func52, Try.ntmps52
    go_wp2_with (go_at_call 78; refine HF.out.mono ?_; rintro e w' ⟨rfl, rfl⟩)
    refine HH.out.mono ?_
    rintro e w1 ⟨rfl, hb1⟩
    have H1 := Lib.hid (H.out.below hb1)
    have HB1 := Lib.hid hb1
    clear hb1 HH HF
    go_wp2_with fail
    refine (twice_any w1 F s t st H1.out ht).mono ?_
    rintro e w2 ⟨F', rfl, hp2, hm2⟩
    have HP2 := Lib.hid hp2
    have HM2 := Lib.hid hm2
    clear hp2 hm2
    go_wp2_with fail
    go_ret
    refine ⟨F', by rw [HR.out]; rfl, by rw [HR.out]; exact HP2.out, ?_, ?_⟩
    · exact (Kp.below (F := F) HB1.out).trans (F' := F) HM2.out.1 (fun b hb => .inl hb)
    · intro k hk
      rcases HM2.out.2 k hk with h | h
      · exact .inl h
      · exact .inr (Nat.le_trans HB1.out.size h)
  · have hh' : st.has t = false := by simpa using hh
    have hff := far_of hh'
    by_cases hw : 65535 < wy st.cum t
    · have HR : Hid (st.add t = (st, 2)) := Lib.hid (by unfold St.add; rw [if_neg hh, if_pos hw])
      rw [hff, decide_eq_true hw] at HF
      clear hh hff ok hw hh' HH
      go_enter Try.func52, Try.ntmps52
      go_wp2_with (go_at_call 78; refine HF.out.mono ?_; rintro e w' ⟨rfl, rfl⟩)
      go_ret
      exact ⟨F, by rw [HR.out]; rfl, by rw [HR.out]; exact H.out, Kp.refl _ _, fun k hk => .inl hk⟩
    · have HR : Hid (st.add t = ({ cum := (norm st.cum (ins (wy st.cum t) st.ws)).1, ws := (norm st.cum (ins (wy st.cum t) st.ws)).2, ds := st.ds }, 0)) := Lib.hid (by unfold St.add; rw [if_neg hh, if_neg hw])
      have HOK : Hid ((st.add t).1.Ok) := Lib.hid (add_ok ok ht)
      have HRIS := Lib.hid (ins_ok ok hh' (by omega))
      have hnm : wy st.cum t ∉ st.ws := by
        unfold St.has at hh'
        simp only [Bool.or_eq_false_iff, decide_eq_false_iff_not] at hh'
        exact hh'.2
      have HNM := Lib.hid hnm
      have HC := Lib.hid ok.1
      have HLEN : Hid (st.ws.length ≤ 65534) := Lib.hid (ris_len ok.2.1)
      have hkey := Lib.hid (key32 ht)
      rw [hh'] at HH
      rw [hff, decide_eq_false hw] at HF
      clear hh hff ok hw hh' hnm
      go_enter Try.func52, Try.ntmps52
      go_wp2_with (go_at_call 78; refine HF.out.mono ?_; rintro e w' ⟨rfl, rfl⟩)
      refine HH.out.mono ?_
      rintro e w1 ⟨rfl, hb1⟩
      have H1 := Lib.hid (H.out.below hb1)
      have HB1 := Lib.hid hb1
      clear hb1 HH HF
      obtain ⟨⟨m, v, D, hb, hm, hM, hv, f1, f2, f3, f4⟩, ok1⟩ := H1.out
      have c1 := (hb.cell 1).trans rfl
      have HB := Lib.hid hb
      have HM := Lib.hid hM
      have HO := Lib.hid hm
      have HV := Lib.hid hv
      clear hb hM hm hv ok1
      go_wp2_with (at_mapUpdate; refine wpList_mapUpdate_in _ rfl _ _ _ 136 rfl 23 144 law32 Try.underlying136 (unitElem (H := Unit)) m _ D rfl HO.out (by have := HLEN.out; unfold maxLen; omega) _ _ _ rfl rfl hkey.out _ [] unitElem_mk ?_; intro w2 hown2 hturn2)
      have hg2 := hturn2.grown
      have hmo := mapok_put HM.out HC.out ht HNM.out (HO.out.tidy law32)
      have hsm : some s ≠ some m := by
        obtain ⟨es, clock, hh⟩ := owns_block HO.out
        intro e
        injection e with e
        subst e
        rw [show w1.heap[s]? = _ from HB.out] at hh
        cases hh
      have hvm : v.ownBlock ≠ some m := by
        obtain ⟨es, clock, hh⟩ := owns_block HO.out
        exact HV.out.offm hh
      have HP2 : Hid (PS0 w2 F s { cum := st.cum, ws := ins (wy st.cum t) st.ws, ds := st.ds }) := Lib.hid ⟨m, v, _, HB.out.kept hg2 hsm, by rw [← hmo.2]; exact owns_tight hown2, hmo, HV.out.kept hg2 (.inr hvm), f1, f2, f3, fun k hk => Nat.lt_of_lt_of_le (f4 k hk) hg2.size⟩
      have HK2 : Hid (Kp W w2 F) := Lib.hid ((Kp.below (F := F) HB1.out).trans (F' := F) (Kp.grown hg2 (fun g hg => by injection hg with e; rw [← e]; exact f2)) (fun b hb => .inl hb))
      clear hown2 hturn2 hg2 hmo hsm hvm
      refine (goon_any w2 F s _ HP2.out HC.out HRIS.out).mono ?_
      rintro e w3 ⟨rfl, hp3, hk3⟩
      have HP3 := Lib.hid hp3
      have HK3 := Lib.hid (HK2.out.trans (F' := F) hk3 (fun b hb => .inl hb))
      clear hp3 hk3
      go_wp2_with fail
      go_ret
      have hok := HOK.out
      rw [HR.out] at hok
      exact ⟨F, by rw [HR.out]; rfl, by rw [HR.out]; exact ⟨HP3.out, hok⟩, HK3.out, fun k hk => .inl hk⟩
theorem add_nil (t : Nat) (W : World) : Calls Try.prog 52 #[.pointer none, .int .u32 (t : Int)] W fun e w' => e = .returned (.int .u8 2) ∧ W = w' := by
  go_enter Try.func52, Try.ntmps52
  go_wp2_with fail
  go_ret
  exact ⟨rfl, rfl⟩
end Gp
end Go.Proofs.Ytednkcjmlpgipaa
/-
  The program's sets are made, copied, and what came twice is taken: New, Copy, Dups.
-/
namespace Go.Proofs.Ytednkcjmlpgipaa
open Go.RowKit Go.Maps
namespace Gp
set_option linter.unusedVariables false

theorem new_ok (c : Nat) (h : c < 4294967296) : (⟨c, [], []⟩ : St).Ok := ⟨h, ⟨by simp, by simp⟩, by simp, by simp⟩
theorem new_any (c : Nat) (W : World) (hc : c < 4294967296) :
    Calls Try.prog 48 #[.int .u32 (c : Int)] W fun e w' => ∃ s F, e = .returned (.pointer (some ⟨s, 0, none⟩)) ∧ PSet w' F s ⟨c, [], []⟩ ∧ (∀ k, F k → W.heap.size ≤ k) ∧ Below W.heap.size W w' := by
  have hmk := @run_makeMap Try.prog
  go_enter Try.func48, Try.ntmps48
  go_wp2
  go_ret
  refine ⟨W.heap.size + 1, fun k => k = W.heap.size ∨ k = W.heap.size + 1, rfl, ⟨⟨W.heap.size, .slice none 0 0, .map [], ?_, ?_, ?_, Ir.nil _ _ _, .inr rfl, .inl rfl, (fun g hg => by cases hg), fun k hk => ?_⟩, new_ok c hc⟩, fun k hk => by omega, ((Below.refl _ _).alloc (Nat.le_refl _) _).alloc (by simp) _⟩
  · have := Bk.new (W.alloc (.map #[] 0)) #[.int .u32 (c : Int), .map (some W.heap.size), .slice none 0 0] 138
    simpa using this
  · exact (World.ownsMap_made W Try.prog 23 (unitElem (H := Unit))).alloc _
  · exact ⟨fun t ht => by simp [Maps.has], rfl⟩
  · simp; omega
/-- maps.Clone. -/
theorem dups_nil (W : World) : Calls Try.prog 62 #[.pointer none] W fun e w' => e = .returned (.slice none 0 0) ∧ W = w' := by
  go_enter Try.func62, Try.ntmps62
  go_wp2_with fail
  go_ret
  exact ⟨rfl, rfl⟩
theorem dups_any (W : World) (F : Nat → Prop) (s : Nat) (st : St) (h : PSet W F s st) :
    Calls Try.prog 62 #[.pointer (some ⟨s, 0, none⟩)] W fun e w' => ∃ A c, e = .returned (.slice A st.ds.length c) ∧ Row w' A (ns .u32 st.ds) ∧ (∀ a, A = some a → F a.block) ∧ PSet w' F s { st with ds := [] } ∧ Kp W w' F := by
  obtain ⟨⟨m, v, D, hb, hm, hM, hv, f1, f2, f3, f4⟩, ok⟩ := h
  obtain ⟨A, c, rfl, hlc, hcm, hA⟩ := hv.form
  have c2 := (hb.cell 2).trans rfl
  have z2 := hb.frozen 2
  have hg := setc_grown W s 2 (.slice none 0 0)
  have hsm : some m ≠ some s := by
    obtain ⟨es, clock, hh⟩ := owns_block hm
    intro e
    injection e with e
    subst e
    rw [show W.heap[m]? = _ from hb] at hh
    cases hh
  have HV := Lib.hid (Ir.kept hv hg (.inr (hv.off hb (by decide))))
  have HB := Lib.hid (hb.set 2 (.slice none 0 0))
  have HM := Lib.hid (hm.kept hg hsm)
  have HMO := Lib.hid hM
  have HOK := Lib.hid ok
  have HA := Lib.hid hA
  have HG := Lib.hid hg
  clear hb hm hM hv ok hA hg hcm hsm
  go_enter Try.func62, Try.ntmps62
  go_wp2_with fail
  go_ret
  refine ⟨A, c, rfl, HV.out.row, fun a ha => f3 _ (HA.out a ha), ⟨⟨m, _, D, HB.out, HM.out, HMO.out, Ir.nil _ _ _, f1, f2, (fun g hg => by cases hg), fun k hk => Nat.lt_of_lt_of_le (f4 k hk) HG.out.size⟩, ⟨HOK.out.1, HOK.out.2.1, by simp, by simp⟩⟩, Kp.grown HG.out (fun g hg => by injection hg with e; rw [← e]; exact f1)⟩
end Gp
end Go.Proofs.Ytednkcjmlpgipaa
/-
  A range over a function whose iterator hands out what lies in memory: the iterator's contract tells the body what it is handed; one law for the statement.
-/
namespace Go.Proofs.Ytednkcjmlpgipaa
open Go.RowKit Go.Shelf

/-- What an iterator's step and a loop's book-keeping leave alone: cells, and all that lay below B. -/
def Calm (B : Nat) (W W' : World) : Prop := Below B W W' ∧ ∀ (k : Nat) (o : Obj), W.heap[k]? = some o → o.isCells = true → W'.heap[k]? = some o
theorem Calm.of_below {B : Nat} {W W' : World} (h : Below W.heap.size W W') (hB : B ≤ W.heap.size) : Calm B W W' :=
  ⟨h.mono hB, fun k _ hk _ => (h.block k (Array.getElem?_eq_some_iff.1 hk).1).trans hk⟩
theorem Calm.of_put {B : Nat} {W : World} {l : Nat} {o : Obj} (o' : Obj) (hl : W.heap[l]? = some o) (ho : o.isCells = false) (hB : B ≤ l) : Calm B W (W.putObj l o') := by
  have hlt := (Array.getElem?_eq_some_iff.1 hl).1
  refine ⟨(Below.refl B W).grown (grownBy_putObj' W l o') (by omega) (fun k e => by cases e; exact hB), fun k q hk hq => ?_⟩
  by_cases e : k = l
  · subst e
    rw [hl] at hk
    injection hk with hk
    rw [hk, hq] at ho
    cases ho
  · exact (World.putObj_heap_other e).trans hk
/-- The blocks from lo on below hi are as they were. -/
def Kept (lo hi : Nat) (W W' : World) : Prop := W.heap.size ≤ W'.heap.size ∧ ∀ k, lo ≤ k → k < hi → W'.heap[k]? = W.heap[k]?
theorem Kept.refl (lo hi : Nat) (W : World) : Kept lo hi W W := ⟨Nat.le_refl _, fun _ _ _ => rfl⟩
theorem Kept.trans {lo hi : Nat} {A B C : World} (h : Kept lo hi A B) (k : Kept lo hi B C) : Kept lo hi A C := ⟨Nat.le_trans h.1 k.1, fun i h1 h2 => (k.2 i h1 h2).trans (h.2 i h1 h2)⟩
theorem Kept.of_below {lo hi : Nat} {W W' : World} (h : Below W.heap.size W W') (hh : hi ≤ W.heap.size) : Kept lo hi W W' := ⟨h.size, fun k _ h2 => h.block k (by omega)⟩
theorem Kept.of_put {lo hi l : Nat} {W : World} (o : Obj) (h : hi ≤ l) : Kept lo hi W (W.putObj l o) := ⟨by simp, fun k _ h2 => World.putObj_heap_other (by omega)⟩
theorem Kept.of_set {lo hi : Nat} {W : World} {a : Addr} (v : Value) (h : a.block < lo ∨ hi ≤ a.block) : Kept lo hi W (W.setCell a v) := ⟨by simp [World.setCell], fun k _ _ => Below.heap_setCell W a v k (by omega)⟩
theorem Kept.of_grown {lo hi : Nat} {W W' : World} {row : Option Nat} (hg : W.grownBy W' row) (hh : hi ≤ W.heap.size) (h : ∀ k, row = some k → k < lo ∨ hi ≤ k) : Kept lo hi W W' :=
  ⟨hg.size, fun k h1 h2 => hg.block k (by omega) (fun e => by have := h k e.symm; omega)⟩

/-- The contract of an iterator: what it hands out (V) is told to the body; the body keeps the blocks from lo on below hi. -/
def SeqT {α : Type} (P : Program) (gf : Nat) (lb : Array Value) (encs : α → Array Value) (V : List α → α → World → Prop) (lo hi : Nat) (S Sp : List α → Prop) (w : World) : Prop :=
  ∀ (l : Nat) (J Jx : List α → World → Prop) (W : World), Below w.heap.size w W → (∀ pre A B, J pre A → Below A.heap.size A B → J pre B) → (∀ pre A B, Jx pre A → Below A.heap.size A B → Jx pre B) →
    (∀ pre x W1, J pre W1 → V pre x W1 → YieldAt Fence.wide 7 P l (encs x) W1 fun e W' => (e = .returned (.bool true) ∧ J (pre ++ [x]) W' ∧ Kept lo hi W1 W') ∨ (e = .returned (.bool false) ∧ Jx (pre ++ [x]) W')) →
    J [] W → CallsIn Fence.wide 8 P gf (#[.func (.yield l) #[] #[]] ++ lb) W fun e W' => (∃ v, e = .returned v) ∧ ((∃ xs, S xs ∧ J xs W') ∨ (∃ pre, Sp pre ∧ Jx pre W'))

/-- How a round's body may be left. -/
def Left {α : Type} (B lo hi : Nat) (I : List α → World → Prop) (Ix : Code → List α → World → Prop) (xs : List α) (W : World) : Exit → Act → World → Prop
  | .normal, _, W' => KeepsFrom B W W' ∧ Kept lo hi W W' ∧ I xs W'
  | .ret, _, W' => KeepsFrom B W W' ∧ Ix .ret xs W'
  | .exit id, _, W' => KeepsFrom B W W' ∧ Ix (.exit id) xs W'
  | .goto t, _, W' => KeepsFrom B W W' ∧ Ix (.goto t) xs W'
  | .panic _, _, _ => False
  | .outgrown, _, _ => False

section
variable {P : Program}
theorem range_wpIn {α : Type} {g : Operand} {ps : Array Tmp} {assign body : Code} {Q : Exit → Act → World → Prop} {a : Act} {w : World} {gf : Nat} {lb : Array Value}
    (hg : a.eval g = .func (.func gf) #[] lb) (eg : ∀ args w, (callFunc gf args).run P w = .ok (.enter gf args) w)
    {encs : α → Array Value} {V : List α → α → World → Prop} {lo hi : Nat} {S Sp : List α → Prop} (hseq : SeqT P gf lb encs V lo hi S Sp w) (hhi : hi ≤ w.heap.size) (hps : ∀ x, (encs x).size = ps.size)
    (I : List α → World → Prop) (Ix : Code → List α → World → Prop) (hI : ∀ pre A B, I pre A → Calm w.heap.size A B → I pre B) (hIx : ∀ c pre A B, Ix c pre A → Calm w.heap.size A B → Ix c pre B) (h0 : I [] w)
    (Ax : List α → α → Act → World → Prop) (hAx : ∀ pre x a₁ A B, Ax pre x a₁ A → Calm w.heap.size A B → Ax pre x a₁ B)
    (hassign : ∀ (l : Nat) (pre : List α) (x : α) (W : World) (K : Act → World → Prop), I pre W → V pre x W → (∀ a₁ W₁, Below W.heap.size W W₁ → Ax pre x a₁ W₁ → K a₁ W₁) →
      assign.wpIn (Fence.wide.inRound l) 7 P (Exit.then K (fun _ _ _ => False)) { tmps := (ps.zip (encs x)).foldl (fun t (p, v) => t.setIfInBounds p v) a.tmps, defers := [] } W)
    (hbody : ∀ (l : Nat) (pre : List α) (x : α) (a₁ : Act) (W : World), w.heap.size ≤ W.heap.size → Ax pre x a₁ W → body.wpIn (Fence.wide.inRound l) 7 P (Left w.heap.size lo hi I Ix (pre ++ [x]) W) a₁ W)
    (hdone : ∀ (D : Nat) (xs : List α) (W : World), w.heap.size ≤ D → S xs → I xs W → W.heap[D]? = some (.deferred (some [])) → Q .normal { a with defers := { target := .collected D, args := #[] } :: a.defers } W)
    (hstop : ∀ (D : Nat) (c : Code) (pre : List α) (W : World), w.heap.size ≤ D → Sp pre → Ix c pre W → W.heap[D]? = some (.deferred (some [])) → c.wpIn Fence.wide 9 P Q { a with defers := { target := .collected D, args := #[] } :: a.defers } W) :
    (Code.rangeFunc g ps assign body).wpIn Fence.wide 9 P Q a w := by
  refine wpIn_rangeFunc fun fn _ => ?_
  obtain ⟨D, hD⟩ : ∃ D, w.heap.size = D := ⟨_, rfl⟩
  let mk : LoopState → Option Code → Obj := fun st pe => .loop { state := st, pending := pe, fn, tmps := a.tmps, params := ps, assign, body, defers := D }
  let W1 : World := (w.alloc (.deferred (some []))).alloc (mk .ready none)
  have hbw : Below D w W1 := hD ▸ (((Below.refl _ w).alloc (Nat.le_refl _) _).alloc (by simp) _)
  have hD1 : W1.heap[D]? = some (.deferred (some [])) := by
    rw [← hD]
    exact (Below.heap_alloc _ _ _ (by simp)).trans (World.alloc_heap_new w _)
  have hL1 : W1.heap[D + 1]? = some (mk .ready none) := by
    have h := World.alloc_heap_new (w.alloc (.deferred (some []))) (mk .ready none)
    rw [World.size_alloc, hD] at h
    exact h
  -- book-keeping: what turns is no cells, and new
  have nc : ∀ st pe, (mk st pe).isCells = false := fun _ _ => rfl
  have other : ∀ (W : World) (o : Obj), W.heap[D]? = some (.deferred (some [])) → (W.putObj (D + 1) o).heap[D]? = some (.deferred (some [])) := fun W o h => (World.putObj_heap_other (by omega)).trans h
  refine ⟨D + 1, [{ target := .collected D, args := #[] }], W1, { target := .fn (.func gf) lb, args := #[.func (.yield (D + 1)) #[] #[]] }, W1, gf, #[.func (.yield (D + 1)) #[] #[]] ++ lb, W1, ?_, ?_, fun _ _ => trivial, ?_, fun h => by omega, ?_⟩
  · have h := run_enterLoop_outer (P := P) (w := w) fn a.tmps ps assign body
    rw [hD] at h
    exact h
  · simp only [resolve, hg]
    simp [go_sem]
  · simp [invoke, go_sem, eg]
  have step : ∀ pre A B, I pre A → A.heap[D + 1]? = some (mk .ready none) → Below A.heap.size A B → I pre B := fun pre A B h hl hb =>
    hI pre A B h (hD ▸ Calm.of_below hb (by have := (Array.getElem?_eq_some_iff.1 hl).1; omega))
  refine (hseq (D + 1) (fun pre W => I pre W ∧ W.heap[D + 1]? = some (mk .ready none) ∧ W.heap[D]? = some (.deferred (some [])))
    (fun pre W => ∃ c, Ix c pre W ∧ W.heap[D + 1]? = some (mk .done (some c)) ∧ W.heap[D]? = some (.deferred (some []))) W1 (hD ▸ hbw)
    (fun pre A B ⟨h1, h2, h3⟩ hb => ⟨step pre A B h1 h2 hb, (hb.block _ (Array.getElem?_eq_some_iff.1 h2).1).trans h2, (hb.block _ (Array.getElem?_eq_some_iff.1 h3).1).trans h3⟩)
    (fun pre A B ⟨c, h1, h2, h3⟩ hb => ⟨c, hIx c pre A B h1 (hD ▸ Calm.of_below hb (by have := (Array.getElem?_eq_some_iff.1 h2).1; omega)), (hb.block _ (Array.getElem?_eq_some_iff.1 h2).1).trans h2, (hb.block _ (Array.getElem?_eq_some_iff.1 h3).1).trans h3⟩)
    ?round ⟨hI [] w W1 h0 (Calm.of_below (hD ▸ hbw) (Nat.le_refl _)), hL1, hD1⟩).mono ?behind
  case round =>
    rintro pre x W ⟨hin, hl, hd⟩ hv
    refine ⟨fn, _, assign, body, run_yield (P := P) (args := encs x) hl (hps x), roundIn_of_wpIn trivial (hassign _ pre x W _ hin hv ?_)⟩
    intro a₁ Wa hba hax
    have hla : Wa.heap[D + 1]? = some (mk .ready none) := (hba.block _ (Array.getElem?_eq_some_iff.1 hl).1).trans hl
    have hda : Wa.heap[D]? = some (.deferred (some [])) := (hba.block _ (Array.getElem?_eq_some_iff.1 hd).1).trans hd
    have hlt := (Array.getElem?_eq_some_iff.1 hla).1
    refine ⟨_, run_beginRound hla rfl, ?_⟩
    have hlb : (Wa.putObj (D + 1) (mk .busy none)).heap[D + 1]? = some (mk .busy none) := World.putObj_heap_same hlt
    refine wpIn_mono (hbody (D + 1) pre x a₁ (Wa.putObj (D + 1) (mk .busy none)) (by simp; omega) (hAx _ _ _ _ _ hax (Calm.of_put _ hla (nc _ _) (by omega)))) ?_
    have fin : ∀ (j : Option Code) (W3 : World), KeepsFrom w.heap.size (Wa.putObj (D + 1) (mk .busy none)) W3 →
        (Instr.endRound (D + 1) j).run P W3 = .ok (.bool j.isNone) (W3.putObj (D + 1) (mk (if j.isNone then .ready else .done) j)) ∧ W3.heap[D + 1]? = some (mk .busy none) ∧
        (W3.putObj (D + 1) (mk (if j.isNone then .ready else .done) j)).heap[D + 1]? = some (mk (if j.isNone then .ready else .done) j) ∧ (W3.putObj (D + 1) (mk (if j.isNone then .ready else .done) j)).heap[D]? = some (.deferred (some [])) := fun j W3 hk => by
      have h3 := hk.same _ _ (by omega) hlb (nc _ _)
      exact ⟨run_endRound (P := P) j h3, h3, World.putObj_heap_same (Array.getElem?_eq_some_iff.1 h3).1, other W3 _ (hk.same _ _ (by omega) (other Wa _ hda) rfl)⟩
    rintro e a3 W3 hp
    cases e with
    | normal =>
      obtain ⟨hk, hkp, hi3⟩ := hp
      obtain ⟨r1, r2, r3, r4⟩ := fin none W3 hk
      refine ⟨_, _, r1, .inl ⟨rfl, ⟨hI _ _ _ hi3 (Calm.of_put _ r2 (nc _ _) (by omega)), r3, r4⟩, ?_⟩⟩
      have e1 : Kept lo hi W Wa := Kept.of_below hba (by have := (Array.getElem?_eq_some_iff.1 hl).1; omega)
      exact ((e1.trans (Kept.of_put _ (by omega))).trans hkp).trans (Kept.of_put _ (by omega))
    | ret =>
      obtain ⟨hk, hi3⟩ := hp
      obtain ⟨r1, r2, r3, r4⟩ := fin (some .ret) W3 hk
      exact ⟨_, _, r1, .inr ⟨rfl, .ret, hIx _ _ _ _ hi3 (Calm.of_put _ r2 (nc _ _) (by omega)), r3, r4⟩⟩
    | exit id =>
      obtain ⟨hk, hi3⟩ := hp
      obtain ⟨r1, r2, r3, r4⟩ := fin (some (.exit id)) W3 hk
      exact ⟨_, _, r1, .inr ⟨rfl, .exit id, hIx _ _ _ _ hi3 (Calm.of_put _ r2 (nc _ _) (by omega)), r3, r4⟩⟩
    | goto t =>
      obtain ⟨hk, hi3⟩ := hp
      obtain ⟨r1, r2, r3, r4⟩ := fin (some (.goto t)) W3 hk
      exact ⟨_, _, r1, .inr ⟨rfl, .goto t, hIx _ _ _ _ hi3 (Calm.of_put _ r2 (nc _ _) (by omega)), r3, r4⟩⟩
    | panic ch => exact hp.elim
    | outgrown => exact hp.elim
  case behind =>
    rintro e W2 ⟨⟨v, rfl⟩, (⟨xs, hS, hi, hl, hk⟩ | ⟨pre, hSp, c, hi, hl, hk⟩)⟩
    · exact ⟨none, _, run_endLoop (P := P) hl (by simp), hdone D xs _ (by omega) hS (hI _ _ _ hi (Calm.of_put _ hl (nc _ _) (by omega))) (other _ _ hk)⟩
    · exact ⟨some c, _, run_endLoop (P := P) hl (by simp), hstop D c pre _ (by omega) hSp (hIx _ _ _ _ hi (Calm.of_put _ hl (nc _ _) (by omega))) (other _ _ hk)⟩
/-- A function's contract out of its body, marks and all; and the statement within a plain walk. -/
theorem calls_marks {f : FuncId} {fn : Func} {c : Code} {args : Array Value} {w : World} {R : Ending → World → Prop} (hf : P.funcs[f]? = some fn) (hb : fn.body = some c)
    (h : c.wp P (bodyPostM Fence.wide 9 P fn R) { tmps := args ++ Array.replicate (fn.ntmps - args.size) undef, defers := [] } w) : Calls P f args w R :=
  callsIn_wide.1 (callsIn_of_wp_marks hf hb trivial (wpIn_wide.2 h))
end
end Go.Proofs.Ytednkcjmlpgipaa
/-
  slices.Chunk: the parts of a slice of bytes, one by one.
-/
namespace Go.Proofs.Ytednkcjmlpgipaa
set_option maxRecDepth 4000
open Go.RowKit Go.Shelf
namespace Fg
set_option linter.unusedVariables false

theorem chunk_any (A : Option Addr) (n c s : Nat) (w : World) (hs : 1 ≤ s) :
    Calls Try.prog 97 #[.slice A n c, .int .i64 (s : Int)] w fun e w' => e = .returned (.func (.func 112) #[] #[.pointer (some ⟨w.heap.size, 0, none⟩), .pointer (some ⟨w.heap.size + 1, 0, none⟩)]) ∧
      Bk w' w.heap.size #[.slice A n c] 31 ∧ Bk w' (w.heap.size + 1) #[.int .i64 (s : Int)] 3 ∧ w'.heap.size = w.heap.size + 2 ∧ Below w.heap.size w w' := by
  have dz : decide ((s : Int) < 1) = false := decide_eq_false (by omega)
  have H1 : Hid (Bk ((w.alloc (.cells #[.slice A n c] 31)).alloc (.cells #[.int .i64 (s : Int)] 3)) w.heap.size #[.slice A n c] 31) := Lib.hid ((Bk.new _ _ _).alloc _)
  have H2 : Hid (Bk ((w.alloc (.cells #[.slice A n c] 31)).alloc (.cells #[.int .i64 (s : Int)] 3)) (w.heap.size + 1) #[.int .i64 (s : Int)] 3) := Lib.hid (by
    have := Bk.new (w.alloc (.cells #[.slice A n c] 31)) #[.int .i64 (s : Int)] 3
    rw [show (w.alloc (.cells #[.slice A n c] 31)).heap.size = w.heap.size + 1 by simp] at this
    exact this)
  clear hs
  go_enter Try.func97, Try.ntmps97
  go_wp2_with fail
  go_ret
  exact ⟨rfl, H1.out, H2.out, by simp, ((Below.refl _ _).alloc (Nat.le_refl _) _).alloc (by simp) _⟩
theorem run_cut_lhm {P : Program} {t e : TypeId} (ht : P.underlying t = some (.slice e)) (hi : (P.info? e).map (·.size) = some 1) {k k' k'' : IntKind} (a : Addr) (n c lo d : Nat) (h1 : 0 < d) (h2 : lo + d ≤ c) (W : World) :
    (Instr.slice t (.slice (some a) n c) (some (.int k (lo : Int))) (some (.int k' ((lo + d : Nat) : Int))) (some (.int k'' ((lo + d : Nat) : Int)))).run P W = .ok (.slice (some (a.add lo)) d d) W := by
  rw [run_slice_lhm W t (some a) n c (by simp [Program.elem, ht]) k k' k'' lo _ _ (by omega) (by omega) (by omega) (by omega), run_size1 ht hi]
  simp only [Result.andThen, sliced, Int.toNat_natCast, Nat.mul_one]
  rw [if_neg (by omega), show lo + d - lo = d by omega]
  rfl
/-- What is handed out: by the place where it begins. -/
def cenc (a : Addr) (n s : Nat) (x : Nat) : Array Value := #[.slice (some (a.add x)) (min s (n - x)) (min s (n - x))]
def CI (ob nb : Nat) (a : Addr) (n c s : Nat) (W : World) : Prop := Bk W ob #[.slice (some a) n c] 31 ∧ Bk W nb #[.int .i64 (s : Int)] 3
theorem CI.next {ob nb n c s : Nat} {a : Addr} {W W' : World} (h : CI ob nb a n c s W) (hb : Below W.heap.size W W') : CI ob nb a n c s W' := ⟨h.1.next hb, h.2.next hb⟩
theorem CI.kept {ob nb n c s lo hi : Nat} {a : Addr} {W W' : World} (h : CI ob nb a n c s W) (ho : lo ≤ ob ∧ ob < hi) (hn : lo ≤ nb ∧ nb < hi) (hk : Kept lo hi W W') : CI ob nb a n c s W' := ⟨(hk.2 _ ho.1 ho.2).trans h.1, (hk.2 _ hn.1 hn.2).trans h.2⟩
set_option maxRecDepth 100000 in
set_option maxHeartbeats 4000000 in
theorem chunk_seq (a : Addr) (n c s : Nat) (ob nb lo : Nat) (w : World) (hn : n ≤ 1000000000) (hs : 1 ≤ s) (hs2 : s < 9223372036854775808) (hc : n ≤ c) (hI : CI ob nb a n c s w) (ho : lo ≤ ob ∧ ob < w.heap.size) (hnb : lo ≤ nb ∧ nb < w.heap.size) :
    SeqT Try.prog 112 #[.pointer (some ⟨ob, 0, none⟩), .pointer (some ⟨nb, 0, none⟩)] (cenc a n s) (fun pre x _ => x = pre.length * s ∧ x < n) lo w.heap.size (fun xs => n ≤ xs.length * s) (fun _ => True) w := fun y J Jx W hW hJ hJx hY h0 => by
  have hKept : ∀ W1 W2, CI ob nb a n c s W1 → Kept lo w.heap.size W1 W2 → CI ob nb a n c s W2 := fun W1 W2 h k => h.kept ho hnb k
  have HK := Lib.hid hKept
  have HY := Lib.hid hY
  have HJ := Lib.hid hJ
  have HS2 := Lib.hid hs2
  have hst : Hid (CI ob nb a n c s W ∧ J [] W ∧ w.heap.size ≤ W.heap.size) := ⟨hI.next hW, h0, hW.size⟩
  have hmo : Try.prog.follows .mixedOrders = true := by kernel_rfl
  clear hI hW hJ hJx hY h0 hKept ho hnb hs2
  refine callsIn_wide.2 ?_
  go_enter Try.func112, Try.ntmps112
  go_wp2_with fail
  go_loopw [4] (fun v wr => ∃ (x : Nat) (pre : List Nat), v = .int .i64 (x : Int) ∧ Hid (x = pre.length * s) ∧ (x = 0 ∨ s ≤ x ∧ x < n + s) ∧ Hid (CI ob nb a n c s wr ∧ J pre wr ∧ w.heap.size ≤ wr.heap.size)) (fun v _ => n - (intOf v).toNat)
  case atStart => exact ⟨0, [], rfl, Lib.hid (by simp), .inl rfl, hst⟩
  case round =>
    obtain ⟨x, pre, rfl, hx, hxb, hS⟩ := hrel
    clear hst
    have r1 := hS.out.1.1.cell 0
    have r2 := hS.out.1.2.cell 0
    simp at r1 r2
    by_cases hlt : x < n
    · have sz : (Try.prog.info? 5).map (·.size) = some 1 := by kernel_rfl
      have hq1 : ∀ W, (Instr.slice 31 (.slice (some a) n c) (some (.int .i64 (x : Int))) none none).run Try.prog W = .ok (.slice (cutA (some a) c x) (n - x) (c - x)) W := fun W => run_cut_l (P := Try.prog) Try.underlying31 sz (k := .i64) (some a) n c x (by omega) W
      obtain ⟨d, hd⟩ : ∃ d, min s (n - x) = d := ⟨_, rfl⟩
      have hd1 : 0 < d ∧ x + d ≤ n ∧ (d = s ∨ d = n - x) ∧ d ≤ s := by omega
      have hq2 : ∀ W, (Instr.slice 31 (.slice (some a) n c) (some (.int .i64 (x : Int))) (some (.int .i64 ((x + d : Nat) : Int))) (some (.int .i64 ((x + d : Nat) : Int)))).run Try.prog W = .ok (.slice (some (a.add x)) d d) W := fun W => run_cut_lhm Try.underlying31 sz a n c x d hd1.1 (by omega) W
      have HD := Lib.hid hd
      have hwx : wrap64 ((x : Int) + (s : Int)) = ((x + s : Nat) : Int) := by
        have h2 := HS2.out
        clear r1 r2 hq1 hq2
        go_arith
      have hdi : (if n - x < s then ((n - x : Nat) : Int) else (s : Int)) = (d : Int) := by
        split <;> omega
      have hdi2 : min (s : Int) ((n - x : Nat) : Int) = (d : Int) := by omega
      have HDI := Lib.hid hdi
      have HDI2 := Lib.hid hdi2
      clear hdi hdi2
      have HWX := Lib.hid hwx
      clear hd hwx
      go_upto_region 3 with fail
      go_region
      first | rw [HDI.out] | rw [HDI2.out]
      have hS1 : Hid (CI ob nb a n c s wr.drew ∧ J pre wr.drew ∧ w.heap.size ≤ wr.drew.heap.size) := ⟨hS.out.1.next (Below.refl _ _).drew, HJ.out _ _ _ hS.out.2.1 (Below.refl _ _).drew, hS.out.2.2⟩
      clear hS r1 r2 hq1
      generalize wr.drew = w1 at hS1 ⊢
      have r1 := hS1.out.1.1.cell 0
      simp at r1
      go_upto_region 4 with fail
      obtain ⟨fn, tmps, assign, body, hy, hRd⟩ := HY.out pre x w1 hS1.out.2.1 ⟨hx.out, hlt⟩
      rw [cenc, HD.out] at hy
      refine (wpIn_wide (n := 8)).1 ?_
      gi_wp2
      refine hRd.mono ?_
      rintro e W9 (⟨rfl, hj, hk⟩ | ⟨rfl, hjx⟩)
      · have HS9 : Hid (CI ob nb a n c s W9 ∧ J (pre ++ [x]) W9 ∧ w.heap.size ≤ W9.heap.size) := ⟨HK.out _ _ hS1.out.1 hk, hj, Nat.le_trans hS1.out.2.2 hk.1⟩
        have r2 := HS9.out.1.2.cell 0
        simp at r2
        clear hj hk hy hRd hS1 r1 hq2
        gi_wp2
        go_wp2_with fail
        go_roundw
        case measure => rw [HWX.out]; simp [intOf]; omega
        case rel => exact ⟨x + s, pre ++ [x], by rw [HWX.out], Lib.hid (by rw [hx.out, List.length_append, Nat.add_mul]; simp), .inr (by omega), HS9⟩
      · have HJ9 := Lib.hid hjx
        clear hjx hy hRd hS1 r1 hq2
        gi_wp2
        go_wp2_with fail
        try rw [Exit.noGoto_ret]
        refine bodyPost_ret (results_none rfl _ _ _) rfl ?_
        exact ⟨⟨_, rfl⟩, .inr ⟨pre ++ [x], trivial, HJ9.out⟩⟩
    · go_wp2_with fail
      try rw [Exit.noGoto_normal]
      go_end0
      exact ⟨⟨_, rfl⟩, .inl ⟨pre, by rw [← hx.out]; omega, hS.out.2.1⟩⟩
end Fg
end Go.Proofs.Ytednkcjmlpgipaa
/-
  A region that draws its order, within a round of a range over a function: walked as outside of one.
-/
namespace Go.Proofs.Ytednkcjmlpgipaa
set_option linter.unusedVariables false

theorem oper_in {l n : Nat} {P : Program} {o : Oper} (hd : ∀ c, o.op ≠ .defer c) {a : Act} {w : World} {K : Act → World → Prop} {Q : Exit → Act → World → Prop} (h : o.wp P a w K Q) : o.wpIn (Fence.wide.inRound l) n P a w K Q := by
  refine ⟨fun f _ => trivial, ?_⟩
  rw [Oper.semAt_eq _ _ _ hd]
  unfold Oper.wp at h
  generalize (execOp a.eval o).run P w = r at h ⊢
  cases r with
  | ok x w' =>
    cases x <;> simp only [Oper.upon, Oper.uponIn] at h ⊢
    case value v => exact h
    case skip => exact h
    case defer d => exact h
    case enter f args =>
      refine ⟨fun e => (by cases e), CallsIn.inRound l ((callsIn_wide.2 h).mono ?_)⟩
      intro e w'' he
      cases e <;> exact he
    case row row args => exact ⟨fun e => (by cases e), fun c cs _ => let ⟨v, w', r, s⟩ := h c cs; ⟨v, w', r, stepsIn_wide.2 s⟩⟩
  | halt x w' => cases x <;> simp only [Oper.upon, Oper.uponIn] at h ⊢ <;> exact h
theorem any_in {l n : Nat} {P : Program} {md : Region.Mode} {ops : Array Oper} {Q : Exit → Act → World → Prop} (hd : ∀ (i : Nat) (o : Oper) (c : _), ops[i]? = some o → o.op ≠ Op.defer c) (hq : ¬ LetsOut Q) : ∀ (fuel : Nat) (listed : Array Bool) (a : Act) (w : World),
    wpAny P md ops Q fuel listed a w → wpAnyIn (Fence.wide.inRound l) n P md ops Q fuel listed a w
  | 0, listed, a, w, h => h
  | fuel + 1, listed, a, w, h => by
    refine ⟨h.1, fun i hi => ?_⟩
    have h2 := h.2 i hi
    unfold wpOp at h2
    unfold wpOpIn
    cases ho : ops[i]? with
    | none =>
      simp only [ho] at h2 ⊢
      exact any_in hd hq fuel _ _ _ h2
    | some o =>
      simp only [ho] at h2 ⊢
      split
      · rename_i hw
        simp only [hw, if_true] at h2
        rcases h2 with h2 | h2
        · exact oper_in (fun c => hd i o c ho) (Oper.wp_mono (fun a w h => any_in hd hq fuel _ a w h) h2)
        · exact absurd h2.2 hq
      · rename_i hw
        simp only [hw] at h2
        exact ⟨fun f _ => trivial, any_in hd hq fuel _ _ _ h2⟩
/-- The region. -/
theorem region_in {l n : Nat} {P : Program} {id : Nat} {ops : Array Oper} {S : World → Prop} {Q : Exit → Act → World → Prop} {a : Act} {w : World} (hm : P.follows .mixedOrders = true) (hd : ops.toList.all (fun o => match o.op with | .defer _ => false | _ => true) = true) (hq : ¬ LetsOut Q) (hS : S w.drew)
    (h : S w.drew → wpAnyH P .any ops Q S ops.size (Array.replicate ops.size false) a w.drew) : (Code.region id ops true).wpIn (Fence.wide.inRound l) n P Q a w :=
  wpIn_region_any hm (any_in (fun i o c ho e => by
    have h1 := List.all_eq_true.1 hd o (by simpa using Array.mem_of_getElem? ho)
    rw [e] at h1
    cases h1) hq _ _ _ _ (wpAny_of_held _ _ _ _ (h hS)))
end Go.Proofs.Ytednkcjmlpgipaa
/-
  Strings as rows of bytes. For all layers.
-/
namespace Go.Proofs.Ytednkcjmlpgipaa
open Go.RowKit
set_option linter.unusedVariables false
namespace Str

theorem push_list (l : List Int) : ∀ r : ByteArray, (l.foldl (fun r n => r.push (UInt8.ofNat n.toNat)) r).data.toList = r.data.toList ++ l.map fun n => UInt8.ofNat n.toNat := by
  induction l with
  | nil => intro r; simp
  | cons x l ih => intro r; rw [List.foldl_cons, ih]; simp [ByteArray.push]
theorem data_of (l : List Int) : (strOf l).data.toList = l.map fun x => UInt8.ofNat x.toNat := by
  unfold strOf
  rw [push_list]
  simp
theorem size_of (l : List Int) : (strOf l).size = l.length := by
  show (strOf l).data.size = l.length
  rw [← Array.length_toList, data_of l, List.length_map]
theorem row_of {l : List Int} {s : ByteArray} (h : strOf l = s) (hb : Byt l) (w : World) (cap : Nat) (t : TypeId) (fr : Nat × Nat) : Row (w.alloc (.cells (bytesRow s cap) t fr)) (some ⟨w.heap.size, 0, none⟩) (bs l) := by
  intro i v hv
  refine ⟨_, rfl, ?_⟩
  have e : (⟨w.heap.size, 0, none⟩ : Addr).add i = ⟨w.heap.size, i, none⟩ := by unfold Addr.add; split <;> simp_all
  rw [e, cell_of_row _ _ _ _ _ _ (heap_alloc_new _ _)]
  have hi : i < l.length := by
    have := (List.getElem?_eq_some_iff.1 hv).1
    simpa [bs] using this
  have hd := data_of l
  rw [h] at hd
  have hs : i < s.data.size := by rw [← Array.length_toList, hd]; simpa using hi
  have hx : s.data[i]? = some (UInt8.ofNat l[i].toNat) := by
    rw [← Array.getElem?_toList, hd]
    simp [List.getElem?_eq_getElem hi]
  rw [bytesRow, Array.getElem?_append_left (by simpa using hs)]
  simp only [Array.getElem?_map, hx, Option.map_some]
  rw [← hv]
  obtain ⟨c, hc, hc2⟩ := hb.at hi
  simp only [bs, List.getElem?_map, List.getElem?_eq_getElem hi, Option.map_some]
  have := hb l[i] (List.getElem_mem hi)
  have e3 : ((UInt8.ofNat l[i].toNat).toNat : Int) = l[i] := by rw [UInt8.toNat_ofNat']; omega
  rw [e3]
end Str
end Go.Proofs.Ytednkcjmlpgipaa
/-
  Messages whose pieces come in any order: plain.
-/
namespace Go.Proofs.Ytednkcjmlpgipaa
set_option maxRecDepth 4000
namespace Fg
set_option linter.unusedVariables false
set_option linter.unusedSimpArgs false

/-- N pieces with TSNs one behind the other, in messages: mo tells which, lo and hi where it begins and ends. -/
structure Lay (N tsn : Nat) (pc : Nat → Pc) (mo lo hi : Nat → Nat) (ms mn mp : Nat → Nat) (mu : Nat → Bool) : Prop where
  big : N < 4294967296
  tl : tsn < 4294967296
  at_ : ∀ q, q < N → (pc q).t = fw tsn q
  ge : ∀ q, q < N → lo (mo q) ≤ q
  lt : ∀ q, q < N → q < hi (mo q)
  top : ∀ q, q < N → hi (mo q) ≤ N
  same : ∀ q, q < N → ∀ r, lo (mo q) ≤ r → r < hi (mo q) → mo r = mo q
  bgn : ∀ q, q < N → bg (pc q).f = decide (q = lo (mo q))
  enn : ∀ q, q < N → en (pc q).f = decide (q + 1 = hi (mo q))
  unn : ∀ q, q < N → un (pc q).f = mu (mo q)
  sid : ∀ q, q < N → (pc q).s = ms (mo q)
  ssn : ∀ q, q < N → (pc q).n = mn (mo q)
  ppi : ∀ q, q < N → (pc q).p = mp (mo q)
/-- What is kept: those of pr. -/
def Sees (N tsn : Nat) (pc : Nat → Pc) (pr : Nat → Bool) (K : List Pc) : Prop :=
  (∀ q, q < N → look K (fw tsn q) = if pr q then some (pc q) else none) ∧ ∀ t, (∀ q, q < N → t ≠ fw tsn q) → look K t = none
theorem fw_inj {tsn q r N : Nat} (hN : N < 4294967296) (hq : q < N) (hr : r < N) (h : fw tsn q = fw tsn r) : q = r := by
  unfold fw at h
  omega
theorem fw_fw (tsn q b : Nat) : fw (fw tsn q) b = fw tsn (q + b) := by unfold fw; omega
theorem bw_fw {tsn q a : Nat} (h : a ≤ q) (hq : q < 4294967296) : bw (fw tsn q) a = fw tsn (q - a) := by unfold bw fw; omega
section
variable {N tsn : Nat} {pc : Nat → Pc} {mo lo hi ms mn mp : Nat → Nat} {mu : Nat → Bool}
theorem sees_app {pr : Nat → Bool} {K : List Pc} (hL : Lay N tsn pc mo lo hi ms mn mp mu) (h : Sees N tsn pc pr K) {c : Nat} (hc : c < N) (hp : pr c = false) :
    Sees N tsn pc (fun q => pr q || q == c) (K ++ [pc c]) := by
  refine ⟨fun q hq => ?_, fun t ht => ?_⟩
  · rw [look_app, h.1 q hq, hL.at_ c hc]
    by_cases e : pr q = true
    · simp [e]
    · have e' : pr q = false := by simpa using e
      by_cases e2 : q = c
      · subst e2
        simp [e']
      · have : fw tsn c ≠ fw tsn q := fun e3 => e2 (fw_inj hL.big hq hc e3.symm)
        simp [e', e2, this]
  · rw [look_app, h.2 t ht, hL.at_ c hc, if_neg (by simp), if_neg (fun e => ht c hc e.symm)]
theorem goes_in {pr : Nat → Bool} {K : List Pc} (hL : Lay N tsn pc mo lo hi ms mn mp mu) (h : Sees N tsn pc pr K) {q : Nat} (hq : q + 1 < hi (mo q)) (hqN : q < N) (h1 : pr q = true) (h2 : pr (q + 1) = true) : goes K (fw tsn q) = true := by
  have hN : q + 1 < N := Nat.lt_of_lt_of_le hq (hL.top q hqN)
  have hm : mo (q + 1) = mo q := hL.same q hqN (q + 1) (by have := hL.ge q hqN; omega) hq
  unfold goes
  rw [fw_fw, h.1 q hqN, h.1 (q + 1) hN, if_pos h1, if_pos h2]
  have e1 : Fg.en (pc q).f = false := by rw [hL.enn q hqN]; exact decide_eq_false (by omega)
  have e2 : Fg.bg (pc (q + 1)).f = false := by rw [hL.bgn (q + 1) hN, hm]; exact decide_eq_false (by have := hL.ge q hqN; omega)
  simp only [gon, e1, e2, hL.sid q hqN, hL.sid (q + 1) hN, hL.ssn q hqN, hL.ssn (q + 1) hN, hL.unn q hqN, hL.unn (q + 1) hN, hm]
  simp
theorem begs_in {pr : Nat → Bool} {K : List Pc} (hL : Lay N tsn pc mo lo hi ms mn mp mu) (h : Sees N tsn pc pr K) {q : Nat} (hq : q < N) : begs K (fw tsn q) = (pr q && decide (q = lo (mo q))) := by
  unfold begs
  rw [h.1 q hq]
  cases pr q <;> simp [hL.bgn q hq]
theorem ends_in {pr : Nat → Bool} {K : List Pc} (hL : Lay N tsn pc mo lo hi ms mn mp mu) (h : Sees N tsn pc pr K) {q : Nat} (hq : q < N) : ends K (fw tsn q) = (pr q && decide (q + 1 = hi (mo q))) := by
  unfold ends
  rw [h.1 q hq]
  cases pr q <;> simp [hL.enn q hq]
/-- Where all is there, it is found. -/
theorem bnd_full {K : List Pc} {t A B : Nat} (hb : ∀ a, a ≤ A → begs K (bw t a) = decide (a = A)) (he : ∀ b, b ≤ B → ends K (fw t b) = decide (b = B)) (h1 : ∀ a, a < A → goes K (bw t (a + 1)) = true) (h2 : ∀ b, b < B → goes K (fw t b) = true) :
    ∀ (g a b : Nat), a ≤ A → b ≤ B → A - a < g → B - b < g → bnd K t g a b = some (A, B)
  | 0, _, _, _, _, h, _ => by omega
  | g + 1, a, b, ha, hbb, hga, hgb => by
    rw [bnd, hb a ha, he b hbb]
    by_cases ea : a = A
    · by_cases eb : b = B
      · subst ea; subst eb
        simp
      · subst ea
        rw [if_neg (by simp [eb]), if_neg (by simp [eb, h2 b (by omega)])]
        have := bnd_full hb he h1 h2 g a (b + 1) (by omega) (by omega) (by omega) (by omega)
        simpa [eb] using this
    · by_cases eb : b = B
      · subst eb
        rw [if_neg (by simp [ea]), if_neg (by simp [ea, h1 a (by omega)])]
        have := bnd_full hb he h1 h2 g (a + 1) b (by omega) (by omega) (by omega) (by omega)
        simpa [ea] using this
      · rw [if_neg (by simp [ea]), if_neg (by simp [ea, eb, h1 a (by omega), h2 b (by omega)])]
        have := bnd_full hb he h1 h2 g (a + 1) (b + 1) (by omega) (by omega) (by omega) (by omega)
        simpa [ea, eb] using this
theorem tk_at {K : List Pc} {t0 : Nat} : ∀ (c : Nat) (t : Nat), look (tkK K t0 c) t = if (∃ i, i < c ∧ t = fw t0 i) then none else look K t
  | 0, t => by simp [tkK]
  | c + 1, t => by
    rw [tkK]
    by_cases e : t = fw t0 c
    · rw [e, look_del_same, if_pos ⟨c, by omega, rfl⟩]
    · rw [look_del_other e, tk_at c t]
      by_cases e2 : ∃ i, i < c ∧ t = fw t0 i
      · rw [if_pos e2]
        obtain ⟨i, hi, h⟩ := e2
        rw [if_pos ⟨i, by omega, h⟩]
      · rw [if_neg e2, if_neg]
        rintro ⟨i, hi, h⟩
        by_cases e3 : i = c
        · exact e (by rw [h, e3])
        · exact e2 ⟨i, by omega, h⟩
def bytes (pc : Nat → Pc) (l n : Nat) : List Int := (List.range n).flatMap fun i => (pc (l + i)).d
theorem tkD_is {pr : Nat → Bool} {K : List Pc} (h : Sees N tsn pc pr K) {l : Nat} : ∀ (n : Nat), l + n ≤ N → (∀ r, l ≤ r → r < l + n → pr r = true) → tkD K (fw tsn l) n = bytes pc l n
  | 0, _, _ => rfl
  | n + 1, hn, hp => by
    rw [tkD, tkD_is h n (by omega) (fun r h1 h2 => hp r h1 (by omega))]
    unfold dat bytes
    rw [fw_fw, h.1 (l + n) (by omega), if_pos (hp (l + n) (by omega) (by omega)), List.range_succ, List.flatMap_append]
    simp
theorem put_dup {pr : Nat → Bool} {K : List Pc} (hL : Lay N tsn pc mo lo hi ms mn mp mu) (h : Sees N tsn pc pr K) {c : Nat} (hc : c < N) (hp : pr c = true) : put K (pc c) = (K, none) := by
  unfold put
  rw [hL.at_ c hc, h.1 c hc, if_pos hp]
  rfl
/-- A piece that is not the last of its message to come. -/
theorem put_part {pr : Nat → Bool} {K : List Pc} (hL : Lay N tsn pc mo lo hi ms mn mp mu) (h : Sees N tsn pc pr K) {c : Nat} (hc : c < N) (hp : pr c = false) (hm : ∃ r, lo (mo c) ≤ r ∧ r < hi (mo c) ∧ pr r = false ∧ r ≠ c) :
    put K (pc c) = (K ++ [pc c], none) := by
  have h2 := sees_app hL h hc hp
  unfold put
  rw [hL.at_ c hc, h.1 c hc, if_neg (by simp [hp])]
  have hsome : (look (K ++ [pc c]) (fw tsn c)).isSome = true := by rw [h2.1 c hc]; simp
  split
  · rfl
  · exfalso
    rename_i a b hb
    have hle := bnd_le hb
    obtain ⟨hch, hbe, hen, _, _⟩ := bnd_some (chain_start hsome) hb
    obtain ⟨r, hr1, hr2, hr3, hr4⟩ := hm
    have hcl := hL.ge c hc
    have hct := hL.top c hc
    have hcN := hL.big
    -- back: each step stays in the message
    have back : ∀ i, i ≤ a → i ≤ c ∧ lo (mo c) ≤ c - i ∧ (pr (c - i) || (c - i) == c) = true := by
      intro i
      induction i with
      | zero => exact fun _ => ⟨Nat.zero_le _, hcl, by simp⟩
      | succ i ih =>
        intro hi1
        obtain ⟨k1, k2, k3⟩ := ih (by omega)
        have hg := hch.2.1 i (by omega)
        obtain ⟨x, y, hx, hy, hxe, hye, _⟩ := goes_left hg
        by_cases e : i + 1 ≤ c
        · rw [bw_fw e (by omega)] at hx hy
          rw [fw_fw, show c - (i + 1) + 1 = c - i by omega] at hy
          rw [h2.1 (c - i) (by omega)] at hy
          rw [h2.1 (c - (i + 1)) (by omega)] at hx
          split at hx
          · rename_i hpx
            rw [if_pos k3] at hy
            injection hy with hy
            rw [← hy, hL.bgn (c - i) (by omega)] at hye
            have hmo : mo (c - i) = mo c := hL.same c hc (c - i) k2 (by have := hL.lt c hc; omega)
            rw [hmo] at hye
            have := of_decide_eq_false hye
            exact ⟨e, by omega, hpx⟩
          · cases hx
        · exfalso
          have e0 : i = c := by omega
          have e9 : fw (bw (fw tsn c) (i + 1)) 1 = fw tsn 0 := by unfold bw fw; omega
          rw [e9, h2.1 0 (by omega)] at hy
          split at hy
          · injection hy with hy
            rw [← hy, hL.bgn 0 (by omega)] at hye
            have hmo : mo 0 = mo c := hL.same c hc 0 (by omega) (by have := hL.lt c hc; omega)
            have := of_decide_eq_false hye
            have := hL.ge 0 (by omega)
            omega
          · cases hy
    have fore : ∀ i, i ≤ b → c + i < hi (mo c) ∧ (pr (c + i) || (c + i) == c) = true := by
      intro i
      induction i with
      | zero => exact fun _ => ⟨hL.lt c hc, by simp⟩
      | succ i ih =>
        intro hi1
        obtain ⟨k1, k2⟩ := ih (by omega)
        have hg := hch.2.2 i (by omega)
        obtain ⟨x, y, hx, hy, hxe, hye, _⟩ := goes_left hg
        rw [fw_fw, h2.1 (c + i) (by omega)] at hx
        rw [if_pos k2] at hx
        injection hx with hx
        rw [← hx, hL.enn (c + i) (by omega)] at hxe
        have hmo : mo (c + i) = mo c := hL.same c hc (c + i) (by omega) k1
        rw [hmo] at hxe
        have h3 := of_decide_eq_false hxe
        rw [fw_fw, fw_fw, h2.1 (c + (i + 1)) (by omega)] at hy
        split at hy
        · rename_i hpy
          exact ⟨by omega, hpy⟩
        · cases hy
    obtain ⟨a1, a2, a3⟩ := back a (Nat.le_refl _)
    obtain ⟨b1, b2⟩ := fore b (Nat.le_refl _)
    rw [bw_fw a1 (by omega), begs_in hL h2 (by omega)] at hbe
    rw [fw_fw, ends_in hL h2 (by omega)] at hen
    simp only [Bool.and_eq_true, decide_eq_true_eq] at hbe hen
    have e1 : mo (c - a) = mo c := hL.same c hc (c - a) a2 (by have := hL.lt c hc; omega)
    have e2 : mo (c + b) = mo c := hL.same c hc (c + b) (by omega) b1
    rw [e1] at hbe
    rw [e2] at hen
    by_cases e : r ≤ c
    · have := (back (c - r) (by omega)).2.2
      rw [show c - (c - r) = r by omega, hr3] at this
      simp at this
      exact hr4 this
    · have := (fore (r - c) (by omega)).2
      rw [show c + (r - c) = r by omega, hr3] at this
      simp at this
      exact hr4 this
/-- The last one of its message. -/
theorem put_whole {pr : Nat → Bool} {K : List Pc} (hL : Lay N tsn pc mo lo hi ms mn mp mu) (h : Sees N tsn pc pr K) (ha : Apart K) {c : Nat} (hc : c < N) (hp : pr c = false) (hm : ∀ r, lo (mo c) ≤ r → r < hi (mo c) → r ≠ c → pr r = true) :
    ∃ K', put K (pc c) = (K', some (⟨ms (mo c), mu (mo c), mp (mo c), bytes pc (lo (mo c)) (hi (mo c) - lo (mo c))⟩, mn (mo c))) ∧ Sees N tsn pc (fun q => (pr q || q == c) && !(mo q == mo c)) K' := by
  have h2 := sees_app hL h hc hp
  have hcl := hL.ge c hc
  have hch := hL.lt c hc
  have hct := hL.top c hc
  have hcN := hL.big
  have hall : ∀ r, lo (mo c) ≤ r → r < hi (mo c) → (pr r || r == c) = true := fun r h1 h3 => by
    by_cases e : r = c
    · simp [e]
    · simp [hm r h1 h3 e]
  have hmo : ∀ r, lo (mo c) ≤ r → r < hi (mo c) → mo r = mo c := fun r h1 h3 => hL.same c hc r h1 h3
  have hap : Apart (K ++ [pc c]) := apart_app ha (by rw [hL.at_ c hc, h.1 c hc, if_neg (by simp [hp])])
  have hbnd : bnd (K ++ [pc c]) (fw tsn c) (K.length + 1) 0 0 = some (c - lo (mo c), hi (mo c) - 1 - c) := by
    have hlen : hi (mo c) - lo (mo c) ≤ (K ++ [pc c]).length := pigeon _ _ (fun i => fw tsn (lo (mo c) + i)) (fun i j h1 h3 e => by have := fw_inj hL.big (by omega) (by omega) e; omega) (fun i hi => by
      have := h2.1 (lo (mo c) + i) (by omega)
      rw [this, if_pos (hall _ (by omega) (by omega))]
      rfl) hap
    rw [List.length_append, List.length_singleton] at hlen
    refine bnd_full (fun a h1 => ?_) (fun b h1 => ?_) (fun a h1 => ?_) (fun b h1 => ?_) _ _ _ (Nat.zero_le _) (Nat.zero_le _) (by omega) (by omega)
    · rw [bw_fw (by omega) (by omega), begs_in hL h2 (by omega), hmo (c - a) (by omega) (by omega)]
      have := hall (c - a) (by omega) (by omega)
      simp only [this, Bool.true_and, decide_eq_decide]
      omega
    · rw [fw_fw, ends_in hL h2 (by omega), hmo (c + b) (by omega) (by omega)]
      have := hall (c + b) (by omega) (by omega)
      simp only [this, Bool.true_and, decide_eq_decide]
      omega
    · rw [bw_fw (by omega) (by omega)]
      exact goes_in hL h2 (by rw [hmo (c - (a + 1)) (by omega) (by omega)]; omega) (by omega) (hall _ (by omega) (by omega)) (hall _ (by omega) (by omega))
    · rw [fw_fw]
      exact goes_in hL h2 (by rw [hmo (c + b) (by omega) (by omega)]; omega) (by omega) (hall _ (by omega) (by omega)) (hall _ (by omega) (by omega))
  have hcnt : c - lo (mo c) + (hi (mo c) - 1 - c) + 1 = hi (mo c) - lo (mo c) := by omega
  have hbw : bw (fw tsn c) (c - lo (mo c)) = fw tsn (lo (mo c)) := by rw [bw_fw (by omega) (by omega)]; congr 1; omega
  unfold put
  rw [hL.at_ c hc, h.1 c hc, if_neg (by simp [hp]), hbnd]
  simp only [hcnt, hbw]
  have hlN : lo (mo c) < N := by omega
  have hml := hmo (lo (mo c)) (Nat.le_refl _) (by omega)
  refine ⟨_, congrArg (fun z => (tkK (K ++ [pc c]) (fw tsn (lo (mo c))) (hi (mo c) - lo (mo c)), some z)) ?_, fun q hq => ?_, fun t ht => ?_⟩
  · unfold tell
    rw [h2.1 _ hlN, if_pos (hall _ (Nat.le_refl _) (by omega))]
    simp only
    rw [tkD_is h2 _ (by omega) (fun r h1 h3 => hall r h1 (by omega)), hL.sid _ hlN, hL.unn _ hlN, hL.ppi _ hlN, hL.ssn _ hlN, hml]
  · rw [tk_at, h2.1 q hq]
    by_cases e : mo q = mo c
    · have h3 := hL.ge q hq
      have h4 := hL.lt q hq
      rw [e] at h3 h4
      rw [if_pos ⟨q - lo (mo c), by omega, by rw [fw_fw]; congr 1; omega⟩]
      simp [e]
    · rw [if_neg]
      · simp [e]
      · rintro ⟨i, h3, h4⟩
        rw [fw_fw] at h4
        have := fw_inj hL.big hq (by omega) h4
        exact e (hmo q (by omega) (by omega))
  · rw [tk_at, h2.2 t ht]
    simp
/-- How many of a message have not come. -/
def lft (lo hi : Nat → Nat) (ar : Nat → Bool) (m : Nat) : Nat := ((List.range (hi m - lo m)).filter fun i => !ar (lo m + i)).length
def kpt (mo lo hi : Nat → Nat) (ar : Nat → Bool) (q : Nat) : Bool := ar q && decide (lft lo hi ar (mo q) ≠ 0)
theorem lft_none {ar : Nat → Bool} {m : Nat} : lft lo hi ar m = 0 ↔ ∀ r, lo m ≤ r → r < hi m → ar r = true := by
  unfold lft
  rw [List.length_eq_zero_iff, List.filter_eq_nil_iff]
  constructor
  · intro h r h1 h2
    have := h (r - lo m) (List.mem_range.2 (by omega))
    rw [show lo m + (r - lo m) = r by omega] at this
    simpa using this
  · intro h i hi
    have := h (lo m + i) (by omega) (by have := List.mem_range.1 hi; omega)
    simp [this]
theorem filter_one {f g : Nat → Bool} {k : Nat} (hk : f k = true) (hg : ∀ i, g i = (f i && !(i == k))) : ∀ {n : Nat}, k < n → ((List.range n).filter g).length + 1 = ((List.range n).filter f).length
  | n + 1, h => by
    rw [List.range_succ, List.filter_append, List.filter_append, List.length_append, List.length_append]
    by_cases e : k = n
    · subst e
      have h1 : (List.range k).filter g = (List.range k).filter f := List.filter_congr fun i hi => by
        have := List.mem_range.1 hi
        rw [hg, show (i == k) = false by simp; omega]
        simp
      rw [h1]
      simp [hg, hk]
    · have ih := filter_one hk hg (n := n) (by omega)
      have h2 : g n = f n := by
        rw [hg, show (n == k) = false by simp; omega]
        simp
      simp only [List.filter_cons, List.filter_nil, h2]
      omega
theorem lft_one {ar : Nat → Bool} (hL : Lay N tsn pc mo lo hi ms mn mp mu) {c : Nat} (hc : c < N) (ha : ar c = false) : lft lo hi (fun q => ar q || q == c) (mo c) + 1 = lft lo hi ar (mo c) := by
  have h1 := hL.ge c hc
  have h2 := hL.lt c hc
  unfold lft
  refine filter_one (k := c - lo (mo c)) ?_ (fun i => ?_) (by omega)
  · rw [show lo (mo c) + (c - lo (mo c)) = c by omega, ha]
    rfl
  · have : (lo (mo c) + i == c) = (i == c - lo (mo c)) := by
      rw [Bool.eq_iff_iff]
      simp
      omega
    simp only [Bool.not_or, this]
theorem lft_other {ar : Nat → Bool} (hL : Lay N tsn pc mo lo hi ms mn mp mu) {c m : Nat} (hc : c < N) (hm : m ≠ mo c) (hmm : ∀ r, lo m ≤ r → r < hi m → mo r = m) : lft lo hi (fun q => ar q || q == c) m = lft lo hi ar m := by
  unfold lft
  congr 1
  refine List.filter_congr fun i hi => ?_
  have h1 := List.mem_range.1 hi
  have : (lo m + i == c) = false := by
    rw [beq_eq_false_iff_ne]
    intro e
    exact hm (by rw [← e]; exact (hmm _ (by omega) (by omega)).symm)
  simp [this]
end
end Fg
end Go.Proofs.Ytednkcjmlpgipaa
/-
  The document's Put, plainly: it tries all rows with the new piece; the one row that is whole is the one that is found.
-/
namespace Go.Proofs.Ytednkcjmlpgipaa
set_option maxRecDepth 4000
namespace Fg
set_option linter.unusedVariables false
set_option linter.unusedSimpArgs false

/-- One piece of a row of n, the first of which is x0: as a whole one has it. -/
def fitsAt (x0 : Pc) (n i : Nat) (p : Pc) : Bool := p.s == x0.s && p.n == x0.n && un p.f == un x0.f && (bg p.f == decide (i = 0)) && (en p.f == decide (i + 1 = n))
/-- The pieces of n TSNs from one on. -/
def RowIs (K : List Pc) (from' n : Nat) (l : List Pc) : Prop := l.length = n ∧ ∀ i (h : i < l.length), look K (fw from' i) = some l[i]
def WholeIs (l : List Pc) : Prop := ∃ h : 0 < l.length, ∀ i (hi : i < l.length), fitsAt l[0] l.length i l[i] = true
theorem fits_parts {x0 p : Pc} {n i : Nat} (h : fitsAt x0 n i p = true) : p.s = x0.s ∧ p.n = x0.n ∧ un p.f = un x0.f ∧ bg p.f = decide (i = 0) ∧ en p.f = decide (i + 1 = n) := by
  unfold fitsAt at h
  simp only [Bool.and_eq_true, beq_iff_eq] at h
  exact ⟨h.1.1.1.1, h.1.1.1.2, h.1.1.2, h.1.2, h.2⟩
theorem fits_mk {x0 p : Pc} {n i : Nat} (h : p.s = x0.s ∧ p.n = x0.n ∧ un p.f = un x0.f ∧ bg p.f = decide (i = 0) ∧ en p.f = decide (i + 1 = n)) : fitsAt x0 n i p = true := by
  obtain ⟨h1, h2, h3, h4, h5⟩ := h
  unfold fitsAt
  simp [h1, h2, h3, h4, h5]
/-- A whole row with the piece is the one that is found. -/
theorem whole_bnd {K : List Pc} {t back n g : Nat} {l : List Pc} (ht : t < 4294967296) (hb : back < n) (hn : n < 4294967296) (hg : n ≤ g) (hr : RowIs K (bw t back) n l) (hw : WholeIs l) : bnd K t g 0 0 = some (back, n - 1 - back) := by
  obtain ⟨hl, hr⟩ := hr
  obtain ⟨h0, hw⟩ := hw
  have hat : ∀ i, i < n → ∃ p, look K (fw (bw t back) i) = some p ∧ p.s = l[0].s ∧ p.n = l[0].n ∧ un p.f = un l[0].f ∧ bg p.f = decide (i = 0) ∧ en p.f = decide (i + 1 = n) := fun i hi => by
    have hi2 : i < l.length := by omega
    refine ⟨l[i], hr i hi2, ?_⟩
    have := fits_parts (hw i hi2)
    rwa [hl] at this
  refine bnd_full (A := back) (B := n - 1 - back) (fun a ha => ?_) (fun b hbb => ?_) (fun a ha => ?_) (fun b hbb => ?_) g 0 0 (Nat.zero_le _) (Nat.zero_le _) (by omega) (by omega)
  · obtain ⟨p, hp, _, _, _, h4, _⟩ := hat (back - a) (by omega)
    have e : fw (bw t back) (back - a) = bw t a := by unfold fw bw; omega
    rw [e] at hp
    unfold begs
    rw [hp]
    simp only [h4]
    rw [decide_eq_decide]
    omega
  · obtain ⟨p, hp, _, _, _, _, h5⟩ := hat (back + b) (by omega)
    have e : fw (bw t back) (back + b) = fw t b := by unfold fw bw; omega
    rw [e] at hp
    unfold ends
    rw [hp]
    simp only [h5]
    rw [decide_eq_decide]
    omega
  · obtain ⟨p, hp, p1, p2, p3, _, p5⟩ := hat (back - a - 1) (by omega)
    obtain ⟨q, hq, q1, q2, q3, q4, _⟩ := hat (back - a) (by omega)
    have e : fw (bw t back) (back - a - 1) = bw t (a + 1) := by unfold fw bw; omega
    have e2 : fw (bw t back) (back - a) = fw (bw t (a + 1)) 1 := by unfold fw bw; omega
    rw [e] at hp
    rw [e2] at hq
    unfold goes
    rw [hp, hq]
    show (!en p.f && !bg q.f && p.s == q.s && p.n == q.n && un p.f == un q.f) = true
    rw [p5, q4, p1, q1, p2, q2, p3, q3, decide_eq_false (show ¬ back - a - 1 + 1 = n by omega), decide_eq_false (show ¬ back - a = 0 by omega)]
    simp
  · obtain ⟨p, hp, p1, p2, p3, _, p5⟩ := hat (back + b) (by omega)
    obtain ⟨q, hq, q1, q2, q3, q4, _⟩ := hat (back + b + 1) (by omega)
    have e : fw (bw t back) (back + b) = fw t b := by unfold fw bw; omega
    have e2 : fw (bw t back) (back + b + 1) = fw (fw t b) 1 := by unfold fw bw; omega
    rw [e] at hp
    rw [e2] at hq
    unfold goes
    rw [hp, hq]
    show (!en p.f && !bg q.f && p.s == q.s && p.n == q.n && un p.f == un q.f) = true
    rw [p5, q4, p1, q1, p2, q2, p3, q3, decide_eq_false (show ¬ back + b + 1 = n by omega), decide_eq_false (show ¬ back + b + 1 = 0 by omega)]
    simp
theorem gon_parts {x y : Pc} (h : gon (some x) (some y) = true) : en x.f = false ∧ bg y.f = false ∧ x.s = y.s ∧ x.n = y.n ∧ un x.f = un y.f := by
  unfold gon at h
  simp only [Bool.and_eq_true, Bool.not_eq_true', beq_iff_eq] at h
  exact ⟨h.1.1.1.1, h.1.1.1.2, h.1.1.2, h.1.2, h.2⟩
/-- .. and what is found is a whole row, not longer than what is kept. -/
theorem bnd_whole {K : List Pc} {t g a b : Nat} (ht : t < 4294967296) (hK : Apart K) (h0 : (look K t).isSome = true) (h : bnd K t g 0 0 = some (a, b)) (hg : g < 1073741824) :
    a + b + 1 ≤ K.length ∧ ∃ l, RowIs K (bw t a) (a + b + 1) l ∧ WholeIs l := by
  obtain ⟨hc, hbg, hen, _, _⟩ := bnd_some (chain_start h0) h
  obtain ⟨g1, g2⟩ := bnd_le h
  have hab : a + b < 4294967296 := by omega
  have hs := chain_some ht hc hab
  have hlen := chain_len ht hK hc hab
  refine ⟨hlen, (List.range (a + b + 1)).map (fun i => (look K (fw (bw t a) i)).getD ⟨0, 0, 0, 0, 0, []⟩), ⟨by simp, fun i hi => ?_⟩, ⟨by simp, ?_⟩⟩
  · simp only [List.length_map, List.length_range] at hi
    obtain ⟨x, hx⟩ := Option.isSome_iff_exists.1 (hs i (by omega))
    simp [hx]
  · -- pieces one by one
    have hgo : ∀ i, i < a + b → gon (look K (fw (bw t a) i)) (look K (fw (bw t a) (i + 1))) = true := fun i hi => by
      by_cases hia : i < a
      · have := hc.2.1 (a - i - 1) (by omega)
        unfold goes at this
        have e : bw t (a - i - 1 + 1) = fw (bw t a) i := by unfold fw bw; omega
        have e2 : fw (bw t (a - i - 1 + 1)) 1 = fw (bw t a) (i + 1) := by unfold fw bw; omega
        rw [e2, e] at this
        exact this
      · have := hc.2.2 (i - a) (by omega)
        unfold goes at this
        have e : fw t (i - a) = fw (bw t a) i := by unfold fw bw; omega
        have e2 : fw (fw t (i - a)) 1 = fw (bw t a) (i + 1) := by unfold fw bw; omega
        rw [e2, e] at this
        exact this
    obtain ⟨x0, hx0⟩ := Option.isSome_iff_exists.1 (hs 0 (by omega))
    have hb0 : bg x0.f = true := by
      unfold begs at hbg
      have e : fw (bw t a) 0 = bw t a := by unfold fw bw; omega
      rw [e] at hx0
      rw [hx0] at hbg
      exact hbg
    have hsame : ∀ i, i ≤ a + b → ∃ x, look K (fw (bw t a) i) = some x ∧ x.s = x0.s ∧ x.n = x0.n ∧ un x.f = un x0.f ∧ bg x.f = decide (i = 0) := by
      intro i
      induction i with
      | zero => exact fun _ => ⟨x0, hx0, rfl, rfl, rfl, by rw [hb0]; rfl⟩
      | succ i ih =>
        intro hi
        obtain ⟨x, hx, h1, h2, h3, _⟩ := ih (by omega)
        obtain ⟨y, hy⟩ := Option.isSome_iff_exists.1 (hs (i + 1) hi)
        have hg2 := hgo i (by omega)
        rw [hx, hy] at hg2
        obtain ⟨_, k2, k3, k4, k5⟩ := gon_parts hg2
        exact ⟨y, hy, by rw [← k3, h1], by rw [← k4, h2], by rw [← k5, h3], by rw [k2]; rfl⟩
    intro i hi
    simp only [List.length_map, List.length_range] at hi
    obtain ⟨x, hx, h1, h2, h3, h4⟩ := hsame i (by omega)
    simp only [List.getElem_map, List.getElem_range, List.length_map, List.length_range, hx, hx0, Option.getD_some]
    refine fits_mk ⟨h1, h2, h3, h4, ?_⟩
    by_cases hie : i < a + b
    · obtain ⟨y, hy⟩ := Option.isSome_iff_exists.1 (hs (i + 1) (by omega))
      have hg2 := hgo i hie
      rw [hx, hy] at hg2
      rw [(gon_parts hg2).1, decide_eq_false (by omega)]
    · obtain rfl : i = a + b := by omega
      have e : fw (bw t a) (a + b) = fw t b := by unfold fw bw; omega
      rw [e] at hx
      unfold ends at hen
      rw [hx] at hen
      rw [decide_eq_true rfl]
      exact hen
end Fg
end Go.Proofs.Ytednkcjmlpgipaa
/-
  The document's Before16.
-/
namespace Go.Proofs.Ytednkcjmlpgipaa
set_option maxRecDepth 4000
open Go.RowKit
namespace Ix
set_option linter.unusedVariables false
set_option linter.unusedSimpArgs false

def dwy16 (a b : Nat) : Nat := (b + 65536 - a) % 65536
theorem dway16_any (a b : Nat) (w : World) (ha : a < 65536) (hb : b < 65536) :
    Calls Try.prog 56 #[.int .i64 (a : Int), .int .i64 (b : Int), .int .i64 65536] w fun e w' => e = .returned (.int .i64 (dwy16 a b : Nat)) ∧ w = w' := by
  have h0 : (a ≤ b → ((dwy16 a b : Nat) : Int) = (b : Int) - a) ∧ (b < a → ((dwy16 a b : Nat) : Int) = 65536 + (b : Int) - a) := by unfold dwy16; omega
  have H0 := Lib.hid h0
  clear h0
  go_enter Try.func56, Try.ntmps56
  by_cases hab : a ≤ b
  · go_wp2
    go_ret
    exact ⟨ret_eq (H0.out.1 hab).symm, rfl⟩
  · go_wp2
    go_ret
    exact ⟨ret_eq (H0.out.2 (by omega)).symm, rfl⟩
theorem dbf16_int (a b : Nat) : bf16 a b = (decide ((1 : Int) ≤ (dwy16 a b : Nat)) && decide (((dwy16 a b : Nat) : Int) ≤ 32767)) := by
  unfold bf16
  show decide (1 ≤ dwy16 a b ∧ dwy16 a b ≤ 32767) = _
  generalize dwy16 a b = x
  by_cases h1 : 1 ≤ x
  · by_cases h2 : x ≤ 32767
    · rw [decide_eq_true (show 1 ≤ x ∧ x ≤ 32767 from ⟨h1, h2⟩), decide_eq_true (show (1 : Int) ≤ (x : Int) by omega), decide_eq_true (show (x : Int) ≤ 32767 by omega)]; rfl
    · rw [decide_eq_false (show ¬ (1 ≤ x ∧ x ≤ 32767) from fun h => h2 h.2), decide_eq_false (show ¬ (x : Int) ≤ 32767 by omega), Bool.and_false]
  · rw [decide_eq_false (show ¬ (1 ≤ x ∧ x ≤ 32767) from fun h => h1 h.1), decide_eq_false (show ¬ (1 : Int) ≤ (x : Int) by omega), Bool.false_and]
theorem dbefore16_aux (x : Nat) (a b : Int) (r : Bool) (w : World) (h0 : r = (decide ((1 : Int) ≤ (x : Int)) && decide ((x : Int) ≤ 32767))) (hx : x < 65536)
    (ha : 0 ≤ a) (ha2 : a ≤ 65535) (hb : 0 ≤ b) (hb2 : b ≤ 65535)
    (HW : Hid (∀ W, Calls Try.prog 56 #[.int .i64 a, .int .i64 b, .int .i64 65536] W fun e w' => e = .returned (.int .i64 (x : Nat)) ∧ W = w')) :
    Calls Try.prog 94 #[.int .u16 a, .int .u16 b] w fun e w' => e = .returned (.bool r) ∧ w = w' := by
  have H0 := Lib.hid h0
  clear h0
  by_cases h1 : 1 ≤ x
  · have hd : decide ((1 : Int) ≤ (x : Int)) = true := decide_eq_true (by omega)
    go_enter Try.func94, Try.ntmps94
    go_wp2_with (go_at_call 56; refine (HW.out _).mono ?_; rintro e w' ⟨rfl, rfl⟩)
    go_ret
    exact ⟨congrArg (fun q => Ending.returned (.bool q)) (by rw [H0.out, hd, Bool.true_and]), rfl⟩
  · have hd : decide ((1 : Int) ≤ (x : Int)) = false := decide_eq_false (by omega)
    go_enter Try.func94, Try.ntmps94
    go_wp2_with (go_at_call 56; refine (HW.out _).mono ?_; rintro e w' ⟨rfl, rfl⟩)
    go_ret
    exact ⟨congrArg (fun q => Ending.returned (.bool q)) (by rw [H0.out, hd, Bool.false_and]), rfl⟩
theorem dbefore16_any (a b : Nat) (w : World) (ha : a < 65536) (hb : b < 65536) :
    Calls Try.prog 94 #[.int .u16 (a : Int), .int .u16 (b : Int)] w fun e w' => e = .returned (.bool (bf16 a b)) ∧ w = w' :=
  dbefore16_aux (dwy16 a b) a b _ w (dbf16_int a b) (by unfold dwy16; omega) (by omega) (by omega) (by omega) (by omega) (Lib.hid fun W => dway16_any a b W ha hb)
end Ix
end Go.Proofs.Ytednkcjmlpgipaa
/-
  DERIVED: THE SHELF's CONTRACTS AT THIS DUMP, IN PLAIN WORDS (tools/lay-plain.mjs out of 'YtednkcjmlpgipaaShelf.lean', which tools/lay-shelf.mjs wrote): THE SAME DECLARATIONS UNDER THE SAME NAMES: 'import', 'namespace', 'open', 'def', 'theorem' AND NOTHING ELSE: no command of the shelf's: FOR A HAND-IN. Each laying: the table of numbers ('.._ren') and one theorem, a field a fact of the dump's own or the kernel's comparison; each contract: ONE APPLICATION.
-/
namespace Go.Proofs
open Go.Shelf
def Try.lays125_ren : Go.Shelf.Ren := ⟨fun | 125 => 121 | 128 => 133 | 129 => 134 | n => n, fun | 46 => 181 | 3 => 3 | 51 => 23 | 53 => 81 | 4 => 4 | 5 => 5 | 9 => 9 | n => n, fun | n => n⟩
theorem Try.lays125 : Go.Proofs.Lays.n125 Try.prog Try.lays125_ren := {
  mixed := by kernel_rfl
  f125 := Try.func121.trans (congrArg some (by kernel_rfl))
  f128 := Try.func133.trans (congrArg some (by kernel_rfl))
  f129 := Try.func134.trans (congrArg some (by kernel_rfl))
  t3 := Try.underlying3
  a3 := Try.isAgg3
  z3 := Try.sizeOf3
  v3 := Try.zeroValue3
  t4 := Try.underlying4
  a4 := Try.isAgg4
  z4 := Try.sizeOf4
  v4 := Try.zeroValue4
  t5 := Try.underlying5
  a5 := Try.isAgg5
  z5 := Try.sizeOf5
  v5 := Try.zeroValue5
  t9 := Try.underlying9
  a9 := Try.isAgg9
  z9 := Try.sizeOf9
  v9 := Try.zeroValue9
  t46 := Try.underlying181
  a46 := Try.isAgg181
  z46 := Try.sizeOf181
  v46 := Try.zeroValue181
  t51 := Try.underlying23
  a51 := Try.isAgg23
  z51 := Try.sizeOf23
  v51 := Try.zeroValue23
  t53 := Try.underlying81
  a53 := Try.isAgg81
  z53 := Try.sizeOf81
  v53 := Try.zeroValue81 }
/-- bits.Len. -/
theorem Try.bits_Len (x : Int) (w : World) (h0 : 0 ≤ x) (h1 : x ≤ 18446744073709551615) :
    Calls Try.prog 121 #[.int .u64 x] w fun e w' => e = .returned (.int .i64 (Lib.bitLen x.toNat)) ∧ w' = w := Any.bits_Len Try.lays125 x w h0 h1
def Try.laysX_ren : Go.Shelf.Ren := ⟨fun | 48 => 137 | n => n, fun | 76 => 197 | 55 => 81 | 0 => 0 | 66 => 191 | 39 => 181 | n => n, fun | n => n⟩
theorem Try.laysX : Go.Proofs.SlLaysF0.n48 Try.prog Try.laysX_ren := {
  mixed := by kernel_rfl
  f48 := Try.func137.trans (congrArg some (by kernel_rfl))
  t0 := Try.underlying0
  a0 := Try.isAgg0
  z0 := Try.sizeOf0
  v0 := Try.zeroValue0
  t39 := Try.underlying181
  a39 := Try.isAgg181
  z39 := Try.sizeOf181
  v39 := Try.zeroValue181
  t55 := Try.underlying81
  a55 := Try.isAgg81
  z55 := Try.sizeOf81
  v55 := Try.zeroValue81
  t66 := Try.underlying191
  a66 := Try.isAgg191
  z66 := Try.sizeOf191
  v66 := Try.zeroValue191
  t76 := Try.underlying197
  a76 := Try.isAgg197
  z76 := Try.sizeOf197
  v76 := Try.zeroValue197 }
/-- A step of the generator. -/
theorem Try.xorshift_Next (rb ro X : Nat) (hX : X < 18446744073709551616) (w : World) (hc : w.cell? ⟨rb, ro, none⟩ = some (.int .u64 X)) (hf : w.frozen? ⟨rb, ro, none⟩ = false) :
    Calls Try.prog 137 #[.pointer (some ⟨rb, ro, none⟩)] w fun e w' => e = .returned (.int .u64 (Go.Sort.xorNextN X : Nat)) ∧ w' = (w.setCell ⟨rb, ro, none⟩ (.int .u64 (Go.Sort.xorNextN X : Nat))).drewN 3 := AnyF.xorshift_Next Try.laysX rb ro X hX w hc hf
def Try.laysP_ren : Go.Shelf.Ren := ⟨fun | 47 => 136 | 15 => 121 | 28 => 133 | 29 => 134 | n => n, fun | 3 => 3 | 39 => 181 | 53 => 23 | 55 => 81 | 4 => 4 | 5 => 5 | 9 => 9 | n => n, fun | n => n⟩
theorem Try.laysP : Go.Proofs.SlLaysF0.n47 Try.prog Try.laysP_ren := {
  mixed := by kernel_rfl
  f15 := Try.func121.trans (congrArg some (by kernel_rfl))
  f28 := Try.func133.trans (congrArg some (by kernel_rfl))
  f29 := Try.func134.trans (congrArg some (by kernel_rfl))
  f47 := Try.func136.trans (congrArg some (by kernel_rfl))
  t3 := Try.underlying3
  a3 := Try.isAgg3
  z3 := Try.sizeOf3
  v3 := Try.zeroValue3
  t4 := Try.underlying4
  a4 := Try.isAgg4
  z4 := Try.sizeOf4
  v4 := Try.zeroValue4
  t5 := Try.underlying5
  a5 := Try.isAgg5
  z5 := Try.sizeOf5
  v5 := Try.zeroValue5
  t9 := Try.underlying9
  a9 := Try.isAgg9
  z9 := Try.sizeOf9
  v9 := Try.zeroValue9
  t39 := Try.underlying181
  a39 := Try.isAgg181
  z39 := Try.sizeOf181
  v39 := Try.zeroValue181
  t53 := Try.underlying23
  a53 := Try.isAgg23
  z53 := Try.sizeOf23
  v53 := Try.zeroValue23
  t55 := Try.underlying81
  a55 := Try.isAgg81
  z55 := Try.sizeOf81
  v55 := Try.zeroValue81 }
/-- The power. -/
theorem Try.nextPowerOfTwo (n : Nat) (hn : n < 4611686018427387904) (w : World) :
    Calls Try.prog 136 #[.int .i64 n] w fun e w' => e = .returned (.int .u64 ((1 <<< Go.Sort.bitsLen n : Nat) : Int)) ∧ w' = w := AnyF.nextPowerOfTwo Try.laysP n hn w
end Go.Proofs
/-
  Words for the library's sort at elements of 16 bits: the world in which the row reads so, and nothing else of what was there has turned; the comparison.
-/
namespace Go.Proofs.Ytednkcjmlpgipaa
open Go.RowKit Go.Sort

/-- A number of 16 bits as a value. -/
def u16 (x : Int) : Value := .int .u16 x
def iof : Value → Int | .int _ q => q | _ => 0
/-- The row of block g reads as d; nothing else that stood in w has turned. -/
def SW (w : World) (g off : Nat) (d : Array Int) (W : World) : Prop := Holds u16 W g off d ∧ w.grownBy W (some g)
theorem grown_putRow {w W : World} {g : Nat} (h : w.grownBy W (some g)) (off : Nat) (d : Array Int) : w.grownBy (putRow u16 W g off d) (some g) :=
  h.trans ⟨rfl, rfl, rfl, by simp [putRow, mapBlock], fun k _ hk => by
    have hne : g ≠ k := fun e => hk (by rw [e])
    simp [putRow, mapBlock, Array.getElem?_modify, hne]⟩
theorem SW.refl {w : World} {g off : Nat} {d : Array Int} (h : Holds u16 w g off d) : SW w g off d w := ⟨h, grown_refl _ _⟩
theorem SW.drewN {w W : World} {g off : Nat} {d : Array Int} (h : SW w g off d W) (q : Nat) : SW w g off d (W.drewN q) := ⟨h.1, grown_drewN h.2 q⟩
theorem SW.trans {w W W' : World} {g off : Nat} {d d' : Array Int} (h : SW w g off d W) (k : SW W g off d' W') : SW w g off d' W' := ⟨k.1, h.2.trans k.2⟩
theorem SW.swap {w W : World} {g off : Nat} {d : Array Int} (h : SW w g off d W) {i j : Nat} (hi : i < d.size) (hj : j < d.size) (q q' : Nat) :
    SW w g off (swp d i j) ((((W.drewN q).setCell ⟨g, off + i, none⟩ (u16 d[j]!)).setCell ⟨g, off + j, none⟩ (u16 d[i]!)).drewN q') := by
  have e : W.drewN q = putRow u16 (W.drewN q) g off d := (putRow_self u16 (W.drewN q) g off d h.1).symm
  rw [e, putRow_swp u16 _ g off d i j hi hj]
  exact SW.drewN ⟨holds_putRow u16 (W.drewN q) g off d _ h.1 (size_swp _ _ _), grown_putRow (grown_drewN h.2 q) _ _⟩ q'
theorem SW.fam {w W : World} {g off n : Nat} {d : Array Int} (h : SW w g off d W) (hs : d.size = n) :
    ∃ G : Nat → Int, Hid (∀ t, G t = d[t]!) ∧ (∀ t, t < n → W.cell? ⟨g, off + t, none⟩ = some (.int .u16 (G t))) ∧ (∀ t, t < n → W.frozen? ⟨g, off + t, none⟩ = false) :=
  ⟨fun t => d[t]!, fun _ => rfl, fun t ht => (h.1 t (by omega)).1, fun t ht => (h.1 t (by omega)).2⟩
theorem SW.lt {w W : World} {g off : Nat} {d : Array Int} (h : SW w g off d W) (hg : g < w.heap.size) : g < W.heap.size := Nat.lt_of_lt_of_le hg h.2.size
theorem frozen_alloc (w : World) (o : Obj) (a : Addr) (h : a.block < w.heap.size) : (w.alloc o).frozen? a = w.frozen? a := World.grownBy.frozen_far (World.grownBy_alloc w o none) a h (by simp)
theorem SW.alloc {w W : World} {g off : Nat} {d : Array Int} (h : SW w g off d W) (hg : g < W.heap.size) (o : Obj) : SW w g off d (W.alloc o) :=
  ⟨fun j hj => ⟨(World.cell?_alloc_lt W o _ hg).trans (h.1 j hj).1, (frozen_alloc W o _ hg).trans (h.1 j hj).2⟩, h.2.trans (World.grownBy_alloc W o _)⟩

theorem isNaN_any (x : Int) (w : World) : Calls Try.prog 140 #[.int .u16 x] w fun e w' => e = .returned (.bool false) ∧ w = w' := by
  go_enter Try.func140, Try.ntmps140
  go_wp2
  go_ret
  exact ⟨by simp, rfl⟩
theorem less_any (x y : Int) (w : World) : Calls Try.prog 130 #[.int .u16 x, .int .u16 y] w fun e w' => e = .returned (.bool (Sort.ltInt x y)) ∧ w = w' := by
  go_enter Try.func130, Try.ntmps130
  go_wp2_with (go_at_call 140; refine (isNaN_any _ _).mono ?_; rintro e w' ⟨rfl, rfl⟩)
  go_ret
  exact ⟨by simp [Sort.ltInt], rfl⟩
theorem less_q (x y : Int) (w : World) : Calls Try.prog 130 #[.int .u16 x, .int .u16 y] w fun e w' => e = .returned (.bool (Sort.ltInt x y)) ∧ w' = w := (less_any x y w).mono fun _ _ ⟨h, k⟩ => ⟨h, k.symm⟩
end Go.Proofs.Ytednkcjmlpgipaa
/-
  The library's sort at 16 bits: reverseRange.
-/
namespace Go.Proofs.Ytednkcjmlpgipaa
open Go.RowKit Go.Sort

theorem reverse_any (g off cap a b : Nat) (d : Array Int) (w : World) (hH : Holds u16 w g off d) (hab : a ≤ b) (hb : b ≤ d.size) (hsz : d.size < 4611686018427387904) :
    Calls Try.prog 128 #[.slice (some ⟨g, off, none⟩) d.size cap, .int .i64 a, .int .i64 b] w fun e w' => e = .returned (.tuple #[]) ∧ SW w g off (reverseRange d a b) w' := by
  have hS0 := SW.refl hH
  clear hH
  go_enter Try.func128, Try.ntmps128
  go_wp2
  go_loopw [6, 7] (fun vi vj wr => ∃ (i j : Nat) (dk : Array Int), vi = .int .i64 i ∧ vj = .int .i64 ((j : Int) - 1) ∧ a ≤ i ∧ i ≤ b ∧ j ≤ b ∧ dk.size = d.size ∧ SW w g off dk wr ∧ Hid (reverseLoop i (j - 1) dk = reverseLoop a (b - 1) d)) (fun _ vj _ => (iof vj + 1).toNat)
  case atStart => exact ⟨a, b, d, rfl, rfl, Nat.le_refl _, hab, Nat.le_refl _, rfl, hS0, rfl⟩
  case round =>
    obtain ⟨i, j, dk, rfl, rfl, hai, hib, hjb, hs, hS, hR⟩ := hrel
    obtain ⟨G, HG, hc, hf⟩ := hS.fam hs
    have HS := Lib.hid hS
    clear hS hS0
    by_cases hlt : i + 1 < j
    · obtain ⟨p, rfl⟩ : ∃ p, j = p + 1 := ⟨j - 1, by omega⟩
      have e1 : ((p + 1 : Nat) : Int) - 1 = p := by omega
      rw [e1]
      clear e1
      go_wp2
      go_region
      all_goals go_wp2
      go_roundw
      case rel =>
        refine ⟨i + 1, p, swp dk i p, by go_num, by go_num, by omega, by omega, by omega, by rw [size_swp]; exact hs, ?_, ?_⟩
        · have := HS.out.swap (i := i) (j := p) (by omega) (by omega) 0 1
          rw [← HG.out, ← HG.out] at this
          exact this
        · refine Lib.hid ?_
          rw [← hR.out, show p + 1 - 1 = p by omega]
          conv => rhs; rw [reverseLoop, if_pos (by omega)]
      case measure => simp [iof] <;> omega
    · go_wp2
      go_end0
      refine ⟨rfl, ?_⟩
      have e : reverseRange d a b = dk := by unfold reverseRange; rw [← hR.out, reverseLoop, if_neg (by omega)]
      rw [e]
      exact HS.out
end Go.Proofs.Ytednkcjmlpgipaa
/-
  The library's sort at 16 bits: insertionSort.
-/
namespace Go.Proofs.Ytednkcjmlpgipaa
open Go.RowKit Go.Sort

theorem insertion_any (g off cap a b : Nat) (d : Array Int) (w : World) (hH : Holds u16 w g off d) (hab : a ≤ b) (hb : b ≤ d.size) (hsz : d.size < 4611686018427387904) :
    Calls Try.prog 124 #[.slice (some ⟨g, off, none⟩) d.size cap, .int .i64 a, .int .i64 b] w fun e w' => e = .returned (.tuple #[]) ∧ SW w g off (insertionSort ltInt d a b) w' := by
  have hS0 := SW.refl hH
  clear hH
  go_enter Try.func124, Try.ntmps124
  go_wp2
  go_loopw [6] (fun vi wr => ∃ (i : Nat) (dk : Array Int), vi = .int .i64 i ∧ a < i ∧ i ≤ b + 1 ∧ dk.size = d.size ∧ SW w g off dk wr ∧ Hid (insOuter ltInt a b i dk = insOuter ltInt a b (a + 1) d)) (fun vi _ => b + 1 - (iof vi).toNat)
  case atStart => exact ⟨a + 1, d, by go_num, by omega, by omega, rfl, hS0, rfl⟩
  case round =>
    obtain ⟨i, dk, rfl, hai, hib, hs, hS, hO⟩ := hrel
    have HS := Lib.hid hS
    clear hS hS0
    by_cases hlt : i < b
    · go_wp2
      go_loopw [7] (fun vj wr2 => ∃ (j : Nat) (dj : Array Int), vj = .int .i64 j ∧ a ≤ j ∧ j ≤ i ∧ dj.size = d.size ∧ SW w g off dj wr2 ∧ Hid (insInner ltInt a j dj = insInner ltInt a i dk)) (fun vj _ => (iof vj).toNat)
      case atStart => exact ⟨i, dk, rfl, by omega, Nat.le_refl _, hs, HS.out, rfl⟩
      case round =>
        obtain ⟨j, dj, rfl, haj, hji, hsj, hSj, hI⟩ := hrel
        obtain ⟨G, HG, hc, hf⟩ := hSj.fam hsj
        have HSj := Lib.hid hSj
        clear hSj HS
        have OUT : Hid ((j ≤ a ∨ ltInt dj[j]! dj[j - 1]! = false) → insOuter ltInt a b (i + 1) dj = insOuter ltInt a b (a + 1) d) := Lib.hid fun hst => by
          rw [← hO.out, insOuter_go _ _ _ _ _ hlt, ← hI.out, insInner_stop _ _ _ _ hst]
        by_cases hja : a < j
        · go_wp2
          go_quiet ((go_at_call 130; exact Calls.quiet_of_same (less_q _ _ _)))
          cases hl : ltInt (G j) (G (j - 1))
          · have HL := Lib.hid hl
            clear hl
            go_wp2
            all_goals go_roundw
            case rel => exact ⟨i + 1, dj, by go_num, by omega, by omega, hsj, HSj.out.drewN _, Lib.hid (OUT.out (Or.inr (by rw [← HG.out, ← HG.out]; exact HL.out)))⟩
            case measure => simp [iof] <;> omega
          · have HL := Lib.hid hl
            clear hl
            go_wp2
            go_region
            all_goals go_wp2
            go_roundw
            case rel =>
              refine ⟨j - 1, swp dj j (j - 1), by go_num, by omega, by omega, by rw [size_swp]; exact hsj, ?_, Lib.hid ?_⟩
              · have := HSj.out.swap (i := j) (j := j - 1) (by omega) (by omega) (nq + 1) 0
                rw [← HG.out, ← HG.out] at this
                exact this
              · rw [← hI.out, insInner_go ltInt a j dj hja (by rw [← HG.out, ← HG.out]; exact HL.out)]
            case measure => simp [iof] <;> omega
        · go_wp2
          go_quiet ((go_at_call 130; exact Calls.quiet_of_same (less_q _ _ _)))
          go_wp2
          all_goals go_roundw
          case rel => exact ⟨i + 1, dj, by go_num, by omega, by omega, hsj, HSj.out.drewN _, Lib.hid (OUT.out (Or.inl (by omega)))⟩
          case measure => simp [iof] <;> omega
    · go_wp2
      go_end0
      exact ⟨rfl, by unfold insertionSort; rw [← hO.out, insOuter_stop _ _ _ _ _ hlt]; exact HS.out⟩
end Go.Proofs.Ytednkcjmlpgipaa
/-
  The library's sort at 16 bits: order2, median, medianAdjacent, choosePivot: some index among those asked, the row as it was.
-/
namespace Go.Proofs.Ytednkcjmlpgipaa
open Go.RowKit Go.Sort
set_option linter.unusedVariables false

theorem grown_setCell (W : World) (sb o : Nat) (v : Value) : W.grownBy (W.setCell ⟨sb, o, none⟩ v) (some sb) :=
  ⟨rfl, rfl, rfl, by simp [World.setCell], fun k _ hk => by
    have hne : sb ≠ k := fun e => hk (by rw [e])
    simp [World.setCell, Array.getElem?_modify, hne]⟩
theorem holds_far {W W' : World} {g off sb : Nat} {d : Array Int} (h : Holds u16 W g off d) (hg : W.grownBy W' (some sb)) (hne : sb ≠ g) : Holds u16 W' g off d := fun j hj => by
  have hlt : g < W.heap.size := block_lt_of_cell (h j hj).1
  exact ⟨(hg.cell_far _ hlt (by intro e; injection e with e; exact hne e.symm)).trans (h j hj).1, (hg.frozen_far _ hlt (by intro e; injection e with e; exact hne e.symm)).trans (h j hj).2⟩
/-- The row as it was; the counter in block sb holds c; nothing else has turned. -/
def CT (w : World) (g off : Nat) (d : Array Int) (sb c : Nat) (W : World) : Prop :=
  Holds u16 W g off d ∧ w.grownBy W (some sb) ∧ W.cell? ⟨sb, 0, none⟩ = some (.int .i64 (c : Int)) ∧ W.frozen? ⟨sb, 0, none⟩ = false
theorem CT.drewN {w W : World} {g off sb c : Nat} {d : Array Int} (h : CT w g off d sb c W) (q : Nat) : CT w g off d sb c (W.drewN q) := ⟨h.1, grown_drewN h.2.1 q, h.2.2.1, h.2.2.2⟩
theorem CT.set {w W : World} {g off sb c : Nat} {d : Array Int} (h : CT w g off d sb c W) (hne : sb ≠ g) (c' : Nat) : CT w g off d sb c' (W.setCell ⟨sb, 0, none⟩ (.int .i64 (c' : Int))) := by
  refine ⟨holds_far h.1 (grown_setCell W sb 0 _) hne, h.2.1.trans (grown_setCell W sb 0 _), ?_, ?_⟩
  · exact World.cell?_setCell_same' W _ _ (by rw [h.2.2.1]; rfl)
  · rw [World.frozen?_setCell]; exact h.2.2.2
theorem CT.refl {w : World} {g off sb c : Nat} {d : Array Int} (h : Holds u16 w g off d) (hc : w.cell? ⟨sb, 0, none⟩ = some (.int .i64 (c : Int))) (hf : w.frozen? ⟨sb, 0, none⟩ = false) : CT w g off d sb c w := ⟨h, grown_refl _ _, hc, hf⟩
theorem CT.trans {w W W' : World} {g off sb c c' : Nat} {d : Array Int} (h : CT w g off d sb c W) (k : CT W g off d sb c' W') : CT w g off d sb c' W' := ⟨k.1, h.2.1.trans k.2.1, k.2.2⟩
theorem order2_any (g off len cap a b sb c : Nat) (d : Array Int) (w : World) (h : CT w g off d sb c w) (hlen : d.size = len) (hne : sb ≠ g) (ha : a < len) (hb : b < len) (hsz : len < 4611686018427387904) (hc9 : c < 1000) :
    Calls Try.prog 141 #[.slice (some ⟨g, off, none⟩) len cap, .int .i64 a, .int .i64 b, .pointer (some ⟨sb, 0, none⟩)] w fun e w' =>
      ∃ x y c' : Nat, e = .returned (.tuple #[.int .i64 x, .int .i64 y]) ∧ ((x = a ∧ y = b) ∨ (x = b ∧ y = a)) ∧ c' ≤ c + 1 ∧ CT w g off d sb c' w' := by
  obtain ⟨G, HG, hc, hf⟩ := (SW.refl h.1).fam hlen
  have hcc := h.2.2.1
  have hff := h.2.2.2
  have H := Lib.hid h
  clear h hlen
  go_enter Try.func141, Try.ntmps141
  go_wp2_with fail
  go_quiet ((go_at_call 130; exact Calls.quiet_of_same (less_q _ _ _)))
  cases hl : ltInt (G b) (G a)
  · clear hl
    go_wp2_with fail
    go_ret2
    exact ⟨a, b, c, rfl, .inl ⟨rfl, rfl⟩, by omega, H.out.drewN _⟩
  · clear hl
    go_wp2_with fail
    go_ret2
    exact ⟨b, a, c + 1, rfl, .inr ⟨rfl, rfl⟩, by omega, (H.out.drewN _).set hne (c + 1)⟩
theorem median_any (g off len cap a b c sb n : Nat) (d : Array Int) (w : World) (h : CT w g off d sb n w) (hlen : d.size = len) (hne : sb ≠ g) (ha : a < len) (hb : b < len) (hc : c < len) (hsz : len < 4611686018427387904) (hn : n < 900) :
    Calls Try.prog 139 #[.slice (some ⟨g, off, none⟩) len cap, .int .i64 a, .int .i64 b, .int .i64 c, .pointer (some ⟨sb, 0, none⟩)] w fun e w' =>
      ∃ x n' : Nat, e = .returned (.int .i64 x) ∧ (x = a ∨ x = b ∨ x = c) ∧ n' ≤ n + 3 ∧ CT w g off d sb n' w' := by
  have H := Lib.hid h
  have HL := Lib.hid hlen
  clear h hlen
  go_enter Try.func139, Try.ntmps139
  go_wp2_with fail
  refine (order2_any g off len cap a b sb n d _ H.out HL.out hne ha hb hsz (by omega)).mono ?_
  rintro e w1 ⟨a1, b1, n1, rfl, h1, hn1, hw1⟩
  have H1 := Lib.hid (CT.trans H.out hw1)
  have C1 := Lib.hid hw1
  clear hw1
  have ha1 : a1 < len := by omega
  have hb1 : b1 < len := by omega
  go_wp2_with fail
  refine (order2_any g off len cap b1 c sb n1 d _ (CT.refl H1.out.1 H1.out.2.2.1 H1.out.2.2.2) HL.out hne hb1 hc hsz (by omega)).mono ?_
  rintro e w2 ⟨b2, c2, n2, rfl, h2, hn2, hw2⟩
  have H2 := Lib.hid (CT.trans H1.out hw2)
  clear hw2
  have hb2 : b2 < len := by omega
  go_wp2_with fail
  refine (order2_any g off len cap a1 b2 sb n2 d _ (CT.refl H2.out.1 H2.out.2.2.1 H2.out.2.2.2) HL.out hne ha1 hb2 hsz (by omega)).mono ?_
  rintro e w3 ⟨a3, b3, n3, rfl, h3, hn3, hw3⟩
  have H3 := Lib.hid (CT.trans H2.out hw3)
  clear hw3
  go_wp2_with fail
  go_ret
  exact ⟨b3, n3, rfl, by omega, by omega, H3.out⟩
theorem medianAdj_any (g off len cap a sb n : Nat) (d : Array Int) (w : World) (h : CT w g off d sb n w) (hlen : d.size = len) (hne : sb ≠ g) (ha0 : 1 ≤ a) (ha : a + 1 < len) (hsz : len < 4611686018427387904) (hn : n < 900) :
    Calls Try.prog 138 #[.slice (some ⟨g, off, none⟩) len cap, .int .i64 a, .pointer (some ⟨sb, 0, none⟩)] w fun e w' =>
      ∃ x n' : Nat, e = .returned (.int .i64 x) ∧ a - 1 ≤ x ∧ x ≤ a + 1 ∧ n' ≤ n + 3 ∧ CT w g off d sb n' w' := by
  have H := Lib.hid h
  have HL := Lib.hid hlen
  clear h hlen
  obtain ⟨p, rfl⟩ : ∃ p, a = p + 1 := ⟨a - 1, by omega⟩
  have e1 : ((p + 1 : Nat) : Int) - 1 = p := by omega
  have e2 : ((p + 1 : Nat) : Int) + 1 = ((p + 2 : Nat) : Int) := by omega
  have HM := Lib.hid (fun W (hW : CT w g off d sb n W) => median_any g off len cap p (p + 1) (p + 2) sb n d W (CT.refl hW.1 hW.2.2.1 hW.2.2.2) HL.out hne (by omega) (by omega) (by omega) hsz hn)
  go_enter Try.func138, Try.ntmps138
  go_wp2_with fail
  refine (HM.out _ H.out).mono ?_
  rintro e w1 ⟨x, n1, rfl, hx, hn1, hw1⟩
  have H1 := Lib.hid hw1
  clear hw1 e1 e2
  go_wp2_with fail
  go_ret
  exact ⟨x, n1, rfl, by omega, by omega, hn1, H1.out⟩
end Go.Proofs.Ytednkcjmlpgipaa
/-
  The library's sort at 16 bits: choosePivot: an index in the range, some hint; the row as it was.
-/
namespace Go.Proofs.Ytednkcjmlpgipaa
open Go.RowKit Go.Sort
set_option linter.unusedVariables false

/-- Behind a block of the call's own that has come since. -/
theorem CT.back {w W W' : World} {g off sb c : Nat} {d : Array Int} (h : SW w g off d W) (k : CT W g off d sb c W') (hsb : w.heap.size ≤ sb) (hne : sb ≠ g) : SW w g off d W' :=
  ⟨k.1, ⟨k.2.1.os.trans h.2.os, k.2.1.tape.trans h.2.tape, k.2.1.output.trans h.2.output, Nat.le_trans h.2.size k.2.1.size, fun i hi hg => (k.2.1.block i (Nat.lt_of_lt_of_le hi h.2.size) (fun e => by injection e with e; omega)).trans (h.2.block i hi hg)⟩⟩
set_option maxHeartbeats 1000000 in
theorem pivot_any (g off cap a b : Nat) (d : Array Int) (w : World) (hH : Holds u16 w g off d) (hg : g < w.heap.size) (hab : a < b) (hb : b ≤ d.size) (hsz : d.size < 4611686018427387904) :
    Calls Try.prog 127 #[.slice (some ⟨g, off, none⟩) d.size cap, .int .i64 a, .int .i64 b] w fun e w' =>
      ∃ x h : Nat, e = .returned (.tuple #[.int .i64 x, .int .i64 h]) ∧ a ≤ x ∧ x < b ∧ h ≤ 2 ∧ SW w g off d w' := by
  obtain ⟨len, hlen⟩ : ∃ len, len = d.size := ⟨_, rfl⟩
  rw [← hlen] at hb hsz ⊢
  have HL := Lib.hid hlen.symm
  clear hlen
  have hS1 : SW w g off d (w.alloc (.cells #[.int .i64 0] 3)) := (SW.refl hH).alloc hg _
  have HS1 := Lib.hid hS1
  have HC1 : Hid (CT (w.alloc (.cells #[.int .i64 0] 3)) g off d w.heap.size 0 (w.alloc (.cells #[.int .i64 0] 3))) := Lib.hid (CT.refl hS1.1 (by simp) (by simp))
  have HNE : Hid (w.heap.size ≠ g) := Lib.hid (by omega)
  clear hS1 hH hg
  obtain ⟨i, j, k, e1, e2, e3, hi, hj, hk⟩ : ∃ i j k : Nat, (a : Int) + ((b : Int) - a) / 4 = i ∧ (a : Int) + ((b : Int) - a) / 4 * 2 = j ∧ (a : Int) + ((b : Int) - a) / 4 * 3 = k ∧
      (a ≤ i ∧ i < b ∧ (50 ≤ b - a → a + 1 ≤ i ∧ i + 1 < b)) ∧ (a ≤ j ∧ j < b ∧ (50 ≤ b - a → a + 1 ≤ j ∧ j + 1 < b)) ∧ (a ≤ k ∧ k < b ∧ (50 ≤ b - a → a + 1 ≤ k ∧ k + 1 < b)) :=
    ⟨a + (b - a) / 4, a + (b - a) / 4 * 2, a + (b - a) / 4 * 3, by omega, by omega, by omega, by omega, by omega, by omega⟩
  go_enter Try.func127, Try.ntmps127
  by_cases h8 : 8 ≤ b - a
  · have h8z : decide ((8 : Int) ≤ (b : Int) - (a : Int)) = true := decide_eq_true (by omega)
    go_upto_if 32 with fail
    go_cut [10, 11, 12] from 33 to 48 (fun _ vj _ wx => ∃ x n : Nat, vj = .int .i64 x ∧ a ≤ x ∧ x < b ∧ n ≤ 12 ∧ Hid (CT (w.alloc (.cells #[.int .i64 0] 3)) g off d w.heap.size n wx))
    case first =>
      by_cases h50 : 50 ≤ b - a
      · go_wp2_with fail
        refine (medianAdj_any g off len cap i w.heap.size 0 d _ HC1.out HL.out HNE.out (by omega) (by omega) hsz (by omega)).mono ?_
        rintro e w1 ⟨i1, n1, rfl, hi1, hi2, hn1, hw1⟩
        have H1 := Lib.hid hw1
        clear hw1
        go_wp2_with fail
        refine (medianAdj_any g off len cap j w.heap.size n1 d _ (CT.refl H1.out.1 H1.out.2.2.1 H1.out.2.2.2) HL.out HNE.out (by omega) (by omega) hsz (by omega)).mono ?_
        rintro e w2 ⟨j1, n2, rfl, hj1, hj2, hn2, hw2⟩
        have H2 := Lib.hid (CT.trans H1.out hw2)
        clear hw2
        go_wp2_with fail
        refine (medianAdj_any g off len cap k w.heap.size n2 d _ (CT.refl H2.out.1 H2.out.2.2.1 H2.out.2.2.2) HL.out HNE.out (by omega) (by omega) hsz (by omega)).mono ?_
        rintro e w3 ⟨k1, n3, rfl, hk1, hk2, hn3, hw3⟩
        have H3 := Lib.hid (CT.trans H2.out hw3)
        clear hw3
        go_wp2_with fail
        refine (median_any g off len cap i1 j1 k1 w.heap.size n3 d _ (CT.refl H3.out.1 H3.out.2.2.1 H3.out.2.2.2) HL.out HNE.out (by omega) (by omega) (by omega) hsz (by omega)).mono ?_
        rintro e w4 ⟨x, n4, rfl, hx, hn4, hw4⟩
        have H4 := Lib.hid (CT.trans H3.out hw4)
        clear hw4
        go_wp2_with fail
        go_meet
        case rel => exact ⟨x, n4, rfl, by omega, by omega, by omega, H4⟩
      · go_wp2_with fail
        refine (median_any g off len cap i j k w.heap.size 0 d _ HC1.out HL.out HNE.out (by omega) (by omega) (by omega) hsz (by omega)).mono ?_
        rintro e w4 ⟨x, n4, rfl, hx, hn4, hw4⟩
        have H4 := Lib.hid hw4
        clear hw4
        go_wp2_with fail
        go_meet
        case rel => exact ⟨x, n4, rfl, by omega, by omega, by omega, H4⟩
    case rest =>
    obtain ⟨x, n, rfl, hx1, hx2, hn, HC⟩ := hcut
    have FIN := Lib.hid (CT.back HS1.out HC.out (Nat.le_refl _) HNE.out)
    have hcc := HC.out.2.2.1
    clear HC HC1 HS1 e1 e2 e3
    by_cases hn0 : n = 0
    · subst hn0
      go_wp2_with fail
      all_goals go_ret2
      exact ⟨x, 1, rfl, hx1, hx2, by omega, FIN.out⟩
    · by_cases hn12 : n = 12
      · subst hn12
        go_wp2_with fail
        all_goals go_ret2
        exact ⟨x, 2, rfl, hx1, hx2, by omega, FIN.out⟩
      · have q0 : ((n : Int) == 0) = false := by simpa using hn0
        have q12 : ((n : Int) == 12) = false := by simp; omega
        go_wp2_with fail
        all_goals go_ret2
        exact ⟨x, 0, rfl, hx1, hx2, by omega, FIN.out⟩
  · have FIN := Lib.hid (CT.back HS1.out HC1.out (Nat.le_refl _) HNE.out)
    go_wp2_with fail
    all_goals go_ret2
    exact ⟨j, 1, rfl, by omega, by omega, by omega, FIN.out⟩
end Go.Proofs.Ytednkcjmlpgipaa
/-
  The library's sort at 16 bits: breakPatterns: some permutation of the part.
-/
namespace Go.Proofs.Ytednkcjmlpgipaa
open Go.RowKit Go.Sort
set_option linter.unusedVariables false

/-- The row reads as d; the generator's cell in block r, which is new, holds X. -/
def RB (w : World) (g off : Nat) (d : Array Int) (r X : Nat) (W : World) : Prop :=
  SW w g off d W ∧ W.cell? ⟨r, 0, none⟩ = some (.int .u64 (X : Int)) ∧ W.frozen? ⟨r, 0, none⟩ = false
theorem RB.set {w W : World} {g off r X : Nat} {d : Array Int} (h : RB w g off d r X W) (hr : w.heap.size ≤ r) (hne : r ≠ g) (X' q : Nat) : RB w g off d r X' ((W.setCell ⟨r, 0, none⟩ (.int .u64 (X' : Int))).drewN q) := by
  have hg := grown_setCell W r 0 (.int .u64 (X' : Int))
  refine ⟨SW.drewN ⟨holds_far h.1.1 hg hne, ⟨hg.os.trans h.1.2.os, hg.tape.trans h.1.2.tape, hg.output.trans h.1.2.output, Nat.le_trans h.1.2.size hg.size, fun i hi hig => (hg.block i (Nat.lt_of_lt_of_le hi h.1.2.size) (fun e => by injection e with e; omega)).trans (h.1.2.block i hi hig)⟩⟩ q, ?_, ?_⟩
  · exact World.cell?_setCell_same' W _ _ (by rw [h.2.1]; rfl)
  · show (W.setCell _ _).frozen? _ = false
    rw [World.frozen?_setCell]; exact h.2.2
theorem RB.swap {w W : World} {g off r X : Nat} {d : Array Int} (h : RB w g off d r X W) (hne : r ≠ g) {i j : Nat} (hi : i < d.size) (hj : j < d.size) (q q' : Nat) :
    RB w g off (swp d i j) r X ((((W.drewN q).setCell ⟨g, off + i, none⟩ (u16 d[j]!)).setCell ⟨g, off + j, none⟩ (u16 d[i]!)).drewN q') := by
  refine ⟨h.1.swap hi hj q q', ?_, ?_⟩
  · show ((((W.drewN q).setCell _ _)).setCell _ _).cell? _ = _
    rw [World.cell?_setCell_far _ _ _ _ (by simpa using hne.symm), World.cell?_setCell_far _ _ _ _ (by simpa using hne.symm)]
    exact h.2.1
  · show ((((W.drewN q).setCell _ _)).setCell _ _).frozen? _ = _
    rw [World.frozen?_setCell, World.frozen?_setCell]
    exact h.2.2
theorem land_lt {x m : Nat} (hm : 0 < m) : x &&& (m - 1) < m := Nat.lt_of_le_of_lt Nat.and_le_right (by omega)
theorem swp_keep {d d' : Array Int} {a b i j : Nat} (h : PermIn a b d d') (hi : a ≤ i) (hi2 : i < b) (hj : a ≤ j) (hj2 : j < b) (hb : b ≤ d'.size) : PermIn a b d (swp d' i j) :=
  permIn_trans _ _ _ _ _ h (swp_permIn d' a b i j hi hi2 hj hj2 hb)
set_option maxHeartbeats 1000000 in
theorem break_any (g off cap a b : Nat) (d : Array Int) (w : World) (hH : Holds u16 w g off d) (hg : g < w.heap.size) (hab : a ≤ b) (hb : b ≤ d.size) (hsz : d.size < 4611686018427387904) :
    Calls Try.prog 126 #[.slice (some ⟨g, off, none⟩) d.size cap, .int .i64 a, .int .i64 b] w fun e w' => ∃ d', e = .returned (.tuple #[]) ∧ PermIn a b d d' ∧ SW w g off d' w' := by
  obtain ⟨len, hlen⟩ : ∃ len, len = d.size := ⟨_, rfl⟩
  rw [← hlen] at hb hsz ⊢
  have HL := Lib.hid hlen.symm
  clear hlen
  have HS := Lib.hid (SW.refl hH)
  have HNE : Hid (w.heap.size ≠ g) := Lib.hid (by omega)
  have HG := Lib.hid hg
  clear hH hg
  obtain ⟨l, hl⟩ : ∃ l : Nat, l = b - a := ⟨_, rfl⟩
  have e0 : (b : Int) - (a : Int) = l := by omega
  have hbl : b = a + l := by omega
  have HB := Lib.hid hbl
  clear hl hbl
  go_enter Try.func126, Try.ntmps126
  by_cases h8 : 8 ≤ l
  · have hp := Try.nextPowerOfTwo l (by have := HB.out; omega)
    obtain ⟨M, hM1, hM2, hM3⟩ : ∃ M : Nat, M = 1 <<< bitsLen l ∧ 1 ≤ M ∧ M ≤ 2 * l := ⟨_, rfl, by rw [Nat.one_shiftLeft]; exact Nat.one_le_two_pow, by rw [Nat.one_shiftLeft]; exact two_pow_bitsLen_le (by omega)⟩
    rw [← hM1] at hp
    have HP := Lib.hid hp
    clear hp hM1
    obtain ⟨i0, e1, e2, hi1, hi2⟩ : ∃ i0 : Nat, (a : Int) + (l : Int) / 4 * 2 - 1 = i0 ∧ (a : Int) + (l : Int) / 4 * 2 + 1 = (i0 : Int) + 2 ∧ a ≤ i0 ∧ i0 + 2 < b :=
      ⟨a + l / 4 * 2 - 1, by omega, by omega, by omega, by have := HB.out; omega⟩
    have hlsz : l < 4611686018427387904 := by have := HB.out; omega
    go_wp2_with fail
    refine (HP.out _).mono ?_
    rintro e w1 ⟨rfl, hw1⟩
    have HR : Hid (RB w g off d w.heap.size l w1) := Lib.hid (by rw [hw1]; exact ⟨HS.out.alloc HG.out _, by simp, by simp⟩)
    clear hw1 HP HG
    go_wp2_with fail
    go_loopw [9, 10] (fun vi _ wr => ∃ (i X : Nat) (dk : Array Int), vi = .int .i64 i ∧ i0 ≤ i ∧ i ≤ i0 + 3 ∧ X < 18446744073709551616 ∧ Hid (dk.size = len) ∧ Hid (PermIn a b d dk) ∧ Hid (RB w g off dk w.heap.size X wr)) (fun vi _ _ => (i0 + 3 - (iof vi).toNat))
    case atStart => exact ⟨i0, l, d, rfl, Nat.le_refl _, by omega, by omega, HL, Lib.hid (permIn_refl _ _ _), HR⟩
    case round =>
      obtain ⟨i, X, dk, rfl, hi, hi3, hX, hz, hP, HRk⟩ := hrel
      clear HR HS HL
      by_cases hle : i ≤ i0 + 2
      · have hX' := xorNextN_lt X hX
        have HN := Lib.hid (fun W (h : RB w g off dk w.heap.size X W) => Try.xorshift_Next w.heap.size 0 X hX W h.2.1 h.2.2)
        obtain ⟨X', hXX⟩ : ∃ X', X' = xorNextN X := ⟨_, rfl⟩
        rw [← hXX] at HN hX'
        clear hXX hX
        obtain ⟨o, ho1, ho2⟩ : ∃ o : Nat, o = X' &&& (M - 1) ∧ o < M := ⟨_, rfl, land_lt (by omega)⟩
        have hand : bits .and .u64 (X' : Int) ((M : Int) - 1) = (o : Int) := by
          rw [show ((M : Int) - 1) = ((M - 1 : Nat) : Int) by omega, bits_and_u64_nat _ _ hX' (by omega), ho1]
        clear ho1
        go_wp2_with fail
        refine (HN.out _ HRk.out).mono ?_
        rintro e w2 ⟨rfl, hw2⟩
        have HR2 : Hid (RB w g off dk w.heap.size X' w2) := Lib.hid (by rw [hw2]; exact HRk.out.set (Nat.le_refl _) HNE.out X' 3)
        have HX := Lib.hid hX'
        clear hw2 HN HRk hX'
        obtain ⟨G, HG, hc, hf⟩ := HR2.out.1.fam hz.out
        by_cases hol : l ≤ o
        · obtain ⟨p, ep, hp1⟩ : ∃ p : Nat, (o : Int) - (l : Int) = p ∧ a + p < b := ⟨o - l, by omega, by have := HB.out; omega⟩
          have hsw := fun q q' => HR2.out.swap HNE.out (i := i) (j := a + p) (by rw [hz.out]; omega) (by rw [hz.out]; omega) q q'
          rw [← HG.out, ← HG.out] at hsw
          have HSW := Lib.hid hsw
          have HPP := Lib.hid (swp_keep (i := i) (j := a + p) hP.out (by omega) (by omega) (by omega) (by omega) (by rw [hz.out]; exact hb))
          clear hsw
          obtain ⟨v', hy'⟩ := cell?_setCell_some (w := w2) (p := ⟨g, off + i, none⟩) (x := .int .u16 (G (a + p))) (q := ⟨g, off + (a + p), none⟩) (hc (a + p) (by omega))
          go_wp2_with fail
          go_region
          go_wp2_with fail
          go_roundw
          case rel => exact ⟨i + 1, X', swp dk i (a + p), by go_num, by omega, by omega, HX.out, Lib.hid (by rw [size_swp]; exact hz.out), HPP, Lib.hid (HSW.out 0 1)⟩
          case measure => simp [iof] <;> omega
        · have hp1 : a + o < b := by have := HB.out; omega
          have hsw := fun q q' => HR2.out.swap HNE.out (i := i) (j := a + o) (by rw [hz.out]; omega) (by rw [hz.out]; omega) q q'
          rw [← HG.out, ← HG.out] at hsw
          have HSW := Lib.hid hsw
          have HPP := Lib.hid (swp_keep (i := i) (j := a + o) hP.out (by omega) (by omega) (by omega) (by omega) (by rw [hz.out]; exact hb))
          clear hsw
          obtain ⟨v', hy'⟩ := cell?_setCell_some (w := w2) (p := ⟨g, off + i, none⟩) (x := .int .u16 (G (a + o))) (q := ⟨g, off + (a + o), none⟩) (hc (a + o) (by omega))
          go_wp2_with fail
          go_region
          go_wp2_with fail
          go_roundw
          case rel => exact ⟨i + 1, X', swp dk i (a + o), by go_num, by omega, by omega, HX.out, Lib.hid (by rw [size_swp]; exact hz.out), HPP, Lib.hid (HSW.out 0 1)⟩
          case measure => simp [iof] <;> omega
      · go_wp2_with fail
        go_end0
        exact ⟨dk, rfl, hP.out, HRk.out.1⟩
  · go_wp2_with fail
    go_end0
    exact ⟨d, rfl, permIn_refl _ _ _, HS.out⟩
end Go.Proofs.Ytednkcjmlpgipaa
/-
  What one call of a script does to an inbox, plain: the cumulative TSN goes on by at most 65535; what is held and the window have their room.
-/
namespace Go.Proofs.Ytednkcjmlpgipaa
set_option maxRecDepth 4000
namespace Ix
set_option linter.unusedVariables false
set_option linter.unusedSimpArgs false
open Fg (Pc Ms)

theorem norm_cum : ∀ (n c : Nat) (l : List Nat), l.length ≤ n → c < 4294967296 → ∃ j, j ≤ l.length ∧ (Gp.norm c l).1 = Gp.up c j
  | n, c, [], hn, hc => ⟨0, by simp, by rw [Gp.norm]; simp [Gp.up]; omega⟩
  | 0, c, w :: l, hn, hc => by simp at hn
  | n + 1, c, w :: l, hn, hc => by
    by_cases hw : w = 1
    · subst hw
      rw [Gp.norm_go]
      obtain ⟨j, hj, e⟩ := norm_cum n (Gp.up c 1) (l.map (· - 1)) (by simpa using hn) (Gp.up_lt _ _)
      refine ⟨1 + j, by simp at hj ⊢; omega, ?_⟩
      rw [e, Gp.up_up]
    · rw [Gp.norm_stop (by simpa using hw)]
      exact ⟨0, by simp, by simp [Gp.up]; omega⟩
theorem ins_len (w : Nat) : ∀ l : List Nat, (Gp.ins w l).length = l.length + 1
  | [] => rfl
  | x :: l => by
    rw [Gp.ins]
    split
    · simp [ins_len w l]
    · simp
theorem st_step {s : Gp.St} (h : s.Ok) (t : Nat) : Gp.wy s.cum (s.add t).1.cum ≤ 65535 := by
  have h0 : Gp.wy s.cum s.cum = 0 := by have := h.1; unfold Gp.wy; omega
  unfold Gp.St.add
  split
  · show Gp.wy s.cum s.cum ≤ 65535
    omega
  · split
    · show Gp.wy s.cum s.cum ≤ 65535
      omega
    · show Gp.wy s.cum (Gp.norm s.cum (Gp.ins (Gp.wy s.cum t) s.ws)).1 ≤ 65535
      obtain ⟨j, hj, e⟩ := norm_cum _ s.cum (Gp.ins (Gp.wy s.cum t) s.ws) (Nat.le_refl _) h.1
      have := Gp.ris_len h.2.1
      rw [ins_len] at hj
      rw [e, Gp.wy_up h.1 (by omega)]
      omega
theorem setSt_st (b : Ib) (s : Gp.St) : (b.setSt s).st = s := rfl
theorem join_st {b : Ib} (h : b.Ok) {s : Gp.St} (hs : s.Ok) {x : Pc} (hx : x.Ok) (hd : 1 ≤ x.d.length) (hq : x.s < b.nx.length) : ((b.setSt s).join x).st = s := by
  have hl := h.len.1
  have g := join_ok (setSt_core h.toCore hs) hx hd hq (Nat.lt_of_le_of_lt hl (by omega))
  have g2 := g.2.2.2.2.1
  rw [setSt_st] at g2
  exact g2
theorem add_st {b : Ib} (h : b.Ok) {x : Pc} (hx : x.Ok) {s : Gp.St} (hs : (b.st.add x.t).1 = s) (hsk : s.Ok) : (b.add x).1.st = b.st ∨ (b.add x).1.st = s := by
  have e : b.noted x.t = b.setSt s := by unfold Ib.noted; rw [hs]
  clear hs
  rcases add_ways b x with ⟨k, _⟩ | ⟨_, _, k⟩ | ⟨_, _, _, k⟩ | ⟨_, _, _, _, k⟩ | ⟨hd, _, hf, hq, k⟩
  · rw [k]; exact .inl rfl
  · rw [k, e]; exact .inr rfl
  · rw [k]; exact .inl rfl
  · rw [k, e]; exact .inr rfl
  · rw [k, e]; exact .inr (join_st h hsk hx (Nat.one_le_iff_ne_zero.2 hd) hq)
theorem wy_self {c : Nat} (h : c < 4294967296) : Gp.wy c c = 0 := by unfold Gp.wy; omega
/-- The cumulative TSN, behind a piece. -/
theorem add_step {b : Ib} (h : b.Ok) {x : Pc} (hx : x.Ok) : Gp.wy b.st.cum (b.add x).1.st.cum ≤ 65535 := by
  have h1 := st_step h.st x.t
  have h2 := Gp.add_ok h.st hx.t
  obtain ⟨s, hs⟩ : ∃ s, (b.st.add x.t).1 = s := ⟨_, rfl⟩
  rw [hs] at h1 h2
  have h3 := add_st h hx hs h2
  clear hs h2
  have h4 := wy_self h.st.1
  generalize (b.add x).1.st = s2 at h3
  rcases h3 with rfl | rfl
  · rw [h4]
    exact Nat.zero_le _
  · exact h1
/-- The window, and what is held, have their room. -/
theorem room_ok {b : Ib} (h : b.Ok) : b.held ≤ b.room ∧ (0 < b.held → b.rwnd + b.held ≤ b.room) := by
  have h1 := h.held
  refine ⟨h1, fun h2 => ?_⟩
  unfold Ib.rwnd
  omega
theorem recv_held {b : Ib} {m : Ms} {l : List Ms} (h : b.rd = m :: l) : b.recv = ({ b with rd := l }, some m) ∧ b.recv.1.held + m.d.length = b.held := by
  have e : b.recv = ({ b with rd := l }, some m) := by unfold Ib.recv; rw [h]
  refine ⟨e, ?_⟩
  rw [e]
  unfold Ib.held Ib.whole
  rw [h]
  simp only [bsum, List.map_cons, List.sum_cons]
  omega
theorem recv_none {b : Ib} (h : b.rd = []) : b.recv = (b, none) := by unfold Ib.recv; rw [h]
end Ix
end Go.Proofs.Ytednkcjmlpgipaa
/-
  The rows that the chapter gives, in plain words.
-/
namespace Go.Proofs.Ytednkcjmlpgipaa
set_option maxRecDepth 4000
namespace Ix
set_option linter.unusedVariables false
set_option linter.unusedSimpArgs false
open Fg (Pc Ms)
open Gp (St ins wy norm norm_go norm_stop up)

theorem s1 : (⟨0, [], []⟩ : St).add 2 = (⟨0, [2], []⟩, 0) := by
  have e : ins (wy 0 2) [] = [2] := by decide +kernel
  unfold St.add; rw [if_neg (by decide +kernel), if_neg (by decide +kernel)]
  show ((⟨(norm 0 (ins (wy 0 2) [])).1, (norm 0 (ins (wy 0 2) [])).2, []⟩ : St), 0) = _
  rw [e, norm_stop (by decide)]
theorem s2 : (⟨0, [2], []⟩ : St).add 1 = (⟨2, [], []⟩, 0) := by
  have e : ins (wy 0 1) [2] = [1, 2] := by decide +kernel
  unfold St.add; rw [if_neg (by decide +kernel), if_neg (by decide +kernel)]
  show ((⟨(norm 0 (ins (wy 0 1) [2])).1, (norm 0 (ins (wy 0 1) [2])).2, []⟩ : St), 0) = _
  rw [e, norm_go]
  show ((⟨(norm (up 0 1) [1]).1, (norm (up 0 1) [1]).2, []⟩ : St), 0) = _
  rw [norm_go]
  show ((⟨(norm (up (up 0 1) 1) []).1, (norm (up (up 0 1) 1) []).2, []⟩ : St), 0) = _
  rw [norm_stop (by decide)]
  rfl
theorem s3 : (⟨2, [], []⟩ : St).add 1 = (⟨2, [], [1]⟩, 1) := by
  unfold St.add; rw [if_pos (by decide +kernel)]; rfl
theorem s4 : (⟨2, [], []⟩ : St).add 3 = (⟨3, [], []⟩, 0) := by
  have e : ins (wy 2 3) [] = [1] := by decide +kernel
  unfold St.add; rw [if_neg (by decide +kernel), if_neg (by decide +kernel)]
  show ((⟨(norm 2 (ins (wy 2 3) [])).1, (norm 2 (ins (wy 2 3) [])).2, []⟩ : St), 0) = _
  rw [e, norm_go]
  show ((⟨(norm (up 2 1) []).1, (norm (up 2 1) []).2, []⟩ : St), 0) = _
  rw [norm_stop (by decide)]
  rfl
def ab : Ms := ⟨0, false, 0, [97, 98]⟩
def xy : Ms := ⟨0, false, 0, [120, 121]⟩
def b0 : Ib := ⟨10, 4, ⟨0, [], []⟩, [], [0, 0], [], []⟩
def b1 : Ib := ⟨10, 4, ⟨0, [2], []⟩, [], [0, 0], [(ab, 1)], []⟩
def b2 : Ib := ⟨10, 4, ⟨2, [], []⟩, [], [2, 0], [], [xy, ab]⟩
def b3 : Ib := ⟨10, 4, ⟨2, [], []⟩, [], [2, 0], [], [ab]⟩
def b4 : Ib := ⟨10, 4, ⟨2, [], []⟩, [], [2, 0], [], []⟩
def b5 : Ib := ⟨10, 4, ⟨2, [], [1]⟩, [], [2, 0], [], []⟩
def b6 : Ib := ⟨10, 4, ⟨3, [], []⟩, [], [2, 0], [], []⟩
def p1 : Pc := ⟨2, 3, 0, 1, 0, [97, 98]⟩
def p2 : Pc := ⟨3, 3, 0, 2, 0, [99, 100, 101, 102, 103]⟩
def p3 : Pc := ⟨1, 3, 0, 0, 0, [120, 121]⟩
def p4 : Pc := ⟨3, 3, 2, 0, 0, [113]⟩
theorem a1 : b0.add p1 = (b1, 0) := by
  have h : b0.add p1 = ((b0.noted 2).join p1, 0) := by kernel_rfl
  have e : b0.noted 2 = b0.setSt ⟨0, [2], []⟩ := by
    unfold Ib.noted
    rw [show b0.st = ⟨0, [], []⟩ from rfl, s1]
  have g : (b0.setSt ⟨0, [2], []⟩).join p1 = b1 := by kernel_rfl
  rw [h, e, g]
theorem a2 : b1.add p2 = (b1, 7) := by kernel_rfl
theorem a3 : b1.add p3 = (b2, 0) := by
  have h : b1.add p3 = ((b1.noted 1).join p3, 0) := by kernel_rfl
  have e : b1.noted 1 = b1.setSt ⟨2, [], []⟩ := by
    unfold Ib.noted
    rw [show b1.st = ⟨0, [2], []⟩ from rfl, s2]
  have g : (b1.setSt ⟨2, [], []⟩).join p3 = b2 := by kernel_rfl
  rw [h, e, g]
theorem a4 : b4.add p3 = (b5, 4) := by
  have h : b4.add p3 = (b4.noted 1, 4) := by kernel_rfl
  have e : b4.noted 1 = b4.setSt ⟨2, [], [1]⟩ := by
    unfold Ib.noted
    rw [show b4.st = ⟨2, [], []⟩ from rfl, s3]
  rw [h, e]
  rfl
theorem a5 : b4.add p4 = (b6, 100) := by
  have h : b4.add p4 = (b4.noted 3, 100) := by kernel_rfl
  have e : b4.noted 3 = b4.setSt ⟨3, [], []⟩ := by
    unfold Ib.noted
    rw [show b4.st = ⟨2, [], []⟩ from rfl, s4]
  rw [h, e]
  rfl
theorem a6 (t f s n p : Nat) : b6.add ⟨t, f, s, n, p, []⟩ = (b6, 2) := rfl
theorem o0 : b0.Ok := ⟨⟨by decide, by decide, ⟨by show 0 < 4294967296; omega, ⟨List.Pairwise.nil, fun x h => by simp [b0] at h⟩, by decide, fun t h => by simp [b0] at h⟩, by decide, by decide, fun x h => by simp [b0] at h, List.Pairwise.nil, fun x h => by simp [b0] at h, List.Pairwise.nil, fun x h => by simp [b0] at h⟩, by decide⟩
end Ix
end Go.Proofs.Ytednkcjmlpgipaa
