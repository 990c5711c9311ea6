/-
  Words on memory that all walks of this seat use: a slice that reads as cells, the world behind a call, a slice of integers that came in.
-/
import Derived.Test.YtednkcjmlpgipaaRows
import Derived.WalkKit
import Derived.WalkSpells
import Derived.WalkLawsBesides
import Derived.Lib.Hide
namespace Go.Proofs.Ytednkcjmlpgipaa
open Go.RowKit

theorem ret_eq {k : IntKind} {a b : Int} (h : a = b) : Ending.returned (.int k a) = .returned (.int k b) := by rw [h]
/-- The slice value with address A reads as the cells l: asked of an address only where there is an element. -/
def Row (w : World) (A : Option Addr) (l : List Value) : Prop := ∀ i v, l[i]? = some v → ∃ a, A = some a ∧ w.cell? (a.add i) = some v
theorem Row.keep {w w' : World} {A : Option Addr} {l : List Value} (h : Row w A l) (hk : ∀ p v, w.cell? p = some v → w'.cell? p = some v) : Row w' A l :=
  fun i v hv => by obtain ⟨a, e, hc⟩ := h i v hv; exact ⟨a, e, hk _ _ hc⟩
theorem Row.alloc {w : World} {A : Option Addr} {l : List Value} (h : Row w A l) (o : Obj) : Row (w.alloc o) A l :=
  h.keep fun p _ hp => (World.cell?_alloc_lt w o p (block_lt_of_cell hp)).trans hp
theorem Row.below {w w' : World} {A : Option Addr} {l : List Value} (h : Row w A l) (hb : Below w.heap.size w w') : Row w' A l :=
  h.keep fun _ _ hp => (hb.cell (block_lt_of_cell hp)).trans hp
/-- As bytes. -/
def bs (l : List Int) : List Value := l.map (.int .u8)
theorem Row.byte {w : World} {A : Option Addr} {l : List Int} (h : Row w A (bs l)) {k : Nat} (hk : k < l.length) :
    ∃ a, A = some a ∧ w.cell? (a.add k) = some (.int .u8 (l.getD k 0)) :=
  h k _ (by simp [bs, List.getElem?_map, List.getElem?_eq_getElem hk, List.getD])
theorem Row.nil_ (w : World) (A : Option Addr) : Row w A (bs []) := fun i v h => by simp [bs] at h
theorem Row.new (w : World) (l : List Value) (t : TypeId) (fr : Nat × Nat) : Row (w.alloc (.cells l.toArray t fr)) (some ⟨w.heap.size, 0, none⟩) l := fun i v h => by
  refine ⟨_, rfl, ?_⟩
  have e : (⟨w.heap.size, 0, none⟩ : Addr).add i = ⟨w.heap.size, i, none⟩ := by unfold Addr.add; split <;> simp_all
  rw [e, cell_of_row _ _ _ _ _ _ (heap_alloc_new _ _)]
  simpa using h

theorem bnext {w : World} {a b : World} (h : Below w.heap.size w a) (k : Below a.heap.size a b) : Below w.heap.size w b := h.trans (k.mono h.size)
theorem keep_of {P : Program} {f : FuncId} {args : Array Value} {W : World} {v : Ending} (G : World → Prop) (h : Calls P f args W fun e w' => e = v ∧ Below W.heap.size W w') (hG : ∀ w', Below W.heap.size W w' → G w') :
    Calls P f args W fun e w' => e = v ∧ G w' := h.mono fun _ _ ⟨he, hw⟩ => ⟨he, hG _ hw⟩

/-- A slice of integers that came in. -/
def IsRow (k : IntKind) (w : World) (a : Option Addr) (len cap : Nat) (zs : List Int) : Prop :=
  (a = none ∧ len = 0 ∧ cap = 0 ∧ zs = []) ∨
  ∃ x, a = some x ∧ len ≤ cap ∧ cap ≤ maxLen ∧ zs.length = cap ∧ (∀ i, i < zs.length → w.cell? (x.add i) = some (.int k (zs.getD i 0))) ∧ ∀ n ∈ zs, (Lit.int k n).wf = true
def Byt (l : List Int) : Prop := ∀ c ∈ l, 0 ≤ c ∧ c < 256
theorem wf_u8 {n : Int} (h : (Lit.int .u8 n).wf = true) : 0 ≤ n ∧ n < 256 := by
  simp [Lit.wf, IntKind.min, IntKind.max, IntKind.signed, IntKind.bits] at h
  omega
theorem wf_u16 {n : Int} (h : (Lit.int .u16 n).wf = true) : 0 ≤ n ∧ n < 65536 := by
  simp [Lit.wf, IntKind.min, IntKind.max, IntKind.signed, IntKind.bits] at h
  omega
theorem wf_u32 {n : Int} (h : (Lit.int .u32 n).wf = true) : 0 ≤ n ∧ n < 4294967296 := by
  simp [Lit.wf, IntKind.min, IntKind.max, IntKind.signed, IntKind.bits] at h
  omega
theorem wf_u64 {n : Int} (h : (Lit.int .u64 n).wf = true) : 0 ≤ n ∧ n < 18446744073709551616 := by
  simp [Lit.wf, IntKind.min, IntKind.max, IntKind.signed, IntKind.bits] at h
  omega
theorem wf_i64 {n : Int} (h : (Lit.int .i64 n).wf = true) : -9223372036854775808 ≤ n ∧ n < 9223372036854775808 := by
  simp [Lit.wf, IntKind.min, IntKind.max, IntKind.signed, IntKind.bits] at h
  omega
theorem IsRow.bytes {w : World} {a : Option Addr} {len cap : Nat} {zs : List Int} (h : IsRow .u8 w a len cap zs) :
    ∃ l, l.length = len ∧ len ≤ cap ∧ cap ≤ maxLen ∧ Byt l ∧ Row w a (bs l) := by
  rcases h with ⟨rfl, rfl, rfl, rfl⟩ | ⟨x, rfl, h1, h2, h3, h4, h5⟩
  · exact ⟨[], rfl, Nat.le_refl _, Nat.zero_le _, fun c h => by simp at h, Row.nil_ _ _⟩
  · refine ⟨zs.take len, by simp; omega, h1, h2, fun c hc => wf_u8 (h5 c (List.mem_of_mem_take hc)), fun i v hv => ⟨x, rfl, ?_⟩⟩
    simp only [bs, List.map_take, List.getElem?_take] at hv
    split at hv
    · rw [List.getElem?_map] at hv
      obtain ⟨y, hy, rfl⟩ := Option.map_eq_some_iff.1 hv
      obtain ⟨hi, hy⟩ := List.getElem?_eq_some_iff.1 hy
      rw [h4 i hi]
      simp [List.getD, hy, List.getElem?_eq_getElem hi]
    · cases hv

theorem Byt.take {l : List Int} (h : Byt l) (k : Nat) : Byt (l.take k) := fun c hc => h c (List.mem_of_mem_take hc)
theorem Byt.drop {l : List Int} (h : Byt l) (k : Nat) : Byt (l.drop k) := fun c hc => h c (List.mem_of_mem_drop hc)
theorem Byt.at {l : List Int} (h : Byt l) {k : Nat} (hk : k < l.length) : ∃ c : Nat, l.getD k 0 = c ∧ c < 256 := by
  have e : l.getD k 0 = l[k] := by simp [List.getD, List.getElem?_eq_getElem hk]
  have := h l[k] (List.getElem_mem hk)
  exact ⟨l[k].toNat, by omega, by omega⟩
theorem Byt.set {l : List Int} (h : Byt l) (k : Nat) {c : Nat} (hc : c < 256) : Byt (l.set k (c : Int)) := fun x hx => by
  rcases List.mem_or_eq_of_mem_set hx with h1 | h1
  · exact h x h1
  · omega
theorem bs_set (l : List Int) (k : Nat) (c : Int) : (bs l).set k (.int .u8 c) = bs (l.set k c) := by simp [bs]
theorem bs_get {l : List Int} {k : Nat} (hk : k < l.length) : (bs l)[k]? = some (.int .u8 (l.getD k 0)) := by
  simp [bs, List.getD, List.getElem?_eq_getElem hk]
theorem bs_len (l : List Int) : (bs l).length = l.length := by simp [bs]

/-- A piece of a slice with elements of one cell: its address. -/
def cutA (A : Option Addr) (c lo : Nat) : Option Addr := if c = lo then A else A.map (·.add lo)
theorem add_add (a : Addr) (i j : Nat) : (a.add i).add j = a.add (i + j) := by
  unfold Addr.add
  by_cases hi : i = 0 <;> by_cases hj : j = 0 <;> simp [hi, hj, Nat.add_assoc]
theorem Row.cut {w : World} {A : Option Addr} {l : List Value} (h : Row w A l) {c lo hi : Nat} (hc : hi ≤ c) : Row w (cutA A c lo) ((l.take hi).drop lo) := fun i v hv => by
  rw [List.getElem?_drop, List.getElem?_take] at hv
  split at hv
  · obtain ⟨a, rfl, hcell⟩ := h _ _ hv
    refine ⟨a.add lo, by unfold cutA; rw [if_neg (by omega)]; rfl, by rw [add_add]; exact hcell⟩
  · cases hv
section
variable {P : Program} {t e : TypeId} (ht : P.underlying t = some (.slice e)) (hi : (P.info? e).map (·.size) = some 1)
include ht hi
theorem run_size1 (W : World) : (sizeOf (P.elem t)).run P W = .ok 1 W := by
  have he : P.elem t = e := by simp [Program.elem, ht]
  rw [he]
  cases hq : P.info? e with
  | none => simp [hq] at hi
  | some i =>
    simp [hq] at hi
    simp [sizeOf, typeInfo, hq, hi]
theorem run_cut_lh {k k' : IntKind} (A : Option Addr) (n c lo h : Nat) (h1 : lo ≤ h) (h2 : h ≤ c) (W : World) :
    (Instr.slice t (.slice A n c) (some (.int k (lo : Int))) (some (.int k' (h : Int))) none).run P W = .ok (.slice (cutA A c lo) (h - lo) (c - lo)) W := by
  rw [run_slice_lh W t A n c (by simp [Program.elem, ht]) k k' lo h (by omega) (by omega) (by omega), run_size1 ht hi]
  simp [Result.andThen, sliced, cutA]
theorem run_cut_h {k : IntKind} (A : Option Addr) (n c h : Nat) (h2 : h ≤ c) (W : World) :
    (Instr.slice t (.slice A n c) none (some (.int k (h : Int))) none).run P W = .ok (.slice (cutA A c 0) h c) W := by
  rw [run_slice_h W t A n c (by simp [Program.elem, ht]) k h (by omega) (by omega), run_size1 ht hi]
  simp [Result.andThen, sliced, cutA]
theorem run_cut_l {k : IntKind} (A : Option Addr) (n c lo : Nat) (h1 : lo ≤ n) (W : World) :
    (Instr.slice t (.slice A n c) (some (.int k (lo : Int))) none none).run P W = .ok (.slice (cutA A c lo) (n - lo) (c - lo)) W := by
  rw [run_slice_l W t A n c (by simp [Program.elem, ht]) k lo (by omega) (by omega), run_size1 ht hi]
  simp [Result.andThen, sliced, cutA]
end

/-- The string of bytes. -/
def strOf (l : List Int) : ByteArray := l.foldl (fun r n => r.push (UInt8.ofNat n.toNat)) ByteArray.empty
theorem run_loadRow {P : Program} {w : World} {a : Addr} {l : List Value} (hr : Row w (some a) l) : (loadCells a l.length).run P w = .ok l.toArray w :=
  run_loadCells_list (P := P) w a l fun j v hj => by
    obtain ⟨b, hb, hc⟩ := hr j v hj
    injection hb with hb
    subst hb
    exact hc
theorem run_strOf {P : Program} {w : World} {src dst e : TypeId} {A : Option Addr} {n c : Nat} {l : List Int}
    (hs : P.underlying src = some (.slice e)) (he : P.underlying e = some (.int .u8)) (hd : P.underlying dst = some .string) (hl : l.length = n) (hr : Row w A (bs l)) :
    (convert src dst (.slice A n c)).run P w = .ok (.string (strOf l)) w := by
  subst hl
  rw [run_convert_bytes_string w src dst e _ _ _ hs he hd]
  rcases A with _ | a
  · have h0 : l = [] := by
      rcases l with _ | ⟨x, l⟩
      · rfl
      · obtain ⟨a, ha, _⟩ := Row.byte hr (k := 0) (by simp)
        cases ha
    subst h0
    simp [Conv.bytesToString, strOf]
  · have h := run_loadRow (P := P) hr
    rw [show (bs l).length = l.length by simp [bs]] at h
    exact run_bytesToString w a l.length c l h
end Go.Proofs.Ytednkcjmlpgipaa
