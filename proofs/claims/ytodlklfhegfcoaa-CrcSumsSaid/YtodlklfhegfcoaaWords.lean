/-
  Words on memory that all walks of this seat use: a slice that reads as cells, the world behind a call, a slice of integers that came in.
-/
import Derived.Test.YtodlklfhegfcoaaRows
import Derived.WalkKit
import Derived.WalkSpells
import Derived.WalkLawsBesides
import Derived.Lib.Hide
namespace Go.Proofs.Ytodlklfhegfcoaa
open Go.RowKit

theorem ret_eq {k : IntKind} {a b : Int} (h : a = b) : Ending.returned (.int k a) = .returned (.int k b) := by rw [h]
/-- The slice value with address A reads as the cells l: asked of an address only where there is an element. -/
def Row (w : World) (A : Option Addr) (l : List Value) : Prop := ∀ i v, l[i]? = some v → ∃ a, A = some a ∧ w.cell? (a.add i) = some v
theorem Row.keep {w w' : World} {A : Option Addr} {l : List Value} (h : Row w A l) (hk : ∀ p v, w.cell? p = some v → w'.cell? p = some v) : Row w' A l :=
  fun i v hv => by obtain ⟨a, e, hc⟩ := h i v hv; exact ⟨a, e, hk _ _ hc⟩
theorem Row.alloc {w : World} {A : Option Addr} {l : List Value} (h : Row w A l) (o : Obj) : Row (w.alloc o) A l :=
  h.keep fun p _ hp => (World.cell?_alloc_lt w o p (block_lt_of_cell hp)).trans hp
theorem Row.below {w w' : World} {A : Option Addr} {l : List Value} (h : Row w A l) (hb : Below w.heap.size w w') : Row w' A l :=
  h.keep fun _ _ hp => (hb.cell (block_lt_of_cell hp)).trans hp
/-- As bytes. -/
def bs (l : List Int) : List Value := l.map (.int .u8)
theorem Row.byte {w : World} {A : Option Addr} {l : List Int} (h : Row w A (bs l)) {k : Nat} (hk : k < l.length) :
    ∃ a, A = some a ∧ w.cell? (a.add k) = some (.int .u8 l[k]) :=
  h k _ (by simp [bs, List.getElem?_map, List.getElem?_eq_getElem hk])

theorem Row.nil_ (w : World) (A : Option Addr) : Row w A (bs []) := fun i v h => by simp [bs] at h
theorem Row.new (w : World) (l : List Value) (t : TypeId) (fr : Nat × Nat) : Row (w.alloc (.cells l.toArray t fr)) (some ⟨w.heap.size, 0, none⟩) l := fun i v h => by
  refine ⟨_, rfl, ?_⟩
  have e : (⟨w.heap.size, 0, none⟩ : Addr).add i = ⟨w.heap.size, i, none⟩ := by unfold Addr.add; split <;> simp_all
  rw [e, cell_of_row _ _ _ _ _ _ (heap_alloc_new _ _)]
  simpa using h

theorem bnext {w : World} {a b : World} (h : Below w.heap.size w a) (k : Below a.heap.size a b) : Below w.heap.size w b := h.trans (k.mono h.size)

/-- A slice of integers that came in. -/
def IsRow (k : IntKind) (w : World) (a : Option Addr) (len cap : Nat) (zs : List Int) : Prop :=
  (a = none ∧ len = 0 ∧ cap = 0 ∧ zs = []) ∨
  ∃ x, a = some x ∧ len ≤ cap ∧ cap ≤ maxLen ∧ zs.length = cap ∧ (∀ i, i < zs.length → w.cell? (x.add i) = some (.int k (zs.getD i 0))) ∧ ∀ n ∈ zs, (Lit.int k n).wf = true
def Byt (l : List Int) : Prop := ∀ c ∈ l, 0 ≤ c ∧ c < 256
theorem wf_u8 {n : Int} (h : (Lit.int .u8 n).wf = true) : 0 ≤ n ∧ n < 256 := by
  simp [Lit.wf, IntKind.min, IntKind.max, IntKind.signed, IntKind.bits] at h
  omega
theorem wf_u16 {n : Int} (h : (Lit.int .u16 n).wf = true) : 0 ≤ n ∧ n < 65536 := by
  simp [Lit.wf, IntKind.min, IntKind.max, IntKind.signed, IntKind.bits] at h
  omega
theorem wf_u32 {n : Int} (h : (Lit.int .u32 n).wf = true) : 0 ≤ n ∧ n < 4294967296 := by
  simp [Lit.wf, IntKind.min, IntKind.max, IntKind.signed, IntKind.bits] at h
  omega
theorem wf_u64 {n : Int} (h : (Lit.int .u64 n).wf = true) : 0 ≤ n ∧ n < 18446744073709551616 := by
  simp [Lit.wf, IntKind.min, IntKind.max, IntKind.signed, IntKind.bits] at h
  omega
theorem wf_i64 {n : Int} (h : (Lit.int .i64 n).wf = true) : -9223372036854775808 ≤ n ∧ n < 9223372036854775808 := by
  simp [Lit.wf, IntKind.min, IntKind.max, IntKind.signed, IntKind.bits] at h
  omega
theorem IsRow.bytes {w : World} {a : Option Addr} {len cap : Nat} {zs : List Int} (h : IsRow .u8 w a len cap zs) :
    ∃ l, l.length = len ∧ len ≤ cap ∧ cap ≤ maxLen ∧ Byt l ∧ Row w a (bs l) := by
  rcases h with ⟨rfl, rfl, rfl, rfl⟩ | ⟨x, rfl, h1, h2, h3, h4, h5⟩
  · exact ⟨[], rfl, Nat.le_refl _, Nat.zero_le _, fun c h => by simp at h, Row.nil_ _ _⟩
  · refine ⟨zs.take len, by simp; omega, h1, h2, fun c hc => wf_u8 (h5 c (List.mem_of_mem_take hc)), fun i v hv => ⟨x, rfl, ?_⟩⟩
    simp only [bs, List.map_take, List.getElem?_take] at hv
    split at hv
    · rw [List.getElem?_map] at hv
      obtain ⟨y, hy, rfl⟩ := Option.map_eq_some_iff.1 hv
      obtain ⟨hi, hy⟩ := List.getElem?_eq_some_iff.1 hy
      rw [h4 i hi]
      simp [List.getD, hy, List.getElem?_eq_getElem hi]
    · cases hv
end Go.Proofs.Ytodlklfhegfcoaa
