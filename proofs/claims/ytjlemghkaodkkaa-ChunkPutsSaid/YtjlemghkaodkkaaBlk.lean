/-
  A block of the heap that is known whole: its cells, what keeps it, what a store makes of it.
-/
import Derived.Test.YtjlemghkaodkkaaOwn
namespace Go.Proofs.Ytjlemghkaodkkaa
open Go.RowKit Wire

/-- Block b holds just these cells. -/
def Bk (W : World) (b : Nat) (cs : Array Value) (t : TypeId) : Prop := W.heap[b]? = some (.cells cs t (0, 0))
theorem Bk.lt {W : World} {b : Nat} {cs : Array Value} {t : TypeId} (h : Bk W b cs t) : b < W.heap.size := (Array.getElem?_eq_some_iff.1 h).1
theorem Bk.next {W W' : World} {b : Nat} {cs : Array Value} {t : TypeId} (h : Bk W b cs t) (hb : Below W.heap.size W W') : Bk W' b cs t := (hb.block _ h.lt).trans h
theorem Bk.nextB {W W' : World} {B b : Nat} {cs : Array Value} {t : TypeId} (h : Bk W b cs t) (hb : Below B W W') (hlt : b < B) : Bk W' b cs t := (hb.block _ hlt).trans h
theorem Bk.drew {W : World} {b : Nat} {cs : Array Value} {t : TypeId} (h : Bk W b cs t) : Bk W.drew b cs t := h
theorem Bk.drewN {W : World} {b : Nat} {cs : Array Value} {t : TypeId} (h : Bk W b cs t) (q : Nat) : Bk (W.drewN q) b cs t := h
theorem Bk.alloc {W : World} {b : Nat} {cs : Array Value} {t : TypeId} (h : Bk W b cs t) (o : Obj) : Bk (W.alloc o) b cs t := h.next ((Below.refl _ _).alloc (Nat.le_refl _) _)
theorem Bk.new (W : World) (cs : Array Value) (t : TypeId) : Bk (W.alloc (.cells cs t)) W.heap.size cs t := heap_alloc_new _ _
theorem Bk.cell {W : World} {b : Nat} {cs : Array Value} {t : TypeId} (h : Bk W b cs t) (i : Nat) : W.cell? ⟨b, i, none⟩ = cs[i]? := by simp [World.cell?, show W.heap[b]? = _ from h]
theorem Bk.frozen {W : World} {b : Nat} {cs : Array Value} {t : TypeId} (h : Bk W b cs t) (i : Nat) : W.frozen? ⟨b, i, none⟩ = false := by simp [World.frozen?, show W.heap[b]? = _ from h]
theorem Bk.set {W : World} {b : Nat} {cs : Array Value} {t : TypeId} (h : Bk W b cs t) (i : Nat) (v : Value) : Bk (W.setCell ⟨b, i, none⟩ v) b (cs.setIfInBounds i v) t := by
  have h' : W.heap[b]? = some (.cells cs t (0, 0)) := h
  simp [Bk, World.setCell, Array.getElem?_modify, h']
theorem Bk.other {W : World} {b c : Nat} {cs : Array Value} {t : TypeId} (h : Bk W b cs t) (hne : b ≠ c) (i : Nat) (v : Value) : Bk (W.setCell ⟨c, i, none⟩ v) b cs t := by
  have h' : W.heap[b]? = some (.cells cs t (0, 0)) := h
  simp [Bk, World.setCell, Array.getElem?_modify, h', Ne.symm hne]
theorem Bk.row {W : World} {b : Nat} {cs : Array Value} {t : TypeId} (h : Bk W b cs t) : Row W (some ⟨b, 0, none⟩) cs.toList := fun i v hv => by
  refine ⟨_, rfl, ?_⟩
  have e : (⟨b, 0, none⟩ : Addr).add i = ⟨b, i, none⟩ := by unfold Addr.add; split <;> simp_all
  rw [e, h.cell i]
  simpa using hv
theorem ofInt_64 (a : Nat) (ha : a < 9223372036854775808) : (BitVec.ofInt 64 (a : Int)).toNat = a := by
  rw [BitVec.ofInt_natCast, BitVec.toNat_ofNat]; exact Nat.mod_eq_of_lt (by omega)
theorem i64_or_nat (a b : Nat) (ha : a < 65536) (hb : b < 65536) : bits .or .i64 (a : Int) (b : Int) = ((a ||| b : Nat) : Int) := by
  have hx : a ||| b < 2 ^ 16 := Nat.or_lt_two_pow (by omega) (by omega)
  show IntKind.i64.wrap ((BitVec.ofInt 64 (a : Int) ||| BitVec.ofInt 64 (b : Int)).toNat : Int) = _
  rw [BitVec.toNat_or, ofInt_64 a (by omega), ofInt_64 b (by omega)]
  exact IntWalk.i64_in _ (by omega)
theorem or_app {a b k : Nat} (hb : b < 2 ^ k) : a * 2 ^ k ||| b = a * 2 ^ k + b := by
  rw [Nat.mul_comm a, Nat.two_pow_add_eq_or_of_lt hb]
end Go.Proofs.Ytjlemghkaodkkaa
