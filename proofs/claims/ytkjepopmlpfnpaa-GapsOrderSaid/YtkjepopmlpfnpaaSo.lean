/-
  Words for the library's sort at elements of 16 bits: the world in which the row reads so, and nothing else of what was there has turned; the comparison.
-/
import Derived.Test.YtkjepopmlpfnpaaRows
import Derived.Test.YtkjepopmlpfnpaaChecked
import Derived.Test.YtkjepopmlpfnpaaShelf
import Derived.Sort.AssemblyPlain
import Derived.Sort.Row
import Derived.Sort.Walk13a
import Derived.Sort.LotD4
import Derived.WalkKit
import Derived.BigGuard
import Derived.BigCall
import Derived.CellFam
import Derived.Deep.Draws
import Derived.Deep.QuietTactic
import Derived.BigQuiet
import Derived.BigRegion
import Derived.RegionTactic
import Derived.Outline
import Derived.Lib.Hide
import Derived.Maps.AppendAt
import Derived.Deep.AppendLies
namespace Go.Proofs.Ytkjepopmlpfnpaa
open Go.RowKit Go.Sort

/-- A number of 16 bits as a value. -/
def u16 (x : Int) : Value := .int .u16 x
def iof : Value → Int | .int _ q => q | _ => 0
/-- The row of block g reads as d; nothing else that stood in w has turned. -/
def SW (w : World) (g off : Nat) (d : Array Int) (W : World) : Prop := Holds u16 W g off d ∧ w.grownBy W (some g)
theorem grown_refl (w : World) (r : Option Nat) : w.grownBy w r := ⟨rfl, rfl, rfl, Nat.le_refl _, fun _ _ _ => rfl⟩
theorem grown_drewN {w W : World} {r : Option Nat} (h : w.grownBy W r) (q : Nat) : w.grownBy (W.drewN q) r := ⟨h.os, h.tape, h.output, h.size, h.block⟩
theorem grown_putRow {w W : World} {g : Nat} (h : w.grownBy W (some g)) (off : Nat) (d : Array Int) : w.grownBy (putRow u16 W g off d) (some g) :=
  h.trans ⟨rfl, rfl, rfl, by simp [putRow, mapBlock], fun k _ hk => by
    have hne : g ≠ k := fun e => hk (by rw [e])
    simp [putRow, mapBlock, Array.getElem?_modify, hne]⟩
theorem SW.refl {w : World} {g off : Nat} {d : Array Int} (h : Holds u16 w g off d) : SW w g off d w := ⟨h, grown_refl _ _⟩
theorem SW.drewN {w W : World} {g off : Nat} {d : Array Int} (h : SW w g off d W) (q : Nat) : SW w g off d (W.drewN q) := ⟨h.1, grown_drewN h.2 q⟩
theorem SW.trans {w W W' : World} {g off : Nat} {d d' : Array Int} (h : SW w g off d W) (k : SW W g off d' W') : SW w g off d' W' := ⟨k.1, h.2.trans k.2⟩
theorem SW.swap {w W : World} {g off : Nat} {d : Array Int} (h : SW w g off d W) {i j : Nat} (hi : i < d.size) (hj : j < d.size) (q q' : Nat) :
    SW w g off (swp d i j) ((((W.drewN q).setCell ⟨g, off + i, none⟩ (u16 d[j]!)).setCell ⟨g, off + j, none⟩ (u16 d[i]!)).drewN q') := by
  have e : W.drewN q = putRow u16 (W.drewN q) g off d := (putRow_self u16 (W.drewN q) g off d h.1).symm
  rw [e, putRow_swp u16 _ g off d i j hi hj]
  exact SW.drewN ⟨holds_putRow u16 (W.drewN q) g off d _ h.1 (size_swp _ _ _), grown_putRow (grown_drewN h.2 q) _ _⟩ q'
theorem SW.fam {w W : World} {g off n : Nat} {d : Array Int} (h : SW w g off d W) (hs : d.size = n) :
    ∃ G : Nat → Int, Hid (∀ t, G t = d[t]!) ∧ (∀ t, t < n → W.cell? ⟨g, off + t, none⟩ = some (.int .u16 (G t))) ∧ (∀ t, t < n → W.frozen? ⟨g, off + t, none⟩ = false) :=
  ⟨fun t => d[t]!, fun _ => rfl, fun t ht => (h.1 t (by omega)).1, fun t ht => (h.1 t (by omega)).2⟩
theorem SW.lt {w W : World} {g off : Nat} {d : Array Int} (h : SW w g off d W) (hg : g < w.heap.size) : g < W.heap.size := Nat.lt_of_lt_of_le hg h.2.size
theorem frozen_alloc (w : World) (o : Obj) (a : Addr) (h : a.block < w.heap.size) : (w.alloc o).frozen? a = w.frozen? a := World.grownBy.frozen_far (World.grownBy_alloc w o none) a h (by simp)
theorem SW.alloc {w W : World} {g off : Nat} {d : Array Int} (h : SW w g off d W) (hg : g < W.heap.size) (o : Obj) : SW w g off d (W.alloc o) :=
  ⟨fun j hj => ⟨(World.cell?_alloc_lt W o _ hg).trans (h.1 j hj).1, (frozen_alloc W o _ hg).trans (h.1 j hj).2⟩, h.2.trans (World.grownBy_alloc W o _)⟩

theorem isNaN_any (x : Int) (w : World) : Calls Try.prog 56 #[.int .u16 x] w fun e w' => e = .returned (.bool false) ∧ w = w' := by
  go_enter Try.func56, Try.ntmps56
  go_wp2
  go_ret
  exact ⟨by simp, rfl⟩
theorem less_any (x y : Int) (w : World) : Calls Try.prog 46 #[.int .u16 x, .int .u16 y] w fun e w' => e = .returned (.bool (Sort.ltInt x y)) ∧ w = w' := by
  go_enter Try.func46, Try.ntmps46
  go_wp2_with (go_at_call 56; refine (isNaN_any _ _).mono ?_; rintro e w' ⟨rfl, rfl⟩)
  go_ret
  exact ⟨by simp [Sort.ltInt], rfl⟩
theorem less_q (x y : Int) (w : World) : Calls Try.prog 46 #[.int .u16 x, .int .u16 y] w fun e w' => e = .returned (.bool (Sort.ltInt x y)) ∧ w' = w := (less_any x y w).mono fun _ _ ⟨h, k⟩ => ⟨h, k.symm⟩
end Go.Proofs.Ytkjepopmlpfnpaa
