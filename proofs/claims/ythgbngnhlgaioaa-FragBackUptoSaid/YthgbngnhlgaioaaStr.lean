/-
  Strings as rows of bytes. For all layers.
-/
import Derived.Test.YthgbngnhlgaioaaByt
import Derived.Laws.IdiomStrings
namespace Go.Proofs.Ythgbngnhlgaioaa
open Go.RowKit
set_option linter.unusedVariables false
namespace Str

theorem push_list (l : List Int) : ∀ r : ByteArray, (l.foldl (fun r n => r.push (UInt8.ofNat n.toNat)) r).data.toList = r.data.toList ++ l.map fun n => UInt8.ofNat n.toNat := by
  induction l with
  | nil => intro r; simp
  | cons x l ih => intro r; rw [List.foldl_cons, ih]; simp [ByteArray.push]
theorem data_of (l : List Int) : (strOf l).data.toList = l.map fun x => UInt8.ofNat x.toNat := by
  unfold strOf
  rw [push_list]
  simp
theorem size_of (l : List Int) : (strOf l).size = l.length := by
  show (strOf l).data.size = l.length
  rw [← Array.length_toList, data_of l, List.length_map]
theorem row_of {l : List Int} {s : ByteArray} (h : strOf l = s) (hb : Byt l) (w : World) (cap : Nat) (t : TypeId) (fr : Nat × Nat) : Row (w.alloc (.cells (bytesRow s cap) t fr)) (some ⟨w.heap.size, 0, none⟩) (bs l) := by
  intro i v hv
  refine ⟨_, rfl, ?_⟩
  have e : (⟨w.heap.size, 0, none⟩ : Addr).add i = ⟨w.heap.size, i, none⟩ := by unfold Addr.add; split <;> simp_all
  rw [e, cell_of_row _ _ _ _ _ _ (heap_alloc_new _ _)]
  have hi : i < l.length := by
    have := (List.getElem?_eq_some_iff.1 hv).1
    simpa [bs] using this
  have hd := data_of l
  rw [h] at hd
  have hs : i < s.data.size := by rw [← Array.length_toList, hd]; simpa using hi
  have hx : s.data[i]? = some (UInt8.ofNat l[i].toNat) := by
    rw [← Array.getElem?_toList, hd]
    simp [List.getElem?_eq_getElem hi]
  rw [bytesRow, Array.getElem?_append_left (by simpa using hs)]
  simp only [Array.getElem?_map, hx, Option.map_some]
  rw [← hv]
  obtain ⟨c, hc, hc2⟩ := hb.at hi
  simp only [bs, List.getElem?_map, List.getElem?_eq_getElem hi, Option.map_some]
  have := hb l[i] (List.getElem_mem hi)
  have e3 : ((UInt8.ofNat l[i].toNat).toNat : Int) = l[i] := by rw [UInt8.toNat_ofNat']; omega
  rw [e3]
end Str
end Go.Proofs.Ythgbngnhlgaioaa
