/-
  What chunk.Take does, given what the method that reads does.
-/
import Derived.Test.YtjlemghkaodkkaaChunkRd3
import Derived.Test.YtjlemghkaodkkaaChunkMay4
namespace Go.Proofs.Ytjlemghkaodkkaa
open Go.RowKit Wire Tlv Chunk

/-- What taking leaves. -/
def TakeOut (w : World) (o : Option Ck) (e : Ending) (w' : World) : Prop :=
  match o with
  | none => e = .returned (.tuple #[.agg (cv zero nol), .int .i64 50]) ∧ Below w.heap.size w w'
  | some c => ∃ s, e = .returned (.tuple #[.agg (cv c s), .int .i64 0]) ∧ Ch w' c s ∧ Below w.heap.size w w'
/-- The blocks of the call: the thing, the answer. -/
def T2 (w : World) (xv z : Array Value) (W : World) : Prop := Bk W w.heap.size xv 36 ∧ Bk W (w.heap.size + 1) z 29 ∧ Below w.heap.size w W
theorem T2.new (w : World) (xv z : Array Value) : T2 w xv z ((w.alloc (.cells xv 36)).alloc (.cells z 29)) := by
  refine ⟨(Bk.new w xv _).alloc _, ?_, ((Below.refl _ _).alloc (Nat.le_refl _) _).alloc (by simp) _⟩
  have := Bk.new (w.alloc (.cells xv 36)) z 29
  rw [World.size_alloc] at this
  exact this
theorem T2.next {w W W' : World} {xv z : Array Value} (h : T2 w xv z W) (hb : Below W.heap.size W W') : T2 w xv z W' := ⟨h.1.next hb, h.2.1.next hb, bnext' h.2.2 hb⟩
theorem T2.ot {w W W' : World} {xv z : Array Value} {b : Nat} (h : T2 w xv z W) (k : Ot W W' b) (hb : w.heap.size + 1 < b) : T2 w xv z W' :=
  ⟨(k.block _ h.1.lt (by simp; omega)).trans h.1, (k.block _ h.2.1.lt (by simp; omega)).trans h.2.1, below_ot h.2.2 k h.2.2.size (by omega)⟩
theorem T2.row {w W : World} {xv z : Array Value} (h : T2 w xv z W) (z' : Array Value) : T2 w xv z' (W.setRow (w.heap.size + 1) z') :=
  ⟨h.1.rowO (by omega) _, h.2.1.row_ _, below_setRow h.2.2 (by omega) _⟩
theorem zlit_one : zlit.all (·.oneCell') = true := by simp [zlit, Value.oneCell']
theorem zlit_info : (Try.prog.info? 29).map (·.size) = some zlit.size := ckinfo
set_option maxRecDepth 100000 in
set_option maxHeartbeats 1000000 in
theorem ckTake_no (x : Tv) (A : Option Addr) (n cp : Nat) (w : World) (hk : 255 < x.k) :
    Calls Try.prog 14 #[.agg #[.int .u16 (x.k : Int), .int .u8 (x.f : Int), .slice A n cp]] w (TakeOut w (take x)) := by
  have ht : take x = none := by unfold take; rw [if_pos hk]
  rw [ht]
  have HT : Hid (T2 w #[.int .u16 (x.k : Int), .int .u8 (x.f : Int), .slice A n cp] zlit _) := Lib.hid (T2.new w _ zlit)
  have d : decide ((255 : Int) < (x.k : Int)) = true := by simp; omega
  have HI := Lib.hid zlit_info
  have HO := Lib.hid zlit_one
  generalize x.k = k at *
  generalize x.f = f at *
  clear hk ht
  go_enter Try.func14, Try.ntmps14
  go_upto_region 1 with fail
  generalize World.alloc (World.alloc w _) _ = W1 at HT ⊢
  have g0 := HT.out.1.cell 0
  simp at g0
  go_wp2_with ((refine wpList_store_row rfl 29 (.tmp 2) (.tmp 15) rfl (w.heap.size + 1) zlit rfl rfl 29 zlit HT.out.2.1 HI.out rfl HO.out ?_))
  have hT2 := HT.out.row zlit
  generalize W1.setRow _ _ = W2 at hT2 ⊢
  have hz : Bk W2 (w.heap.size + 1) (cv zero nol) 29 := hT2.2.1
  refine bodyPost_ret (v := .tuple #[.agg (cv zero nol), .int .i64 50]) (by simp [results, Try.results14, go_sem, hz.c0, hz.c1, hz.c2, hz.c3, hz.c4, hz.c5, hz.c6, hz.c7, hz.c8, hz.c9, hz.c10, hz.c11, hz.c12, hz.c13, hz.c14, cv]) rfl ⟨rfl, hT2.2.2⟩
end Go.Proofs.Ytjlemghkaodkkaa
