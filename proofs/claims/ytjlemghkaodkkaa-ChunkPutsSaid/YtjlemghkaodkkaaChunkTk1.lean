/-
  What chunk.Take does, given what the method 'any' does.
-/
import Derived.Test.YtjlemghkaodkkaaChunkTk
import Derived.BigRegion
namespace Go.Proofs.Ytjlemghkaodkkaa
open Go.RowKit Wire Tlv Chunk

theorem ckMay_lit (c : Ck) (s : Ls) (w : World) (h : Ch w c s) :
    Calls Try.prog 12 #[.agg #[.int .u8 (c.kd : Int), .int .u8 (c.fl : Int), .int .u32 (c.tag : Int), .int .u32 (c.rw : Int), .int .u32 (c.tsn : Int), .int .u16 (c.out : Int), .int .u16 (c.inn : Int), .int .u16 (c.sid : Int), .int .u16 (c.ssn : Int), .int .u32 (c.ppid : Int),
  .slice s.dA s.dn s.dc, .slice s.aA s.an s.ac, .slice s.gA s.gn s.gc, .slice s.uA s.un s.uc, .slice s.cA s.cn s.cc]] w fun e w' => e = .returned (.bool (mayB c)) ∧ Below w.heap.size w w' := ckMay_any c s w h
/-- The blocks of the call, the reader too. -/
def T3 (w : World) (x : Tv) (A : Option Addr) (n cp : Nat) (W : World) : Prop := T2 w #[.int .u16 (x.k : Int), .int .u8 (x.f : Int), .slice A n cp] zlit W ∧ Bk W (w.heap.size + 1 + 1) (rv A n cp zero nol false) 58
/-- A reader with nothing but what is left to read, written out. -/
abbrev rlit (A : Option Addr) (n cp : Nat) : Array Value := #[.slice A n cp, .int .u8 0, .int .u8 0, .int .u32 0, .int .u32 0, .int .u32 0, .int .u16 0, .int .u16 0, .int .u16 0, .int .u16 0, .int .u32 0, .slice none 0 0, .slice none 0 0, .slice none 0 0, .slice none 0 0, .slice none 0 0, .bool false]
theorem T3.new (w : World) (x : Tv) (A : Option Addr) (n cp : Nat) : T3 w x A n cp (((w.alloc (.cells #[.int .u16 (x.k : Int), .int .u8 (x.f : Int), .slice A n cp] 36)).alloc (.cells zlit 29)).alloc (.cells (rlit A n cp) 58)) := by
  refine ⟨(T2.new w _ _).next ((Below.refl _ _).alloc (Nat.le_refl _) _), ?_⟩
  have := Bk.new ((w.alloc (.cells #[.int .u16 (x.k : Int), .int .u8 (x.f : Int), .slice A n cp] 36)).alloc (.cells zlit 29)) (rv A n cp zero nol false) 58
  rw [World.size_alloc, World.size_alloc] at this
  exact this
theorem rv_kd (A : Option Addr) (n cap : Nat) (c : Ck) (s : Ls) (bad : Bool) (x : Nat) : (rv A n cap c s bad).setIfInBounds 1 (.int .u8 (x : Int)) = rv A n cap { c with kd := x } s bad := by simp [rv]
theorem rv_fl (A : Option Addr) (n cap : Nat) (c : Ck) (s : Ls) (bad : Bool) (x : Nat) : (rv A n cap c s bad).setIfInBounds 2 (.int .u8 (x : Int)) = rv A n cap { c with fl := x } s bad := by simp [rv]
theorem T3.set {w W : World} {x : Tv} {A : Option Addr} {n cp : Nat} (h : T3 w x A n cp W) : T2 w #[.int .u16 (x.k : Int), .int .u8 (x.f : Int), .slice A n cp] zlit ((W.setCell ⟨w.heap.size + 1 + 1, 1, none⟩ (.int .u8 (x.k : Int))).setCell ⟨w.heap.size + 1 + 1, 2, none⟩ (.int .u8 (x.f : Int))).drew ∧
    Bk ((W.setCell ⟨w.heap.size + 1 + 1, 1, none⟩ (.int .u8 (x.k : Int))).setCell ⟨w.heap.size + 1 + 1, 2, none⟩ (.int .u8 (x.f : Int))).drew (w.heap.size + 1 + 1) (rv A n cp (bare x) nol false) 58 := by
  refine ⟨h.1.ot ((((Ot.refl W _).set 1 _).set 2 _).drew) (by omega), ?_⟩
  have := (h.2.set 1 (.int .u8 (x.k : Int))).set 2 (.int .u8 (x.f : Int))
  rw [rv_kd, rv_fl] at this
  exact this
theorem cv_range {W : World} {b : Nat} {A : Option Addr} {n cp : Nat} {c : Ck} {s : Ls} {bad : Bool} {t : TypeId} (h : Bk W b (rv A n cp c s bad) t) : W.rangeAt b 1 (cv c s).toList := fun j v hj => by
  rw [h.cell]
  have hl : j < 15 := by have := (List.getElem?_eq_some_iff.1 hj).1; simpa [cv] using this
  rcases (show j = 0 ∨ j = 1 ∨ j = 2 ∨ j = 3 ∨ j = 4 ∨ j = 5 ∨ j = 6 ∨ j = 7 ∨ j = 8 ∨ j = 9 ∨ j = 10 ∨ j = 11 ∨ j = 12 ∨ j = 13 ∨ j = 14 by omega) with rfl | rfl | rfl | rfl | rfl | rfl | rfl | rfl | rfl | rfl | rfl | rfl | rfl | rfl | rfl
  all_goals (rw [← hj]; rfl)
theorem ChF.row {lo : Nat} {W : World} {c : Ck} {s : Ls} (h : ChF lo W c s) {g : Nat} (hg : g < lo) (cs' : Array Value) : Ch (W.setRow g cs') c s := h _ fun k hk _ => setRow_other W g k cs' (by omega)
theorem cv_list (c : Ck) (s : Ls) : (cv c s).toList.toArray = cv c s := by simp
theorem cvl_info (c : Ck) (s : Ls) : (Try.prog.info? 29).map (·.size) = some (cv c s).toList.length := ckinfo
end Go.Proofs.Ytjlemghkaodkkaa
