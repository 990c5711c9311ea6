/-
  A call, told to the window and to the document's.
-/
import Derived.Test.YthdhkjbfhbkdjaaCwRef
import Derived.Test.YthdhkjbfhbkdjaaCwArg
import Derived.Laws.CopyOwn
import Derived.Laws.Rows
import Derived.Laws.Tables
namespace Go.Proofs.Ythdhkjbfhbkdjaa
set_option maxRecDepth 4000
open Go.RowKit
namespace Cw
set_option linter.unusedVariables false
set_option linter.unusedSimpArgs false

def T.tell (t : T) (k n : Int) (f : Bool) : T := if k = 0 then t.ack n f else if k = 1 then t.loss else if k = 2 then t.tout else t
theorem tell_ok {t : T} {b : Nat} (h : t.Ok b) (k n : Int) (f : Bool) : (t.tell k n f).Ok (b + 1073741824) := by
  unfold T.tell
  split
  · exact ack_ok h n f
  split
  · exact ok_le (loss_ok h) (by omega)
  split
  · exact ok_le (tout_ok h) (by omega)
  · exact ok_le h (by omega)
def dz : Array Value := #[.int .i64 0, .int .i64 0, .int .i64 0, .int .i64 0]
def xc (k n : Int) (f : Bool) : Array Value := #[.int .i64 k, .int .i64 n, .bool f]
theorem wininfo : (Try.prog.info? 82).map (·.size) = some 4 := by kernel_rfl
theorem dc_info (u : T) : (Try.prog.info? 82).map (·.size) = some (dc u).size := wininfo
theorem dc_one (u : T) : (dc u).all (·.oneCell') = true := by simp [dc, Value.oneCell']
/-- Inside of tell. -/
def Tl (w : World) (g : Nat) (t u : T) (k n : Int) (f : Bool) (z : Array Value) (W : World) : Prop :=
  Tk W g t ∧ Bk W w.heap.size (dc u) 82 ∧ Bk W (w.heap.size + 1) (xc k n f) 79 ∧ Bk W (w.heap.size + 2) z 82 ∧ w.grownBy W (some g) ∧ g < w.heap.size
section
variable {w W W' : World} {g : Nat} {t t' u u' : T} {k n : Int} {f : Bool} {z : Array Value}
theorem Tl.start (h : Tk w g t) (u : T) (k n : Int) (f : Bool) : Tl w g t u k n f dz (((w.alloc (.cells (dc u) 82)).alloc (.cells (xc k n f) 79)).alloc (.cells dz 82)) := by
  refine ⟨((Bk.alloc h _).alloc _).alloc _, ((Bk.new _ _ _).alloc _).alloc _, ?_, ?_, ?_, h.lt⟩
  · have := (Bk.new (w.alloc (.cells (dc u) 82)) (xc k n f) 79).alloc (.cells dz 82)
    simpa using this
  · have := Bk.new ((w.alloc (.cells (dc u) 82)).alloc (.cells (xc k n f) 79)) dz 82
    simpa using this
  · exact grown_of_below (((Below.refl _ _).alloc (Nat.le_refl _) _).alloc (by simp) _ |>.alloc (by simp; omega) _) _
theorem Tl.own (h : Tl w g t u k n f z W) (ht : Tk W' g t') (hg : W.grownBy W' (some g)) : Tl w g t' u k n f z W' :=
  ⟨ht, h.2.1.kept hg (by have := h.2.2.2.2.2; simp; omega), h.2.2.1.kept hg (by have := h.2.2.2.2.2; simp; omega), h.2.2.2.1.kept hg (by have := h.2.2.2.2.2; simp; omega), h.2.2.2.2.1.trans hg, h.2.2.2.2.2⟩
theorem Tl.next (h : Tl w g t u k n f z W) (hb : Below W.heap.size W W') : Tl w g t u k n f z W' :=
  ⟨h.1.next hb, h.2.1.next hb, h.2.2.1.next hb, h.2.2.2.1.next hb, h.2.2.2.2.1.trans (grown_of_below hb _), h.2.2.2.2.2⟩
theorem Tl.row (h : Tl w g t u k n f z W) (z' : Array Value) : Tl w g t u k n f z' (W.setRow (w.heap.size + 2) z') := by
  obtain ⟨h1, h2, h3, h4, h5, h6⟩ := h
  refine ⟨?_, ?_, ?_, setRow_heap _ _ _ _ _ _ h4, ?_, h6⟩
  · exact (setRow_other W (w.heap.size + 2) g z' (by omega)).trans h1
  · exact (setRow_other W (w.heap.size + 2) w.heap.size z' (by omega)).trans h2
  · exact (setRow_other W (w.heap.size + 2) (w.heap.size + 1) z' (by omega)).trans h3
  · exact ⟨h5.os, h5.tape, h5.output, by simpa [World.setRow] using h5.size, fun k hk hne => (setRow_other W (w.heap.size + 2) k z' (by omega)).trans (h5.block k hk hne)⟩
theorem Tl.xcells (h : Tl w g t u k n f z W) : W.cell? ⟨w.heap.size + 1, 0, none⟩ = some (.int .i64 k) ∧ W.cell? ⟨w.heap.size + 1, 1, none⟩ = some (.int .i64 n) ∧ W.cell? ⟨w.heap.size + 1, 2, none⟩ = some (.bool f) :=
  ⟨h.2.2.1.cell 0, h.2.2.1.cell 1, h.2.2.1.cell 2⟩
end
set_option maxHeartbeats 1000000 in
theorem tell0 {w : World} {g : Nat} {t : T} {b : Nat} (h : Tk w g t) (ok : t.Ok b) (hb : b ≤ 4398046511104) (u : T) (oku : u.Ok b) (n : Int) (f : Bool) : Calls Try.prog 31 #[.pointer (some ⟨g, 0, none⟩), .agg (dc u), .agg (xc 0 n f)] w fun e w' => e = .returned (.agg (dc (u.ack n f))) ∧ Tk w' g (t.ack n f) ∧ w.grownBy w' (some g) := by
  have HT := Lib.hid (Tl.start h u 0 n f)
  have C1 : Hid (∀ W, Tk W g t → Calls Try.prog 33 #[.pointer (some ⟨g, 0, none⟩), .int .i64 n, .bool f] W fun e w' => e = .returned (.tuple #[]) ∧ Tk w' g (t.ack n f) ∧ W.grownBy w' (some g)) := Lib.hid fun W hW => ack_any hW ok hb n f
  have C2 := Lib.hid fun W => rack_any u b oku hb n f W
  generalize t.ack n f = t2 at C1 ⊢
  generalize u.ack n f = u2 at C2 ⊢
  clear h ok oku
  have HI : Hid ((Try.prog.info? 82).map (·.size) = some (dc u).size) := Lib.hid (dc_info u)
  go_enter Try.func31, Try.ntmps31
  generalize hdu : dc u = du at C2 HI ⊢
  have HT1 : Hid (Tl w g t u 0 n f #[.int .i64 0, .int .i64 0, .int .i64 0, .int .i64 0] (((w.alloc (.cells du 82)).alloc (.cells #[.int .i64 0, .int .i64 n, .bool f] 79)).alloc (.cells #[.int .i64 0, .int .i64 0, .int .i64 0, .int .i64 0] 82))) := Lib.hid (by rw [← hdu]; exact HT.out)
  have HDU := Lib.hid hdu
  clear HT hdu
  unfold xc
  go_upto_region 1 with fail
  generalize World.alloc _ _ = W1 at HT1 ⊢
  obtain ⟨x0, x1, x2⟩ := HT1.out.xcells
  generalize hs : w.heap.size = s at x0 x1 x2 ⊢
  go_wp2_with fail
  refine (C1.out _ HT1.out.1).mono ?_
  rintro e W2 ⟨rfl, h1, h2⟩
  have HT2 := Lib.hid (HT1.out.own h1 h2)
  clear h1 h2 HT1 C1 x0 x1 x2
  obtain ⟨x0, x1, x2⟩ := HT2.out.xcells
  have HB := Lib.hid HT2.out.2.1
  rw [hs] at x0 x1 x2 HB
  rw [HDU.out] at HB
  go_wp2_with (refine wpList_load_row rfl 82 (.tmp 4) rfl s rfl 82 du (0, 0) _ HB.out Try.underlying82 rfl HI.out ?_)
  refine (C2.out W2).mono ?_
  rintro e W3 ⟨rfl, h1⟩
  have HT3 := Lib.hid (HT2.out.next h1)
  clear h1 HT2 C2 x0 x1 x2 HB HI
  have HZ := Lib.hid HT3.out.2.2.2.1
  rw [hs] at HZ
  have HO := Lib.hid (dc_one u2)
  have HI2 := Lib.hid (dc_info u2)
  have HZZ : Hid (4 = (dc u2).size) := Lib.hid rfl
  generalize hd2 : dc u2 = d2 at HO HI2 HZZ ⊢
  go_wp2_with (refine wpList_store_row rfl 82 (.tmp 6) (.tmp 22) rfl (s + 2) d2 rfl rfl 82 #[.int .i64 0, .int .i64 0, .int .i64 0, .int .i64 0] HZ.out HI2.out HZZ.out HO.out ?_)
  have HT4 := Lib.hid (HT3.out.row d2)
  rw [hs] at HT4
  refine bodyPost_ret (results_cell_row rfl _ _ (s + 2) 82 d2 (0, 0) _ rfl ?_ Try.underlying82 rfl HI2.out) rfl ⟨by rw [hd2], HT4.out.1, HT4.out.2.2.2.2.1⟩
  have := HT4.out.2.2.2.1
  rw [hs] at this
  exact this
set_option maxHeartbeats 1000000 in
theorem tell1 {w : World} {g : Nat} {t : T} {b : Nat} (h : Tk w g t) (ok : t.Ok b) (hb : b ≤ 4398046511104) (u : T) (oku : u.Ok b) (n : Int) (f : Bool) : Calls Try.prog 31 #[.pointer (some ⟨g, 0, none⟩), .agg (dc u), .agg (xc 1 n f)] w fun e w' => e = .returned (.agg (dc (u.loss))) ∧ Tk w' g (t.loss) ∧ w.grownBy w' (some g) := by
  have HT := Lib.hid (Tl.start h u 1 n f)
  have C1 : Hid (∀ W, Tk W g t → Calls Try.prog 34 #[.pointer (some ⟨g, 0, none⟩)] W fun e w' => e = .returned (.tuple #[]) ∧ Tk w' g (t.loss) ∧ W.grownBy w' (some g)) := Lib.hid fun W hW => loss_any hW ok
  have C2 := Lib.hid fun W => rloss_below u b oku W
  generalize t.loss = t2 at C1 ⊢
  generalize u.loss = u2 at C2 ⊢
  clear h ok oku
  have HI : Hid ((Try.prog.info? 82).map (·.size) = some (dc u).size) := Lib.hid (dc_info u)
  go_enter Try.func31, Try.ntmps31
  generalize hdu : dc u = du at C2 HI ⊢
  have HT1 : Hid (Tl w g t u 1 n f #[.int .i64 0, .int .i64 0, .int .i64 0, .int .i64 0] (((w.alloc (.cells du 82)).alloc (.cells #[.int .i64 1, .int .i64 n, .bool f] 79)).alloc (.cells #[.int .i64 0, .int .i64 0, .int .i64 0, .int .i64 0] 82))) := Lib.hid (by rw [← hdu]; exact HT.out)
  have HDU := Lib.hid hdu
  clear HT hdu
  unfold xc
  go_upto_region 1 with fail
  generalize World.alloc _ _ = W1 at HT1 ⊢
  obtain ⟨x0, x1, x2⟩ := HT1.out.xcells
  generalize hs : w.heap.size = s at x0 x1 x2 ⊢
  go_wp2_with fail
  refine (C1.out _ HT1.out.1).mono ?_
  rintro e W2 ⟨rfl, h1, h2⟩
  have HT2 := Lib.hid (HT1.out.own h1 h2)
  clear h1 h2 HT1 C1 x0 x1 x2
  obtain ⟨x0, x1, x2⟩ := HT2.out.xcells
  have HB := Lib.hid HT2.out.2.1
  rw [hs] at x0 x1 x2 HB
  rw [HDU.out] at HB
  go_wp2_with (refine wpList_load_row rfl 82 (.tmp 4) rfl s rfl 82 du (0, 0) _ HB.out Try.underlying82 rfl HI.out ?_)
  refine (C2.out W2).mono ?_
  rintro e W3 ⟨rfl, h1⟩
  have HT3 := Lib.hid (HT2.out.next h1)
  clear h1 HT2 C2 x0 x1 x2 HB HI
  have HZ := Lib.hid HT3.out.2.2.2.1
  rw [hs] at HZ
  have HO := Lib.hid (dc_one u2)
  have HI2 := Lib.hid (dc_info u2)
  have HZZ : Hid (4 = (dc u2).size) := Lib.hid rfl
  generalize hd2 : dc u2 = d2 at HO HI2 HZZ ⊢
  go_wp2_with (refine wpList_store_row rfl 82 (.tmp 6) (.tmp 28) rfl (s + 2) d2 rfl rfl 82 #[.int .i64 0, .int .i64 0, .int .i64 0, .int .i64 0] HZ.out HI2.out HZZ.out HO.out ?_)
  have HT4 := Lib.hid (HT3.out.row d2)
  rw [hs] at HT4
  refine bodyPost_ret (results_cell_row rfl _ _ (s + 2) 82 d2 (0, 0) _ rfl ?_ Try.underlying82 rfl HI2.out) rfl ⟨by rw [hd2], HT4.out.1, HT4.out.2.2.2.2.1⟩
  have := HT4.out.2.2.2.1
  rw [hs] at this
  exact this
set_option maxHeartbeats 1000000 in
theorem tell2 {w : World} {g : Nat} {t : T} {b : Nat} (h : Tk w g t) (ok : t.Ok b) (hb : b ≤ 4398046511104) (u : T) (oku : u.Ok b) (n : Int) (f : Bool) : Calls Try.prog 31 #[.pointer (some ⟨g, 0, none⟩), .agg (dc u), .agg (xc 2 n f)] w fun e w' => e = .returned (.agg (dc (u.tout))) ∧ Tk w' g (t.tout) ∧ w.grownBy w' (some g) := by
  have HT := Lib.hid (Tl.start h u 2 n f)
  have C1 : Hid (∀ W, Tk W g t → Calls Try.prog 35 #[.pointer (some ⟨g, 0, none⟩)] W fun e w' => e = .returned (.tuple #[]) ∧ Tk w' g (t.tout) ∧ W.grownBy w' (some g)) := Lib.hid fun W hW => tout_any hW ok
  have C2 := Lib.hid fun W => rtout_any u b oku W
  generalize t.tout = t2 at C1 ⊢
  generalize u.tout = u2 at C2 ⊢
  clear h ok oku
  have HI : Hid ((Try.prog.info? 82).map (·.size) = some (dc u).size) := Lib.hid (dc_info u)
  go_enter Try.func31, Try.ntmps31
  generalize hdu : dc u = du at C2 HI ⊢
  have HT1 : Hid (Tl w g t u 2 n f #[.int .i64 0, .int .i64 0, .int .i64 0, .int .i64 0] (((w.alloc (.cells du 82)).alloc (.cells #[.int .i64 2, .int .i64 n, .bool f] 79)).alloc (.cells #[.int .i64 0, .int .i64 0, .int .i64 0, .int .i64 0] 82))) := Lib.hid (by rw [← hdu]; exact HT.out)
  have HDU := Lib.hid hdu
  clear HT hdu
  unfold xc
  go_upto_region 1 with fail
  generalize World.alloc _ _ = W1 at HT1 ⊢
  obtain ⟨x0, x1, x2⟩ := HT1.out.xcells
  generalize hs : w.heap.size = s at x0 x1 x2 ⊢
  go_wp2_with fail
  refine (C1.out _ HT1.out.1).mono ?_
  rintro e W2 ⟨rfl, h1, h2⟩
  have HT2 := Lib.hid (HT1.out.own h1 h2)
  clear h1 h2 HT1 C1 x0 x1 x2
  obtain ⟨x0, x1, x2⟩ := HT2.out.xcells
  have HB := Lib.hid HT2.out.2.1
  rw [hs] at x0 x1 x2 HB
  rw [HDU.out] at HB
  go_wp2_with (refine wpList_load_row rfl 82 (.tmp 4) rfl s rfl 82 du (0, 0) _ HB.out Try.underlying82 rfl HI.out ?_)
  refine (C2.out W2).mono ?_
  rintro e W3 ⟨rfl, h1⟩
  have HT3 := Lib.hid (HT2.out.next h1)
  clear h1 HT2 C2 x0 x1 x2 HB HI
  have HZ := Lib.hid HT3.out.2.2.2.1
  rw [hs] at HZ
  have HO := Lib.hid (dc_one u2)
  have HI2 := Lib.hid (dc_info u2)
  have HZZ : Hid (4 = (dc u2).size) := Lib.hid rfl
  generalize hd2 : dc u2 = d2 at HO HI2 HZZ ⊢
  go_wp2_with (refine wpList_store_row rfl 82 (.tmp 6) (.tmp 34) rfl (s + 2) d2 rfl rfl 82 #[.int .i64 0, .int .i64 0, .int .i64 0, .int .i64 0] HZ.out HI2.out HZZ.out HO.out ?_)
  have HT4 := Lib.hid (HT3.out.row d2)
  rw [hs] at HT4
  refine bodyPost_ret (results_cell_row rfl _ _ (s + 2) 82 d2 (0, 0) _ rfl ?_ Try.underlying82 rfl HI2.out) rfl ⟨by rw [hd2], HT4.out.1, HT4.out.2.2.2.2.1⟩
  have := HT4.out.2.2.2.1
  rw [hs] at this
  exact this
set_option maxHeartbeats 1000000 in
theorem tell3 {w : World} {g : Nat} {t : T} (h : Tk w g t) (u : T) (k n : Int) (f : Bool) (h0 : ¬ k = 0) (h1 : ¬ k = 1) (h2 : ¬ k = 2) : Calls Try.prog 31 #[.pointer (some ⟨g, 0, none⟩), .agg (dc u), .agg (xc k n f)] w fun e w' => e = .returned (.agg (dc u)) ∧ Tk w' g t ∧ w.grownBy w' (some g) := by
  have HT := Lib.hid (Tl.start h u k n f)
  have HI : Hid ((Try.prog.info? 82).map (·.size) = some (dc u).size) := Lib.hid (dc_info u)
  have HO := Lib.hid (dc_one u)
  have HZZ : Hid (4 = (dc u).size) := Lib.hid rfl
  clear h
  go_enter Try.func31, Try.ntmps31
  generalize hdu : dc u = du at HI HO HZZ ⊢
  have HT1 : Hid (Tl w g t u k n f #[.int .i64 0, .int .i64 0, .int .i64 0, .int .i64 0] (((w.alloc (.cells du 82)).alloc (.cells #[.int .i64 k, .int .i64 n, .bool f] 79)).alloc (.cells #[.int .i64 0, .int .i64 0, .int .i64 0, .int .i64 0] 82))) := Lib.hid (by rw [← hdu]; exact HT.out)
  have HDU := Lib.hid hdu
  clear HT hdu
  unfold xc
  go_upto_region 1 with fail
  generalize World.alloc _ _ = W1 at HT1 ⊢
  obtain ⟨x0, x1, x2⟩ := HT1.out.xcells
  have HB := Lib.hid HT1.out.2.1
  have HZ := Lib.hid HT1.out.2.2.2.1
  generalize hs : w.heap.size = s at x0 x1 x2 HB HZ ⊢
  rw [HDU.out] at HB
  go_wp2_with (first
    | (refine wpList_load_row rfl 82 (.tmp 4) rfl s rfl 82 du (0, 0) _ HB.out Try.underlying82 rfl HI.out ?_)
    | (refine wpList_store_row rfl 82 (.tmp 6) (.tmp 35) rfl (s + 2) du rfl rfl 82 #[.int .i64 0, .int .i64 0, .int .i64 0, .int .i64 0] HZ.out HI.out HZZ.out HO.out ?_))
  have HT4 := Lib.hid (HT1.out.row du)
  rw [hs] at HT4
  refine bodyPost_ret (results_cell_row rfl _ _ (s + 2) 82 du (0, 0) _ rfl ?_ Try.underlying82 rfl HI.out) rfl ⟨rfl, HT4.out.1, HT4.out.2.2.2.2.1⟩
  have := HT4.out.2.2.2.1
  rw [hs] at this
  exact this
theorem tell_any {w : World} {g : Nat} {t : T} {b : Nat} (h : Tk w g t) (ok : t.Ok b) (hb : b ≤ 4398046511104) (u : T) (oku : u.Ok b) (k n : Int) (f : Bool) : Calls Try.prog 31 #[.pointer (some ⟨g, 0, none⟩), .agg (dc u), .agg (xc k n f)] w fun e w' => e = .returned (.agg (dc (u.tell k n f))) ∧ Tk w' g (t.tell k n f) ∧ w.grownBy w' (some g) := by
  unfold T.tell
  by_cases h0 : k = 0
  · subst h0
    rw [if_pos rfl, if_pos rfl]
    exact tell0 h ok hb u oku n f
  rw [if_neg h0, if_neg h0]
  by_cases h1 : k = 1
  · subst h1
    rw [if_pos rfl, if_pos rfl]
    exact tell1 h ok hb u oku n f
  rw [if_neg h1, if_neg h1]
  by_cases h2 : k = 2
  · subst h2
    rw [if_pos rfl, if_pos rfl]
    exact tell2 h ok hb u oku n f
  rw [if_neg h2, if_neg h2]
  exact tell3 h u k n f h0 h1 h2
end Cw
end Go.Proofs.Ythdhkjbfhbkdjaa
