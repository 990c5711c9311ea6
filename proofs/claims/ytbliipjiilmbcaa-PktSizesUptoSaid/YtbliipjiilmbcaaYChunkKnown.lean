/-
  The statements' 'known' of layer 5 answers true.
-/
import Derived.Test.YtbliipjiilmbcaaYP1c
import Derived.Test.YtbliipjiilmbcaaYP1b
import Derived.Test.YtbliipjiilmbcaaYChunkTkAny
import Derived.Test.YtbliipjiilmbcaaYChunkSame
import Derived.RangeFuncNested
import Derived.Shelf.Abstract
import Derived.Lib.SlBytesConst
import Derived.Deep.WholeRow
namespace Go.Proofs.Ytbliipjiilmbcaa
open Go.RowKit Wire Tlv Chunk Go.Shelf

def kshut : Ck := ⟨7, 0, 0, 0, 258, 0, 0, 0, 0, 0, [], [], [], [], []⟩
def kdat : Ck := ⟨0, 2, 0, 0, 1, 0, 0, 2, 3, 4, [120], [], [], [], []⟩
def kgap : Ck := ⟨3, 0, 0, 0, 0, 0, 0, 0, 0, 0, [], [], [(1, 1)], [], []⟩
theorem no_ok {P : Nat → Prop} : ∀ a ∈ ([] : List Nat), P a := fun a h => by simp at h
theorem kshut_ok : kshut.ok := by
  constructor
  all_goals first
    | decide
    | (intro c hc; simp [kshut] at hc; done)
theorem kdat_ok : kdat.ok := by
  constructor
  all_goals first
    | decide
    | (intro c hc; simp [kdat] at hc; done)
    | (intro c hc; simp [kdat] at hc; omega)
theorem kgap_ok : kgap.ok := by
  constructor
  all_goals first
    | decide
    | (intro c hc; simp [kgap] at hc; done)
    | (intro c hc; simp [kgap] at hc; subst hc; exact ⟨by decide, by decide⟩)
theorem zero_ok : zero.ok := by
  constructor
  all_goals first
    | decide
    | (intro c hc; simp [zero] at hc; done)
theorem kshut_may : may kshut := by
  refine ⟨?_, rfl⟩
  constructor
  all_goals simp [kshut, flg, kn, hTsn, hRw, hDa, hPc, hIn, hGp, hCa]
theorem kdat_may : may kdat := by
  refine ⟨?_, rfl⟩
  constructor
  all_goals simp [kdat, flg, hTsn, hRw, hDa, hPc, hIn, hGp, hCa]
theorem kgap_not : ¬ may kgap := fun h => by have := h.2; simp [kgap, apart] at this
theorem zero_not : ¬ may zero := fun h => h.1.has (.inl rfl) rfl
def b1 : List Int := [7, 0, 0, 8, 0, 0, 1, 2]
def b2 : List Int := [0, 2, 0, 17, 0, 0, 0, 1, 0, 2, 0, 3, 0, 0, 0, 4, 120, 0, 0, 0]
theorem kp1 : cput kshut = (b1, 0) := by
  rw [cput_ok kshut_may (by decide +kernel)]
  decide +kernel
theorem kp2 : cput kdat = (b2, 0) := by
  rw [cput_ok kdat_may (by decide +kernel)]
  decide +kernel
theorem kp3 : cput kgap = ([], 50) := cput_no kgap_not
theorem kp4 : cput zero = ([], 50) := cput_no zero_not
theorem ks1 : strOf b1 = { data := #[7, 0, 0, 8, 0, 0, 1, 2] } := by decide +kernel
theorem ks2 : strOf b2 = { data := #[0, 2, 0, 17, 0, 0, 0, 1, 0, 2, 0, 3, 0, 0, 0, 4, 120, 0, 0, 0] } := by decide +kernel
theorem kt1 : take ⟨7, 0, [0, 0, 1, 2]⟩ = some kshut := by
  rw [take_raw (by decide), raw_shut rfl, if_pos (by decide)]
  refine (Option.bind_some _ _).trans ?_
  show @ite (Option Ck) (may _) (Classical.propDecidable _) (some _) none = some kshut
  have e : ({ bare ⟨7, 0, [0, 0, 1, 2]⟩ with tsn := nn [0, 0, 1, 2] 0 4 } : Ck) = kshut := by decide +kernel
  rw [e, if_pos kshut_may]
theorem kt2 : take ⟨7, 0, [0, 0, 0, 0, 0]⟩ = none := by rw [take_raw (by decide), raw_shut rfl, if_neg (by decide)]; rfl
theorem kt3 : take ⟨8, 0, [0]⟩ = none := by rw [take_raw (by decide), raw_none (.inl rfl), if_neg (by decide)]; rfl
theorem ch_kdat (W : World) : Ch (W.alloc (.cells #[.int .u8 120] 5 (1, 2))) kdat (putD nol (some ⟨W.heap.size, 0, none⟩) 1 1) := by
  have h0 := (ch_none (W := W.alloc (.cells #[.int .u8 120] 5 (1, 2))) 0 zero_ok rfl rfl rfl rfl rfl).ch
  refine ⟨kdat_ok, ?_, ⟨_, 1, 1, rfl, rfl, by omega, by unfold maxLen; omega, by omega, Row.new W (bs [120]) _ _, fun h => by cases h⟩, h0.ar, h0.gr, h0.ur, h0.cr, rfl, h0.cd⟩
  constructor <;> simp [kdat, putD, nol]
def putGk (s : Ls) (A : Option Addr) (n c : Nat) : Ls := { s with gA := A, gn := n, gc := c }
theorem ch_kgap (W : World) : Ch (W.alloc (.cells #[.int .u16 1, .int .u16 1] 63)) kgap (putGk nol (some ⟨W.heap.size, 0, none⟩) 1 1) := by
  have h0 := (ch_none (W := W.alloc (.cells #[.int .u16 1, .int .u16 1] 63)) 0 zero_ok rfl rfl rfl rfl rfl).ch
  refine ⟨kgap_ok, ?_, h0.dr, h0.ar, ?_, h0.ur, h0.cr, rfl, h0.cd⟩
  · constructor <;> simp [kgap, putGk, nol]
  · exact Row.new W (gs [(1, 1)]) _ _
theorem take_last (x : Tv) (A : Option Addr) (n cp : Nat) (w : World) (hx : x.ok) (hk : x.k = 7) (hl : x.v.length = n) (hn : n ≤ 65531) (hle : n ≤ cp) (hcm : cp ≤ maxLen) (hr : Row w A (bs x.v)) :
    Calls Try.prog 12 #[.agg #[.int .u16 (x.k : Int), .int .u8 (x.f : Int), .slice A n cp]] w (TakeOut w (take x)) :=
  ckTake_any x A n cp w hx (by omega) hl hn hle hcm hr 65 (enters_of Try.func65 (by kernel_rfl) rfl) (by simp [rk, hk]) fun W b A n cp h => last_f w W b x A n cp hx hk h
theorem take_nothing (x : Tv) (A : Option Addr) (n cp : Nat) (w : World) (hx : x.ok) (hk : x.k = 8 ∨ x.k = 11 ∨ x.k = 14) (hl : x.v.length = n) (hn : n ≤ 65531) (hle : n ≤ cp) (hcm : cp ≤ maxLen) (hr : Row w A (bs x.v)) :
    Calls Try.prog 12 #[.agg #[.int .u16 (x.k : Int), .int .u8 (x.f : Int), .slice A n cp]] w (TakeOut w (take x)) :=
  ckTake_any x A n cp w hx (by omega) hl hn hle hcm hr 66 (enters_of Try.func66 (by kernel_rfl) rfl) (by unfold rk; rw [if_neg (by omega), if_neg (by omega), if_neg (by omega), if_neg (by omega), if_neg (by omega), if_pos hk]) fun W b A n cp h => nothing_f w W b x A n cp hx hk h
theorem kput_dat (W : World) : Calls Try.prog 16 #[.agg #[.int .u8 0, .int .u8 2, .int .u32 0, .int .u32 0, .int .u32 1, .int .u16 0, .int .u16 0, .int .u16 2, .int .u16 3, .int .u32 4, .slice (some ⟨W.heap.size, 0, none⟩) 1 1, .slice none 0 0, .slice none 0 0, .slice none 0 0, .slice none 0 0]] (W.alloc (.cells #[.int .u8 120] 5 (1, 2))) fun e w' => ∃ A c, e = .returned (.tuple #[.slice A 20 c, .int .i64 0]) ∧ Own W w' A 20 c b2 := by
  refine (ckPut_any kdat (putD nol (some ⟨W.heap.size, 0, none⟩) 1 1) _ (ch_kdat W)).mono ?_
  rw [kp2]
  rintro e w' ⟨A, n, c, he, ho⟩
  have hn : n = 20 := by rw [← ho.len]; rfl
  subst hn
  exact ⟨A, c, he, own_up' ho⟩
theorem kput_gap (W : World) : Calls Try.prog 16 #[.agg #[.int .u8 3, .int .u8 0, .int .u32 0, .int .u32 0, .int .u32 0, .int .u16 0, .int .u16 0, .int .u16 0, .int .u16 0, .int .u32 0, .slice none 0 0, .slice none 0 0, .slice (some ⟨W.heap.size, 0, none⟩) 1 1, .slice none 0 0, .slice none 0 0]] (W.alloc (.cells #[.int .u16 1, .int .u16 1] 63)) fun e w' => ∃ A c, e = .returned (.tuple #[.slice A 0 c, .int .i64 50]) ∧ Below W.heap.size W w' := by
  refine (ckPut_any kgap (putGk nol (some ⟨W.heap.size, 0, none⟩) 1 1) _ (ch_kgap W)).mono ?_
  rw [kp3]
  rintro e w' ⟨A, n, c, he, ho⟩
  have hn : n = 0 := by rw [← ho.len]; rfl
  subst hn
  exact ⟨A, c, he, (own_up' ho).2⟩
theorem kput_zero (W : World) : Calls Try.prog 16 #[.agg zlit] W fun e w' => ∃ A c, e = .returned (.tuple #[.slice A 0 c, .int .i64 50]) ∧ Below W.heap.size W w' := by
  refine (ckPut_any zero nol W (ch_none (W := W) 0 zero_ok rfl rfl rfl rfl rfl).ch).mono ?_
  rw [kp4]
  rintro e w' ⟨A, n, c, he, ho⟩
  have hn : n = 0 := by rw [← ho.len]; rfl
  subst hn
  exact ⟨A, c, he, ho.2⟩
theorem kput_shut (W : World) : Calls Try.prog 16 #[.agg (cv kshut nol)] W fun e w' => ∃ A c, e = .returned (.tuple #[.slice A 8 c, .int .i64 0]) ∧ Own W w' A 8 c b1 := by
  refine (ckPut_any kshut nol W (ch_none (W := W) 0 kshut_ok rfl rfl rfl rfl rfl).ch).mono ?_
  rw [kp1]
  rintro e w' ⟨A, n, c, he, ho⟩
  have hn : n = 8 := by rw [← ho.len]; rfl
  subst hn
  exact ⟨A, c, he, ho⟩
theorem byt_le {l : List Int} (h : l.all (fun c => decide (0 ≤ c ∧ c < 256)) = true) : Byt l := fun c hc => by
  have := List.all_eq_true.1 h c hc
  simpa using this
theorem ktake_shut (W : World) : Calls Try.prog 12 #[.agg #[.int .u16 7, .int .u8 0, .slice (some ⟨W.heap.size, 0, none⟩) 4 4]] (W.alloc (.cells #[.int .u8 0, .int .u8 0, .int .u8 1, .int .u8 2] 5)) fun e w' => ∃ s, e = .returned (.tuple #[.agg (cv kshut s), .int .i64 0]) ∧ Ch w' kshut s ∧ Below W.heap.size W w' := by
  refine (take_last ⟨7, 0, [0, 0, 1, 2]⟩ (some ⟨W.heap.size, 0, none⟩) 4 4 _ ⟨by decide, by decide, byt_le (by decide)⟩ rfl rfl (by omega) (by omega) (by unfold maxLen; omega) (Row.new W (bs [0, 0, 1, 2]) _ _)).mono ?_
  rw [kt1]
  rintro e w' ⟨s, he, hc, hb⟩
  exact ⟨s, he, hc.ch, ((Below.refl W.heap.size W).alloc (Nat.le_refl _) _).trans (hb.mono (by simp))⟩
theorem ktake_five (W : World) : Calls Try.prog 12 #[.agg #[.int .u16 7, .int .u8 0, .slice (some ⟨W.heap.size, 0, none⟩) 5 5]] (W.alloc (.cells (vb [0, 0, 0, 0, 0]) 5)) fun e w' => e = .returned (.tuple #[.agg (cv zero nol), .int .i64 50]) ∧ Below W.heap.size W w' := by
  refine (take_last ⟨7, 0, [0, 0, 0, 0, 0]⟩ (some ⟨W.heap.size, 0, none⟩) 5 5 _ ⟨by decide, by decide, byt_le (by decide)⟩ rfl rfl (by omega) (by omega) (by unfold maxLen; omega) (Row.new W (bs [0, 0, 0, 0, 0]) _ _)).mono ?_
  rw [kt2]
  rintro e w' ⟨he, hb⟩
  exact ⟨he, ((Below.refl W.heap.size W).alloc (Nat.le_refl _) _).trans (hb.mono (by simp))⟩
theorem ktake_one (W : World) : Calls Try.prog 12 #[.agg #[.int .u16 8, .int .u8 0, .slice (some ⟨W.heap.size, 0, none⟩) 1 1]] (W.alloc (.cells (vb [0]) 5)) fun e w' => e = .returned (.tuple #[.agg (cv zero nol), .int .i64 50]) ∧ Below W.heap.size W w' := by
  refine (take_nothing ⟨8, 0, [0]⟩ (some ⟨W.heap.size, 0, none⟩) 1 1 _ ⟨by decide, by decide, byt_le (by decide)⟩ (.inl rfl) rfl (by omega) (by omega) (by unfold maxLen; omega) (Row.new W (bs [0]) _ _)).mono ?_
  rw [kt3]
  rintro e w' ⟨he, hb⟩
  exact ⟨he, ((Below.refl W.heap.size W).alloc (Nat.le_refl _) _).trans (hb.mono (by simp))⟩
/-- A chunk stored into a variable that has just been made. -/
theorem store_new (c : Ck) (s : Ls) (W : World) : (storeCells ⟨W.heap.size, 0, none⟩ (cv c s).toList 0).run Try.prog (W.alloc (.cells zlit 32)) = .ok () (W.alloc (.cells (cv c s) 32)) :=
  run_storeCells_new (P := Try.prog) W 32 zlit (cv c s) (cv_info c s) rfl (cv_one c s)
abbrev klit : Array Value := #[.int .u8 7, .int .u8 0, .int .u32 0, .int .u32 0, .int .u32 258, .int .u16 0, .int .u16 0, .int .u16 0, .int .u16 0, .int .u32 0, .slice none 0 0, .slice none 0 0, .slice none 0 0, .slice none 0 0, .slice none 0 0]
set_option maxRecDepth 100000 in
set_option maxHeartbeats 4000000 in
theorem known_any (w : World) :
    Calls Try.prog 11 #[] w fun e w' => e = .returned (.bool true) ∧ Below w.heap.size w w' := by
  have HU : Hid (U1 w (cv kshut nol) (w.alloc (.cells klit 32))) := Lib.hid (U1.new w (cv kshut nol))
  have K1 := Lib.hid kput_shut
  have K2 := Lib.hid kput_dat
  have K3 := Lib.hid kput_gap
  have K4 := Lib.hid kput_zero
  have T1 := Lib.hid ktake_shut
  have T2 := Lib.hid ktake_five
  have T3 := Lib.hid ktake_one
  have HCI := Lib.hid (cv_info kshut nol)
  have hmk5 : ∀ W : World, (Instr.makeSlice 23 (.int .i64 5) (.int .i64 5)).run Try.prog W = .ok (.slice (some ⟨W.heap.size, 0, none⟩) 5 5) (W.alloc (.cells (vb [0, 0, 0, 0, 0]) 5)) := fun W => run_make_bytes 5 (by omega) W
  have hmk1 : ∀ W : World, (Instr.makeSlice 23 (.int .i64 1) (.int .i64 1)).run Try.prog W = .ok (.slice (some ⟨W.heap.size, 0, none⟩) 1 1) (W.alloc (.cells (vb [0]) 5)) := fun W => run_make_bytes 1 (by omega) W
  have kc := fun (W : World) (C : Array Value) (n c : Nat) => Lib.run_convert_bytes_const (P := Try.prog) W 23 5 C n c Try.underlying23 Try.underlying5
  go_enter Try.func11, Try.ntmps11
  go_upto_region 2 with fail
  generalize World.alloc w _ = W1 at HU ⊢
  go_wp2_with ((refine wpList_load_row rfl 32 (.tmp 1) rfl w.heap.size rfl 32 (cv kshut nol) (0, 0) _ HU.out.1 Try.underlying32 rfl HCI.out ?_))
  (with_reducible refine (K1.out _).mono ?_)
  rintro e W2 ⟨A2, c2, rfl, ho2⟩
  have HU2 := Lib.hid (HU.out.next ho2.2)
  have HO2 := Lib.hid ho2
  clear ho2
  go_wp2_with fail
  (with_reducible refine (K2.out _).mono ?_)
  rintro e W3 ⟨A3, c3, rfl, ho3⟩
  have HU3 := Lib.hid (HU2.out.next ho3.2)
  have HO3 := Lib.hid ho3
  have HO2' := Lib.hid (HO2.out.next ho3.2)
  have cv1 : (convert 23 9 (.slice A2 8 c2)).run Try.prog W3 = .ok (.string { data := #[7, 0, 0, 8, 0, 0, 1, 2] }) W3 := by
    rw [← ks1]
    exact run_strOf Try.underlying23 Try.underlying5 Try.underlying9 rfl HO2'.out.row
  have cv2 : (convert 23 9 (.slice A3 20 c3)).run Try.prog W3 = .ok (.string { data := #[0, 2, 0, 17, 0, 0, 0, 1, 0, 2, 0, 3, 0, 0, 0, 4, 120, 0, 0, 0] }) W3 := by
    rw [← ks2]
    exact run_strOf Try.underlying23 Try.underlying5 Try.underlying9 rfl HO3.out.row
  clear ho3
  go_wp2_with fail
  (with_reducible refine (T1.out _).mono ?_)
  rintro e W4 ⟨s, rfl, hc4, hb4⟩
  have HU4 := Lib.hid (HU3.out.next hb4)
  have HC4 := Lib.hid hc4
  have HSI := Lib.hid (cv_info kshut s)
  have HSO := Lib.hid (cv_one kshut s)
  clear hb4 hc4 cv1 cv2
  have hst := store_new kshut s W4
  go_upto_region 7 with fail
  clear hst
  have hb5 : Below W4.heap.size W4 (W4.alloc (.cells (cv kshut s) 32)) := (Below.refl _ _).alloc (Nat.le_refl _) _
  have HU5 := Lib.hid (HU4.out.next hb5)
  have HC5 := Lib.hid (HC4.out.next hb5)
  have HB5 : Hid (Bk (W4.alloc (.cells (cv kshut s) 32)) W4.heap.size (cv kshut s) 32) := Lib.hid (Bk.new _ _ _)
  clear hb5
  generalize hW5 : W4.alloc (.cells (cv kshut s) 32) = W5 at HU5 HC5 HB5 ⊢
  clear hW5
  generalize W4.heap.size = g6 at HB5 ⊢
  go_wp2_with fail
  (with_reducible refine (T2.out _).mono ?_)
  rintro e W6 ⟨rfl, hb6⟩
  have HU6 := Lib.hid (HU5.out.next hb6)
  have HC6 := Lib.hid (HC5.out.next hb6)
  have HB6 := Lib.hid (HB5.out.next hb6)
  clear hb6
  go_wp2_with fail
  (with_reducible refine (T3.out _).mono ?_)
  rintro e W7 ⟨rfl, hb7⟩
  have HU7 := Lib.hid (HU6.out.next hb7)
  have HC7 := Lib.hid (HC6.out.next hb7)
  have HB7 := Lib.hid (HB6.out.next hb7)
  have HZI := Lib.hid (cv_info zero nol)
  have HZO := Lib.hid (cv_one zero nol)
  clear hb7
  have hst := store_new zero nol W7
  go_upto_region 9 with fail
  clear hst
  have hb8 : Below W7.heap.size W7 (W7.alloc (.cells (cv zero nol) 32)) := (Below.refl _ _).alloc (Nat.le_refl _) _
  have HU8 := Lib.hid (HU7.out.next hb8)
  have HC8 := Lib.hid (HC7.out.next hb8)
  have HB8 := Lib.hid (HB7.out.next hb8)
  clear hb8
  generalize hW8 : W7.alloc (.cells (cv zero nol) 32) = W8 at HU8 HC8 HB8 ⊢
  clear hW8
  generalize W7.heap.size = g8
  go_wp2_with fail
  (with_reducible refine (K3.out _).mono ?_)
  rintro e W9 ⟨A9, c9, rfl, hb9⟩
  have HU9 := Lib.hid (HU8.out.next hb9)
  have HC9 := Lib.hid (HC8.out.next hb9)
  have HB9 := Lib.hid (HB8.out.next hb9)
  clear hb9
  go_wp2_with fail
  (with_reducible refine (K4.out _).mono ?_)
  rintro e W10 ⟨A10, c10, rfl, hb10⟩
  have HU10 := Lib.hid (HU9.out.next hb10)
  have HB10 := Lib.hid (HB9.out.next hb10)
  have HS := Lib.hid (ckSame_any kshut s nol W10 (HC9.out.next hb10) (ch_none (W := W10) 0 kshut_ok rfl rfl rfl rfl rfl).ch)
  clear hb10
  go_wp2_with (first
    | (refine wpList_load_row rfl 32 (.tmp 6) rfl g6 rfl 32 (cv kshut s) (0, 0) _ HB10.out Try.underlying32 rfl HSI.out ?_)
    | (refine wpList_load_row rfl 32 (.tmp 1) rfl w.heap.size rfl 32 (cv kshut nol) (0, 0) _ HU10.out.1 Try.underlying32 rfl HCI.out ?_))
  (with_reducible refine HS.out.mono ?_)
  rintro e W11 ⟨rfl, hb11⟩
  have HU11 := Lib.hid (HU10.out.next hb11)
  clear hb11
  have F1 : ∀ W, Calls Try.prog 31 #[.int .u8 14] W fun e w' => e = .returned (.bool true) ∧ W = w' := fun W => ckKnown_any 14 W
  have F2 : ∀ W, Calls Try.prog 32 #[.int .u8 130] W fun e w' => e = .returned (.bool true) ∧ W = w' := fun W => ckSkips_any 130 W (by decide)
  have F3 : ∀ W, Calls Try.prog 33 #[.int .u8 130] W fun e w' => e = .returned (.bool false) ∧ W = w' := fun W => ckReports_any 130 W (by decide)
  have F4 : ∀ W, Calls Try.prog 33 #[.int .u8 64] W fun e w' => e = .returned (.bool true) ∧ W = w' := fun W => ckReports_any 64 W (by decide)
  have F1 := Lib.hid F1
  have F2 := Lib.hid F2
  have F3 := Lib.hid F3
  have F4 := Lib.hid F4
  go_wp2_with (first
    | (go_at_call 31; (with_reducible refine (F1.out _).mono ?_); rintro e w' ⟨rfl, rfl⟩)
    | (go_at_call 32; (with_reducible refine (F2.out _).mono ?_); rintro e w' ⟨rfl, rfl⟩)
    | (go_at_call 33; (with_reducible refine (F3.out _).mono ?_); rintro e w' ⟨rfl, rfl⟩)
    | (go_at_call 33; (with_reducible refine (F4.out _).mono ?_); rintro e w' ⟨rfl, rfl⟩))
  go_ret
  exact ⟨rfl, HU11.out.2⟩
end Go.Proofs.Ytbliipjiilmbcaa
