/-
  What the document's Take does.
-/
import Derived.Test.YtbliipjiilmbcaaZChunkRTk0
import Derived.Test.YtbliipjiilmbcaaZChunkRTk1
import Derived.Test.YtbliipjiilmbcaaZChunkRTk2
import Derived.Test.YtbliipjiilmbcaaZChunkRTk3
import Derived.Test.YtbliipjiilmbcaaZChunkRTk6
import Derived.Test.YtbliipjiilmbcaaZChunkRTk9
import Derived.Test.YtbliipjiilmbcaaZChunkRTk7
import Derived.Test.YtbliipjiilmbcaaZChunkRTk8
import Derived.Test.YtbliipjiilmbcaaZChunkRTk11
import Derived.Test.YtbliipjiilmbcaaZChunkRTk14
import Derived.Test.YtbliipjiilmbcaaZChunkRTkD
import Derived.Test.YtbliipjiilmbcaaZChunkKnown
import Derived.Test.YtbliipjiilmbcaaZP1f
namespace Go.Proofs.Ytbliipjiilmbcaa
open Go.RowKit Wire Tlv Chunk Go.Shelf

set_option maxRecDepth 100000 in
set_option maxHeartbeats 1000000 in
theorem rTake_no (x : Tv) (A : Option Addr) (n cp : Nat) (w : World) (hk : 255 < x.k) :
    Calls Try.prog 13 #[.agg #[.int .u16 (x.k : Int), .int .u8 (x.f : Int), .slice A n cp]] w (TakeOut w (take x)) := by
  have ht : take x = none := by unfold take; rw [if_pos hk]
  rw [ht]
  have HT : Hid (T2 w #[.int .u16 (x.k : Int), .int .u8 (x.f : Int), .slice A n cp] zlit _) := Lib.hid (T2.new w _ zlit)
  have d : decide ((255 : Int) < (x.k : Int)) = true := by simp; omega
  have HI := Lib.hid zlit_info
  have HO := Lib.hid zlit_one
  generalize x.k = k at *
  generalize x.f = f at *
  clear hk ht
  go_enter Try.func13, Try.ntmps13
  go_upto_region 1 with fail
  generalize World.alloc (World.alloc w _) _ = W1 at HT ⊢
  have g0 := HT.out.1.cell 0
  simp at g0
  go_wp2_with ((refine wpList_store_row rfl 32 (.tmp 2) (.tmp 13) rfl (w.heap.size + 1) zlit rfl rfl 32 zlit HT.out.2.1 HI.out rfl HO.out ?_))
  have hT2 := HT.out.row zlit
  generalize W1.setRow _ _ = W2 at hT2 ⊢
  have hz : Bk W2 (w.heap.size + 1) (cv zero nol) 32 := hT2.2.1
  refine bodyPost_ret (v := .tuple #[.agg (cv zero nol), .int .i64 50]) (by simp [results, Try.results13, go_sem, hz.c0, hz.c1, hz.c2, hz.c3, hz.c4, hz.c5, hz.c6, hz.c7, hz.c8, hz.c9, hz.c10, hz.c11, hz.c12, hz.c13, hz.c14, cv]) rfl ⟨rfl, hT2.2.2⟩
theorem rTake_all (x : Tv) (A : Option Addr) (n cp : Nat) (w : World) (hx : x.ok) (hl : x.v.length = n) (hn : n ≤ 65531) (hle : n ≤ cp) (hcm : cp ≤ maxLen) (hr : Row w A (bs x.v)) (hz : A = none → n = 0 ∧ cp = 0) :
    Calls Try.prog 13 #[.agg #[.int .u16 (x.k : Int), .int .u8 (x.f : Int), .slice A n cp]] w (TakeOut w (take x)) := by
  obtain ⟨k, f, v⟩ := x
  by_cases h255 : 255 < k
  · exact rTake_no ⟨k, f, v⟩ A n cp w h255
  by_cases h0 : k = 0
  · exact rTake0 k f v A n cp w hx h0 hl hn hle hcm hr
  by_cases h1 : k = 1
  · exact rTake1 k f v A n cp w hx h1 hl hn hle hcm hr
  by_cases h2 : k = 2
  · exact rTake2 k f v A n cp w hx h2 hl hn hle hcm hr
  by_cases h3 : k = 3
  · exact rTake3 k f v A n cp w hx h3 hl hn hle hcm hr
  by_cases h6 : k = 6
  · exact rTake6 k f v A n cp w hx h6 hl hn hle hcm hr
  by_cases h9 : k = 9
  · exact rTake9 k f v A n cp w hx h9 hl hn hle hcm hr
  by_cases h7 : k = 7
  · exact rTake7 k f v A n cp w hx h7 hl hn hle hcm hr
  by_cases h8 : k = 8
  · exact rTake8 k f v A n cp w hx h8 hl hn hle hcm hr
  by_cases h11 : k = 11
  · exact rTake11 k f v A n cp w hx h11 hl hn hle hcm hr
  by_cases h14 : k = 14
  · exact rTake14 k f v A n cp w hx h14 hl hn hle hcm hr
  exact rTakeD k f v A n cp w hx ⟨by omega, by omega⟩ hl hn hle hcm hr hz
end Go.Proofs.Ytbliipjiilmbcaa
/-
  ChunkTakes: the walk.
-/
namespace Go.Proofs.Ytbliipjiilmbcaa
open Go.RowKit Wire Tlv Chunk

/-- The error beside what was taken. -/
def terr (o : Option Ck) : Int := match o with
  | none => 50
  | some _ => 0
theorem TakeOut.one {w w' : World} {o : Option Ck} {e : Ending} (h : TakeOut w o e w') : ∃ s, e = .returned (.tuple #[.agg (cv (o.getD zero) s), .int .i64 (terr o)]) ∧ Ch w' (o.getD zero) s ∧ Below w.heap.size w w' := by
  cases o with
  | none => exact ⟨nol, h.1, (ch_none (W := w') 0 zero_ok rfl rfl rfl rfl rfl).ch, h.2⟩
  | some c =>
    obtain ⟨s, h1, h2, h3⟩ := h
    exact ⟨s, h1, h2, h3⟩
/-- The block of the thing that was handed in. -/
def XT (w : World) (xv : Array Value) (W : World) : Prop := Bk W w.heap.size xv 25 ∧ Below w.heap.size w W
theorem XT.new (w : World) (xv : Array Value) : XT w xv (w.alloc (.cells xv 25)) := ⟨Bk.new w xv _, (Below.refl _ _).alloc (Nat.le_refl _) _⟩
theorem XT.next {w W W' : World} {xv : Array Value} (h : XT w xv W) (hb : Below W.heap.size W W') : XT w xv W' := ⟨h.1.next hb, bnext' h.2 hb⟩
set_option maxRecDepth 100000 in
set_option maxHeartbeats 4000000 in
theorem chunkTakes_main (x : Tv) (A : Option Addr) (n cp : Nat) (w : World) (hx : x.ok) (hl : x.v.length = n) (hle : n ≤ cp) (hcm : cp ≤ maxLen) (hr : Row w A (bs x.v)) (hz : A = none → n = 0 ∧ cp = 0) :
    Calls Try.prog 3 #[.agg #[.int .u16 (x.k : Int), .int .u8 (x.f : Int), .slice A n cp]] w fun e w' => e = .returned (.bool true) ∧ Below w.heap.size w w' := by
  have HX : Hid (XT w #[.int .u16 (x.k : Int), .int .u8 (x.f : Int), .slice A n cp] _) := Lib.hid (XT.new w #[.int .u16 (x.k : Int), .int .u8 (x.f : Int), .slice A n cp])
  have HK := Lib.hid known_any
  have C1 := Lib.hid fun (h5 : n ≤ 5000) W (hW : XT w #[.int .u16 (x.k : Int), .int .u8 (x.f : Int), .slice A n cp] W) => (ckTake_all x A n cp W hx hl (by omega) hle hcm (hr.below hW.2)).mono fun _ _ h => h.one
  have C2 := Lib.hid fun (h5 : n ≤ 5000) W (hW : XT w #[.int .u16 (x.k : Int), .int .u8 (x.f : Int), .slice A n cp] W) => (rTake_all x A n cp W hx hl (by omega) hle hcm (hr.below hW.2) hz).mono fun _ _ h => h.one
  generalize (take x).getD zero = c at C1 C2
  generalize terr (take x) = er at C1 C2
  generalize x.k = k at *
  generalize x.f = f at *
  clear hx hl hr hz hle hcm
  go_enter Try.func3, Try.ntmps3
  go_upto_region 1 with fail
  generalize World.alloc w _ = W1 at HX ⊢
  go_wp2_with fail
  refine (HK.out _).mono ?_
  rintro e W2 ⟨rfl, hb2⟩
  have HX2 := Lib.hid (HX.out.next hb2)
  clear hb2 HX
  have p0 := HX2.out.1.cell 0
  have p1 := HX2.out.1.cell 1
  have p2 := HX2.out.1.cell 2
  simp at p0 p1 p2
  by_cases h5 : 5000 < n
  · have d5 : decide ((5000 : Int) < (n : Int)) = true := by simp; omega
    clear h5
    go_wp2_with fail
    go_ret
    exact ⟨rfl, HX2.out.2⟩
  · have d5 : decide ((5000 : Int) < (n : Int)) = false := by simp; omega
    have C1 := Lib.hid (C1.out (by omega))
    have C2 := Lib.hid (C2.out (by omega))
    clear h5
    go_wp2_with fail
    clear d5
    (with_reducible refine (C1.out _ HX2.out).mono ?_)
    rintro e W3 ⟨s, rfl, hc3, hb3⟩
    have hst := store_new c s W3
    go_upto_region 6 with fail
    clear hst p0 p1 p2
    have hb4 : Below W3.heap.size W3 (W3.alloc (.cells (cv c s) 32)) := (Below.refl _ _).alloc (Nat.le_refl _) _
    have HX4 := Lib.hid ((HX2.out.next hb3).next hb4)
    have HC4 := Lib.hid (hc3.next hb4)
    have HB4 : Hid (Bk (W3.alloc (.cells (cv c s) 32)) W3.heap.size (cv c s) 32) := Lib.hid (Bk.new _ _ _)
    clear hb4 hb3 hc3 HX2
    generalize hW4 : W3.alloc (.cells (cv c s) 32) = W4 at HX4 HC4 HB4 ⊢
    clear hW4
    generalize W3.heap.size = g4 at HB4 ⊢
    have p0 := HX4.out.1.cell 0
    have p1 := HX4.out.1.cell 1
    have p2 := HX4.out.1.cell 2
    simp at p0 p1 p2
    go_wp2_with fail
    (with_reducible refine (C2.out _ HX4.out).mono ?_)
    rintro e W5 ⟨s', rfl, hc5, hb5⟩
    have hst := store_new c s' W5
    go_upto_region 7 with fail
    clear hst p0 p1 p2
    have hb6 : Below W5.heap.size W5 (W5.alloc (.cells (cv c s') 32)) := (Below.refl _ _).alloc (Nat.le_refl _) _
    have HX6 := Lib.hid ((HX4.out.next hb5).next hb6)
    have HC6 := Lib.hid ((HC4.out.next hb5).next hb6)
    have HB6 := Lib.hid ((HB4.out.next hb5).next hb6)
    have HD6 := Lib.hid (hc5.next hb6)
    have HE6 : Hid (Bk (W5.alloc (.cells (cv c s') 32)) W5.heap.size (cv c s') 32) := Lib.hid (Bk.new _ _ _)
    clear hb6 hb5 hc5 HX4 HC4 HB4
    generalize hW6 : W5.alloc (.cells (cv c s') 32) = W6 at HX6 HC6 HB6 HD6 HE6 ⊢
    clear hW6
    generalize W5.heap.size = g6 at HE6 ⊢
    have HS := Lib.hid (ckSame_any c s s' W6 HC6.out HD6.out)
    have HSI := Lib.hid (cv_info c s)
    have HSJ := Lib.hid (cv_info c s')
    clear C1 C2 HC6 HD6
    go_wp2_with (first
      | (refine wpList_load_row rfl 32 (.tmp 3) rfl g4 rfl 32 (cv c s) (0, 0) _ HB6.out Try.underlying32 rfl HSI.out ?_)
      | (refine wpList_load_row rfl 32 (.tmp 5) rfl g6 rfl 32 (cv c s') (0, 0) _ HE6.out Try.underlying32 rfl HSJ.out ?_))
    (with_reducible refine HS.out.mono ?_)
    rintro e W7 ⟨rfl, hb7⟩
    have HX7 := Lib.hid (HX6.out.next hb7)
    clear hb7
    go_wp2_with fail
    go_ret
    exact ⟨rfl, HX7.out.2⟩
theorem chunkTakes_walk (x0 x1 : Int) (A : Option Addr) (n c : Nat) (z : List Int) (w : World) (h0 : (Lit.int .u16 x0).wf = true) (h1 : (Lit.int .u8 x1).wf = true) (hz : IsRow .u8 w A n c z) :
    Calls Try.prog 3 #[.agg #[.int .u16 x0, .int .u8 x1, .slice A n c]] w fun e w' => e = .returned (.bool true) ∧ Below w.heap.size w w' := by
  have b0 := wf_u16 h0
  have b1 := wf_u8 h1
  obtain ⟨k, rfl⟩ := Int.eq_ofNat_of_zero_le b0.1
  obtain ⟨f, rfl⟩ := Int.eq_ofNat_of_zero_le b1.1
  have hnone : A = none → n = 0 ∧ c = 0 := by
    rcases hz with ⟨_, h2, h3, _⟩ | ⟨x, hx, _⟩
    · exact fun _ => ⟨h2, h3⟩
    · intro h; rw [h] at hx; cases hx
  obtain ⟨l, hl, hlc, hcm, hb, hr⟩ := hz.bytes
  exact chunkTakes_main ⟨k, f, l⟩ A n c w ⟨by show k < 65536; omega, by show f < 256; omega, hb⟩ hl hlc hcm hr hnone
end Go.Proofs.Ytbliipjiilmbcaa
