/-
  What the document's Take does.
-/
import Derived.Test.YtbliipjiilmbcaaYChunkRTk0
import Derived.Test.YtbliipjiilmbcaaYChunkRTk1
import Derived.Test.YtbliipjiilmbcaaYChunkRTk2
import Derived.Test.YtbliipjiilmbcaaYChunkRTk3
import Derived.Test.YtbliipjiilmbcaaYChunkRTk6
import Derived.Test.YtbliipjiilmbcaaYChunkRTk9
import Derived.Test.YtbliipjiilmbcaaYChunkRTk7
import Derived.Test.YtbliipjiilmbcaaYChunkRTk8
import Derived.Test.YtbliipjiilmbcaaYChunkRTk11
import Derived.Test.YtbliipjiilmbcaaYChunkRTk14
import Derived.Test.YtbliipjiilmbcaaYChunkRTkD
import Derived.Test.YtbliipjiilmbcaaYP1f
import Derived.Test.YtbliipjiilmbcaaYP1a
import Derived.Deep.WholeRow
namespace Go.Proofs.Ytbliipjiilmbcaa
open Go.RowKit Wire Tlv Chunk Go.Shelf

set_option maxRecDepth 100000 in
set_option maxHeartbeats 1000000 in
theorem rTake_no (x : Tv) (A : Option Addr) (n cp : Nat) (w : World) (hk : 255 < x.k) :
    Calls Try.prog 13 #[.agg #[.int .u16 (x.k : Int), .int .u8 (x.f : Int), .slice A n cp]] w (TakeOut w (take x)) := by
  have ht : take x = none := by unfold take; rw [if_pos hk]
  rw [ht]
  have HT : Hid (T2 w #[.int .u16 (x.k : Int), .int .u8 (x.f : Int), .slice A n cp] zlit _) := Lib.hid (T2.new w _ zlit)
  have d : decide ((255 : Int) < (x.k : Int)) = true := by simp; omega
  have HI := Lib.hid zlit_info
  have HO := Lib.hid zlit_one
  generalize x.k = k at *
  generalize x.f = f at *
  clear hk ht
  go_enter Try.func13, Try.ntmps13
  go_upto_region 1 with fail
  generalize World.alloc (World.alloc w _) _ = W1 at HT ⊢
  have g0 := HT.out.1.cell 0
  simp at g0
  go_wp2_with ((refine wpList_store_row rfl 32 (.tmp 2) (.tmp 13) rfl (w.heap.size + 1) zlit rfl rfl 32 zlit HT.out.2.1 HI.out rfl HO.out ?_))
  have hT2 := HT.out.row zlit
  generalize W1.setRow _ _ = W2 at hT2 ⊢
  have hz : Bk W2 (w.heap.size + 1) (cv zero nol) 32 := hT2.2.1
  refine bodyPost_ret (v := .tuple #[.agg (cv zero nol), .int .i64 50]) (by simp [results, Try.results13, go_sem, hz.c0, hz.c1, hz.c2, hz.c3, hz.c4, hz.c5, hz.c6, hz.c7, hz.c8, hz.c9, hz.c10, hz.c11, hz.c12, hz.c13, hz.c14, cv]) rfl ⟨rfl, hT2.2.2⟩
theorem rTake_all (x : Tv) (A : Option Addr) (n cp : Nat) (w : World) (hx : x.ok) (hl : x.v.length = n) (hn : n ≤ 65531) (hle : n ≤ cp) (hcm : cp ≤ maxLen) (hr : Row w A (bs x.v)) (hz : A = none → n = 0 ∧ cp = 0) :
    Calls Try.prog 13 #[.agg #[.int .u16 (x.k : Int), .int .u8 (x.f : Int), .slice A n cp]] w (TakeOut w (take x)) := by
  obtain ⟨k, f, v⟩ := x
  by_cases h255 : 255 < k
  · exact rTake_no ⟨k, f, v⟩ A n cp w h255
  by_cases h0 : k = 0
  · exact rTake0 k f v A n cp w hx h0 hl hn hle hcm hr
  by_cases h1 : k = 1
  · exact rTake1 k f v A n cp w hx h1 hl hn hle hcm hr
  by_cases h2 : k = 2
  · exact rTake2 k f v A n cp w hx h2 hl hn hle hcm hr
  by_cases h3 : k = 3
  · exact rTake3 k f v A n cp w hx h3 hl hn hle hcm hr
  by_cases h6 : k = 6
  · exact rTake6 k f v A n cp w hx h6 hl hn hle hcm hr
  by_cases h9 : k = 9
  · exact rTake9 k f v A n cp w hx h9 hl hn hle hcm hr
  by_cases h7 : k = 7
  · exact rTake7 k f v A n cp w hx h7 hl hn hle hcm hr
  by_cases h8 : k = 8
  · exact rTake8 k f v A n cp w hx h8 hl hn hle hcm hr
  by_cases h11 : k = 11
  · exact rTake11 k f v A n cp w hx h11 hl hn hle hcm hr
  by_cases h14 : k = 14
  · exact rTake14 k f v A n cp w hx h14 hl hn hle hcm hr
  exact rTakeD k f v A n cp w hx ⟨by omega, by omega⟩ hl hn hle hcm hr hz
end Go.Proofs.Ytbliipjiilmbcaa
/-
  What the document's Take of a packet does.
-/
namespace Go.Proofs.Ytbliipjiilmbcaa
open Go.RowKit Wire Tlv Chunk Pkt

/-- What taking a packet leaves. -/
def PkOut (w : World) (p : Pk) (e : Ending) (w' : World) : Prop := ∃ A n c ks, e = .returned (.tuple #[.agg (pkl p.f p.t p.g A n c), .int .i64 p.err]) ∧ ks.map (·.1) = p.ks ∧ ks.length = n ∧ Rk w' A ks ∧ n ≤ 100000 ∧ Below w.heap.size w w'
theorem pk_none (w w' : World) (e : Int) (hb : Below w.heap.size w w') : PkOut w ⟨0, 0, 0, [], e⟩ (.returned (.tuple #[.agg (pkl 0 0 0 none 0 0), .int .i64 e])) w' :=
  ⟨none, 0, 0, [], rfl, rfl, rfl, ⟨fun i v h => by simp [kcs] at h, fun k h => by simp at h⟩, by omega, hb⟩
theorem pk_info (f t g : Nat) (A : Option Addr) (n c : Nat) : (Try.prog.info? 52).map (·.size) = some (pkl f t g A n c).size := by kernel_rfl
theorem pk_one (f t g : Nat) (A : Option Addr) (n c : Nat) : (pkl f t g A n c).all (·.oneCell') = true := by simp [Value.oneCell']
/-- The blocks of the call: the answer, the packet that grows, its chunks. -/
structure Tq (w : World) (f t g : Nat) (B gp : Nat) (A : Option Addr) (n c : Nat) (ks : List Cq) (W : World) : Prop where
  an : Bk W w.heap.size (pkl 0 0 0 none 0 0) 52
  pk : Bk W gp (pkl f t g A n c) 52
  ko : Ko B A n c ks W
  bl : Below w.heap.size w W
  ne : w.heap.size < gp
  gb : gp < B
  bw : B ≤ W.heap.size
theorem Tq.next {w W W' : World} {f t g B gp : Nat} {A : Option Addr} {n c : Nat} {ks : List Cq} (h : Tq w f t g B gp A n c ks W) (hb : Below W.heap.size W W') : Tq w f t g B gp A n c ks W' :=
  { h with an := h.an.next hb, pk := h.pk.next hb, ko := h.ko.next hb, bl := bnext' h.bl hb, bw := Nat.le_trans h.bw hb.size }
/-- One more chunk. -/
theorem Tq.snoc {w W W' : World} {f t g B gp : Nat} {A A' : Option Addr} {n c c' : Nat} {ks : List Cq} {q : Cq} (h : Tq w f t g B gp A n c ks W) (hq : ChF B W q.1 q.2) (ho : W'.ownsRow B 32 15 (.slice A' (n + 1) c') (n + 1) (kcs ks ++ (cv q.1 q.2).toList)) (hg : W.grownBy W' (Value.slice A n c).ownBlock) :
    Tq w f t g B gp A' (n + 1) c' (ks ++ [q]) (W'.setCell ⟨gp, 3, none⟩ (.slice A' (n + 1) c')) := by
  have hlt : ∀ j, (Value.slice A n c).ownBlock = some j → B ≤ j := fun j e => (h.ko.1.lt j e).1
  have h1 := (hg.block _ h.an.lt (fun e => by have := hlt _ e.symm; have := h.ne; have := h.gb; omega)).trans h.an
  have h2 : Bk W' gp (pkl f t g A n c) 52 := (hg.block _ h.pk.lt (fun e => by have := hlt _ e.symm; have := h.gb; omega)).trans h.pk
  have h3 := h2.set 3 (.slice A' (n + 1) c')
  simp only [pkl, List.setIfInBounds_toArray, List.set_cons_succ, List.set_cons_zero] at h3
  have hne := h.ne
  have hbl : Below w.heap.size w W' := h.bl.grown hg h.bl.size (fun j e => by have := hlt j e; have := h.gb; omega)
  refine { an := Bk.other h1 (by omega) 3 _, pk := h3, ko := (h.ko.snoc hq ho hg).set h2 nty_packet (by decide), bl := below_ot hbl ((Ot.refl W' gp).set 3 _) hbl.size (by omega), ne := h.ne, gb := h.gb, bw := by simpa using Nat.le_trans h.bw hg.size }
theorem Tq.row {w W : World} {f t g B gp : Nat} {A : Option Addr} {n c : Nat} {ks : List Cq} (h : Tq w f t g B gp A n c ks W) (z : Array Value) : Bk (W.setRow w.heap.size z) w.heap.size z 52 ∧ Below w.heap.size w (W.setRow w.heap.size z) ∧ Rk (W.setRow w.heap.size z) A ks := by
  have hne := h.ne
  have hgb := h.gb
  refine ⟨h.an.row_ z, below_setRow h.bl (Nat.le_refl _) z, ?_, fun k hk => ((h.ko.2 k hk).keep (Keeps.rowTy h.an nty_packet)).ch⟩
  exact row_of_owns (owns_same h.ko.1 fun j hj _ => setRow_other _ _ _ _ (by omega))
end Go.Proofs.Ytbliipjiilmbcaa
/-
  What the statements' 'of' of layer 6 does: a packet of chunks of kinds.
-/
namespace Go.Proofs.Ytbliipjiilmbcaa
open Go.RowKit Wire Tlv Chunk Pkt

theorem kinds_snoc {l : List Int} {k u : Nat} (hk : k < l.length) (hu : l.getD k 0 = (u : Int)) {ks : List Cq} (h : ks.map (·.1) = (l.take k).map fun x => kOf x.toNat) : (ks ++ [(kOf u, nol)]).map (·.1) = (l.take (k + 1)).map fun x => kOf x.toNat := by
  have e : l[k] = (u : Int) := by simpa [List.getD_eq_getElem?_getD, List.getElem?_eq_getElem hk] using hu
  rw [List.map_append, h, List.take_succ_eq_append_getElem hk, List.map_append]
  simp [e]
set_option maxRecDepth 100000 in
set_option maxHeartbeats 8000000 in
theorem pkof_any (g : Nat) (A0 : Option Addr) (n0 c0 : Nat) (l : List Int) (w : World) (hl : l.length = n0) (hn : n0 ≤ 100) (hb : Byt l) (hr : Row w A0 (bs l)) :
    Calls Try.prog 48 #[.int .u32 (g : Int), .slice A0 n0 c0] w fun e w' => ∃ A n c ks, e = .returned (.agg (pkl 1 2 g A n c)) ∧ ks.map (·.1) = l.map (fun x => kOf x.toNat) ∧ ks.length = n ∧ Rk w' A ks ∧ n ≤ 100 ∧ Below w.heap.size w w' := by
  have HZ : Hid (Bk (w.alloc (.cells (pkl 0 0 0 none 0 0) 52)) w.heap.size (pkl 0 0 0 none 0 0) 52 ∧ Below w.heap.size w (w.alloc (.cells (pkl 0 0 0 none 0 0) 52))) := Lib.hid ⟨Bk.new _ _ _, (Below.refl _ _).alloc (Nat.le_refl _) _⟩
  have HR := Lib.hid hr
  have HL := Lib.hid hl
  have HB := Lib.hid hb
  clear hr hl hb
  go_enter Try.func48, Try.ntmps48
  go_upto_region 1 with fail
  generalize hW1 : World.alloc w _ = W1 at HZ ⊢
  have HS1 : Hid (W1.heap.size = w.heap.size + 1) := Lib.hid (by rw [← hW1]; simp)
  clear hW1
  go_upto_region 2 with fail
  have hal : Below W1.heap.size W1 (W1.alloc (.cells (pkl 1 2 g none 0 0) 52)) := (Below.refl _ _).alloc (Nat.le_refl _) _
  have HX : Hid (Tq w 1 2 g (W1.heap.size + 1) W1.heap.size none 0 0 [] (W1.alloc (.cells (pkl 1 2 g none 0 0) 52))) := Lib.hid { an := HZ.out.1.next hal, pk := Bk.new _ _ _, ko := Ko.nil _ _, bl := bnext' HZ.out.2 hal, ne := by have := HS1.out; omega, gb := by omega, bw := by simp }
  clear hal HZ
  generalize hW4 : W1.alloc (.cells (pkl 1 2 g none 0 0) 52) = W4 at HX ⊢
  clear hW4
  obtain ⟨B, hB⟩ : ∃ B, B = W1.heap.size + 1 := ⟨_, rfl⟩
  rw [← hB] at HX
  clear hB HS1
  generalize W1.heap.size = gp at HX ⊢
  have HCI : Hid (∀ c : Ck, ∀ s : Ls, (Try.prog.info? 32).map (·.size) = some (cv c s).size) := Lib.hid cv_info
  obtain ⟨iC, hi0, hz0, hz1, hz2⟩ := info_parts Try_infoChunk
  have HI0 := Lib.hid hi0
  have HI1 := Lib.hid hz0
  have HI2 := Lib.hid hz1
  have HI3 := Lib.hid hz2
  have HK0 : Hid (([] : List Cq).map (·.1) = (l.take 0).map fun x => kOf x.toNat) := Lib.hid rfl
  clear hi0 hz0 hz1 hz2
  go_wp2_with fail
  go_loopw [7, 13] (fun _ i wr => ∃ (k : Nat) (A : Option Addr) (c2 : Nat) (ks : List Cq), k ≤ n0 ∧ i = .int .i64 (k : Int) ∧ Hid (ks.map (·.1) = (l.take k).map fun x => kOf x.toNat) ∧ Hid (Tq w 1 2 g B gp A k c2 ks wr)) (fun _ i _ => n0 - (intOf i).toNat)
  case atStart => exact ⟨0, none, 0, [], by omega, rfl, HK0, HX⟩
  case round =>
    clear HK0 HX
    obtain ⟨k, A, c2, ks, hk, rfl, HK, HX⟩ := hrel
    by_cases hlt : k < n0
    · have hkl : k < l.length := by rw [HL.out]; exact hlt
      obtain ⟨u, hu, hu2⟩ := Byt.at HB.out hkl
      obtain ⟨a, rfl, hc⟩ := Row.byte (HR.out.below HX.out.bl) hkl
      rw [hu] at hc
      have HKN := Lib.hid (kinds_snoc hkl hu HK.out)
      have HOKU := Lib.hid (kOf_ok hu2)
      clear hu
      have k3 := (mem_cell HX.out.pk).2
      have hcv : cv (kOf u) nol = #[.int .u8 (u : Int), .int .u8 0, .int .u32 0, .int .u32 0, .int .u32 0, .int .u16 0, .int .u16 0, .int .u16 0, .int .u16 0, .int .u32 0, .slice none 0 0, .slice none 0 0, .slice none 0 0, .slice none 0 0, .slice none 0 0] := rfl
      have hal : Below wr.heap.size wr (wr.alloc (.cells #[.int .u8 (u : Int), .int .u8 0, .int .u32 0, .int .u32 0, .int .u32 0, .int .u16 0, .int .u16 0, .int .u16 0, .int .u16 0, .int .u32 0, .slice none 0 0, .slice none 0 0, .slice none 0 0, .slice none 0 0, .slice none 0 0] 32)) := (Below.refl _ _).alloc (Nat.le_refl _) _
      have HX8 := Lib.hid (HX.out.next hal)
      have HCF8 : Hid (ChF B (wr.alloc (.cells #[.int .u8 (u : Int), .int .u8 0, .int .u32 0, .int .u32 0, .int .u32 0, .int .u16 0, .int .u16 0, .int .u16 0, .int .u16 0, .int .u32 0, .slice none 0 0, .slice none 0 0, .slice none 0 0, .slice none 0 0, .slice none 0 0] 32)) (kOf u) nol) := Lib.hid (ch_none B HOKU.out rfl rfl rfl rfl rfl)
      have hnew : Row (wr.alloc (.cells #[.int .u8 (u : Int), .int .u8 0, .int .u32 0, .int .u32 0, .int .u32 0, .int .u16 0, .int .u16 0, .int .u16 0, .int .u16 0, .int .u32 0, .slice none 0 0, .slice none 0 0, .slice none 0 0, .slice none 0 0, .slice none 0 0] 32)) (some ⟨wr.heap.size, 0, none⟩) (cv (kOf u) nol).toList := by rw [hcv]; exact (Bk.new wr #[.int .u8 (u : Int), .int .u8 0, .int .u32 0, .int .u32 0, .int .u32 0, .int .u16 0, .int .u16 0, .int .u16 0, .int .u16 0, .int .u32 0, .slice none 0 0, .slice none 0 0, .slice none 0 0, .slice none 0 0, .slice none 0 0] 32).row
      have HNEW := Lib.hid (bcells hnew)
      have HHY : Hid (∀ v ∈ (cv (kOf u) nol).toList, v.oneCell' = true) := Lib.hid (cv_cell _ _)
      clear hal hnew hcv
      go_upto_region 5 with fail
      go_wp2_with (at_builtin; refine wpList_append_lies _ rfl (.tmp 18) (.tmp 21) 50 rfl B 32 iC _ 15 152 Try.underlying50 HI0.out HI1.out HI2.out HI3.out rfl (by decide) _ k _ rfl HX8.out.ko.1 ⟨wr.heap.size, 0, none⟩ 1 1 (cv (kOf u) nol).toList rfl rfl HNEW.out HHY.out (by omega) (by unfold maxLen; omega) (by omega) HX8.out.bw _ rfl ?_; intro g14 cap14 w10 hown10 hgrow10 _ _; have HN := Lib.hid (HX8.out.snoc (q := (kOf u, nol)) HCF8.out hown10 hgrow10); have hpk10 : Bk w10 gp (pkl 1 2 g A k c2) 52 := (hgrow10.block _ HX8.out.pk.lt (fun e => by have := (HX8.out.ko.1.lt _ e.symm).1; have := HX8.out.gb; omega)).trans HX8.out.pk; have k3' := (mem_cell hpk10).2; have f3 := hpk10.frozen 3; clear hown10 hgrow10 hpk10 HX8 HCF8 HX HNEW HHY)
      go_roundw
      case rel => exact ⟨k + 1, _, cap14, ks ++ [(kOf u, nol)], by omega, by go_num, HKN, HN⟩
      case measure => simp [intOf]; omega
    · have hk0 : k = n0 := by omega
      subst hk0
      have hkk : ks.map (·.1) = l.map fun x => kOf x.toNat := by rw [HK.out, List.take_of_length_le (by rw [HL.out]; exact Nat.le_refl _)]
      have hlk := HX.out.ko.len
      go_wp2_with (first
        | (refine wpList_load_row rfl 52 (.tmp 5) rfl gp rfl 52 (pkl 1 2 g A k c2) (0, 0) _ HX.out.pk Try.underlying52 rfl (pk_info _ _ _ _ _ _) ?_)
        | (refine wpList_store_row rfl 52 (.tmp 4) (.tmp 25) rfl w.heap.size (pkl 1 2 g A k c2) rfl rfl 52 (pkl 0 0 0 none 0 0) HX.out.an (pk_info _ _ _ _ _ _) rfl (pk_one _ _ _ _ _ _) ?_))
      obtain ⟨hz, hbl9, hrk9⟩ := HX.out.row (pkl 1 2 g A k c2)
      generalize World.setRow _ _ _ = W9 at hz hbl9 hrk9 ⊢
      have hz2 : W9.cell? ⟨w.heap.size, 2, none⟩ = _ := (mem_cell hz).1
      have hz3 : W9.cell? ⟨w.heap.size, 3, none⟩ = _ := (mem_cell hz).2
      have hz0 : W9.cell? ⟨w.heap.size, 0, none⟩ = _ := (mem_head hz).1
      have hz1 : W9.cell? ⟨w.heap.size, 1, none⟩ = _ := (mem_head hz).2
      refine bodyPost_ret (v := .agg (pkl 1 2 g A k c2)) (by simp [results, Try.results48, go_sem, hz0, hz1, hz2, hz3]) rfl (by exact ⟨A, k, c2, ks, rfl, hkk, hlk, hrk9, hn, hbl9⟩)
end Go.Proofs.Ytbliipjiilmbcaa
/-
  What pkt.Take does.
-/
namespace Go.Proofs.Ytbliipjiilmbcaa
open Go.RowKit Wire Tlv Chunk Pkt

theorem tk_small {l : List Int} (h : (Head.tk l).err = 0) : (Head.tk l).body.length ≤ 1488 := by
  unfold Head.tk at *
  split at h
  · cases h
  split at h
  · cases h
  split at h
  · cases h
  split at h
  · cases h
  · rename_i h1 h2 h3 h4
    rw [if_neg h1, if_neg h2, if_neg h3, if_neg h4]
    simp
    omega
set_option maxRecDepth 100000 in
set_option maxHeartbeats 8000000 in
theorem pTake_any (A0 : Option Addr) (n0 c0 : Nat) (l : List Int) (w : World) (hl : l.length = n0) (hn : n0 ≤ 100000) (hnc : n0 ≤ c0) (hcm : c0 ≤ maxLen) (hb : Byt l) (hr : Row w A0 (bs l)) :
    Calls Try.prog 26 #[.slice A0 n0 c0] w (PkOut w (ptk l)) := by
  have HZ : Hid (Bk (w.alloc (.cells (pkl 0 0 0 none 0 0) 52)) w.heap.size (pkl 0 0 0 none 0 0) 52 ∧ Below w.heap.size w (w.alloc (.cells (pkl 0 0 0 none 0 0) 52))) := Lib.hid ⟨Bk.new _ _ _, (Below.refl _ _).alloc (Nat.le_refl _) _⟩
  have CT := Lib.hid fun W (hW : Below w.heap.size w W) => htake_any A0 n0 c0 l W hl hn hnc hcm hb (hr.below hW)
  have hlt := Head.tk_lt hb
  have HSM0 := Lib.hid fun h => tk_small (l := l) h
  have hspec : ptk l = if (Head.tk l).err ≠ 0 then ⟨0, 0, 0, [], (Head.tk l).err⟩ else if (pc (ev true (Head.tk l).body)).2 ≠ 0 then ⟨0, 0, 0, [], (pc (ev true (Head.tk l).body)).2⟩ else if mayP (Head.tk l).g (pc (ev true (Head.tk l).body)).1 = true then ⟨(Head.tk l).f, (Head.tk l).t, (Head.tk l).g, (pc (ev true (Head.tk l).body)).1, 0⟩ else ⟨0, 0, 0, [], 60⟩ := rfl
  have HSM1 := HSM0.out
  generalize htk : Head.tk l = tk0 at hlt hspec CT HSM1
  obtain ⟨f, t, g, body, err⟩ := tk0
  have HSM : Hid (err = 0 → body.length ≤ 1488) := Lib.hid HSM1
  clear HSM0 HSM1
  simp only at hlt hspec
  have HSPEC0 := Lib.hid hspec
  have HLT := Lib.hid (show f < 65536 ∧ t < 65536 ∧ g < 4294967296 ∧ Byt body ∧ body.length ≤ 100000 from ⟨hlt.1, hlt.2.1, hlt.2.2.1, hlt.2.2.2.1, by omega⟩)
  clear hl hnc hcm hb hr hlt hspec htk hn
  go_enter Try.func26, Try.ntmps26
  go_upto_region 1 with fail
  generalize World.alloc w _ = W1 at HZ ⊢
  go_wp2_with fail
  have hbw := HZ.out.2
  (with_reducible refine (CT.out _ hbw).mono ?_)
  clear hbw
  rintro e W2 ⟨Ab, nb, cb, rfl, hob⟩
  simp only at hob
  have HZ2 : Hid (Bk W2 w.heap.size (pkl 0 0 0 none 0 0) 52 ∧ Below w.heap.size w W2) := Lib.hid ⟨HZ.out.1.next hob.2, bnext' HZ.out.2 hob.2⟩
  have HOB := Lib.hid hob
  clear hob HZ CT
  go_upto_region 2 with fail
  have hal : Below W2.heap.size W2 (W2.alloc (.cells #[.int .u16 (f : Int), .int .u16 (t : Int), .int .u32 (g : Int)] 49)) := (Below.refl _ _).alloc (Nat.le_refl _) _
  have HZ3 : Hid (Bk (W2.alloc (.cells #[.int .u16 (f : Int), .int .u16 (t : Int), .int .u32 (g : Int)] 49)) w.heap.size (pkl 0 0 0 none 0 0) 52 ∧ Below w.heap.size w (W2.alloc (.cells #[.int .u16 (f : Int), .int .u16 (t : Int), .int .u32 (g : Int)] 49))) := Lib.hid ⟨HZ2.out.1.next hal, bnext' HZ2.out.2 hal⟩
  have HOB3 := Lib.hid (HOB.out.next hal)
  have HH3 : Hid (Bk (W2.alloc (.cells #[.int .u16 (f : Int), .int .u16 (t : Int), .int .u32 (g : Int)] 49)) W2.heap.size #[.int .u16 (f : Int), .int .u16 (t : Int), .int .u32 (g : Int)] 49) := Lib.hid (Bk.new _ _ _)
  clear hal HZ2 HOB
  generalize hW3 : W2.alloc (.cells #[.int .u16 (f : Int), .int .u16 (t : Int), .int .u32 (g : Int)] 49) = W3 at HZ3 HOB3 HH3 ⊢
  clear hW3
  generalize W2.heap.size = g4 at HH3 ⊢
  have HLO : Hid (w.heap.size < W3.heap.size) := Lib.hid HZ3.out.1.lt
  by_cases he : err = 0
  case neg =>
    have d1 : (err != 0) = true := by simpa using he
    have HE : Hid (ptk l = ⟨0, 0, 0, [], err⟩) := Lib.hid (by rw [HSPEC0.out, if_pos he])
    clear he
    go_wp2_with (refine wpList_store_row rfl 52 (.tmp 2) (.tmp 17) rfl w.heap.size (pkl 0 0 0 none 0 0) rfl rfl 52 (pkl 0 0 0 none 0 0) HZ3.out.1 (pk_info _ _ _ _ _ _) rfl (pk_one _ _ _ _ _ _) ?_)
    have hz := HZ3.out.1.row_ (pkl 0 0 0 none 0 0)
    have hbl9 := below_setRow HZ3.out.2 (Nat.le_refl _) (pkl 0 0 0 none 0 0)
    generalize World.setRow _ _ _ = W9 at hz hbl9 ⊢
    have hz2 : W9.cell? ⟨w.heap.size, 2, none⟩ = _ := (mem_cell hz).1
    have hz3 : W9.cell? ⟨w.heap.size, 3, none⟩ = _ := (mem_cell hz).2
    have hz0 : W9.cell? ⟨w.heap.size, 0, none⟩ = _ := (mem_head hz).1
    have hz1 : W9.cell? ⟨w.heap.size, 1, none⟩ = _ := (mem_head hz).2
    refine bodyPost_ret (v := .tuple #[.agg (pkl 0 0 0 none 0 0), .int .i64 err]) (by simp [results, Try.results26, go_sem, hz0, hz1, hz2, hz3]) rfl (by rw [HE.out]; exact pk_none w W9 _ hbl9)
  subst he
  have HSPEC : Hid (ptk l = if (pc (ev true body)).2 ≠ 0 then ⟨0, 0, 0, [], (pc (ev true body)).2⟩ else if mayP g (pc (ev true body)).1 = true then ⟨f, t, g, (pc (ev true body)).1, 0⟩ else ⟨0, 0, 0, [], 60⟩) := Lib.hid (by rw [HSPEC0.out, if_neg (by simp)])
  have h0 := HH3.out.cell 0
  have h1 := HH3.out.cell 1
  have h2 := HH3.out.cell 2
  simp at h0 h1 h2
  have hbs := HSM.out rfl
  have hbl : body.length = nb := HOB3.out.len
  have CC := Lib.hid (chunks_any Ab nb cb body W3 hbl (by omega) HLT.out.2.2.2.1 HOB3.out.row)
  generalize pc (ev true body) = r at CC HSPEC
  obtain ⟨rl, re⟩ := r
  clear HSPEC0 hbs hbl
  go_wp2_with fail
  clear h0 h1 h2
  (with_reducible refine CC.out.mono ?_)
  rintro e W5 ⟨A, n2, c2, ks, rfl, hks, hko, hn2, hb5⟩
  have HZ5 : Hid (Bk W5 w.heap.size (pkl 0 0 0 none 0 0) 52 ∧ Below w.heap.size w W5) := Lib.hid ⟨HZ3.out.1.next hb5, bnext' HZ3.out.2 hb5⟩
  have HH5 := Lib.hid (HH3.out.next hb5)
  have HKO := Lib.hid hko
  have HKS := Lib.hid hks
  clear hb5 hko hks HZ3 HH3 HOB3 CC
  by_cases hre : re = 0
  case neg =>
    have d2 : (re != 0) = true := by simpa using hre
    have HE : Hid (ptk l = ⟨0, 0, 0, [], re⟩) := Lib.hid (by rw [HSPEC.out, if_pos (by simpa using hre)])
    clear hre
    go_wp2_with (refine wpList_store_row rfl 52 (.tmp 2) (.tmp 26) rfl w.heap.size (pkl 0 0 0 none 0 0) rfl rfl 52 (pkl 0 0 0 none 0 0) HZ5.out.1 (pk_info _ _ _ _ _ _) rfl (pk_one _ _ _ _ _ _) ?_)
    have hz := HZ5.out.1.row_ (pkl 0 0 0 none 0 0)
    have hbl9 := below_setRow HZ5.out.2 (Nat.le_refl _) (pkl 0 0 0 none 0 0)
    generalize World.setRow _ _ _ = W9 at hz hbl9 ⊢
    have hz2 : W9.cell? ⟨w.heap.size, 2, none⟩ = _ := (mem_cell hz).1
    have hz3 : W9.cell? ⟨w.heap.size, 3, none⟩ = _ := (mem_cell hz).2
    have hz0 : W9.cell? ⟨w.heap.size, 0, none⟩ = _ := (mem_head hz).1
    have hz1 : W9.cell? ⟨w.heap.size, 1, none⟩ = _ := (mem_head hz).2
    refine bodyPost_ret (v := .tuple #[.agg (pkl 0 0 0 none 0 0), .int .i64 re]) (by simp [results, Try.results26, go_sem, hz0, hz1, hz2, hz3]) rfl (by rw [HE.out]; exact pk_none w W9 _ hbl9)
  subst hre
  have HSP : Hid (ptk l = if mayP g (ks.map (·.1)) = true then ⟨f, t, g, ks.map (·.1), 0⟩ else ⟨0, 0, 0, [], 60⟩) := Lib.hid (by rw [HSPEC.out, if_neg (by simp), HKS.out])
  have h0 := HH5.out.cell 0
  have h1 := HH5.out.cell 1
  have h2 := HH5.out.cell 2
  simp at h0 h1 h2
  go_upto_region 8 with fail
  clear h0 h1 h2
  have hal : Below W5.heap.size W5 (W5.alloc (.cells (pkl f t g A n2 c2) 52)) := (Below.refl _ _).alloc (Nat.le_refl _) _
  have HX : Hid (Tq w f t g (W5.heap.size + 1) W5.heap.size none 0 0 [] (W5.alloc (.cells (pkl f t g A n2 c2) 52)) → True) := Lib.hid fun _ => trivial
  have HA6 := Lib.hid (HZ5.out.1.next hal)
  have HB6 := Lib.hid (bnext' HZ5.out.2 hal)
  have HK6 := Lib.hid (HKO.out.next hal)
  have HP6 : Hid (Bk (W5.alloc (.cells (pkl f t g A n2 c2) 52)) W5.heap.size (pkl f t g A n2 c2) 52) := Lib.hid (Bk.new _ _ _)
  have hne : w.heap.size < W5.heap.size := HZ5.out.1.lt
  have hlo : w.heap.size < W3.heap.size := HLO.out
  clear hal HZ5 HH5 HKO HX
  generalize hW6 : W5.alloc (.cells (pkl f t g A n2 c2) 52) = W6 at HA6 HB6 HK6 HP6 ⊢
  clear hW6
  generalize W5.heap.size = gp at HP6 hne ⊢
  have hlk := HK6.out.len
  have CM := Lib.hid (pktMay_any f t g ks A n2 c2 W6 HK6.out.rk hlk (by omega))
  go_wp2_with (refine wpList_load_row rfl 52 (.tmp 8) rfl gp rfl 52 (pkl f t g A n2 c2) (0, 0) _ HP6.out Try.underlying52 rfl (pk_info _ _ _ _ _ _) ?_)
  (with_reducible refine CM.out.mono ?_)
  rintro e W8 ⟨rfl, hb8⟩
  have HA8 := Lib.hid (HA6.out.next hb8)
  have HB8 := Lib.hid (bnext' HB6.out hb8)
  have HK8 := Lib.hid (HK6.out.next hb8)
  have HP8 := Lib.hid (HP6.out.next hb8)
  clear hb8 HA6 HB6 HK6 HP6 CM
  cases hmay : mayP g (ks.map (·.1)) with
  | false =>
    have HE : Hid (ptk l = ⟨0, 0, 0, [], 60⟩) := Lib.hid (by rw [HSP.out, hmay]; rfl)
    clear hmay
    go_wp2_with (refine wpList_store_row rfl 52 (.tmp 2) (.tmp 34) rfl w.heap.size (pkl 0 0 0 none 0 0) rfl rfl 52 (pkl 0 0 0 none 0 0) HA8.out (pk_info _ _ _ _ _ _) rfl (pk_one _ _ _ _ _ _) ?_)
    have hz := HA8.out.row_ (pkl 0 0 0 none 0 0)
    have hbl9 := below_setRow HB8.out (Nat.le_refl _) (pkl 0 0 0 none 0 0)
    generalize World.setRow _ _ _ = W9 at hz hbl9 ⊢
    have hz2 : W9.cell? ⟨w.heap.size, 2, none⟩ = _ := (mem_cell hz).1
    have hz3 : W9.cell? ⟨w.heap.size, 3, none⟩ = _ := (mem_cell hz).2
    have hz0 : W9.cell? ⟨w.heap.size, 0, none⟩ = _ := (mem_head hz).1
    have hz1 : W9.cell? ⟨w.heap.size, 1, none⟩ = _ := (mem_head hz).2
    refine bodyPost_ret (v := .tuple #[.agg (pkl 0 0 0 none 0 0), .int .i64 60]) (by simp [results, Try.results26, go_sem, hz0, hz1, hz2, hz3]) rfl (by rw [HE.out]; exact pk_none w W9 _ hbl9)
  | true =>
    have HE : Hid (ptk l = ⟨f, t, g, ks.map (·.1), 0⟩) := Lib.hid (by rw [HSP.out, hmay]; rfl)
    clear hmay
    go_wp2_with (first
      | (refine wpList_load_row rfl 52 (.tmp 8) rfl gp rfl 52 (pkl f t g A n2 c2) (0, 0) _ HP8.out Try.underlying52 rfl (pk_info _ _ _ _ _ _) ?_)
      | (refine wpList_store_row rfl 52 (.tmp 2) (.tmp 35) rfl w.heap.size (pkl f t g A n2 c2) rfl rfl 52 (pkl 0 0 0 none 0 0) HA8.out (pk_info _ _ _ _ _ _) rfl (pk_one _ _ _ _ _ _) ?_))
    have hz := HA8.out.row_ (pkl f t g A n2 c2)
    have hbl9 := below_setRow HB8.out (Nat.le_refl _) (pkl f t g A n2 c2)
    have hrk9 : Rk (W8.setRow w.heap.size (pkl f t g A n2 c2)) A ks := ⟨row_of_owns (owns_same HK8.out.1 fun j hj _ => setRow_other _ _ _ _ (by omega)), fun k hk => ((HK8.out.2 k hk).keep (Keeps.setRow _ hlo)).ch⟩
    generalize World.setRow W8 _ _ = W9 at hz hbl9 hrk9 ⊢
    have hz2 : W9.cell? ⟨w.heap.size, 2, none⟩ = _ := (mem_cell hz).1
    have hz3 : W9.cell? ⟨w.heap.size, 3, none⟩ = _ := (mem_cell hz).2
    have hz0 : W9.cell? ⟨w.heap.size, 0, none⟩ = _ := (mem_head hz).1
    have hz1 : W9.cell? ⟨w.heap.size, 1, none⟩ = _ := (mem_head hz).2
    refine bodyPost_ret (v := .tuple #[.agg (pkl f t g A n2 c2), .int .i64 0]) (by simp [results, Try.results26, go_sem, hz0, hz1, hz2, hz3]) rfl (by rw [HE.out]; exact ⟨A, n2, c2, ks, rfl, rfl, hlk, hrk9, hn2, hbl9⟩)
end Go.Proofs.Ytbliipjiilmbcaa
/-
  What layer 6's 'known' asks: the answers of the calls in it.
-/
namespace Go.Proofs.Ytbliipjiilmbcaa
open Go.RowKit Wire Tlv Chunk Pkt

theorem len_of {ks : List Cq} {l : List Ck} {n : Nat} (h : ks.map (·.1) = l) (hn : ks.length = n) : n = l.length := by rw [← hn, ← h]; simp
def kd1 : Ck := ⟨0, 0, 0, 0, 0, 0, 0, 0, 0, 0, [1], [], [], [], []⟩
theorem kd1_ok : kd1.ok := by
  constructor
  all_goals first
    | decide
    | (intro c hc; simp [kd1] at hc; done)
    | (intro c hc; simp [kd1] at hc; omega)
theorem kd1_may : may kd1 := by
  refine ⟨?_, rfl⟩
  constructor
  all_goals simp [kd1, flg, hTsn, hRw, hDa, hPc, hIn, hGp, hCa]
theorem kd1_len : (cput kd1).1.length = 20 := by
  rw [cput_ok kd1_may (by decide +kernel)]
  decide +kernel
def putE (s : Ls) (A : Option Addr) (n c : Nat) : Ls := { s with dA := A, dn := n, dc := c }
theorem ch_kd1 (W : World) : Ch (W.alloc (.cells #[.int .u8 1] 5)) kd1 (putE nol (some ⟨W.heap.size, 0, none⟩) 1 1) := by
  have h0 := (ch_none (W := W.alloc (.cells #[.int .u8 1] 5)) 0 (kOf_ok (k := 0) (by decide)) rfl rfl rfl rfl rfl).ch
  refine ⟨kd1_ok, ?_, ⟨_, 1, 1, rfl, rfl, by omega, by unfold maxLen; omega, by omega, Row.new W (bs [1]) _ _, fun h => by cases h⟩, h0.ar, h0.gr, h0.ur, h0.cr, rfl, h0.cd⟩
  constructor <;> simp [kd1, putE, nol]
theorem size_a (W : World) : Calls Try.prog 30 #[.agg #[.int .u8 8, .int .u8 0, .int .u32 0, .int .u32 0, .int .u32 0, .int .u16 0, .int .u16 0, .int .u16 0, .int .u16 0, .int .u32 0, .slice none 0 0, .slice none 0 0, .slice none 0 0, .slice none 0 0, .slice none 0 0]] W fun e w' => e = .returned (.int .i64 4) ∧ Below W.heap.size W w' := by
  have := pSize_any (kOf 8) nol W (ch_none (W := W) 0 (kOf_ok (by decide)) rfl rfl rfl rfl rfl).ch
  rw [size_shutack] at this
  exact this
theorem size_b (W : World) : Calls Try.prog 30 #[.agg #[.int .u8 0, .int .u8 0, .int .u32 0, .int .u32 0, .int .u32 0, .int .u16 0, .int .u16 0, .int .u16 0, .int .u16 0, .int .u32 0, .slice (some ⟨W.heap.size, 0, none⟩) 1 1, .slice none 0 0, .slice none 0 0, .slice none 0 0, .slice none 0 0]] (W.alloc (.cells #[.int .u8 1] 5)) fun e w' => e = .returned (.int .i64 20) ∧ Below W.heap.size W w' := by
  have := pSize_any kd1 (putE nol (some ⟨W.heap.size, 0, none⟩) 1 1) _ (ch_kd1 W)
  rw [kd1_len] at this
  refine this.mono ?_
  rintro e w' ⟨he, hb⟩
  exact ⟨he, ((Below.refl W.heap.size W).alloc (Nat.le_refl _) _).trans (hb.mono (by simp))⟩
theorem size_c (W : World) : Calls Try.prog 30 #[.agg #[.int .u8 0, .int .u8 0, .int .u32 0, .int .u32 0, .int .u32 0, .int .u16 0, .int .u16 0, .int .u16 0, .int .u16 0, .int .u32 0, .slice none 0 0, .slice none 0 0, .slice none 0 0, .slice none 0 0, .slice none 0 0]] W fun e w' => e = .returned (.int .i64 0) ∧ Below W.heap.size W w' := by
  have := pSize_any (kOf 0) nol W (ch_none (W := W) 0 (kOf_ok (by decide)) rfl rfl rfl rfl rfl).ch
  rw [size_nodata] at this
  exact this
/-- A packet that may not be, in memory. -/
structure Pz (W : World) (g : Nat) (n : Nat) (A : Option Addr) (ks : List Cq) : Prop where
  rk : Rk W A ks
  len : ks.length = n
  le : n ≤ 100
  gl : g < 4294967296
  no : pput 1 2 g (ks.map (·.1)) = ([], 60)
  may : mayP g (ks.map (·.1)) = false
theorem Pz.next {W W' : World} {g n : Nat} {A : Option Addr} {ks : List Cq} (h : Pz W g n A ks) (hb : Below W.heap.size W W') : Pz W' g n A ks := ⟨h.rk.next hb, h.len, h.le, h.gl, h.no, h.may⟩
theorem of_no (g : Nat) (A0 : Option Addr) (n0 c0 : Nat) (l : List Int) (w : World) (hl : l.length = n0) (hn : n0 ≤ 100) (hb : Byt l) (hr : Row w A0 (bs l)) (hg : g < 4294967296) (h1 : pput 1 2 g (l.map fun x => kOf x.toNat) = ([], 60)) (h2 : mayP g (l.map fun x => kOf x.toNat) = false) :
    Calls Try.prog 48 #[.int .u32 (g : Int), .slice A0 n0 c0] w fun e w' => ∃ A n c ks, e = .returned (.agg (pkl 1 2 g A n c)) ∧ Pz w' g n A ks ∧ Below w.heap.size w w' := by
  refine (pkof_any g A0 n0 c0 l w hl hn hb hr).mono ?_
  rintro e w' ⟨A, n, c, ks, he, hk, hlk, hrk, hle, hbl⟩
  exact ⟨A, n, c, ks, he, ⟨hrk, hlk, hle, hg, by rw [hk]; exact h1, by rw [hk]; exact h2⟩, hbl⟩
theorem of_a (W : World) : Calls Try.prog 48 #[.int .u32 1, .slice none 0 0] W fun e w' => ∃ A n c ks, e = .returned (.agg (pkl 1 2 1 A n c)) ∧ Pz w' 1 n A ks ∧ Below W.heap.size W w' :=
  of_no 1 none 0 0 [] W rfl (by omega) (fun c hc => by simp at hc) (Row.nil_ _ _) (by decide) rows_no.1 (by decide)
theorem of_b (W : World) : Calls Try.prog 48 #[.int .u32 1, .slice (some ⟨W.heap.size, 0, none⟩) 1 1] (W.alloc (.cells #[.int .u8 1] 5)) fun e w' => ∃ A n c ks, e = .returned (.agg (pkl 1 2 1 A n c)) ∧ Pz w' 1 n A ks ∧ Below W.heap.size W w' := by
  refine (of_no 1 (some ⟨W.heap.size, 0, none⟩) 1 1 [1] _ rfl (by omega) (fun c hc => by simp at hc; omega) (Row.new W (bs [1]) _ _) (by decide) rows_no.2.1 (by decide)).mono ?_
  rintro e w' ⟨A, n, c, ks, he, h1, h2⟩
  exact ⟨A, n, c, ks, he, h1, ((Below.refl W.heap.size W).alloc (Nat.le_refl _) _).trans (h2.mono (by simp))⟩
theorem of_c (W : World) : Calls Try.prog 48 #[.int .u32 0, .slice (some ⟨W.heap.size, 0, none⟩) 1 1] (W.alloc (.cells #[.int .u8 11] 5)) fun e w' => ∃ A n c ks, e = .returned (.agg (pkl 1 2 0 A n c)) ∧ Pz w' 0 n A ks ∧ Below W.heap.size W w' := by
  refine (of_no 0 (some ⟨W.heap.size, 0, none⟩) 1 1 [11] _ rfl (by omega) (fun c hc => by simp at hc; omega) (Row.new W (bs [11]) _ _) (by decide) rows_no.2.2.1 (by decide)).mono ?_
  rintro e w' ⟨A, n, c, ks, he, h1, h2⟩
  exact ⟨A, n, c, ks, he, h1, ((Below.refl W.heap.size W).alloc (Nat.le_refl _) _).trans (h2.mono (by simp))⟩
theorem of_d (W : World) : Calls Try.prog 48 #[.int .u32 5, .slice (some ⟨W.heap.size, 0, none⟩) 2 2] (W.alloc (.cells #[.int .u8 14, .int .u8 8] 5)) fun e w' => ∃ A n c ks, e = .returned (.agg (pkl 1 2 5 A n c)) ∧ Pz w' 5 n A ks ∧ Below W.heap.size W w' := by
  refine (of_no 5 (some ⟨W.heap.size, 0, none⟩) 2 2 [14, 8] _ rfl (by omega) (fun c hc => by simp at hc; omega) (Row.new W (bs [14, 8]) _ _) (by decide) rows_no.2.2.2 (by decide)).mono ?_
  rintro e w' ⟨A, n, c, ks, he, h1, h2⟩
  exact ⟨A, n, c, ks, he, h1, ((Below.refl W.heap.size W).alloc (Nat.le_refl _) _).trans (h2.mono (by simp))⟩
/-- The packets of the rows: those that are left of 70 and of 130. -/
def left (u : Nat) : List Ck := if u = 70 then [kOf 11] else [kOf 11, kOf 130, kOf 8]
theorem of_e (u : Nat) (hu : u = 70 ∨ u = 130) (W : World) : Calls Try.prog 48 #[.int .u32 5, .slice (some ⟨W.heap.size, 0, none⟩) 3 3] (W.alloc (.cells #[.int .u8 11, .int .u8 (u : Int), .int .u8 8] 5)) fun e w' => ∃ A n c ks, e = .returned (.agg (pkl 1 2 5 A n c)) ∧ ks.map (·.1) = [kOf 11, kOf u, kOf 8] ∧ ks.length = n ∧ n ≤ 100 ∧ Rk w' A ks ∧ Below W.heap.size W w' := by
  refine (pkof_any 5 (some ⟨W.heap.size, 0, none⟩) 3 3 [11, (u : Int), 8] _ rfl (by omega) (fun c hc => by simp at hc; omega) (Row.new W (bs [11, (u : Int), 8]) _ _)).mono ?_
  rintro e w' ⟨A, n, c, ks, he, h1, h2, h3, h4, h5⟩
  exact ⟨A, n, c, ks, he, h1, h2, h4, h3, ((Below.refl W.heap.size W).alloc (Nat.le_refl _) _).trans (h5.mono (by simp))⟩
theorem put_e (u : Nat) (hu : u = 70 ∨ u = 130) {W : World} {A : Option Addr} {n c : Nat} {ks : List Cq} (h1 : ks.map (·.1) = [kOf 11, kOf u, kOf 8]) (h2 : ks.length = n) (h3 : n ≤ 100) (h4 : Rk W A ks) :
    Calls Try.prog 22 #[.agg (pkl 1 2 5 A n c)] W fun e w' => ∃ A c, e = .returned (.tuple #[.slice A 24 c, .int .i64 0]) ∧ Own W w' A 24 c (pput 1 2 5 [kOf 11, kOf u, kOf 8]).1 := by
  refine (pktPut_any 1 2 5 ks A n c W (by decide) (by decide) (by decide) h4 h2 (by omega)).mono ?_
  rw [h1]
  rintro e w' ⟨A, m, c, he, ho⟩
  have hm : m = 24 := by rw [← ho.len]; exact (pput3 hu).2
  subst hm
  rw [(pput3 hu).1] at he
  exact ⟨A, c, he, ho⟩
theorem ptk_e {u : Nat} (hu : u = 70 ∨ u = 130) : ptk (pput 1 2 5 [kOf 11, kOf u, kOf 8]).1 = ⟨1, 2, 5, left u, 0⟩ := by
  rcases hu with rfl | rfl
  · exact ptk70
  · exact ptk130
theorem pput_byt (f t g : Nat) {ks : List Ck} (hok : ∀ c ∈ ks, c.ok) : Byt (pput f t g ks).1 := by
  have h0 : Byt ([] : List Int) := fun c hc => by simp at hc
  unfold pput
  split
  · split
    · exact h0
    · unfold Head.pt
      split
      · exact h0
      split
      · exact h0
      · exact Head.pk_byt _ _ _ _ (pb_byt ks hok)
  · exact h0
theorem byt_e {u : Nat} (hu : u = 70 ∨ u = 130) : Byt (pput 1 2 5 [kOf 11, kOf u, kOf 8]).1 := by
  exact pput_byt 1 2 5 (fun c hc => by simp at hc; rcases hc with rfl | rfl | rfl <;> exact kOf_ok (by omega))
theorem take_e (u : Nat) (hu : u = 70 ∨ u = 130) {W : World} {A : Option Addr} {c : Nat} (hc : 24 ≤ c) (hcm : c ≤ maxLen) (hr : Row W A (bs (pput 1 2 5 [kOf 11, kOf u, kOf 8]).1)) :
    Calls Try.prog 26 #[.slice A 24 c] W fun e w' => ∃ A c ks, e = .returned (.tuple #[.agg (pkl 1 2 5 A (left u).length c), .int .i64 0]) ∧ ks.map (·.1) = left u ∧ Rk w' A ks ∧ Below W.heap.size W w' := by
  refine (pTake_any A 24 c _ W (pput3 hu).2 (by omega) hc hcm (byt_e hu) hr).mono ?_
  rw [ptk_e hu]
  rintro e w' ⟨A, n, c, ks, he, h1, h2, h3, _, h4⟩
  have hn := len_of h1 h2
  subst hn
  exact ⟨A, c, ks, he, h1, h3, h4⟩
theorem left_first {u : Nat} {ks : List Cq} (h : ks.map (·.1) = left u) {W : World} {A : Option Addr} (hr : Rk W A ks) : ∃ a, A = some a ∧ W.cell? a = some (.int .u8 11) := by
  have h0 : 0 < ks.length := by
    rw [len_of h rfl]
    unfold left
    split <;> simp
  obtain ⟨a, hA, hc, _⟩ := hr.at h0
  refine ⟨a, hA, ?_⟩
  have hk : (ks[0]).1 = kOf 11 := by
    have e : (ks.map (·.1))[0]? = (left u)[0]? := by rw [h]
    rw [List.getElem?_map, List.getElem?_eq_getElem h0] at e
    unfold left at e
    split at e <;> simpa using e
  have := hc 0 (.int .u8 11) (by simp [cv, hk, kOf])
  simpa [Addr.add] using this
theorem left_len (k u : Nat) (h : (k = 0 ∧ u = 70) ∨ (k = 1 ∧ u = 130)) : (left u).length = 1 + 2 * k := by
  rcases h with ⟨rfl, rfl⟩ | ⟨rfl, rfl⟩ <;> rfl
theorem pz_put {W : World} {g n : Nat} {A : Option Addr} {ks : List Cq} (h : Pz W g n A ks) (c : Nat) : Calls Try.prog 22 #[.agg (pkl 1 2 g A n c)] W fun e w' => ∃ A c, e = .returned (.tuple #[.slice A 0 c, .int .i64 60]) ∧ Below W.heap.size W w' := by
  refine (pktPut_any 1 2 g ks A n c W (by decide) (by decide) h.gl h.rk h.len (by have := h.le; omega)).mono ?_
  rw [h.no]
  rintro e w' ⟨A, m, c, he, ho⟩
  have hm : m = 0 := by rw [← ho.len]; rfl
  subst hm
  exact ⟨A, c, he, ho.2⟩
theorem pz_may {W : World} {g n : Nat} {A : Option Addr} {ks : List Cq} (h : Pz W g n A ks) (c : Nat) : Calls Try.prog 24 #[.agg (pkl 1 2 g A n c)] W fun e w' => e = .returned (.bool false) ∧ Below W.heap.size W w' := by
  have := pktMay_any 1 2 g ks A n c W h.rk h.len (by have := h.le; omega)
  rw [h.may] at this
  exact this
abbrev Pq5 := Nat × Option Addr × Nat × Nat × List Cq
def pcells (q : Pq5) : List Value := (pkl 1 2 q.1 q.2.1 q.2.2.1 q.2.2.2.1).toList
theorem pcells_get : ∀ {qs : List Pq5} {i : Nat} (h : i < qs.length) {j : Nat} {v : Value}, (pcells qs[i])[j]? = some v → (qs.flatMap pcells)[i * 4 + j]? = some v
  | q :: qs, 0, _, j, v, hj => by
    have hl : j < (pcells q).length := (List.getElem?_eq_some_iff.1 hj).1
    simp only [List.flatMap_cons, Nat.zero_mul, Nat.zero_add]
    rw [List.getElem?_append_left hl]
    exact hj
  | q :: qs, i + 1, h, j, v, hj => by
    have ih := pcells_get (qs := qs) (i := i) (by simpa using h) (j := j) (v := v) hj
    have hl : (pcells q).length = 4 := by simp [pcells]
    simp only [List.flatMap_cons] at ih ⊢
    rw [List.getElem?_append_right (by omega), hl, show (i + 1) * 4 + j - 4 = i * 4 + j by omega]
    exact ih
/-- Packets that may not be, in a slice. -/
def Fo (W : World) (a : Addr) (qs : List Pq5) : Prop := Row W (some a) (qs.flatMap pcells) ∧ ∀ q ∈ qs, Pz W q.1 q.2.2.1 q.2.1 q.2.2.2.2
theorem Fo.next {W W' : World} {a : Addr} {qs : List Pq5} (h : Fo W a qs) (hb : Below W.heap.size W W') : Fo W' a qs := ⟨h.1.below hb, fun q hq => (h.2 q hq).next hb⟩
theorem Fo.at {W : World} {a : Addr} {qs : List Pq5} (h : Fo W a qs) {i : Nat} (hi : i < qs.length) : ∃ g A n c ks, (∀ j v, (pkl 1 2 g A n c).toList[j]? = some v → W.cell? ((a.add (i * 4)).add j) = some v) ∧ Pz W g n A ks := by
  refine ⟨qs[i].1, qs[i].2.1, qs[i].2.2.1, qs[i].2.2.2.1, qs[i].2.2.2.2, fun j v hj => ?_, h.2 _ (List.getElem_mem hi)⟩
  obtain ⟨a', hA', hc⟩ := h.1 _ _ (pcells_get hi (j := j) (v := v) hj)
  injection hA' with hA'
  subst hA'
  rw [add_add]
  exact hc
theorem Fo.new {W : World} {g1 g2 g3 g4 n1 n2 n3 n4 c1 c2 c3 c4 : Nat} {A1 A2 A3 A4 : Option Addr} {k1 k2 k3 k4 : List Cq} (h1 : Pz W g1 n1 A1 k1) (h2 : Pz W g2 n2 A2 k2) (h3 : Pz W g3 n3 A3 k3) (h4 : Pz W g4 n4 A4 k4) :
    Fo (W.alloc (.cells #[.int .u16 1, .int .u16 2, .int .u32 (g1 : Int), .slice A1 n1 c1, .int .u16 1, .int .u16 2, .int .u32 (g2 : Int), .slice A2 n2 c2, .int .u16 1, .int .u16 2, .int .u32 (g3 : Int), .slice A3 n3 c3, .int .u16 1, .int .u16 2, .int .u32 (g4 : Int), .slice A4 n4 c4] 52)) ⟨W.heap.size, 0, none⟩ [(g1, A1, n1, c1, k1), (g2, A2, n2, c2, k2), (g3, A3, n3, c3, k3), (g4, A4, n4, c4, k4)] := by
  refine ⟨Row.new W ([(g1, A1, n1, c1, k1), (g2, A2, n2, c2, k2), (g3, A3, n3, c3, k3), (g4, A4, n4, c4, k4)].flatMap pcells) _ _, fun q hq => ?_⟩
  have hb : Below W.heap.size W (W.alloc (.cells #[.int .u16 1, .int .u16 2, .int .u32 (g1 : Int), .slice A1 n1 c1, .int .u16 1, .int .u16 2, .int .u32 (g2 : Int), .slice A2 n2 c2, .int .u16 1, .int .u16 2, .int .u32 (g3 : Int), .slice A3 n3 c3, .int .u16 1, .int .u16 2, .int .u32 (g4 : Int), .slice A4 n4 c4] 52)) := (Below.refl _ _).alloc (Nat.le_refl _) _
  simp only [List.mem_cons, List.not_mem_nil, or_false] at hq
  rcases hq with rfl | rfl | rfl | rfl
  · exact h1.next hb
  · exact h2.next hb
  · exact h3.next hb
  · exact h4.next hb
theorem pkstore_new (f t g : Nat) (A : Option Addr) (n c : Nat) (W : World) : (storeCells ⟨W.heap.size, 0, none⟩ (pkl f t g A n c).toList 0).run Try.prog (W.alloc (.cells (pkl 0 0 0 none 0 0) 52)) = .ok () (W.alloc (.cells (pkl f t g A n c) 52)) :=
  run_storeCells_new (P := Try.prog) W 52 (pkl 0 0 0 none 0 0) (pkl f t g A n c) (pk_info _ _ _ _ _ _) rfl (pk_one _ _ _ _ _ _)
end Go.Proofs.Ytbliipjiilmbcaa
/-
  Layer 6's 'known' answers true.
-/
namespace Go.Proofs.Ytbliipjiilmbcaa
open Go.RowKit Wire Tlv Chunk Pkt

theorem pz_may_lit {W : World} {g n : Nat} {A : Option Addr} {ks : List Cq} (h : Pz W g n A ks) (c : Nat) : Calls Try.prog 24 #[.agg #[.int .u16 1, .int .u16 2, .int .u32 (g : Int), .slice A n c]] W fun e w' => e = .returned (.bool false) ∧ Below W.heap.size W w' := pz_may h c
set_option maxRecDepth 100000 in
set_option maxHeartbeats 8000000 in
theorem pkknown_any (w : World) :
    Calls Try.prog 20 #[] w fun e w' => e = .returned (.bool true) ∧ Below w.heap.size w w' := by
  have S1 := Lib.hid size_a
  have S2 := Lib.hid size_b
  have S3 := Lib.hid size_c
  have O1 := Lib.hid of_a
  have O2 := Lib.hid of_b
  have O3 := Lib.hid of_c
  have O4 := Lib.hid of_d
  go_enter Try.func20, Try.ntmps20
  go_wp2_with fail
  (with_reducible refine (S1.out _).mono ?_)
  rintro e W1 ⟨rfl, hb1⟩
  have HB1 := Lib.hid hb1
  clear hb1
  go_wp2_with fail
  (with_reducible refine (S2.out _).mono ?_)
  rintro e W2 ⟨rfl, hb2⟩
  have HB2 := Lib.hid (bnext' HB1.out hb2)
  clear hb2 HB1
  go_wp2_with fail
  (with_reducible refine (S3.out _).mono ?_)
  rintro e W3 ⟨rfl, hb3⟩
  have HB3 := Lib.hid (bnext' HB2.out hb3)
  clear hb3 HB2
  go_wp2_with fail
  (with_reducible refine (O1.out _).mono ?_)
  rintro e W4 ⟨A1, n1, c1, k1, rfl, hp1, hb4⟩
  have HB4 := Lib.hid (bnext' HB3.out hb4)
  have HP1 := Lib.hid hp1
  clear hp1 hb4 HB3
  go_wp2_with fail
  (with_reducible refine (O2.out _).mono ?_)
  rintro e W5 ⟨A2, n2, c2, k2, rfl, hp2, hb5⟩
  have HB5 := Lib.hid (bnext' HB4.out hb5)
  have HP1' := Lib.hid (HP1.out.next hb5)
  have HP2 := Lib.hid hp2
  clear hp2 hb5 HB4 HP1
  go_wp2_with fail
  (with_reducible refine (O3.out _).mono ?_)
  rintro e W6 ⟨A3, n3, c3, k3, rfl, hp3, hb6⟩
  have HB6 := Lib.hid (bnext' HB5.out hb6)
  have HP1 := Lib.hid (HP1'.out.next hb6)
  have HP2' := Lib.hid (HP2.out.next hb6)
  have HP3 := Lib.hid hp3
  clear hp3 hb6 HB5 HP1' HP2
  go_wp2_with fail
  (with_reducible refine (O4.out _).mono ?_)
  rintro e W7 ⟨A4, n4, c4, k4, rfl, hp4, hb7⟩
  have HB7 := Lib.hid (bnext' HB6.out hb7)
  have HF := Lib.hid (Fo.new (c1 := c1) (c2 := c2) (c3 := c3) (c4 := c4) (HP1.out.next hb7) (HP2'.out.next hb7) (HP3.out.next hb7) hp4)
  clear hp4 hb7 HB6 HP1 HP2' HP3 S1 S2 S3 O1 O2 O3 O4
  generalize hqs : ([(1, A1, n1, c1, k1), (1, A2, n2, c2, k2), (0, A3, n3, c3, k3), (5, A4, n4, c4, k4)] : List Pq5) = qs at HF
  have HL : Hid (qs.length = 4) := Lib.hid (by rw [← hqs]; rfl)
  clear hqs
  go_wp2_with fail
  have HB8 : Hid (Below W7.heap.size W7 (W7.alloc (.cells #[.int .u16 1, .int .u16 2, .int .u32 1, .slice A1 n1 c1, .int .u16 1, .int .u16 2, .int .u32 1, .slice A2 n2 c2, .int .u16 1, .int .u16 2, .int .u32 0, .slice A3 n3 c3, .int .u16 1, .int .u16 2, .int .u32 5, .slice A4 n4 c4] 52))) := Lib.hid ((Below.refl _ _).alloc (Nat.le_refl _) _)
  generalize hW8 : W7.alloc _ = W8 at HB8 ⊢
  have HF8 : Hid (Fo W8 ⟨W7.heap.size, 0, none⟩ qs) := Lib.hid (by rw [← hW8]; exact HF.out)
  have HB9 := Lib.hid (bnext' HB7.out HB8.out)
  clear hW8 HF HB8 HB7
  generalize (⟨W7.heap.size, 0, none⟩ : Addr) = a at HF8 ⊢
  go_loopw [2, 3, 4, 35] (fun _ _ _ i wr => ∃ (k : Nat), k ≤ 4 ∧ i = .int .i64 (k : Int) ∧ Hid (Fo wr a qs) ∧ Hid (Below w.heap.size w wr)) (fun _ _ _ i _ => 4 - (intOf i).toNat)
  case atStart => exact ⟨0, by omega, rfl, HF8, HB9⟩
  case round =>
    clear HF8 HB9
    obtain ⟨k, hk, rfl, HF, HB⟩ := hrel
    by_cases hlt : k < 4
    · obtain ⟨g, A, n, c, ks, hc, hp⟩ := HF.out.at (i := k) (by rw [HL.out]; exact hlt)
      have HC := Lib.hid hc
      have hst := pkstore_new 1 2 g A n c wr
      have hal : Below wr.heap.size wr (wr.alloc (.cells (pkl 1 2 g A n c) 52)) := (Below.refl _ _).alloc (Nat.le_refl _) _
      have HP1 := Lib.hid (hp.next hal)
      have HF1 := Lib.hid (HF.out.next hal)
      have HB1 := Lib.hid (bnext' HB.out hal)
      have HQ1 : Hid (Bk (wr.alloc (.cells (pkl 1 2 g A n c) 52)) wr.heap.size (pkl 1 2 g A n c) 52) := Lib.hid (Bk.new _ _ _)
      clear hc hp hal HF HB
      go_upto_region 6 with (refine wpList_load_at rfl 52 (.tmp 37) rfl (a.add (k * 4)) rfl (pkl 1 2 g A n c) _ HC.out Try.underlying52 rfl (pk_info _ _ _ _ _ _) ?_)
      clear hst HC
      generalize hV1 : wr.alloc (.cells (pkl 1 2 g A n c) 52) = V1 at HP1 HF1 HB1 HQ1 ⊢
      clear hV1
      generalize wr.heap.size = gp at HQ1 ⊢
      go_wp2_with (refine wpList_load_row rfl 52 (.tmp 2) rfl gp rfl 52 (pkl 1 2 g A n c) (0, 0) _ HQ1.out Try.underlying52 rfl (pk_info _ _ _ _ _ _) ?_)
      (with_reducible refine (pz_put HP1.out c).mono ?_)
      rintro e V2 ⟨A2, c2, rfl, hb2⟩
      have HP2 := Lib.hid (HP1.out.next hb2)
      have HF2 := Lib.hid (HF1.out.next hb2)
      have HB2 := Lib.hid (bnext' HB1.out hb2)
      have HQ2 := Lib.hid (HQ1.out.next hb2)
      clear hb2 HP1 HF1 HB1 HQ1
      obtain ⟨q2, q3⟩ := mem_cell HQ2.out
      obtain ⟨q0, q1⟩ := mem_head HQ2.out
      go_wp2_with fail
      (with_reducible refine (pz_may_lit HP2.out c).mono ?_)
      clear q0 q1 q2 q3
      rintro e V3 ⟨rfl, hb3⟩
      have HF3 := Lib.hid (HF2.out.next hb3)
      have HB3 := Lib.hid (bnext' HB2.out hb3)
      clear hb3 HP2 HF2 HB2 HQ2
      go_wp2_with fail
      go_roundw
      case rel => exact ⟨k + 1, by omega, by go_num, HF3, HB3⟩
      case measure => simp [intOf]; omega
    · have hk0 : k = 4 := by omega
      subst hk0
      clear HF hk hlt
      go_wp2_with fail
      have hbv : Below wr.heap.size wr (wr.alloc (.cells #[.int .u8 70, .int .u8 130] 5)) := (Below.refl _ _).alloc (Nat.le_refl _) _
      have HR0 : Hid (Row (wr.alloc (.cells #[.int .u8 70, .int .u8 130] 5)) (some ⟨wr.heap.size, 0, none⟩) (bs [70, 130])) := Lib.hid (Row.new wr (bs [70, 130]) _ _)
      have HB0 := Lib.hid (bnext' HB.out hbv)
      clear hbv HB
      generalize hV : wr.alloc _ = V at HR0 HB0 ⊢
      clear hV
      generalize (⟨wr.heap.size, 0, none⟩ : Addr) = a2 at HR0 ⊢
      go_loopw [5, 6, 7, 8, 9, 10, 11, 58] (fun _ _ _ _ _ _ _ i wr => ∃ (k : Nat), k ≤ 2 ∧ i = .int .i64 (k : Int) ∧ Hid (Row wr (some a2) (bs [70, 130])) ∧ Hid (Below w.heap.size w wr)) (fun _ _ _ _ _ _ _ i _ => 2 - (intOf i).toNat)
      case atStart => exact ⟨0, by omega, rfl, HR0, HB0⟩
      case round =>
        clear HR0 HB0
        obtain ⟨k, hk, rfl, HR, HB⟩ := hrel
        by_cases hlt : k < 2
        · obtain ⟨u, hku⟩ : ∃ u : Nat, (k = 0 ∧ u = 70) ∨ (k = 1 ∧ u = 130) := by
            by_cases h0 : k = 0
            · exact ⟨70, .inl ⟨h0, rfl⟩⟩
            · exact ⟨130, .inr ⟨by omega, rfl⟩⟩
          have hu : u = 70 ∨ u = 130 := by omega
          have hcell : wr.cell? (a2.add k) = some (.int .u8 (u : Int)) := by
            rcases hku with ⟨rfl, rfl⟩ | ⟨rfl, rfl⟩
            · obtain ⟨a', e, hc⟩ := HR.out 0 _ rfl
              injection e with e
              subst e
              exact hc
            · obtain ⟨a', e, hc⟩ := HR.out 1 _ rfl
              injection e with e
              subst e
              exact hc
          have HO := Lib.hid (of_e u hu)
          have HU := Lib.hid hu
          have HKU := Lib.hid hku
          clear hu hku
          go_wp2_with fail
          (with_reducible refine (HO.out _).mono ?_)
          rintro e V1 ⟨A, n, c, ks, rfl, h1, h2, h3, h4, hb1⟩
          clear hcell HO
          have hst := pkstore_new 1 2 5 A n c V1
          have hal : Below V1.heap.size V1 (V1.alloc (.cells (pkl 1 2 5 A n c) 52)) := (Below.refl _ _).alloc (Nat.le_refl _) _
          have HR1 := Lib.hid ((HR.out.below hb1).below hal)
          have HB1 := Lib.hid (bnext' (bnext' HB.out hb1) hal)
          have HP1 := Lib.hid (put_e u HU.out h1 h2 h3 (h4.next hal) (c := c))
          have HQ1 : Hid (Bk (V1.alloc (.cells (pkl 1 2 5 A n c) 52)) V1.heap.size (pkl 1 2 5 A n c) 52) := Lib.hid (Bk.new _ _ _)
          clear h1 h2 h3 h4 hb1 hal HR HB
          go_upto_region 14 with fail
          clear hst
          generalize hV2 : V1.alloc (.cells (pkl 1 2 5 A n c) 52) = V2 at HR1 HB1 HP1 HQ1 ⊢
          clear hV2
          generalize V1.heap.size = gp at HQ1 ⊢
          go_wp2_with (refine wpList_load_row rfl 52 (.tmp 7) rfl gp rfl 52 (pkl 1 2 5 A n c) (0, 0) _ HQ1.out Try.underlying52 rfl (pk_info _ _ _ _ _ _) ?_)
          (with_reducible refine HP1.out.mono ?_)
          rintro e V3 ⟨A3, c3, rfl, ho3⟩
          have HR3 := Lib.hid (HR1.out.below ho3.2)
          have HB3 := Lib.hid (bnext' HB1.out ho3.2)
          have HQ3 := Lib.hid (HQ1.out.next ho3.2)
          have HT := Lib.hid (take_e u HU.out ho3.cap.1 ho3.cap.2 ho3.row)
          clear ho3 HR1 HB1 HQ1 HP1
          go_wp2_with fail
          (with_reducible refine HT.out.mono ?_)
          rintro e V4 ⟨A4, c4, ks4, rfl, hk4, hr4, hb4⟩
          have hst := pkstore_new 1 2 5 A4 (left u).length c4 V4
          have hal : Below V4.heap.size V4 (V4.alloc (.cells (pkl 1 2 5 A4 (left u).length c4) 52)) := (Below.refl _ _).alloc (Nat.le_refl _) _
          have HR5 := Lib.hid ((HR3.out.below hb4).below hal)
          have HB5 := Lib.hid (bnext' (bnext' HB3.out hb4) hal)
          have HQ5 := Lib.hid ((HQ3.out.next hb4).next hal)
          have HL4 := Lib.hid (left_first hk4 (hr4.next hal))
          have HQ6 : Hid (Bk (V4.alloc (.cells (pkl 1 2 5 A4 (left u).length c4) 52)) V4.heap.size (pkl 1 2 5 A4 (left u).length c4) 52) := Lib.hid (Bk.new _ _ _)
          clear hk4 hr4 hb4 hal HR3 HB3 HQ3 HT
          go_upto_region 16 with fail
          clear hst
          generalize hV5 : V4.alloc (.cells (pkl 1 2 5 A4 (left u).length c4) 52) = V5 at HR5 HB5 HQ5 HQ6 HL4 ⊢
          clear hV5
          generalize V4.heap.size = g4 at HQ6 ⊢
          obtain ⟨a4, rfl, hf4⟩ := HL4.out
          obtain ⟨q2, q3⟩ := mem_cell HQ5.out
          obtain ⟨q0, q1⟩ := mem_head HQ5.out
          obtain ⟨r2, r3⟩ := mem_cell HQ6.out
          obtain ⟨r0, r1⟩ := mem_head HQ6.out
          have hl1 : (left 70).length = 1 := rfl
          have hl2 : (left 130).length = 3 := rfl
          clear HQ5 HQ6 HL4 HU
          rcases HKU.out with ⟨rfl, rfl⟩ | ⟨rfl, rfl⟩
          · rw [hl1] at r3
            clear hl1 hl2 HKU
            go_wp2_with fail
            clear q0 q1 q2 q3 r0 r1 r2 r3 hf4
            go_roundw
            case rel => first | exact ⟨1, by omega, by go_num, HR5, HB5⟩ | exact ⟨1, by omega, rfl, HR5, HB5⟩ | ((repeat apply Exists.intro); exact ⟨⟨1, by omega, by go_num, HR5, HB5⟩, rfl⟩)
            case measure => simp [intOf]
          · rw [hl2] at r3
            clear hl1 hl2 HKU
            go_wp2_with fail
            clear q0 q1 q2 q3 r0 r1 r2 r3 hf4
            go_roundw
            case rel => first | exact ⟨2, by omega, by go_num, HR5, HB5⟩ | exact ⟨2, by omega, rfl, HR5, HB5⟩ | ((repeat apply Exists.intro); exact ⟨⟨2, by omega, by go_num, HR5, HB5⟩, rfl⟩)
            case measure => simp [intOf]
        · have hk0 : k = 2 := by omega
          subst hk0
          clear HR hk hlt
          go_wp2_with fail
          go_ret
          exact ⟨rfl, HB.out⟩
end Go.Proofs.Ytbliipjiilmbcaa
/-
  What the document's Take of a packet does: the walk.
-/
namespace Go.Proofs.Ytbliipjiilmbcaa
open Go.RowKit Wire Tlv Chunk Pkt

set_option maxRecDepth 100000 in
set_option maxHeartbeats 8000000 in
theorem rpTake_any (A0 : Option Addr) (n0 c0 : Nat) (l : List Int) (w : World) (hl : l.length = n0) (hn : n0 ≤ 100000) (hnc : n0 ≤ c0) (hcm : c0 ≤ maxLen) (hb : Byt l) (hr : Row w A0 (bs l)) :
    Calls Try.prog 27 #[.slice A0 n0 c0] w (PkOut w (ptk l)) := by
  have HZ : Hid (Bk (w.alloc (.cells (pkl 0 0 0 none 0 0) 52)) w.heap.size (pkl 0 0 0 none 0 0) 52 ∧ Below w.heap.size w (w.alloc (.cells (pkl 0 0 0 none 0 0) 52))) := Lib.hid ⟨Bk.new _ _ _, (Below.refl _ _).alloc (Nat.le_refl _) _⟩
  have CT := Lib.hid fun W (hW : Below w.heap.size w W) => rtake_any A0 n0 c0 l W hl hn hnc hcm hb (hr.below hW)
  have hlt := Head.tk_lt hb
  have hspec : ptk l = if (Head.tk l).err ≠ 0 then ⟨0, 0, 0, [], (Head.tk l).err⟩ else if (pc (ev true (Head.tk l).body)).2 ≠ 0 then ⟨0, 0, 0, [], (pc (ev true (Head.tk l).body)).2⟩ else if mayP (Head.tk l).g (pc (ev true (Head.tk l).body)).1 = true then ⟨(Head.tk l).f, (Head.tk l).t, (Head.tk l).g, (pc (ev true (Head.tk l).body)).1, 0⟩ else ⟨0, 0, 0, [], 60⟩ := rfl
  generalize htk : Head.tk l = tk0 at hlt hspec CT
  obtain ⟨f, t, g, body, err⟩ := tk0
  simp only at hlt hspec
  have HSPEC0 := Lib.hid hspec
  have HLT := Lib.hid (show f < 65536 ∧ t < 65536 ∧ g < 4294967296 ∧ Byt body ∧ body.length ≤ 100000 from ⟨hlt.1, hlt.2.1, hlt.2.2.1, hlt.2.2.2.1, by omega⟩)
  clear hl hnc hcm hb hr hlt hspec htk hn
  go_enter Try.func27, Try.ntmps27
  go_upto_region 1 with fail
  generalize World.alloc w _ = W1 at HZ ⊢
  go_wp2_with fail
  have hbw := HZ.out.2
  (with_reducible refine (CT.out _ hbw).mono ?_)
  clear hbw
  rintro e W2 ⟨Ab, nb, cb, rfl, hob⟩
  simp only at hob
  have HZ2 : Hid (Bk W2 w.heap.size (pkl 0 0 0 none 0 0) 52 ∧ Below w.heap.size w W2) := Lib.hid ⟨HZ.out.1.next hob.2, bnext' HZ.out.2 hob.2⟩
  have HOB := Lib.hid hob
  clear hob HZ CT
  go_upto_region 2 with fail
  have hal : Below W2.heap.size W2 (W2.alloc (.cells #[.int .u16 (f : Int), .int .u16 (t : Int), .int .u32 (g : Int)] 49)) := (Below.refl _ _).alloc (Nat.le_refl _) _
  have HZ3 : Hid (Bk (W2.alloc (.cells #[.int .u16 (f : Int), .int .u16 (t : Int), .int .u32 (g : Int)] 49)) w.heap.size (pkl 0 0 0 none 0 0) 52 ∧ Below w.heap.size w (W2.alloc (.cells #[.int .u16 (f : Int), .int .u16 (t : Int), .int .u32 (g : Int)] 49))) := Lib.hid ⟨HZ2.out.1.next hal, bnext' HZ2.out.2 hal⟩
  have HOB3 := Lib.hid (HOB.out.next hal)
  have HH3 : Hid (Bk (W2.alloc (.cells #[.int .u16 (f : Int), .int .u16 (t : Int), .int .u32 (g : Int)] 49)) W2.heap.size #[.int .u16 (f : Int), .int .u16 (t : Int), .int .u32 (g : Int)] 49) := Lib.hid (Bk.new _ _ _)
  clear hal HZ2 HOB
  generalize hW3 : W2.alloc (.cells #[.int .u16 (f : Int), .int .u16 (t : Int), .int .u32 (g : Int)] 49) = W3 at HZ3 HOB3 HH3 ⊢
  clear hW3
  generalize W2.heap.size = g4 at HH3 ⊢
  by_cases he : err = 0
  case neg =>
    have d1 : (err != 0) = true := by simpa using he
    have HE : Hid (ptk l = ⟨0, 0, 0, [], err⟩) := Lib.hid (by rw [HSPEC0.out, if_pos he])
    clear he
    go_wp2_with (refine wpList_store_row rfl 52 (.tmp 2) (.tmp 22) rfl w.heap.size (pkl 0 0 0 none 0 0) rfl rfl 52 (pkl 0 0 0 none 0 0) HZ3.out.1 (pk_info _ _ _ _ _ _) rfl (pk_one _ _ _ _ _ _) ?_)
    have hz := HZ3.out.1.row_ (pkl 0 0 0 none 0 0)
    have hbl9 := below_setRow HZ3.out.2 (Nat.le_refl _) (pkl 0 0 0 none 0 0)
    generalize World.setRow _ _ _ = W9 at hz hbl9 ⊢
    have hz2 : W9.cell? ⟨w.heap.size, 2, none⟩ = _ := (mem_cell hz).1
    have hz3 : W9.cell? ⟨w.heap.size, 3, none⟩ = _ := (mem_cell hz).2
    have hz0 : W9.cell? ⟨w.heap.size, 0, none⟩ = _ := (mem_head hz).1
    have hz1 : W9.cell? ⟨w.heap.size, 1, none⟩ = _ := (mem_head hz).2
    refine bodyPost_ret (v := .tuple #[.agg (pkl 0 0 0 none 0 0), .int .i64 err]) (by simp [results, Try.results27, go_sem, hz0, hz1, hz2, hz3]) rfl (by rw [HE.out]; exact pk_none w W9 _ hbl9)
  subst he
  have HSPEC : Hid (ptk l = if (pc (ev true body)).2 ≠ 0 then ⟨0, 0, 0, [], (pc (ev true body)).2⟩ else if mayP g (pc (ev true body)).1 = true then ⟨f, t, g, (pc (ev true body)).1, 0⟩ else ⟨0, 0, 0, [], 60⟩) := Lib.hid (by rw [HSPEC0.out, if_neg (by simp)])
  have h0 := HH3.out.cell 0
  have h1 := HH3.out.cell 1
  have h2 := HH3.out.cell 2
  simp at h0 h1 h2
  go_upto_region 5 with fail
  clear h0 h1 h2
  have hal : Below W3.heap.size W3 (W3.alloc (.cells (pkl f t g none 0 0) 52)) := (Below.refl _ _).alloc (Nat.le_refl _) _
  have HX : Hid (Tq w f t g (W3.heap.size + 1) W3.heap.size none 0 0 [] (W3.alloc (.cells (pkl f t g none 0 0) 52))) := Lib.hid { an := HZ3.out.1.next hal, pk := Bk.new _ _ _, ko := Ko.nil _ _, bl := bnext' HZ3.out.2 hal, ne := HZ3.out.1.lt, gb := Nat.lt_succ_self _, bw := by simp }
  have HOB4 := HOB3
  have HBW : Hid (Below W3.heap.size W3 (W3.alloc (.cells (pkl f t g none 0 0) 52))) := Lib.hid hal
  have hgp : W3.heap.size ≤ W3.heap.size := Nat.le_refl _
  clear hal HZ3 HH3
  generalize hW4 : W3.alloc (.cells (pkl f t g none 0 0) 52) = W4 at HX HBW ⊢
  clear hW4
  obtain ⟨B, hB⟩ : ∃ B, B = W3.heap.size + 1 := ⟨_, rfl⟩
  rw [← hB] at HX
  clear hB
  generalize hgpe : W3.heap.size = gp at HX ⊢
  have HGP : Hid (W3.heap.size ≤ gp) := Lib.hid (Nat.le_of_eq hgpe)
  clear hgpe hgp
  have hbl : body.length = nb := HOB4.out.len
  have hcap := HOB4.out.cap
  have HO1 := Lib.hid fun (k : Nat) (hk : k ≤ nb) W (hW : Below W3.heap.size W3 W) => one_any true Ab nb cb body k W hbl (by have := HLT.out.2.2.2.2; omega) hcap.1 hcap.2 HLT.out.2.2.2.1 (HOB4.out.row.below hW) hk
  have HBL := Lib.hid hbl
  have hnb : nb ≤ 100000 := by have := HLT.out.2.2.2.2; omega
  have HPX0 : Hid (pc (ev true body) = jn (([] : List Cq).map (·.1)) (pc (ev true (body.drop 0)))) := Lib.hid (jn_nil _ (pc_err _)).symm
  have HCI : Hid (∀ c : Ck, ∀ s : Ls, (Try.prog.info? 32).map (·.size) = some (cv c s).size) := Lib.hid cv_info
  have HCO : Hid (∀ c : Ck, ∀ s : Ls, (cv c s).all (·.oneCell') = true) := Lib.hid cv_one
  obtain ⟨iC, hi0, hz0, hz1, hz2⟩ := info_parts Try_infoChunk
  have HI0 := Lib.hid hi0
  have HI1 := Lib.hid hz0
  have HI2 := Lib.hid hz1
  have HI3 := Lib.hid hz2
  clear hbl hcap hi0 hz0 hz1 hz2 HSPEC0 HOB4
  have HFIN : True := trivial
  go_wp2_with fail
  go_loopw [8, 9, 10, 11, 12, 13] (fun i _ _ _ _ _ wr => ∃ (k : Nat) (A : Option Addr) (n2 c2 : Nat) (ks : List Cq), k ≤ nb ∧ i = .int .i64 (k : Int) ∧ n2 * 4 ≤ k ∧ Hid (pc (ev true body) = jn (ks.map (·.1)) (pc (ev true (body.drop k)))) ∧ Hid (Tq w f t g B gp A n2 c2 ks wr) ∧ Hid (Below W3.heap.size W3 wr)) (fun i _ _ _ _ _ _ => nb - (intOf i).toNat)
  case atStart => exact ⟨0, none, 0, 0, [], by omega, rfl, by omega, HPX0, HX, HBW⟩
  case round =>
    clear HPX0 HX HBW HFIN
    obtain ⟨k, A, n2, c2, ks, hk, rfl, hn4, HPXR, HX, HBW⟩ := hrel
    by_cases hlt2 : k < nb
    · have hone := HO1.out k (by omega) wr HBW.out
      cases ht : t1 true (body.drop k) with
      | none =>
        have hpe : pc (ev true body) = ([], 40) := by
          rw [HPXR.out, ev_none (by rw [List.length_drop, HBL.out]; omega) ht]
          rfl
        have HE : Hid (ptk l = ⟨0, 0, 0, [], 40⟩) := Lib.hid (by rw [HSPEC.out, hpe]; rfl)
        rw [ht] at hone
        have HONE := Lib.hid hone
        clear hone ht hpe HPXR
        go_wp2_with fail
        (with_reducible refine HONE.out.mono ?_)
        rintro e w3 ⟨rfl, hb3⟩
        have HX4 := Lib.hid ((HX.out.next hb3).next ((Below.refl _ _).alloc (Nat.le_refl _) (.cells #[.int .u16 0, .int .u8 0, .slice none 0 0] 25)))
        clear hb3
        go_upto_region 9 with fail
        generalize World.alloc w3 _ = w4 at HX4 ⊢
        go_wp2_with (refine wpList_store_row rfl 52 (.tmp 2) (.tmp 39) rfl w.heap.size (pkl 0 0 0 none 0 0) rfl rfl 52 (pkl 0 0 0 none 0 0) HX4.out.an (pk_info _ _ _ _ _ _) rfl (pk_one _ _ _ _ _ _) ?_)
        have hz := HX4.out.an.row_ (pkl 0 0 0 none 0 0)
        have hbl9 := below_setRow HX4.out.bl (Nat.le_refl _) (pkl 0 0 0 none 0 0)
        generalize World.setRow _ _ _ = W9 at hz hbl9 ⊢
        have hz2 : W9.cell? ⟨w.heap.size, 2, none⟩ = _ := (mem_cell hz).1
        have hz3 : W9.cell? ⟨w.heap.size, 3, none⟩ = _ := (mem_cell hz).2
        have hz0 : W9.cell? ⟨w.heap.size, 0, none⟩ = _ := (mem_head hz).1
        have hz1 : W9.cell? ⟨w.heap.size, 1, none⟩ = _ := (mem_head hz).2
        refine bodyPost_ret (v := .tuple #[.agg (pkl 0 0 0 none 0 0), .int .i64 40]) (by simp [results, Try.results27, go_sem, hz0, hz1, hz2, hz3]) rfl (by rw [HE.out]; exact pk_none w W9 _ hbl9)
      | some p =>
        obtain ⟨⟨xk, xf, xv⟩, z⟩ := p
        rw [ht] at hone
        have HONE := Lib.hid hone
        have hts := t1_lt ht
        have hxo := (tb_t1 (Byt.drop HLT.out.2.2.2.1 k) ht)
        have hpe : pc (ev true body) = jn (ks.map (·.1)) (if ends xk = true then ([], 0) else match take ⟨xk, xf, xv⟩ with
          | none => ([], 50)
          | some c => jn [c] (pc (ev true (body.drop (k + z))))) := by
          rw [HPXR.out, ev_some ht, pc_cons, List.drop_drop]
          rfl
        have HPE := Lib.hid hpe
        have hks : k + z ≤ nb := by have := hts.2; simp [HBL.out] at this; omega
        have hz4 : 4 ≤ z := hts.1
        have hxk : xk ≤ 255 := hxo.2.1
        have HXO : Hid ((⟨xk, xf, xv⟩ : Tv).ok ∧ xv.length ≤ 65531) := Lib.hid ⟨hxo.1, hxo.2.2.1⟩
        clear hone ht hpe hxo hts HPXR
        go_wp2_with fail
        (with_reducible refine HONE.out.mono ?_)
        rintro e w3 ⟨A3, n3, c3, rfl, ho3⟩
        go_upto_region 8 with fail
        have hal : Below w3.heap.size w3 (w3.alloc (.cells #[.int .u16 (xk : Int), .int .u8 (xf : Int), .slice A3 n3 c3] 25)) := (Below.refl _ _).alloc (Nat.le_refl _) _
        have HX4 := Lib.hid ((HX.out.next ho3.2).next hal)
        have HBW4 := Lib.hid (bnext' (bnext' HBW.out ho3.2) hal)
        have HOX := Lib.hid (ho3.next hal)
        have HTB : Hid (Bk (w3.alloc (.cells #[.int .u16 (xk : Int), .int .u8 (xf : Int), .slice A3 n3 c3] 25)) w3.heap.size #[.int .u16 (xk : Int), .int .u8 (xf : Int), .slice A3 n3 c3] 25) := Lib.hid (Bk.new _ _ _)
        clear hal ho3 HX HBW HONE
        generalize hW4 : w3.alloc (.cells #[.int .u16 (xk : Int), .int .u8 (xf : Int), .slice A3 n3 c3] 25) = w4 at HX4 HBW4 HOX HTB ⊢
        clear hW4
        generalize w3.heap.size = g9 at HTB ⊢
        have x0 := HTB.out.cell 0
        have x1 := HTB.out.cell 1
        have x2 := HTB.out.cell 2
        simp at x0 x1 x2
        have wk : IntKind.u8.wrap (xk : Int) = (xk : Int) := by rw [IntKind.wrap_u8]; omega
        have HEN := Lib.hid fun W => rEnds_any xk W
        go_wp2_with fail
        (with_reducible refine (HEN.out _).mono ?_)
        rintro e w5 ⟨rfl, rfl⟩
        clear HEN wk
        cases hen : ends xk with
        | true =>
          have HPX : Hid (pc (ev true body) = (ks.map (·.1), 0)) := Lib.hid (by rw [HPE.out, if_pos hen]; simp [jn])
          have hn2 : n2 ≤ 100000 := by omega
          clear HPE hen x0 x1 x2 HBW4 HTB HOX
          have HX16 := HX4
          have hjn : ptk l = if mayP g (ks.map (·.1)) = true then ⟨f, t, g, ks.map (·.1), 0⟩ else ⟨0, 0, 0, [], 60⟩ := by rw [HSPEC.out, HPX.out, if_neg (by simp)]
          have HJN := Lib.hid hjn
          have hlk := HX16.out.ko.len
          have CM := Lib.hid (rpMay_any f t g ks A n2 c2 _ HX16.out.ko.rk hlk (by omega))
          clear hjn
          go_wp2_with (refine wpList_load_row rfl 52 (.tmp 7) rfl gp rfl 52 (pkl f t g A n2 c2) (0, 0) _ HX16.out.pk Try.underlying52 rfl (pk_info _ _ _ _ _ _) ?_)
          (with_reducible refine CM.out.mono ?_)
          rintro e W8 ⟨rfl, hb8⟩
          have HX8 := Lib.hid (HX16.out.next hb8)
          clear hb8 HX16 CM
          cases hmay : mayP g (ks.map (·.1)) with
          | false =>
            have HE : Hid (ptk l = ⟨0, 0, 0, [], 60⟩) := Lib.hid (by rw [HJN.out, hmay]; rfl)
            clear hmay
            go_wp2_with (refine wpList_store_row rfl 52 (.tmp 2) (.tmp 63) rfl w.heap.size (pkl 0 0 0 none 0 0) rfl rfl 52 (pkl 0 0 0 none 0 0) HX8.out.an (pk_info _ _ _ _ _ _) rfl (pk_one _ _ _ _ _ _) ?_)
            have hz := HX8.out.an.row_ (pkl 0 0 0 none 0 0)
            have hbl9 := below_setRow HX8.out.bl (Nat.le_refl _) (pkl 0 0 0 none 0 0)
            generalize World.setRow _ _ _ = W9 at hz hbl9 ⊢
            have hz2 : W9.cell? ⟨w.heap.size, 2, none⟩ = _ := (mem_cell hz).1
            have hz3 : W9.cell? ⟨w.heap.size, 3, none⟩ = _ := (mem_cell hz).2
            have hz0 : W9.cell? ⟨w.heap.size, 0, none⟩ = _ := (mem_head hz).1
            have hz1 : W9.cell? ⟨w.heap.size, 1, none⟩ = _ := (mem_head hz).2
            refine bodyPost_ret (v := .tuple #[.agg (pkl 0 0 0 none 0 0), .int .i64 60]) (by simp [results, Try.results27, go_sem, hz0, hz1, hz2, hz3]) rfl (by rw [HE.out]; exact pk_none w W9 _ hbl9)
          | true =>
            have HE : Hid (ptk l = ⟨f, t, g, ks.map (·.1), 0⟩) := Lib.hid (by rw [HJN.out, hmay]; rfl)
            clear hmay
            go_wp2_with (first
              | (refine wpList_load_row rfl 52 (.tmp 7) rfl gp rfl 52 (pkl f t g A n2 c2) (0, 0) _ HX8.out.pk Try.underlying52 rfl (pk_info _ _ _ _ _ _) ?_)
              | (refine wpList_store_row rfl 52 (.tmp 2) (.tmp 64) rfl w.heap.size (pkl f t g A n2 c2) rfl rfl 52 (pkl 0 0 0 none 0 0) HX8.out.an (pk_info _ _ _ _ _ _) rfl (pk_one _ _ _ _ _ _) ?_))
            obtain ⟨hz, hbl9, hrk9⟩ := HX8.out.row (pkl f t g A n2 c2)
            generalize World.setRow _ _ _ = W9 at hz hbl9 hrk9 ⊢
            have hz2 : W9.cell? ⟨w.heap.size, 2, none⟩ = _ := (mem_cell hz).1
            have hz3 : W9.cell? ⟨w.heap.size, 3, none⟩ = _ := (mem_cell hz).2
            have hz0 : W9.cell? ⟨w.heap.size, 0, none⟩ = _ := (mem_head hz).1
            have hz1 : W9.cell? ⟨w.heap.size, 1, none⟩ = _ := (mem_head hz).2
            refine bodyPost_ret (v := .tuple #[.agg (pkl f t g A n2 c2), .int .i64 0]) (by simp [results, Try.results27, go_sem, hz0, hz1, hz2, hz3]) rfl (by rw [HE.out]; exact ⟨A, n2, c2, ks, rfl, rfl, hlk, hrk9, hn2, hbl9⟩)
        | false =>
          have hpe2 : pc (ev true body) = jn (ks.map (·.1)) (match take ⟨xk, xf, xv⟩ with
            | none => ([], 50)
            | some c => jn [c] (pc (ev true (body.drop (k + z))))) := by rw [HPE.out, if_neg (by rw [hen]; simp)]
          have hoc := HOX.out.cap
          have hol := HOX.out.len
          have CTK := Lib.hid ((rTake_all ⟨xk, xf, xv⟩ A3 n3 c3 w4 HXO.out.1 hol (by rw [← hol]; exact HXO.out.2) hoc.1 hoc.2 HOX.out.row (owns_none HOX.out.1).1).mono fun _ _ h => h.oneF)
          generalize take ⟨xk, xf, xv⟩ = tx at CTK hpe2
          have HPE2 := Lib.hid hpe2
          clear hpe2 hoc hol HPE hen HOX
          go_wp2_with fail
          (with_reducible refine CTK.out.mono ?_)
          rintro e w6 ⟨s, rfl, hcf, hb6⟩
          have hst := store_new (tx.getD zero) s w6
          go_upto_region 12 with fail
          clear hst x0 x1 x2
          have hal : Below w6.heap.size w6 (w6.alloc (.cells (cv (tx.getD zero) s) 32)) := (Below.refl _ _).alloc (Nat.le_refl _) _
          have HX7 := Lib.hid ((HX4.out.next hb6).next hal)
          have HBW7 := Lib.hid (bnext' (bnext' HBW4.out hb6) hal)
          have HCF := Lib.hid ((hcf.next hal).lower HX4.out.bw)
          have HC12 : Hid (Bk (w6.alloc (.cells (cv (tx.getD zero) s) 32)) w6.heap.size (cv (tx.getD zero) s) 32) := Lib.hid (Bk.new _ _ _)
          clear hal hb6 hcf HX4 HBW4 HTB CTK
          generalize hW7 : w6.alloc (.cells (cv (tx.getD zero) s) 32) = w7 at HX7 HBW7 HCF HC12 ⊢
          clear hW7
          generalize w6.heap.size = g12 at HC12 ⊢
          cases tx with
          | none =>
            have HE : Hid (ptk l = ⟨0, 0, 0, [], 50⟩) := Lib.hid (by rw [HSPEC.out, HPE2.out]; rfl)
            have e50 : terr none = 50 := rfl
            rw [e50]
            clear e50 HPE2 HCF HC12 HBW7
            go_wp2_with (refine wpList_store_row rfl 52 (.tmp 2) (.tmp 51) rfl w.heap.size (pkl 0 0 0 none 0 0) rfl rfl 52 (pkl 0 0 0 none 0 0) HX7.out.an (pk_info _ _ _ _ _ _) rfl (pk_one _ _ _ _ _ _) ?_)
            have hz := HX7.out.an.row_ (pkl 0 0 0 none 0 0)
            have hbl9 := below_setRow HX7.out.bl (Nat.le_refl _) (pkl 0 0 0 none 0 0)
            generalize World.setRow _ _ _ = W9 at hz hbl9 ⊢
            have hz2 : W9.cell? ⟨w.heap.size, 2, none⟩ = _ := (mem_cell hz).1
            have hz3 : W9.cell? ⟨w.heap.size, 3, none⟩ = _ := (mem_cell hz).2
            have hz0 : W9.cell? ⟨w.heap.size, 0, none⟩ = _ := (mem_head hz).1
            have hz1 : W9.cell? ⟨w.heap.size, 1, none⟩ = _ := (mem_head hz).2
            refine bodyPost_ret (v := .tuple #[.agg (pkl 0 0 0 none 0 0), .int .i64 50]) (by simp [results, Try.results27, go_sem, hz0, hz1, hz2, hz3]) rfl (by rw [HE.out]; exact pk_none w W9 _ hbl9)
          | some q =>
            have HPE3 : Hid (pc (ev true body) = jn ((ks ++ [(q, s)]).map (·.1)) (pc (ev true (body.drop (k + z))))) := Lib.hid (by rw [HPE2.out]; simp only; rw [jn_jn]; simp)
            have e50 : terr (some q) = 0 := rfl
            rw [e50]
            clear e50 HPE2
            have HC12 : Hid (Bk w7 g12 (cv q s) 32) := HC12
            have HCF : Hid (ChF B w7 q s) := HCF
            obtain ⟨_, k3⟩ := mem_cell HX7.out.pk
            go_upto_region 14 with fail
            go_upto_region 15 with (refine wpList_load_row rfl 32 (.tmp 12) rfl g12 rfl 32 (cv q s) (0, 0) _ HC12.out Try.underlying32 rfl (HCI.out _ _) ?_; refine Hid.out ?_)
            refine Lib.hid ?_
            refine wpList_buildSlice rfl 50 32 1 #[(0, .tmp 55)] rfl (cv q s) iC _ Try.underlying50 HI0.out HI1.out (by rw [HI2.out]; decide) (by rw [HI2.out]; decide) (by simp only [List.map_toArray, List.map_cons, List.map_nil]; exact fill_chunk q s iC (.agg zlit) HI2.out) ?_
            have hal : Below w7.heap.size w7 (w7.alloc (.cells (cv q s) 32)) := (Below.refl _ _).alloc (Nat.le_refl _) _
            have HX8 := Lib.hid (HX7.out.next hal)
            have HBW8 := Lib.hid (bnext' HBW7.out hal)
            have HCF8 := Lib.hid (HCF.out.next hal)
            have hnew : Row (w7.alloc (.cells (cv q s) 32)) (some ⟨w7.heap.size, 0, none⟩) (cv q s).toList := (Bk.new w7 (cv q s) 32).row
            refine wpList_append_lies _ rfl (.tmp 54) (.tmp 56) 50 rfl B 32 iC _ 15 152 Try.underlying50 HI0.out HI1.out HI2.out HI3.out rfl (by decide) _ n2 _ rfl HX8.out.ko.1 ⟨w7.heap.size, 0, none⟩ 1 1 (cv q s).toList rfl rfl (bcells hnew) (cv_cell q s) (by omega) (by unfold maxLen; omega) (by omega) HX8.out.bw _ rfl ?_
            intro g14 cap14 w10 hown10 hgrow10 _ _
            have HN := Lib.hid (HX8.out.snoc (q := (q, s)) HCF8.out hown10 hgrow10)
            have hpk10 : Bk w10 gp (pkl f t g A n2 c2) 52 := (hgrow10.block _ HX8.out.pk.lt (fun e => by have := (HX8.out.ko.1.lt _ e.symm).1; have := HX8.out.gb; omega)).trans HX8.out.pk
            obtain ⟨_, k3'⟩ := mem_cell hpk10
            have f3 := hpk10.frozen 3
            have HBN : Hid (Below W3.heap.size W3 (w10.setCell ⟨gp, 3, none⟩ (.slice (some ⟨g14, 0, none⟩) (n2 + 1) cap14))) := Lib.hid (by
              have h1 := HBW8.out.grown hgrow10 HBW8.out.size (fun j e => by have := (HX8.out.ko.1.lt _ e).1; have := HX8.out.gb; have := HGP.out; omega)
              exact below_ot h1 ((Ot.refl w10 gp).set 3 _) h1.size HGP.out)
            clear hal hnew k3 hown10 hgrow10 hpk10 HX7 HBW7 HCF HC12 HX8 HBW8 HCF8
            go_wp2_with fail
            go_roundw
            case rel => exact ⟨k + z, _, n2 + 1, cap14, ks ++ [(q, s)], hks, by go_num, by omega, HPE3, HN, HBN⟩
            case measure => simp [intOf]; omega
    · have HPX : Hid (pc (ev true body) = (ks.map (·.1), 0)) := Lib.hid (by
        rw [HPXR.out, List.drop_of_length_le (by rw [HBL.out]; omega), ev_nil]
        simp [pc, jn])
      have hn2 : n2 ≤ 100000 := by omega
      clear HPXR HBW
      have HX16 := HX
      have hjn : ptk l = if mayP g (ks.map (·.1)) = true then ⟨f, t, g, ks.map (·.1), 0⟩ else ⟨0, 0, 0, [], 60⟩ := by rw [HSPEC.out, HPX.out, if_neg (by simp)]
      have HJN := Lib.hid hjn
      have hlk := HX16.out.ko.len
      have CM := Lib.hid (rpMay_any f t g ks A n2 c2 _ HX16.out.ko.rk hlk (by omega))
      clear hjn
      go_wp2_with (refine wpList_load_row rfl 52 (.tmp 7) rfl gp rfl 52 (pkl f t g A n2 c2) (0, 0) _ HX16.out.pk Try.underlying52 rfl (pk_info _ _ _ _ _ _) ?_)
      (with_reducible refine CM.out.mono ?_)
      rintro e W8 ⟨rfl, hb8⟩
      have HX8 := Lib.hid (HX16.out.next hb8)
      clear hb8 HX16 CM
      cases hmay : mayP g (ks.map (·.1)) with
      | false =>
        have HE : Hid (ptk l = ⟨0, 0, 0, [], 60⟩) := Lib.hid (by rw [HJN.out, hmay]; rfl)
        clear hmay
        go_wp2_with (refine wpList_store_row rfl 52 (.tmp 2) (.tmp 63) rfl w.heap.size (pkl 0 0 0 none 0 0) rfl rfl 52 (pkl 0 0 0 none 0 0) HX8.out.an (pk_info _ _ _ _ _ _) rfl (pk_one _ _ _ _ _ _) ?_)
        have hz := HX8.out.an.row_ (pkl 0 0 0 none 0 0)
        have hbl9 := below_setRow HX8.out.bl (Nat.le_refl _) (pkl 0 0 0 none 0 0)
        generalize World.setRow _ _ _ = W9 at hz hbl9 ⊢
        have hz2 : W9.cell? ⟨w.heap.size, 2, none⟩ = _ := (mem_cell hz).1
        have hz3 : W9.cell? ⟨w.heap.size, 3, none⟩ = _ := (mem_cell hz).2
        have hz0 : W9.cell? ⟨w.heap.size, 0, none⟩ = _ := (mem_head hz).1
        have hz1 : W9.cell? ⟨w.heap.size, 1, none⟩ = _ := (mem_head hz).2
        refine bodyPost_ret (v := .tuple #[.agg (pkl 0 0 0 none 0 0), .int .i64 60]) (by simp [results, Try.results27, go_sem, hz0, hz1, hz2, hz3]) rfl (by rw [HE.out]; exact pk_none w W9 _ hbl9)
      | true =>
        have HE : Hid (ptk l = ⟨f, t, g, ks.map (·.1), 0⟩) := Lib.hid (by rw [HJN.out, hmay]; rfl)
        clear hmay
        go_wp2_with (first
          | (refine wpList_load_row rfl 52 (.tmp 7) rfl gp rfl 52 (pkl f t g A n2 c2) (0, 0) _ HX8.out.pk Try.underlying52 rfl (pk_info _ _ _ _ _ _) ?_)
          | (refine wpList_store_row rfl 52 (.tmp 2) (.tmp 64) rfl w.heap.size (pkl f t g A n2 c2) rfl rfl 52 (pkl 0 0 0 none 0 0) HX8.out.an (pk_info _ _ _ _ _ _) rfl (pk_one _ _ _ _ _ _) ?_))
        obtain ⟨hz, hbl9, hrk9⟩ := HX8.out.row (pkl f t g A n2 c2)
        generalize World.setRow _ _ _ = W9 at hz hbl9 hrk9 ⊢
        have hz2 : W9.cell? ⟨w.heap.size, 2, none⟩ = _ := (mem_cell hz).1
        have hz3 : W9.cell? ⟨w.heap.size, 3, none⟩ = _ := (mem_cell hz).2
        have hz0 : W9.cell? ⟨w.heap.size, 0, none⟩ = _ := (mem_head hz).1
        have hz1 : W9.cell? ⟨w.heap.size, 1, none⟩ = _ := (mem_head hz).2
        refine bodyPost_ret (v := .tuple #[.agg (pkl f t g A n2 c2), .int .i64 0]) (by simp [results, Try.results27, go_sem, hz0, hz1, hz2, hz3]) rfl (by rw [HE.out]; exact ⟨A, n2, c2, ks, rfl, rfl, hlk, hrk9, hn2, hbl9⟩)
end Go.Proofs.Ytbliipjiilmbcaa
/-
  The walk of PktTakes.
-/
namespace Go.Proofs.Ytbliipjiilmbcaa
open Go.RowKit Wire Tlv Chunk Pkt

set_option maxRecDepth 100000 in
set_option maxHeartbeats 4000000 in
theorem pktTakes_walk (a0 : Option Addr) (len0 cap0 : Nat) (z0 : List Int) (w : World) (w0 : IsRow .u8 w a0 len0 cap0 z0) :
    Calls Try.prog 7 #[.slice a0 len0 cap0] w fun e w' => e = .returned (.bool true) ∧ Below w.heap.size w w' := by
  obtain ⟨l, hl, hlc, hcm, hb, hr⟩ := w0.bytes
  have hm9 : len0 ≤ 9223372036854775807 := by unfold maxLen at hcm; omega
  have HK := Lib.hid pkknown_any
  by_cases hn : (5000 : Int) < (len0 : Int)
  · clear w0 hr hb hl hlc hcm
    go_enter Try.func7, Try.ntmps7
    go_wp2_with fail
    refine (HK.out _).mono ?_
    rintro e w1 ⟨rfl, hb1⟩
    go_wp2_with fail
    go_ret
    exact ⟨rfl, hb1⟩
  · have hn2 : len0 ≤ 100000 := by omega
    have d1 : decide ((5000 : Int) < (len0 : Int)) = false := by simpa using hn
    have CT := Lib.hid fun W (hW : Below w.heap.size w W) => pTake_any a0 len0 cap0 l W hl hn2 hlc hcm hb (hr.below hW)
    have CR := Lib.hid fun W (hW : Below w.heap.size w W) => rpTake_any a0 len0 cap0 l W hl hn2 hlc hcm hb (hr.below hW)
    generalize ptk l = p at CT CR
    clear hn hm9 w0 hr hb hl hlc hcm
    go_enter Try.func7, Try.ntmps7
    go_wp2_with fail
    refine (HK.out _).mono ?_
    rintro e w1 ⟨rfl, hb1⟩
    have HB1 := Lib.hid hb1
    clear hb1
    go_wp2_with fail
    (with_reducible refine (CT.out _ HB1.out).mono ?_)
    rintro e w2 ⟨A2, n2, c2, k2, rfl, hk2, hl2, hr2, hm2, hb2⟩
    have HK2 := Lib.hid hk2
    have HL2 := Lib.hid hl2
    have HM2 := Lib.hid hm2
    have hst := pkstore_new p.f p.t p.g A2 n2 c2 w2
    have hal : Below w2.heap.size w2 (w2.alloc (.cells (pkl p.f p.t p.g A2 n2 c2) 52)) := (Below.refl _ _).alloc (Nat.le_refl _) _
    have HR2 := Lib.hid (hr2.next hal)
    have HB2 := Lib.hid (bnext' (bnext' HB1.out hb2) hal)
    have HQ2 : Hid (Bk (w2.alloc (.cells (pkl p.f p.t p.g A2 n2 c2) 52)) w2.heap.size (pkl p.f p.t p.g A2 n2 c2) 52) := Lib.hid (Bk.new _ _ _)
    clear hk2 hl2 hr2 hm2 hb2 hal HB1
    go_upto_region 6 with fail
    clear hst
    generalize hW3 : w2.alloc (.cells (pkl p.f p.t p.g A2 n2 c2) 52) = W3 at HR2 HB2 HQ2 ⊢
    clear hW3
    generalize w2.heap.size = g2 at HQ2 ⊢
    go_wp2_with fail
    (with_reducible refine (CR.out _ HB2.out).mono ?_)
    rintro e w4 ⟨A4, n4, c4, k4, rfl, hk4, hl4, hr4, hm4, hb4⟩
    have hnn : n2 = n4 := (len_of HK2.out HL2.out).trans (len_of hk4 hl4).symm
    subst hnn
    have HK4 := Lib.hid hk4
    have hst := pkstore_new p.f p.t p.g A4 n2 c4 w4
    have hal : Below w4.heap.size w4 (w4.alloc (.cells (pkl p.f p.t p.g A4 n2 c4) 52)) := (Below.refl _ _).alloc (Nat.le_refl _) _
    have HR4 := Lib.hid (hr4.next hal)
    have HR5 := Lib.hid ((HR2.out.next hb4).next hal)
    have HB4 := Lib.hid (bnext' (bnext' HB2.out hb4) hal)
    have HQ5 := Lib.hid ((HQ2.out.next hb4).next hal)
    have HQ4 : Hid (Bk (w4.alloc (.cells (pkl p.f p.t p.g A4 n2 c4) 52)) w4.heap.size (pkl p.f p.t p.g A4 n2 c4) 52) := Lib.hid (Bk.new _ _ _)
    clear hk4 hl4 hr4 hm4 hb4 hal HB2 HR2 HQ2
    go_upto_region 7 with fail
    clear hst
    generalize hW5 : w4.alloc (.cells (pkl p.f p.t p.g A4 n2 c4) 52) = W5 at HR4 HR5 HB4 HQ5 HQ4 ⊢
    clear hW5
    generalize w4.heap.size = g4 at HQ4 ⊢
    have HS := Lib.hid (pSame_any p.f p.t p.g k2 k4 A2 A4 n2 c2 c4 W5 HR5.out HR4.out HL2.out (HK2.out.trans HK4.out.symm) (by have := HM2.out; omega))
    go_wp2_with (first
      | (refine wpList_load_row rfl 52 (.tmp 3) rfl g2 rfl 52 (pkl p.f p.t p.g A2 n2 c2) (0, 0) _ HQ5.out Try.underlying52 rfl (pk_info _ _ _ _ _ _) ?_)
      | (refine wpList_load_row rfl 52 (.tmp 5) rfl g4 rfl 52 (pkl p.f p.t p.g A4 n2 c4) (0, 0) _ HQ4.out Try.underlying52 rfl (pk_info _ _ _ _ _ _) ?_))
    (with_reducible refine HS.out.mono ?_)
    rintro e w7 ⟨rfl, hb7⟩
    have HB7 := Lib.hid (bnext' HB4.out hb7)
    clear hb7
    go_wp2_with fail
    go_ret
    exact ⟨rfl, HB7.out⟩
end Go.Proofs.Ytbliipjiilmbcaa
