/-
  ChunkPuts: the walk.
-/
import Derived.Test.YtjlemghkaodkkaaChunkKnown
import Derived.Test.YtjlemghkaodkkaaChunkRPut
import Derived.Test.YtjlemghkaodkkaaChunkIn
import Derived.Deep.RegionHeld3
namespace Go.Proofs.Ytjlemghkaodkkaa
open Go.RowKit Wire Tlv Chunk

theorem rfMay_lit (c : Ck) (s : Ls) (w : World) (h : Ch w c s) :
    Calls Try.prog 13 #[.agg #[.int .u8 (c.kd : Int), .int .u8 (c.fl : Int), .int .u32 (c.tag : Int), .int .u32 (c.rw : Int), .int .u32 (c.tsn : Int), .int .u16 (c.out : Int), .int .u16 (c.inn : Int), .int .u16 (c.sid : Int), .int .u16 (c.ssn : Int), .int .u32 (c.ppid : Int),
  .slice s.dA s.dn s.dc, .slice s.aA s.an s.ac, .slice s.gA s.gn s.gc, .slice s.uA s.un s.uc, .slice s.cA s.cn s.cc]] w fun e w' => e = .returned (.bool (mayB c)) ∧ Below w.heap.size w w' := rfMay_any c s w h
set_option maxRecDepth 100000 in
set_option maxHeartbeats 4000000 in
theorem chunkPuts_walk (c : Ck) (s : Ls) (w : World) (h : Ch w c s) :
    Calls Try.prog 3 #[.agg (cv c s)] w fun e w' => e = .returned (.bool true) ∧ Below w.heap.size w w' := by
  have HU : Hid (U1 w (cv c s) _) := Lib.hid (U1.new w (cv c s))
  have HC : Hid (Ch _ c s) := Lib.hid (h.alloc (.cells (cv c s) 29))
  have HCI := Lib.hid (cv_info c s)
  have HK := Lib.hid known_any
  have CG := Lib.hid fun W (hW : Ch W c s) => rGreat_any c s W hW
  have CP := Lib.hid fun W (hW : Ch W c s) => ckPut_any c s W hW
  have CR := Lib.hid fun W (hW : Ch W c s) (hcn : s.cn ≤ 5000) => rfPut_any c s W hW hcn
  have CM := Lib.hid fun W (hW : Ch W c s) => ckMay_lit c s W hW
  have CN := Lib.hid fun W (hW : Ch W c s) => rfMay_lit c s W hW
  generalize mayB c = b at CM CN
  generalize cput c = p at CP CR
  obtain ⟨L, err⟩ := p
  clear h
  go_enter Try.func3, Try.ntmps3
  go_upto_region 1 with fail
  generalize World.alloc w _ = W1 at HU HC ⊢
  go_wp2_with fail
  refine (HK.out _).mono ?_
  rintro e W2 ⟨rfl, hb2⟩
  have HC2 := Lib.hid (HC.out.next hb2)
  have HU2 := Lib.hid (HU.out.next hb2)
  clear hb2 HU HC
  go_wp2_with ((refine wpList_load_row rfl 29 (.tmp 1) rfl w.heap.size rfl 29 (cv c s) (0, 0) _ HU2.out.1 Try.underlying29 rfl HCI.out ?_))
  (with_reducible refine (CG.out _ HC2.out).mono ?_)
  rintro e W3 ⟨bg, rfl, hcn, hb3⟩
  have HC3 := Lib.hid (HC2.out.next hb3)
  have HU3 := Lib.hid (HU2.out.next hb3)
  have HCN := Lib.hid hcn
  clear hb3 HU2 HC2 hcn
  cases bg
  · go_wp2_with ((refine wpList_load_row rfl 29 (.tmp 1) rfl w.heap.size rfl 29 (cv c s) (0, 0) _ HU3.out.1 Try.underlying29 rfl HCI.out ?_))
    (with_reducible refine (CP.out _ HC3.out).mono ?_)
    rintro e W4 ⟨A4, n4, c4, rfl, ho4⟩
    have HC4 := Lib.hid (HC3.out.next ho4.2)
    have HU4 := Lib.hid (HU3.out.next ho4.2)
    have HO4 := Lib.hid ho4
    clear ho4 HU3 HC3
    go_wp2_with ((refine wpList_load_row rfl 29 (.tmp 1) rfl w.heap.size rfl 29 (cv c s) (0, 0) _ HU4.out.1 Try.underlying29 rfl HCI.out ?_))
    (with_reducible refine (CR.out _ HC4.out (by first | exact HCN.out rfl | exact HCN.out trivial)).mono ?_)
    rintro e W5 ⟨A5, n5, c5, rfl, ho5⟩
    have HC5 := Lib.hid (HC4.out.next ho5.2)
    have HU5 := Lib.hid (HU4.out.next ho5.2)
    have HO4' := Lib.hid (HO4.out.next ho5.2)
    have HO5 := Lib.hid ho5
    clear ho5 HU4 HC4 HO4 HCN
    go_upto_region 7 with fail
    have hcv : ∀ W : World, Below W5.heap.size W5 W → (convert 24 9 (.slice A4 n4 c4)).run Try.prog W = .ok (.string (strOf L)) W ∧ (convert 24 9 (.slice A5 n5 c5)).run Try.prog W = .ok (.string (strOf L)) W := fun W hW =>
      ⟨run_strOf (P := Try.prog) (src := 24) (dst := 9) Try.underlying24 Try.underlying5 Try.underlying9 HO4'.out.len (HO4'.out.row.below hW), run_strOf (P := Try.prog) (src := 24) (dst := 9) Try.underlying24 Try.underlying5 Try.underlying9 HO5.out.len (HO5.out.row.below hW)⟩
    generalize strOf L = str at hcv
    have hS : ∀ W, Below W5.heap.size W5 W → (W.cell? ⟨w.heap.size, 0, none⟩ = some (.int .u8 (c.kd : Int)) ∧ W.cell? ⟨w.heap.size, 1, none⟩ = some (.int .u8 (c.fl : Int)) ∧ W.cell? ⟨w.heap.size, 2, none⟩ = some (.int .u32 (c.tag : Int)) ∧ W.cell? ⟨w.heap.size, 3, none⟩ = some (.int .u32 (c.rw : Int)) ∧ W.cell? ⟨w.heap.size, 4, none⟩ = some (.int .u32 (c.tsn : Int)) ∧ W.cell? ⟨w.heap.size, 5, none⟩ = some (.int .u16 (c.out : Int)) ∧ W.cell? ⟨w.heap.size, 6, none⟩ = some (.int .u16 (c.inn : Int)) ∧ W.cell? ⟨w.heap.size, 7, none⟩ = some (.int .u16 (c.sid : Int)) ∧ W.cell? ⟨w.heap.size, 8, none⟩ = some (.int .u16 (c.ssn : Int)) ∧ W.cell? ⟨w.heap.size, 9, none⟩ = some (.int .u32 (c.ppid : Int)) ∧ W.cell? ⟨w.heap.size, 10, none⟩ = some (.slice s.dA s.dn s.dc) ∧ W.cell? ⟨w.heap.size, 11, none⟩ = some (.slice s.aA s.an s.ac) ∧ W.cell? ⟨w.heap.size, 12, none⟩ = some (.slice s.gA s.gn s.gc) ∧ W.cell? ⟨w.heap.size, 13, none⟩ = some (.slice s.uA s.un s.uc) ∧ W.cell? ⟨w.heap.size, 14, none⟩ = some (.slice s.cA s.cn s.cc) ∧ (convert 24 9 (.slice A4 n4 c4)).run Try.prog W = .ok (.string str) W ∧ (convert 24 9 (.slice A5 n5 c5)).run Try.prog W = .ok (.string str) W) := fun W hW => by
      have hV := HU5.out.next hW
      exact ⟨hV.1.c0, hV.1.c1, hV.1.c2, hV.1.c3, hV.1.c4, hV.1.c5, hV.1.c6, hV.1.c7, hV.1.c8, hV.1.c9, hV.1.c10, hV.1.c11, hV.1.c12, hV.1.c13, hV.1.c14, (hcv W hW).1, (hcv W hW).2⟩
    have HS := Lib.hid hS
    have HB := Lib.hid fun (W : World) (hW : Below W5.heap.size W5 W) => HC5.out.next hW
    have HE := Lib.hid HU5.out.2
    have hud : Below W5.heap.size W5 W5.drew := (Below.refl _ _).drew
    have hs := hS _ hud
    clear hS hcv HU5 HC5 HO4' HO5 HK CG CP CR HCI
    cases b
    all_goals
      first | go_region_held3 (fun W => W.cell? ⟨w.heap.size, 0, none⟩ = some (.int .u8 (c.kd : Int)) ∧ W.cell? ⟨w.heap.size, 1, none⟩ = some (.int .u8 (c.fl : Int)) ∧ W.cell? ⟨w.heap.size, 2, none⟩ = some (.int .u32 (c.tag : Int)) ∧ W.cell? ⟨w.heap.size, 3, none⟩ = some (.int .u32 (c.rw : Int)) ∧ W.cell? ⟨w.heap.size, 4, none⟩ = some (.int .u32 (c.tsn : Int)) ∧ W.cell? ⟨w.heap.size, 5, none⟩ = some (.int .u16 (c.out : Int)) ∧ W.cell? ⟨w.heap.size, 6, none⟩ = some (.int .u16 (c.inn : Int)) ∧ W.cell? ⟨w.heap.size, 7, none⟩ = some (.int .u16 (c.sid : Int)) ∧ W.cell? ⟨w.heap.size, 8, none⟩ = some (.int .u16 (c.ssn : Int)) ∧ W.cell? ⟨w.heap.size, 9, none⟩ = some (.int .u32 (c.ppid : Int)) ∧ W.cell? ⟨w.heap.size, 10, none⟩ = some (.slice s.dA s.dn s.dc) ∧ W.cell? ⟨w.heap.size, 11, none⟩ = some (.slice s.aA s.an s.ac) ∧ W.cell? ⟨w.heap.size, 12, none⟩ = some (.slice s.gA s.gn s.gc) ∧ W.cell? ⟨w.heap.size, 13, none⟩ = some (.slice s.uA s.un s.uc) ∧ W.cell? ⟨w.heap.size, 14, none⟩ = some (.slice s.cA s.cn s.cc) ∧ (convert 24 9 (.slice A4 n4 c4)).run Try.prog W = .ok (.string str) W ∧ (convert 24 9 (.slice A5 n5 c5)).run Try.prog W = .ok (.string str) W) (first | exact hs | exact HS.out _ (by assumption)) ((first | (go_at_call 12; (with_reducible refine (CM.out _ (HB.out _ ?_)).mono ?_); assumption; rintro e w3 ⟨rfl, hg3⟩; have hd3 := bnext' (w := W5) (by assumption) hg3; clear hg3) | (go_at_call 13; (with_reducible refine (CN.out _ (HB.out _ ?_)).mono ?_); assumption; rintro e w3 ⟨rfl, hg3⟩; have hd3 := bnext' (w := W5) (by assumption) hg3; clear hg3))) | fail
    all_goals
      go_wp2_with fail
      go_ret
      exact ⟨rfl, bnext' HE.out hd3⟩
  · go_wp2_with fail
    go_ret
    exact ⟨rfl, HU3.out.2⟩
end Go.Proofs.Ytjlemghkaodkkaa
