/-
  The walk of PktPuts.
-/
import Derived.Test.YtbliipjiilmbcaaYP1h
import Derived.Test.YtbliipjiilmbcaaYP2f
import Derived.Test.YtbliipjiilmbcaaYP1f
import Derived.Deep.RegionHeld3
namespace Go.Proofs.Ytbliipjiilmbcaa
open Go.RowKit Wire Tlv Chunk Pkt

set_option maxRecDepth 100000 in
set_option maxHeartbeats 8000000 in
theorem pktPuts_walk (f t g : Nat) (A : Option Addr) (n c : Nat) (ks : List Cq) (w : World) (hp : f < 65536 ∧ t < 65536 ∧ g < 4294967296 ∧ ks.length = n ∧ n ≤ 1000000000000 ∧ Rk w A ks) :
    Calls Try.prog 6 #[.agg (pkl f t g A n c)] w fun e w' => e = .returned (.bool true) ∧ Below w.heap.size w w' := by
  obtain ⟨hf, ht, hg, hl, hn, h⟩ := hp
  have HP : Hid (Pq w (pkl f t g A n c) _) := Lib.hid (Pq.new w (pkl f t g A n c))
  have HK := Lib.hid pkknown_any
  have CG := Lib.hid fun W (hW : Below w.heap.size w W) => rpGreat_any f t g ks A n c W (h.next hW) hl hn
  have CP := Lib.hid fun W (hW : Below w.heap.size w W) (hn : n ≤ 300) => pktPut_any f t g ks A n c W hf ht hg (h.next hW) hl (by omega)
  have CR := Lib.hid fun W (hW : Below w.heap.size w W) (hn : n ≤ 300) (hcn : ∀ k ∈ ks, k.2.cn ≤ 5000) => rpPut_any f t g ks A n c W hf ht hg (h.next hW) hl (by omega) hcn
  have CM := Lib.hid fun W (hW : Below w.heap.size w W) (hn : n ≤ 300) => pktMay_any f t g ks A n c W (h.next hW) hl (by omega)
  have CN := Lib.hid fun W (hW : Below w.heap.size w W) (hn : n ≤ 300) => rpMay_any f t g ks A n c W (h.next hW) hl (by omega)
  generalize mayP g (ks.map (·.1)) = b at CM CN
  generalize pput f t g (ks.map (·.1)) = p at CP CR
  obtain ⟨L, err⟩ := p
  clear h hf ht hg hl hn
  go_enter Try.func6, Try.ntmps6
  go_upto_region 1 with fail
  generalize World.alloc w _ = W1 at HP ⊢
  go_wp2_with fail
  refine (HK.out _).mono ?_
  rintro e W2 ⟨rfl, hb2⟩
  have HP2 := Lib.hid (HP.out.next hb2)
  have hbw := HP2.out.2
  clear hb2 HP
  go_wp2_with (refine wpList_load_row rfl 52 (.tmp 1) rfl w.heap.size rfl 52 (pkl f t g A n c) (0, 0) _ HP2.out.1 Try.underlying52 rfl (pk_info _ _ _ _ _ _) ?_)
  (with_reducible refine (CG.out _ hbw).mono ?_)
  rintro e W3 ⟨bg, rfl, hgr, hb3⟩
  have HP3 := Lib.hid (HP2.out.next hb3)
  have HGR := Lib.hid hgr
  clear hb3 hbw HP2 hgr
  cases bg
  · have hn300 : n ≤ 300 := by first | exact (HGR.out rfl).1 | exact (HGR.out trivial).1
    have HCN : Hid (∀ k ∈ ks, k.2.cn ≤ 5000) := Lib.hid (by first | exact (HGR.out rfl).2 | exact (HGR.out trivial).2)
    have hbw := HP3.out.2
    go_wp2_with (refine wpList_load_row rfl 52 (.tmp 1) rfl w.heap.size rfl 52 (pkl f t g A n c) (0, 0) _ HP3.out.1 Try.underlying52 rfl (pk_info _ _ _ _ _ _) ?_)
    (with_reducible refine (CP.out _ hbw hn300).mono ?_)
    rintro e W4 ⟨A4, n4, c4, rfl, ho4⟩
    have HP4 := Lib.hid (HP3.out.next ho4.2)
    have HO4 := Lib.hid ho4
    clear ho4 HP3 hbw
    have hbw := HP4.out.2
    go_wp2_with (refine wpList_load_row rfl 52 (.tmp 1) rfl w.heap.size rfl 52 (pkl f t g A n c) (0, 0) _ HP4.out.1 Try.underlying52 rfl (pk_info _ _ _ _ _ _) ?_)
    (with_reducible refine (CR.out _ hbw hn300 HCN.out).mono ?_)
    rintro e W5 ⟨A5, n5, c5, rfl, ho5⟩
    have HP5 := Lib.hid (HP4.out.next ho5.2)
    have HO4' := Lib.hid (HO4.out.next ho5.2)
    have HO5 := Lib.hid ho5
    clear ho5 HP4 HO4 HCN HGR hbw
    go_upto_region 7 with fail
    have hcv : ∀ W : World, Below W5.heap.size W5 W → (convert 23 9 (.slice A4 n4 c4)).run Try.prog W = .ok (.string (strOf L)) W ∧ (convert 23 9 (.slice A5 n5 c5)).run Try.prog W = .ok (.string (strOf L)) W := fun W hW =>
      ⟨run_strOf (P := Try.prog) (src := 23) (dst := 9) Try.underlying23 Try.underlying5 Try.underlying9 HO4'.out.len (HO4'.out.row.below hW), run_strOf (P := Try.prog) (src := 23) (dst := 9) Try.underlying23 Try.underlying5 Try.underlying9 HO5.out.len (HO5.out.row.below hW)⟩
    generalize strOf L = str at hcv
    have hS : ∀ W, Below W5.heap.size W5 W → (W.cell? ⟨w.heap.size, 0, none⟩ = some (.int .u16 (f : Int)) ∧ W.cell? ⟨w.heap.size, 1, none⟩ = some (.int .u16 (t : Int)) ∧ W.cell? ⟨w.heap.size, 2, none⟩ = some (.int .u32 (g : Int)) ∧ W.cell? ⟨w.heap.size, 3, none⟩ = some (.slice A n c) ∧ (convert 23 9 (.slice A4 n4 c4)).run Try.prog W = .ok (.string str) W ∧ (convert 23 9 (.slice A5 n5 c5)).run Try.prog W = .ok (.string str) W) := fun W hW => by
      have hV := (HP5.out.next hW).1
      exact ⟨(mem_head hV).1, (mem_head hV).2, (mem_cell hV).1, (mem_cell hV).2, (hcv W hW).1, (hcv W hW).2⟩
    have HS := Lib.hid hS
    have HB := Lib.hid fun (W : World) (hW : Below W5.heap.size W5 W) => bnext' HP5.out.2 hW
    have HE := Lib.hid HP5.out.2
    have hud : Below W5.heap.size W5 W5.drew := (Below.refl _ _).drew
    have hs := hS _ hud
    clear hS hcv HP5 HO4' HO5 HK CG CP CR
    cases b
    all_goals
      first | go_region_held3 (fun W => W.cell? ⟨w.heap.size, 0, none⟩ = some (.int .u16 (f : Int)) ∧ W.cell? ⟨w.heap.size, 1, none⟩ = some (.int .u16 (t : Int)) ∧ W.cell? ⟨w.heap.size, 2, none⟩ = some (.int .u32 (g : Int)) ∧ W.cell? ⟨w.heap.size, 3, none⟩ = some (.slice A n c) ∧ (convert 23 9 (.slice A4 n4 c4)).run Try.prog W = .ok (.string str) W ∧ (convert 23 9 (.slice A5 n5 c5)).run Try.prog W = .ok (.string str) W) (first | exact hs | exact HS.out _ (by assumption)) ((first | (go_at_call 24; (with_reducible refine (CM.out _ (HB.out _ ?_) hn300).mono ?_); assumption; rintro e w3 ⟨rfl, hg3⟩; have hd3 := bnext' (w := W5) (by assumption) hg3; clear hg3) | (go_at_call 25; (with_reducible refine (CN.out _ (HB.out _ ?_) hn300).mono ?_); assumption; rintro e w3 ⟨rfl, hg3⟩; have hd3 := bnext' (w := W5) (by assumption) hg3; clear hg3))) | fail
    all_goals
      go_wp2_with fail
      go_ret
      exact ⟨rfl, bnext' HE.out hd3⟩
  · go_wp2_with fail
    go_ret
    exact ⟨rfl, HP3.out.2⟩
end Go.Proofs.Ytbliipjiilmbcaa
