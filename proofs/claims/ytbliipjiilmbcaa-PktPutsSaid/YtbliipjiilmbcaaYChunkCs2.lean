/-
  The reader of layer 5: causes.
-/
import Derived.Test.YtbliipjiilmbcaaYP1d
import Derived.Test.YtbliipjiilmbcaaYChunkSide
import Derived.Deep.RegionHeld3
set_option linter.unusedVariables false
set_option linter.unusedSimpArgs false
namespace Go.Proofs.Ytbliipjiilmbcaa
open Go.RowKit Wire Tlv Chunk Go.Shelf

set_option maxRecDepth 100000 in
set_option maxHeartbeats 1000000 in
theorem causes_call (c0 : Ck) (w W W0 : World) (b bx k : Nat) (r : Rt) (q : Q) (W1 : World) (hbx : Bk W bx #[.pointer (some ⟨b, 0, none⟩)] 93) (hne : bx ≠ b) (hbW : b < W.heap.size) (hws : w.heap.size ≤ W.heap.size) (hBW : Below W.heap.size W W0) (hk : k ≤ 20000)
    (hp : Pst w W0 b (XC c0) k r W1) (hv : Vo W0.heap.size W1 q) (hsh : q.1.v.length ≤ 65531) :
    Calls Try.prog 94 (#[.agg #[.int .u16 (q.1.k : Int), .int .u8 (q.1.f : Int), q.2]] ++ #[.pointer (some ⟨bx, 0, none⟩)]) W1 fun e W2 => e = .returned (.bool (cst r q.1).2) ∧ Pst w W0 b (XC c0) (k + 1) (cst r q.1).1 W2 ∧ KeepsOthers W1 W2 := by
  obtain ⟨s, A, n, cap, hrr, hot, cA, cc, qs, rfl, hc0, ⟨hk1, hk2⟩, hcr⟩ := hp
  obtain ⟨⟨xk, xf, xv⟩, qv⟩ := q
  obtain ⟨hxo, A2, m, c2, hx2, hm2, hox⟩ := hv
  simp only at hx2 hsh hox
  subst hx2
  have hb0 := hbW
  have hlt : b < W0.heap.size := Nat.lt_of_lt_of_le hbW hBW.size
  have hwx : Bk W1 bx #[.pointer (some ⟨b, 0, none⟩)] 93 := (hbx.next hBW).ot hot hne
  have hxlt : bx < W0.heap.size := Nat.lt_of_lt_of_le hbx.lt hBW.size
  have hal : Below W1.heap.size W1 (W1.alloc (.cells #[.int .u16 (xk : Int), .int .u8 (xf : Int), .slice A2 m c2] 25)) := (Below.refl _ _).alloc (Nat.le_refl _) _
  have HX := Lib.hid (Bk.new W1 #[.int .u16 (xk : Int), .int .u8 (xf : Int), .slice A2 m c2] 25)
  have HBX := Lib.hid (hwx.next hal)
  have HRR := Lib.hid (hrr.next hal)
  have HOT := Lib.hid (hot.trans (Ot.below b hal))
  have HCR := Lib.hid (hcr.below hal)
  have HOX := Lib.hid (own_below hox hal)
  have HKO := Lib.hid (others_below hal)
  obtain rfl : xv.length = m := by have := hox.1; simpa [bs] using this
  have HXO := Lib.hid hxo
  have HC0 := Lib.hid hc0
  have HK2 := Lib.hid hk2
  have hsz0 := hot.size
  have hws0 : w.heap.size ≤ W0.heap.size := Nat.le_trans hws hBW.size
  have HWS := Lib.hid hws0
  obtain ⟨i4, hi4, hy0, hy1, hy2⟩ := info_parts Try_infoCause
  have HJ := Lib.hid hi4
  have HY0 := Lib.hid hy0
  have HY1 := Lib.hid hy1
  have HY2 := Lib.hid hy2
  have HSH := Lib.hid hsh
  clear hrr hot hcr hox hxo hc0 hk2 hwx hal hbx hBW hi4 hy0 hy1 hy2 hws0
  show Calls Try.prog 94 #[.agg #[.int .u16 (xk : Int), .int .u8 (xf : Int), .slice A2 xv.length c2], .pointer (some ⟨bx, 0, none⟩)] W1 _
  go_enter Try.func94, Try.ntmps94
  go_upto_region 1 with fail
  obtain ⟨bb, hbb⟩ : ∃ bb, W1.heap.size = bb := ⟨_, rfl⟩
  generalize World.alloc W1 _ = W2 at HX HBX HRR HOT HCR HOX HKO ⊢
  rw [hbb] at HX hsz0
  rw [hbb]
  clear hbb
  have x0 := HX.out.drew.cell 0
  have x2 := HX.out.drew.cell 2
  have y0 := HBX.out.drew.cell 0
  simp at x0 x2 y0
  have g15 : W2.drew.cell? ⟨b, 15, none⟩ = some (.slice cA r.c.ca.length cc) := HRR.out.drew.bk.r15
  have hnx : (⟨bb, 0, none⟩ : Addr).block ≠ b := by show bb ≠ b; omega
  have HOW := Lib.hid (own_any A2 xv.length c2 xv W2.drew rfl hm2 (row_of_own (own_below HOX.out (Below.refl _ _).drew)))
  have HNA : Hid (∀ i, (Value.slice cA r.c.ca.length cc).ownBlock = some i → W0.heap.size ≤ i) := Lib.hid fun i e => (HCR.out.2.1.lt i e).1
  have HNO : Hid (some bb ≠ (Value.slice cA r.c.ca.length cc).ownBlock) := Lib.hid (Bk.not_own HX.out HCR.out.2.1 (by decide))
  have hs : (fun W => W.cell? ⟨bx, 0, none⟩ = some (.pointer (some ⟨b, 0, none⟩)) ∧ W.cell? ⟨bb, 0, none⟩ = some (.int .u16 (xk : Int)) ∧ W.cell? ⟨bb, 2, none⟩ = some (.slice A2 xv.length c2)) W2.drew := by
    have a1 := HX.out.drew.cell 0
    have a2 := HX.out.drew.cell 2
    have a3 := HBX.out.drew.cell 0
    simp at a1 a2 a3
    exact ⟨a3, a1, a2⟩
  refine wp_region_held_drew (S := (fun W => W.cell? ⟨bx, 0, none⟩ = some (.pointer (some ⟨b, 0, none⟩)) ∧ W.cell? ⟨bb, 0, none⟩ = some (.int .u16 (xk : Int)) ∧ W.cell? ⟨bb, 2, none⟩ = some (.slice A2 xv.length c2))) (by kernel_rfl) ?_ (fun hHeld => ?_)
  · exact hs
  clear hs
  refine wpAnyH_take (i := 0) (v := ?_) rfl (by kernel_rfl) (by kernel_rfl) (by kernel_rfl) (fun _ _ _ h => h) (Or.inl ⟨by rfl, ?_⟩) (by assumption) ?_
  rotate_left 1
  · (intro w9 hSw; obtain ⟨s1, s2, s3⟩ := hSw; go_simp; try (with_reducible rfl))
  try simp only [Act.put, List.setIfInBounds_toArray, List.set_cons_zero, List.set_cons_succ, List.getElem_toArray, List.getElem_cons_zero, List.getElem_cons_succ]
  refine wpAnyH_take (i := 1) (v := ?_) rfl (by kernel_rfl) (by kernel_rfl) (by kernel_rfl) (fun _ _ _ h => h) (Or.inl ⟨by rfl, ?_⟩) (by assumption) ?_
  rotate_left 1
  · (intro w9 hSw; obtain ⟨s1, s2, s3⟩ := hSw; go_simp; try (with_reducible rfl))
  try simp only [Act.put, List.setIfInBounds_toArray, List.set_cons_zero, List.set_cons_succ, List.getElem_toArray, List.getElem_cons_zero, List.getElem_cons_succ]
  refine wpAnyH_take (i := 2) (v := ?_) rfl (by kernel_rfl) (by kernel_rfl) (by kernel_rfl) (fun _ _ _ h => h) (Or.inl ⟨by rfl, ?_⟩) (by assumption) ?_
  rotate_left 1
  · (intro w9 hSw; obtain ⟨s1, s2, s3⟩ := hSw; go_simp; try (with_reducible rfl))
  try simp only [Act.put, List.setIfInBounds_toArray, List.set_cons_zero, List.set_cons_succ, List.getElem_toArray, List.getElem_cons_zero, List.getElem_cons_succ]
  refine wpAnyH_take (i := 3) (v := ?_) rfl (by kernel_rfl) (by kernel_rfl) (by kernel_rfl) (fun _ _ _ h => h) (Or.inl ⟨by rfl, ?_⟩) (by assumption) ?_
  rotate_left 1
  · (intro w9 hSw; obtain ⟨s1, s2, s3⟩ := hSw; go_simp; try (with_reducible rfl))
  try simp only [Act.put, List.setIfInBounds_toArray, List.set_cons_zero, List.set_cons_succ, List.getElem_toArray, List.getElem_cons_zero, List.getElem_cons_succ]
  refine wpAnyH_take (i := 4) (v := ?_) rfl (by kernel_rfl) (by kernel_rfl) (by kernel_rfl) (fun _ _ _ h => h) (Or.inl ⟨by rfl, ?_⟩) (by assumption) ?_
  rotate_left 1
  · (intro w9 hSw; obtain ⟨s1, s2, s3⟩ := hSw; go_simp; try (with_reducible rfl))
  try simp only [Act.put, List.setIfInBounds_toArray, List.set_cons_zero, List.set_cons_succ, List.getElem_toArray, List.getElem_cons_zero, List.getElem_cons_succ]
  refine wpAnyH_take (i := 6) (v := ?_) rfl (by kernel_rfl) (by kernel_rfl) (by kernel_rfl) (fun _ _ _ h => h) (Or.inl ⟨by rfl, ?_⟩) (by assumption) ?_
  rotate_left 1
  · (intro w9 hSw; obtain ⟨s1, s2, s3⟩ := hSw; go_simp; try (with_reducible rfl))
  try simp only [Act.put, List.setIfInBounds_toArray, List.set_cons_zero, List.set_cons_succ, List.getElem_toArray, List.getElem_cons_zero, List.getElem_cons_succ]
  refine wpAnyH_take (i := 7) (v := ?_) rfl (by kernel_rfl) (by kernel_rfl) (by kernel_rfl) (fun _ _ _ h => h) (Or.inl ⟨by rfl, ?_⟩) (by assumption) ?_
  rotate_left 1
  · (intro w9 hSw; obtain ⟨s1, s2, s3⟩ := hSw; go_simp; try (with_reducible rfl))
  try simp only [Act.put, List.setIfInBounds_toArray, List.set_cons_zero, List.set_cons_succ, List.getElem_toArray, List.getElem_cons_zero, List.getElem_cons_succ]
  refine wpAnyH_take (i := 8) (v := ?_) rfl (by kernel_rfl) (by kernel_rfl) (by kernel_rfl) (fun _ _ _ h => h) (Or.inl ⟨by rfl, ?_⟩) (by assumption) ?_
  rotate_left 1
  · (intro w9 hSw; obtain ⟨s1, s2, s3⟩ := hSw; go_simp; try (with_reducible rfl))
  try simp only [Act.put, List.setIfInBounds_toArray, List.set_cons_zero, List.set_cons_succ, List.getElem_toArray, List.getElem_cons_zero, List.getElem_cons_succ]
  refine wpAnyH_take (i := 9) (v := ?_) rfl (by kernel_rfl) (by kernel_rfl) (by kernel_rfl) (fun _ _ _ h => h) (Or.inl ⟨by rfl, ?_⟩) (by assumption) ?_
  rotate_left 1
  · (intro w9 hSw; obtain ⟨s1, s2, s3⟩ := hSw; go_simp; try (with_reducible rfl))
  try simp only [Act.put, List.setIfInBounds_toArray, List.set_cons_zero, List.set_cons_succ, List.getElem_toArray, List.getElem_cons_zero, List.getElem_cons_succ]
  refine wpAnyH_ready (rs := [5, 10]) (by kernel_rfl) (by simp) ?_
  refine AllReadyH.cons rfl (fun K hK => ?_) (AllReadyH.cons rfl (fun K hK => ?_) AllReadyH.nil)
  · go_simp
    refine hK.out _ _ hHeld (fun hHeld => ?_)
    clear hK K
    try simp only [Act.put, List.setIfInBounds_toArray, List.set_cons_zero, List.set_cons_succ, List.getElem_toArray, List.getElem_cons_zero, List.getElem_cons_succ]
    refine wpAnyH_ready (rs := [10]) (by kernel_rfl) (by simp) ?_
    refine AllReadyH.cons rfl (fun K hK => ?_) AllReadyH.nil
    go_simp
    go_at_call 95
    (with_reducible refine HOW.out.mono ?_)
    rintro e wQ ⟨AQ, cQ, rfl, hoQ⟩
    have hq : Below W2.heap.size W2 wQ := ((Below.refl _ _).drew).trans hoQ.2
    have hba : Below wQ.heap.size wQ (wQ.alloc (.cells #[.int .u16 (xk : Int), .slice AQ xv.length cQ] 73)) := (Below.refl _ _).alloc (Nat.le_refl _) _
    have HRQ := Lib.hid (HRR.out.next hq)
    have HOTQ := Lib.hid (HOT.out.trans (Ot.below b hq))
    have HCQ := Lib.hid (HCR.out.below hq)
    have HVQ : Hid (Vd W0.heap.size wQ xv (.slice AQ xv.length cQ)) := Lib.hid ⟨AQ, xv.length, cQ, rfl, own_base hoQ.1 HOT.out.size⟩
    have HKQ := Lib.hid (HKO.out.trans (others_below hq))
    have HBQ := Lib.hid (HBX.out.next hq)
    have HXQ := Lib.hid (HX.out.next hq)
    have z0 := HXQ.out.cell 0
    have z2 := HXQ.out.cell 2
    have y1 := HBQ.out.cell 0
    simp at z0 z2 y1
    have hSA : Hid ((fun W => W.cell? ⟨bx, 0, none⟩ = some (.pointer (some ⟨b, 0, none⟩)) ∧ W.cell? ⟨bb, 0, none⟩ = some (.int .u16 (xk : Int)) ∧ W.cell? ⟨bb, 2, none⟩ = some (.slice A2 xv.length c2)) (wQ.alloc (.cells #[.int .u16 (xk : Int), .slice AQ xv.length cQ] 73))) := Lib.hid (by have a1 := (HXQ.out.next hba).cell 0; have a2 := (HXQ.out.next hba).cell 2; have a3 := (HBQ.out.next hba).cell 0; simp at a1 a2 a3; exact ⟨a3, a1, a2⟩)
    have g15Q : wQ.cell? ⟨b, 15, none⟩ = some (.slice cA r.c.ca.length cc) := HRQ.out.bk.r15
    have g15A : (wQ.alloc (.cells #[.int .u16 (xk : Int), .slice AQ xv.length cQ] 73)).cell? ⟨b, 15, none⟩ = some (.slice cA r.c.ca.length cc) := (HRQ.out.next hba).bk.r15
    clear hoQ hq hba
    refine hK.out _ _ ⟨y1, z0, z2⟩ (fun hHeld => ?_)
    clear hK K
    try simp only [Act.put, List.setIfInBounds_toArray, List.set_cons_zero, List.set_cons_succ, List.getElem_toArray, List.getElem_cons_zero, List.getElem_cons_succ]
    refine wpAnyH_take (i := 11) (v := ?_) rfl (by kernel_rfl) (by kernel_rfl) (by kernel_rfl) (fun _ _ _ h => h) (Or.inl ⟨by rfl, ?_⟩) (by assumption) ?_
    rotate_left 1
    · (intro w9 hSw; obtain ⟨s1, s2, s3⟩ := hSw; go_simp; try (with_reducible rfl))
    try simp only [Act.put, List.setIfInBounds_toArray, List.set_cons_zero, List.set_cons_succ, List.getElem_toArray, List.getElem_cons_zero, List.getElem_cons_succ]
    refine wpAnyH_ready (rs := [12]) (by kernel_rfl) (by simp) ?_
    refine AllReadyH.cons rfl (fun K hK => ?_) AllReadyH.nil
    go_simp
    refine hK.out _ _ hSA.out (fun hHeld => ?_)
    clear hK K
    try simp only [Act.put, List.setIfInBounds_toArray, List.set_cons_zero, List.set_cons_succ, List.getElem_toArray, List.getElem_cons_zero, List.getElem_cons_succ]
    refine wpAnyH_ready (rs := [13]) (by kernel_rfl) (by simp) ?_
    refine AllReadyH.cons rfl (fun K hK => ?_) AllReadyH.nil
    refine step_append_lies _ rfl (.tmp 9) (.tmp 16) 30 rfl W0.heap.size 73 i4 _ 2 32 Try.underlying30 HJ.out HY0.out HY1.out HY2.out rfl (by decide) _ r.c.ca.length _ rfl (own_below HCQ.out.2.1 ((Below.refl _ _).alloc (Nat.le_refl _) _)) ⟨wQ.heap.size, 0, none⟩ 1 1 [.int .u16 (xk : Int), .slice AQ xv.length cQ] rfl rfl (bcells (Row.new wQ [.int .u16 (xk : Int), .slice AQ xv.length cQ] 73 (0, 0))) (by simp [Value.oneCell']) (by omega) (by unfold maxLen; omega) (by omega) (by rw [World.size_alloc]; have := HOTQ.out.size; omega) _ rfl ?_
    intro g9 cap9 w10 hown10 hgrow10 hat10 _
    obtain ⟨hr10, ho10⟩ := came_put HRQ.out HOTQ.out HWS.out hlt hgrow10 HNA.out
    have HR10 := Lib.hid hr10
    have HO10 := Lib.hid ho10
    have g15' : w10.cell? ⟨b, 15, none⟩ = some (.slice cA r.c.ca.length cc) := hr10.bk.r15
    have f15 : w10.frozen? ⟨b, 15, none⟩ = false := hr10.bk.frozen 15
    have hbw : Bk w10 bx #[.pointer (some ⟨b, 0, none⟩)] 93 := (hgrow10.block bx (HBQ.out.alloc _).lt (fun e => by have := HNA.out bx e.symm; omega)).trans (HBQ.out.alloc _)
    have y3 := hbw.cell 0; simp at y3
    have HCW : Hid (Cr W0.heap.size (r.c.ca ++ [(xk, xv)]) (some ⟨g9, 0, none⟩) cap9 (qs ++ [.slice AQ xv.length cQ]) w10) := Lib.hid ((HCQ.out.below ((Below.refl _ _).alloc (Nat.le_refl _) (.cells #[.int .u16 (xk : Int), .slice AQ xv.length cQ] 73))).snoc (x := (xk, xv)) (HVQ.out.below ((Below.refl _ _).alloc (Nat.le_refl _) (.cells #[.int .u16 (xk : Int), .slice AQ xv.length cQ] 73))) hown10 hgrow10)
    have HK10 : Hid (KeepsOthers W1 w10) := Lib.hid (HKQ.out.trans ((KeepsOthers.alloc wQ (.cells #[.int .u16 (xk : Int), .slice AQ xv.length cQ] 73)).trans (KeepsOthers.of_grownBy hgrow10 (row_cells (own_below HCQ.out.2.1 ((Below.refl _ _).alloc (Nat.le_refl _) (.cells #[.int .u16 (xk : Int), .slice AQ xv.length cQ] 73)))))))
    have hxw : Bk w10 bb #[.int .u16 (xk : Int), .int .u8 (xf : Int), .slice A2 xv.length c2] 25 := (hgrow10.block bb (HXQ.out.alloc _).lt (fun e => HNO.out e)).trans (HXQ.out.alloc _)
    have HBW := Lib.hid hbw
    have HXW := Lib.hid hxw
    have q0 := hxw.cell 0
    have q2 := hxw.cell 2
    simp at q0 q2
    clear hr10 ho10 hown10 hgrow10 hat10 hbw hxw
    refine hK.out _ _ ⟨y3, q0, q2⟩ (fun hHeld => ?_)
    clear hK K
    try simp only [Act.put, List.setIfInBounds_toArray, List.set_cons_zero, List.set_cons_succ, List.getElem_toArray, List.getElem_cons_zero, List.getElem_cons_succ]
    refine wpAnyH_take (i := 14) (v := ?_) rfl (by kernel_rfl) (by kernel_rfl) (by kernel_rfl) (fun _ _ _ h => h) (Or.inl ⟨by rfl, ?_⟩) (by assumption) ?_
    rotate_left 1
    · (intro w9 hSw; obtain ⟨s1, s2, s3⟩ := hSw; go_simp; try (with_reducible rfl))
    try simp only [Act.put, List.setIfInBounds_toArray, List.set_cons_zero, List.set_cons_succ, List.getElem_toArray, List.getElem_cons_zero, List.getElem_cons_succ]
    refine wpAnyH_take (i := 15) (v := ?_) rfl (by kernel_rfl) (by kernel_rfl) (by kernel_rfl) (fun _ _ _ h => h) (Or.inl ⟨by rfl, ?_⟩) (by assumption) ?_
    rotate_left 1
    · (intro w9 hSw; obtain ⟨s1, s2, s3⟩ := hSw; go_simp; try (with_reducible rfl))
    try simp only [Act.put, List.setIfInBounds_toArray, List.set_cons_zero, List.set_cons_succ, List.getElem_toArray, List.getElem_cons_zero, List.getElem_cons_succ]
    refine wpAnyH_take (i := 16) (v := ?_) rfl (by kernel_rfl) (by kernel_rfl) (by kernel_rfl) (fun _ _ _ h => h) (Or.inl ⟨by rfl, ?_⟩) (by assumption) ?_
    rotate_left 1
    · (intro w9 hSw; obtain ⟨s1, s2, s3⟩ := hSw; go_simp; try (with_reducible rfl))
    try simp only [Act.put, List.setIfInBounds_toArray, List.set_cons_zero, List.set_cons_succ, List.getElem_toArray, List.getElem_cons_zero, List.getElem_cons_succ]
    refine wpAnyH_ready (rs := [17]) (by kernel_rfl) (by simp) ?_
    refine AllReadyH.cons rfl (fun K hK => ?_) AllReadyH.nil
    go_simp
    have hSE : (fun W => W.cell? ⟨bx, 0, none⟩ = some (.pointer (some ⟨b, 0, none⟩)) ∧ W.cell? ⟨bb, 0, none⟩ = some (.int .u16 (xk : Int)) ∧ W.cell? ⟨bb, 2, none⟩ = some (.slice A2 xv.length c2)) (w10.setCell ⟨b, 15, none⟩ (.slice (some ⟨g9, 0, none⟩) (r.c.ca.length + 1) cap9)) := by
      have a1 := (HXW.out.other (show bb ≠ b by omega) 15 (.slice (some ⟨g9, 0, none⟩) (r.c.ca.length + 1) cap9)).cell 0
      have a2 := (HXW.out.other (show bb ≠ b by omega) 15 (.slice (some ⟨g9, 0, none⟩) (r.c.ca.length + 1) cap9)).cell 2
      have a3 := (HBW.out.other hne 15 (.slice (some ⟨g9, 0, none⟩) (r.c.ca.length + 1) cap9)).cell 0
      simp only [List.getElem?_toArray, List.getElem?_cons_zero, List.getElem?_cons_succ] at a1 a2 a3
      exact ⟨a3, a1, a2⟩
    refine hK.out _ _ hSE (fun hHeld => ?_)
    clear hK K
    try simp only [Act.put, List.setIfInBounds_toArray, List.set_cons_zero, List.set_cons_succ, List.getElem_toArray, List.getElem_cons_zero, List.getElem_cons_succ]
    refine wpAnyH_done (by kernel_rfl) ?_ _
    have HN : Hid (Pst w W0 b (XC c0) (k + 1) (cst r ⟨xk, xf, xv⟩).1 (w10.setCell ⟨b, 15, none⟩ (.slice (some ⟨g9, 0, none⟩) (r.c.ca.length + 1) cap9)) ∧ KeepsOthers W1 (w10.setCell ⟨b, 15, none⟩ (.slice (some ⟨g9, 0, none⟩) (r.c.ca.length + 1) cap9))) := Lib.hid (by
      refine ⟨⟨_, _, _, _, HR10.out.put 15 (.slice (some ⟨g9, 0, none⟩) (r.c.ca.length + 1) cap9) { r.c with ca := r.c.ca ++ [(xk, xv)] } (rv_ca _ _ _ _ _ _ (r.c.ca ++ [(xk, xv)]) _ _ _ (qs ++ [.slice AQ xv.length cQ])), HO10.out.set 15 _, some ⟨g9, 0, none⟩, cap9, _, (by simp [putC, cst]), ck_ca HC0.out _, ⟨?_, ?_⟩, HCW.out.put hlt⟩, HK10.out.trans (KeepsOthers.setCell _ _ _)⟩
      · show (r.c.ca ++ [_]).length ≤ k + 1
        simp; omega
      · intro y hy
        rcases List.mem_append.1 hy with hy | hy
        · exact HK2.out y hy
        · simp at hy
          subst hy
          exact ⟨HXO.out.1, HXO.out.2.2, HSH.out⟩)
    go_wp2_with fail
    go_ret
    exact ⟨rfl, HN.out.1, HN.out.2⟩
  · go_simp
    go_at_call 95
    (with_reducible refine HOW.out.mono ?_)
    rintro e wQ ⟨AQ, cQ, rfl, hoQ⟩
    have hq : Below W2.heap.size W2 wQ := ((Below.refl _ _).drew).trans hoQ.2
    have hba : Below wQ.heap.size wQ (wQ.alloc (.cells #[.int .u16 (xk : Int), .slice AQ xv.length cQ] 73)) := (Below.refl _ _).alloc (Nat.le_refl _) _
    have HRQ := Lib.hid (HRR.out.next hq)
    have HOTQ := Lib.hid (HOT.out.trans (Ot.below b hq))
    have HCQ := Lib.hid (HCR.out.below hq)
    have HVQ : Hid (Vd W0.heap.size wQ xv (.slice AQ xv.length cQ)) := Lib.hid ⟨AQ, xv.length, cQ, rfl, own_base hoQ.1 HOT.out.size⟩
    have HKQ := Lib.hid (HKO.out.trans (others_below hq))
    have HBQ := Lib.hid (HBX.out.next hq)
    have HXQ := Lib.hid (HX.out.next hq)
    have z0 := HXQ.out.cell 0
    have z2 := HXQ.out.cell 2
    have y1 := HBQ.out.cell 0
    simp at z0 z2 y1
    have hSA : Hid ((fun W => W.cell? ⟨bx, 0, none⟩ = some (.pointer (some ⟨b, 0, none⟩)) ∧ W.cell? ⟨bb, 0, none⟩ = some (.int .u16 (xk : Int)) ∧ W.cell? ⟨bb, 2, none⟩ = some (.slice A2 xv.length c2)) (wQ.alloc (.cells #[.int .u16 (xk : Int), .slice AQ xv.length cQ] 73))) := Lib.hid (by have a1 := (HXQ.out.next hba).cell 0; have a2 := (HXQ.out.next hba).cell 2; have a3 := (HBQ.out.next hba).cell 0; simp at a1 a2 a3; exact ⟨a3, a1, a2⟩)
    have g15Q : wQ.cell? ⟨b, 15, none⟩ = some (.slice cA r.c.ca.length cc) := HRQ.out.bk.r15
    have g15A : (wQ.alloc (.cells #[.int .u16 (xk : Int), .slice AQ xv.length cQ] 73)).cell? ⟨b, 15, none⟩ = some (.slice cA r.c.ca.length cc) := (HRQ.out.next hba).bk.r15
    clear hoQ hq hba
    refine hK.out _ _ ⟨y1, z0, z2⟩ (fun hHeld => ?_)
    clear hK K
    try simp only [Act.put, List.setIfInBounds_toArray, List.set_cons_zero, List.set_cons_succ, List.getElem_toArray, List.getElem_cons_zero, List.getElem_cons_succ]
    refine wpAnyH_take (i := 11) (v := ?_) rfl (by kernel_rfl) (by kernel_rfl) (by kernel_rfl) (fun _ _ _ h => h) (Or.inl ⟨by rfl, ?_⟩) (by assumption) ?_
    rotate_left 1
    · (intro w9 hSw; obtain ⟨s1, s2, s3⟩ := hSw; go_simp; try (with_reducible rfl))
    try simp only [Act.put, List.setIfInBounds_toArray, List.set_cons_zero, List.set_cons_succ, List.getElem_toArray, List.getElem_cons_zero, List.getElem_cons_succ]
    refine wpAnyH_ready (rs := [5, 12]) (by kernel_rfl) (by simp) ?_
    refine AllReadyH.cons rfl (fun K hK => ?_) (AllReadyH.cons rfl (fun K hK => ?_) AllReadyH.nil)
    · go_simp
      refine hK.out _ _ hHeld (fun hHeld => ?_)
      clear hK K
      try simp only [Act.put, List.setIfInBounds_toArray, List.set_cons_zero, List.set_cons_succ, List.getElem_toArray, List.getElem_cons_zero, List.getElem_cons_succ]
      refine wpAnyH_ready (rs := [12]) (by kernel_rfl) (by simp) ?_
      refine AllReadyH.cons rfl (fun K hK => ?_) AllReadyH.nil
      go_simp
      refine hK.out _ _ hSA.out (fun hHeld => ?_)
      clear hK K
      try simp only [Act.put, List.setIfInBounds_toArray, List.set_cons_zero, List.set_cons_succ, List.getElem_toArray, List.getElem_cons_zero, List.getElem_cons_succ]
      refine wpAnyH_ready (rs := [13]) (by kernel_rfl) (by simp) ?_
      refine AllReadyH.cons rfl (fun K hK => ?_) AllReadyH.nil
      refine step_append_lies _ rfl (.tmp 9) (.tmp 16) 30 rfl W0.heap.size 73 i4 _ 2 32 Try.underlying30 HJ.out HY0.out HY1.out HY2.out rfl (by decide) _ r.c.ca.length _ rfl (own_below HCQ.out.2.1 ((Below.refl _ _).alloc (Nat.le_refl _) _)) ⟨wQ.heap.size, 0, none⟩ 1 1 [.int .u16 (xk : Int), .slice AQ xv.length cQ] rfl rfl (bcells (Row.new wQ [.int .u16 (xk : Int), .slice AQ xv.length cQ] 73 (0, 0))) (by simp [Value.oneCell']) (by omega) (by unfold maxLen; omega) (by omega) (by rw [World.size_alloc]; have := HOTQ.out.size; omega) _ rfl ?_
      intro g9 cap9 w10 hown10 hgrow10 hat10 _
      obtain ⟨hr10, ho10⟩ := came_put HRQ.out HOTQ.out HWS.out hlt hgrow10 HNA.out
      have HR10 := Lib.hid hr10
      have HO10 := Lib.hid ho10
      have g15' : w10.cell? ⟨b, 15, none⟩ = some (.slice cA r.c.ca.length cc) := hr10.bk.r15
      have f15 : w10.frozen? ⟨b, 15, none⟩ = false := hr10.bk.frozen 15
      have hbw : Bk w10 bx #[.pointer (some ⟨b, 0, none⟩)] 93 := (hgrow10.block bx (HBQ.out.alloc _).lt (fun e => by have := HNA.out bx e.symm; omega)).trans (HBQ.out.alloc _)
      have y3 := hbw.cell 0; simp at y3
      have HCW : Hid (Cr W0.heap.size (r.c.ca ++ [(xk, xv)]) (some ⟨g9, 0, none⟩) cap9 (qs ++ [.slice AQ xv.length cQ]) w10) := Lib.hid ((HCQ.out.below ((Below.refl _ _).alloc (Nat.le_refl _) (.cells #[.int .u16 (xk : Int), .slice AQ xv.length cQ] 73))).snoc (x := (xk, xv)) (HVQ.out.below ((Below.refl _ _).alloc (Nat.le_refl _) (.cells #[.int .u16 (xk : Int), .slice AQ xv.length cQ] 73))) hown10 hgrow10)
      have HK10 : Hid (KeepsOthers W1 w10) := Lib.hid (HKQ.out.trans ((KeepsOthers.alloc wQ (.cells #[.int .u16 (xk : Int), .slice AQ xv.length cQ] 73)).trans (KeepsOthers.of_grownBy hgrow10 (row_cells (own_below HCQ.out.2.1 ((Below.refl _ _).alloc (Nat.le_refl _) (.cells #[.int .u16 (xk : Int), .slice AQ xv.length cQ] 73)))))))
      have hxw : Bk w10 bb #[.int .u16 (xk : Int), .int .u8 (xf : Int), .slice A2 xv.length c2] 25 := (hgrow10.block bb (HXQ.out.alloc _).lt (fun e => HNO.out e)).trans (HXQ.out.alloc _)
      have HBW := Lib.hid hbw
      have HXW := Lib.hid hxw
      have q0 := hxw.cell 0
      have q2 := hxw.cell 2
      simp at q0 q2
      clear hr10 ho10 hown10 hgrow10 hat10 hbw hxw
      refine hK.out _ _ ⟨y3, q0, q2⟩ (fun hHeld => ?_)
      clear hK K
      try simp only [Act.put, List.setIfInBounds_toArray, List.set_cons_zero, List.set_cons_succ, List.getElem_toArray, List.getElem_cons_zero, List.getElem_cons_succ]
      refine wpAnyH_take (i := 14) (v := ?_) rfl (by kernel_rfl) (by kernel_rfl) (by kernel_rfl) (fun _ _ _ h => h) (Or.inl ⟨by rfl, ?_⟩) (by assumption) ?_
      rotate_left 1
      · (intro w9 hSw; obtain ⟨s1, s2, s3⟩ := hSw; go_simp; try (with_reducible rfl))
      try simp only [Act.put, List.setIfInBounds_toArray, List.set_cons_zero, List.set_cons_succ, List.getElem_toArray, List.getElem_cons_zero, List.getElem_cons_succ]
      refine wpAnyH_take (i := 15) (v := ?_) rfl (by kernel_rfl) (by kernel_rfl) (by kernel_rfl) (fun _ _ _ h => h) (Or.inl ⟨by rfl, ?_⟩) (by assumption) ?_
      rotate_left 1
      · (intro w9 hSw; obtain ⟨s1, s2, s3⟩ := hSw; go_simp; try (with_reducible rfl))
      try simp only [Act.put, List.setIfInBounds_toArray, List.set_cons_zero, List.set_cons_succ, List.getElem_toArray, List.getElem_cons_zero, List.getElem_cons_succ]
      refine wpAnyH_take (i := 16) (v := ?_) rfl (by kernel_rfl) (by kernel_rfl) (by kernel_rfl) (fun _ _ _ h => h) (Or.inl ⟨by rfl, ?_⟩) (by assumption) ?_
      rotate_left 1
      · (intro w9 hSw; obtain ⟨s1, s2, s3⟩ := hSw; go_simp; try (with_reducible rfl))
      try simp only [Act.put, List.setIfInBounds_toArray, List.set_cons_zero, List.set_cons_succ, List.getElem_toArray, List.getElem_cons_zero, List.getElem_cons_succ]
      refine wpAnyH_ready (rs := [17]) (by kernel_rfl) (by simp) ?_
      refine AllReadyH.cons rfl (fun K hK => ?_) AllReadyH.nil
      go_simp
      have hSE : (fun W => W.cell? ⟨bx, 0, none⟩ = some (.pointer (some ⟨b, 0, none⟩)) ∧ W.cell? ⟨bb, 0, none⟩ = some (.int .u16 (xk : Int)) ∧ W.cell? ⟨bb, 2, none⟩ = some (.slice A2 xv.length c2)) (w10.setCell ⟨b, 15, none⟩ (.slice (some ⟨g9, 0, none⟩) (r.c.ca.length + 1) cap9)) := by
        have a1 := (HXW.out.other (show bb ≠ b by omega) 15 (.slice (some ⟨g9, 0, none⟩) (r.c.ca.length + 1) cap9)).cell 0
        have a2 := (HXW.out.other (show bb ≠ b by omega) 15 (.slice (some ⟨g9, 0, none⟩) (r.c.ca.length + 1) cap9)).cell 2
        have a3 := (HBW.out.other hne 15 (.slice (some ⟨g9, 0, none⟩) (r.c.ca.length + 1) cap9)).cell 0
        simp only [List.getElem?_toArray, List.getElem?_cons_zero, List.getElem?_cons_succ] at a1 a2 a3
        exact ⟨a3, a1, a2⟩
      refine hK.out _ _ hSE (fun hHeld => ?_)
      clear hK K
      try simp only [Act.put, List.setIfInBounds_toArray, List.set_cons_zero, List.set_cons_succ, List.getElem_toArray, List.getElem_cons_zero, List.getElem_cons_succ]
      refine wpAnyH_done (by kernel_rfl) ?_ _
      have HN : Hid (Pst w W0 b (XC c0) (k + 1) (cst r ⟨xk, xf, xv⟩).1 (w10.setCell ⟨b, 15, none⟩ (.slice (some ⟨g9, 0, none⟩) (r.c.ca.length + 1) cap9)) ∧ KeepsOthers W1 (w10.setCell ⟨b, 15, none⟩ (.slice (some ⟨g9, 0, none⟩) (r.c.ca.length + 1) cap9))) := Lib.hid (by
        refine ⟨⟨_, _, _, _, HR10.out.put 15 (.slice (some ⟨g9, 0, none⟩) (r.c.ca.length + 1) cap9) { r.c with ca := r.c.ca ++ [(xk, xv)] } (rv_ca _ _ _ _ _ _ (r.c.ca ++ [(xk, xv)]) _ _ _ (qs ++ [.slice AQ xv.length cQ])), HO10.out.set 15 _, some ⟨g9, 0, none⟩, cap9, _, (by simp [putC, cst]), ck_ca HC0.out _, ⟨?_, ?_⟩, HCW.out.put hlt⟩, HK10.out.trans (KeepsOthers.setCell _ _ _)⟩
        · show (r.c.ca ++ [_]).length ≤ k + 1
          simp; omega
        · intro y hy
          rcases List.mem_append.1 hy with hy | hy
          · exact HK2.out y hy
          · simp at hy
            subst hy
            exact ⟨HXO.out.1, HXO.out.2.2, HSH.out⟩)
      go_wp2_with fail
      go_ret
      exact ⟨rfl, HN.out.1, HN.out.2⟩
    · go_simp
      refine hK.out _ _ hSA.out (fun hHeld => ?_)
      clear hK K
      try simp only [Act.put, List.setIfInBounds_toArray, List.set_cons_zero, List.set_cons_succ, List.getElem_toArray, List.getElem_cons_zero, List.getElem_cons_succ]
      refine wpAnyH_ready (rs := [5]) (by kernel_rfl) (by simp) ?_
      refine AllReadyH.cons rfl (fun K hK => ?_) AllReadyH.nil
      go_simp
      refine hK.out _ _ hHeld (fun hHeld => ?_)
      clear hK K
      try simp only [Act.put, List.setIfInBounds_toArray, List.set_cons_zero, List.set_cons_succ, List.getElem_toArray, List.getElem_cons_zero, List.getElem_cons_succ]
      refine wpAnyH_ready (rs := [13]) (by kernel_rfl) (by simp) ?_
      refine AllReadyH.cons rfl (fun K hK => ?_) AllReadyH.nil
      refine step_append_lies _ rfl (.tmp 9) (.tmp 16) 30 rfl W0.heap.size 73 i4 _ 2 32 Try.underlying30 HJ.out HY0.out HY1.out HY2.out rfl (by decide) _ r.c.ca.length _ rfl (own_below HCQ.out.2.1 ((Below.refl _ _).alloc (Nat.le_refl _) _)) ⟨wQ.heap.size, 0, none⟩ 1 1 [.int .u16 (xk : Int), .slice AQ xv.length cQ] rfl rfl (bcells (Row.new wQ [.int .u16 (xk : Int), .slice AQ xv.length cQ] 73 (0, 0))) (by simp [Value.oneCell']) (by omega) (by unfold maxLen; omega) (by omega) (by rw [World.size_alloc]; have := HOTQ.out.size; omega) _ rfl ?_
      intro g9 cap9 w10 hown10 hgrow10 hat10 _
      obtain ⟨hr10, ho10⟩ := came_put HRQ.out HOTQ.out HWS.out hlt hgrow10 HNA.out
      have HR10 := Lib.hid hr10
      have HO10 := Lib.hid ho10
      have g15' : w10.cell? ⟨b, 15, none⟩ = some (.slice cA r.c.ca.length cc) := hr10.bk.r15
      have f15 : w10.frozen? ⟨b, 15, none⟩ = false := hr10.bk.frozen 15
      have hbw : Bk w10 bx #[.pointer (some ⟨b, 0, none⟩)] 93 := (hgrow10.block bx (HBQ.out.alloc _).lt (fun e => by have := HNA.out bx e.symm; omega)).trans (HBQ.out.alloc _)
      have y3 := hbw.cell 0; simp at y3
      have HCW : Hid (Cr W0.heap.size (r.c.ca ++ [(xk, xv)]) (some ⟨g9, 0, none⟩) cap9 (qs ++ [.slice AQ xv.length cQ]) w10) := Lib.hid ((HCQ.out.below ((Below.refl _ _).alloc (Nat.le_refl _) (.cells #[.int .u16 (xk : Int), .slice AQ xv.length cQ] 73))).snoc (x := (xk, xv)) (HVQ.out.below ((Below.refl _ _).alloc (Nat.le_refl _) (.cells #[.int .u16 (xk : Int), .slice AQ xv.length cQ] 73))) hown10 hgrow10)
      have HK10 : Hid (KeepsOthers W1 w10) := Lib.hid (HKQ.out.trans ((KeepsOthers.alloc wQ (.cells #[.int .u16 (xk : Int), .slice AQ xv.length cQ] 73)).trans (KeepsOthers.of_grownBy hgrow10 (row_cells (own_below HCQ.out.2.1 ((Below.refl _ _).alloc (Nat.le_refl _) (.cells #[.int .u16 (xk : Int), .slice AQ xv.length cQ] 73)))))))
      have hxw : Bk w10 bb #[.int .u16 (xk : Int), .int .u8 (xf : Int), .slice A2 xv.length c2] 25 := (hgrow10.block bb (HXQ.out.alloc _).lt (fun e => HNO.out e)).trans (HXQ.out.alloc _)
      have HBW := Lib.hid hbw
      have HXW := Lib.hid hxw
      have q0 := hxw.cell 0
      have q2 := hxw.cell 2
      simp at q0 q2
      clear hr10 ho10 hown10 hgrow10 hat10 hbw hxw
      refine hK.out _ _ ⟨y3, q0, q2⟩ (fun hHeld => ?_)
      clear hK K
      try simp only [Act.put, List.setIfInBounds_toArray, List.set_cons_zero, List.set_cons_succ, List.getElem_toArray, List.getElem_cons_zero, List.getElem_cons_succ]
      refine wpAnyH_take (i := 14) (v := ?_) rfl (by kernel_rfl) (by kernel_rfl) (by kernel_rfl) (fun _ _ _ h => h) (Or.inl ⟨by rfl, ?_⟩) (by assumption) ?_
      rotate_left 1
      · (intro w9 hSw; obtain ⟨s1, s2, s3⟩ := hSw; go_simp; try (with_reducible rfl))
      try simp only [Act.put, List.setIfInBounds_toArray, List.set_cons_zero, List.set_cons_succ, List.getElem_toArray, List.getElem_cons_zero, List.getElem_cons_succ]
      refine wpAnyH_take (i := 15) (v := ?_) rfl (by kernel_rfl) (by kernel_rfl) (by kernel_rfl) (fun _ _ _ h => h) (Or.inl ⟨by rfl, ?_⟩) (by assumption) ?_
      rotate_left 1
      · (intro w9 hSw; obtain ⟨s1, s2, s3⟩ := hSw; go_simp; try (with_reducible rfl))
      try simp only [Act.put, List.setIfInBounds_toArray, List.set_cons_zero, List.set_cons_succ, List.getElem_toArray, List.getElem_cons_zero, List.getElem_cons_succ]
      refine wpAnyH_take (i := 16) (v := ?_) rfl (by kernel_rfl) (by kernel_rfl) (by kernel_rfl) (fun _ _ _ h => h) (Or.inl ⟨by rfl, ?_⟩) (by assumption) ?_
      rotate_left 1
      · (intro w9 hSw; obtain ⟨s1, s2, s3⟩ := hSw; go_simp; try (with_reducible rfl))
      try simp only [Act.put, List.setIfInBounds_toArray, List.set_cons_zero, List.set_cons_succ, List.getElem_toArray, List.getElem_cons_zero, List.getElem_cons_succ]
      refine wpAnyH_ready (rs := [17]) (by kernel_rfl) (by simp) ?_
      refine AllReadyH.cons rfl (fun K hK => ?_) AllReadyH.nil
      go_simp
      have hSE : (fun W => W.cell? ⟨bx, 0, none⟩ = some (.pointer (some ⟨b, 0, none⟩)) ∧ W.cell? ⟨bb, 0, none⟩ = some (.int .u16 (xk : Int)) ∧ W.cell? ⟨bb, 2, none⟩ = some (.slice A2 xv.length c2)) (w10.setCell ⟨b, 15, none⟩ (.slice (some ⟨g9, 0, none⟩) (r.c.ca.length + 1) cap9)) := by
        have a1 := (HXW.out.other (show bb ≠ b by omega) 15 (.slice (some ⟨g9, 0, none⟩) (r.c.ca.length + 1) cap9)).cell 0
        have a2 := (HXW.out.other (show bb ≠ b by omega) 15 (.slice (some ⟨g9, 0, none⟩) (r.c.ca.length + 1) cap9)).cell 2
        have a3 := (HBW.out.other hne 15 (.slice (some ⟨g9, 0, none⟩) (r.c.ca.length + 1) cap9)).cell 0
        simp only [List.getElem?_toArray, List.getElem?_cons_zero, List.getElem?_cons_succ] at a1 a2 a3
        exact ⟨a3, a1, a2⟩
      refine hK.out _ _ hSE (fun hHeld => ?_)
      clear hK K
      try simp only [Act.put, List.setIfInBounds_toArray, List.set_cons_zero, List.set_cons_succ, List.getElem_toArray, List.getElem_cons_zero, List.getElem_cons_succ]
      refine wpAnyH_done (by kernel_rfl) ?_ _
      have HN : Hid (Pst w W0 b (XC c0) (k + 1) (cst r ⟨xk, xf, xv⟩).1 (w10.setCell ⟨b, 15, none⟩ (.slice (some ⟨g9, 0, none⟩) (r.c.ca.length + 1) cap9)) ∧ KeepsOthers W1 (w10.setCell ⟨b, 15, none⟩ (.slice (some ⟨g9, 0, none⟩) (r.c.ca.length + 1) cap9))) := Lib.hid (by
        refine ⟨⟨_, _, _, _, HR10.out.put 15 (.slice (some ⟨g9, 0, none⟩) (r.c.ca.length + 1) cap9) { r.c with ca := r.c.ca ++ [(xk, xv)] } (rv_ca _ _ _ _ _ _ (r.c.ca ++ [(xk, xv)]) _ _ _ (qs ++ [.slice AQ xv.length cQ])), HO10.out.set 15 _, some ⟨g9, 0, none⟩, cap9, _, (by simp [putC, cst]), ck_ca HC0.out _, ⟨?_, ?_⟩, HCW.out.put hlt⟩, HK10.out.trans (KeepsOthers.setCell _ _ _)⟩
        · show (r.c.ca ++ [_]).length ≤ k + 1
          simp; omega
        · intro y hy
          rcases List.mem_append.1 hy with hy | hy
          · exact HK2.out y hy
          · simp at hy
            subst hy
            exact ⟨HXO.out.1, HXO.out.2.2, HSH.out⟩)
      go_wp2_with fail
      go_ret
      exact ⟨rfl, HN.out.1, HN.out.2⟩
end Go.Proofs.Ytbliipjiilmbcaa
