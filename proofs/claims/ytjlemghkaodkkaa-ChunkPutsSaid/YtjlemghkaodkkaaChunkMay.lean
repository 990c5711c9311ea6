/-
  What chunk.untold, chunk.nothing and chunk.apart do.
-/
import Derived.Test.YtjlemghkaodkkaaChunkMem
namespace Go.Proofs.Ytjlemghkaodkkaa
open Go.RowKit Wire Tlv Chunk

/-- A call's two blocks: a chunk, and a chunk to be answered. -/
def Un (w : World) (cs z : Array Value) (W : World) : Prop := Bk W w.heap.size cs 29 ∧ Bk W (w.heap.size + 1) z 29 ∧ Below w.heap.size w W
theorem Un.new (w : World) (cs z : Array Value) : Un w cs z ((w.alloc (.cells cs 29)).alloc (.cells z 29)) := by
  refine ⟨(Bk.new w cs _).alloc _, ?_, ((Below.refl _ _).alloc (Nat.le_refl _) _).alloc (by simp) _⟩
  have := Bk.new (w.alloc (.cells cs 29)) z 29
  rw [World.size_alloc] at this
  exact this
theorem Un.set {w W : World} {cs z : Array Value} (h : Un w cs z W) (i : Nat) (v : Value) : Un w (cs.setIfInBounds i v) z (W.setCell ⟨w.heap.size, i, none⟩ v) :=
  ⟨h.1.set i v, h.2.1.other (by omega) i v, h.2.2.setCell (p := ⟨w.heap.size, i, none⟩) (Nat.le_refl _) v⟩
theorem Un.row {w W : World} {cs z : Array Value} (h : Un w cs z W) (cs' : Array Value) : Un w cs cs' (W.setRow (w.heap.size + 1) cs') :=
  ⟨h.1.rowO (by omega) _, h.2.1.row_ _, below_setRow h.2.2 (by omega) _⟩
set_option maxRecDepth 100000 in
set_option maxHeartbeats 1000000 in
theorem untold0 (c : Ck) (s : Ls) (w : World) (hk : c.kd = 0) :
    Calls Try.prog 29 #[.agg (cv c s)] w fun e w' => e = .returned (.agg (cv (unt c) (uns c.kd s))) ∧ Below w.heap.size w w' := by
  have HU : Hid (Un w (cv c s) zlit _) := Lib.hid (Un.new w (cv c s) zlit)
  have he : (((((cv c s).setIfInBounds 4 (.int .u32 0)).setIfInBounds 7 (.int .u16 0)).setIfInBounds 8 (.int .u16 0)).setIfInBounds 9 (.int .u32 0)).setIfInBounds 10 (.slice none 0 0) = cv (unt c) (uns c.kd s) := by simp [unt, uns, hk, cv]
  have HE := Lib.hid he
  clear he
  go_enter Try.func29, Try.ntmps29
  go_upto_region 1 with fail
  generalize World.alloc (World.alloc w _) _ = W1 at HU ⊢
  have g0 := HU.out.1.c0
  have g4 := HU.out.1.c4
  have g7 := HU.out.1.c7
  have g8 := HU.out.1.c8
  have g9 := HU.out.1.c9
  have g10 := HU.out.1.c10
  have f := fun i => HU.out.1.frozen i
  rw [hk] at g0
  have HU2 := Lib.hid (((((HU.out.set 4 (.int .u32 0)).set 7 (.int .u16 0)).set 8 (.int .u16 0)).set 9 (.int .u32 0)).set 10 (.slice none 0 0))
  rw [HE.out] at HU2
  go_upto_region 19 with fail
  clear g0 g4 g7 g8 g9 g10
  clear f
  generalize World.setCell (World.setCell (World.setCell (World.setCell (World.setCell W1 _ _) _ _) _ _) _ _) _ _ = W2 at HU2 ⊢
  generalize hcv : cv (unt c) (uns c.kd s) = CS at HU2 ⊢
  have hz : CS.size = 15 := by rw [← hcv]; rfl
  have hi : (Try.prog.info? 29).map (·.size) = some CS.size := by rw [hz]; exact ckinfo
  have ho : CS.all (·.oneCell') = true := by rw [← hcv]; exact cv_one _ _
  have HI := Lib.hid hi
  have HO := Lib.hid ho
  have HZ := Lib.hid hz
  have HCV := Lib.hid hcv
  clear hcv hz hi ho
  go_wp2_with (first
    | (refine wpList_load_row rfl 29 (.tmp 1) rfl w.heap.size rfl 29 CS (0, 0) _ HU2.out.1 Try.underlying29 rfl HI.out ?_)
    | (refine wpList_store_row rfl 29 (.tmp 2) (.tmp 47) rfl (w.heap.size + 1) CS rfl rfl 29 zlit HU2.out.2.1 HI.out (by rw [HZ.out]; rfl) HO.out ?_))
  refine bodyPost_ret (results_cell_row rfl _ _ (w.heap.size + 1) 29 CS (0, 0) _ rfl ?_ Try.underlying29 rfl HI.out) rfl ⟨by rw [HCV.out], ?_⟩
  · exact (HU2.out.row CS).2.1
  · exact (HU2.out.row CS).2.2
set_option maxRecDepth 100000 in
set_option maxHeartbeats 1000000 in
theorem untold1 (c : Ck) (s : Ls) (w : World) (hk : c.kd = 1) :
    Calls Try.prog 29 #[.agg (cv c s)] w fun e w' => e = .returned (.agg (cv (unt c) (uns c.kd s))) ∧ Below w.heap.size w w' := by
  have HU : Hid (Un w (cv c s) zlit _) := Lib.hid (Un.new w (cv c s) zlit)
  have he : ((((((cv c s).setIfInBounds 2 (.int .u32 0)).setIfInBounds 3 (.int .u32 0)).setIfInBounds 5 (.int .u16 0)).setIfInBounds 6 (.int .u16 0)).setIfInBounds 4 (.int .u32 0)).setIfInBounds 11 (.slice none 0 0) = cv (unt c) (uns c.kd s) := by simp [unt, uns, hk, cv]
  have HE := Lib.hid he
  clear he
  go_enter Try.func29, Try.ntmps29
  go_upto_region 1 with fail
  generalize World.alloc (World.alloc w _) _ = W1 at HU ⊢
  have g0 := HU.out.1.c0
  have g2 := HU.out.1.c2
  have g3 := HU.out.1.c3
  have g4 := HU.out.1.c4
  have g5 := HU.out.1.c5
  have g6 := HU.out.1.c6
  have g11 := HU.out.1.c11
  have f := fun i => HU.out.1.frozen i
  rw [hk] at g0
  have HU2 := Lib.hid ((((((HU.out.set 2 (.int .u32 0)).set 3 (.int .u32 0)).set 5 (.int .u16 0)).set 6 (.int .u16 0)).set 4 (.int .u32 0)).set 11 (.slice none 0 0))
  rw [HE.out] at HU2
  go_upto_region 19 with fail
  clear g0 g2 g3 g4 g5 g6 g11
  clear f
  generalize World.setCell (World.setCell (World.setCell (World.setCell (World.setCell (World.setCell W1 _ _) _ _) _ _) _ _) _ _) _ _ = W2 at HU2 ⊢
  generalize hcv : cv (unt c) (uns c.kd s) = CS at HU2 ⊢
  have hz : CS.size = 15 := by rw [← hcv]; rfl
  have hi : (Try.prog.info? 29).map (·.size) = some CS.size := by rw [hz]; exact ckinfo
  have ho : CS.all (·.oneCell') = true := by rw [← hcv]; exact cv_one _ _
  have HI := Lib.hid hi
  have HO := Lib.hid ho
  have HZ := Lib.hid hz
  have HCV := Lib.hid hcv
  clear hcv hz hi ho
  go_wp2_with (first
    | (refine wpList_load_row rfl 29 (.tmp 1) rfl w.heap.size rfl 29 CS (0, 0) _ HU2.out.1 Try.underlying29 rfl HI.out ?_)
    | (refine wpList_store_row rfl 29 (.tmp 2) (.tmp 47) rfl (w.heap.size + 1) CS rfl rfl 29 zlit HU2.out.2.1 HI.out (by rw [HZ.out]; rfl) HO.out ?_))
  refine bodyPost_ret (results_cell_row rfl _ _ (w.heap.size + 1) 29 CS (0, 0) _ rfl ?_ Try.underlying29 rfl HI.out) rfl ⟨by rw [HCV.out], ?_⟩
  · exact (HU2.out.row CS).2.1
  · exact (HU2.out.row CS).2.2
set_option maxRecDepth 100000 in
set_option maxHeartbeats 1000000 in
theorem untold2 (c : Ck) (s : Ls) (w : World) (hk : c.kd = 2) :
    Calls Try.prog 29 #[.agg (cv c s)] w fun e w' => e = .returned (.agg (cv (unt c) (uns c.kd s))) ∧ Below w.heap.size w w' := by
  have HU : Hid (Un w (cv c s) zlit _) := Lib.hid (Un.new w (cv c s) zlit)
  have he : (((((((cv c s).setIfInBounds 2 (.int .u32 0)).setIfInBounds 3 (.int .u32 0)).setIfInBounds 5 (.int .u16 0)).setIfInBounds 6 (.int .u16 0)).setIfInBounds 4 (.int .u32 0)).setIfInBounds 11 (.slice none 0 0)).setIfInBounds 10 (.slice none 0 0) = cv (unt c) (uns c.kd s) := by simp [unt, uns, hk, cv]
  have HE := Lib.hid he
  clear he
  go_enter Try.func29, Try.ntmps29
  go_upto_region 1 with fail
  generalize World.alloc (World.alloc w _) _ = W1 at HU ⊢
  have g0 := HU.out.1.c0
  have g2 := HU.out.1.c2
  have g3 := HU.out.1.c3
  have g4 := HU.out.1.c4
  have g5 := HU.out.1.c5
  have g6 := HU.out.1.c6
  have g10 := HU.out.1.c10
  have g11 := HU.out.1.c11
  have f := fun i => HU.out.1.frozen i
  rw [hk] at g0
  have HU2 := Lib.hid (((((((HU.out.set 2 (.int .u32 0)).set 3 (.int .u32 0)).set 5 (.int .u16 0)).set 6 (.int .u16 0)).set 4 (.int .u32 0)).set 11 (.slice none 0 0)).set 10 (.slice none 0 0))
  rw [HE.out] at HU2
  go_upto_region 19 with fail
  clear g0 g2 g3 g4 g5 g6 g10 g11
  clear f
  generalize World.setCell (World.setCell (World.setCell (World.setCell (World.setCell (World.setCell (World.setCell W1 _ _) _ _) _ _) _ _) _ _) _ _) _ _ = W2 at HU2 ⊢
  generalize hcv : cv (unt c) (uns c.kd s) = CS at HU2 ⊢
  have hz : CS.size = 15 := by rw [← hcv]; rfl
  have hi : (Try.prog.info? 29).map (·.size) = some CS.size := by rw [hz]; exact ckinfo
  have ho : CS.all (·.oneCell') = true := by rw [← hcv]; exact cv_one _ _
  have HI := Lib.hid hi
  have HO := Lib.hid ho
  have HZ := Lib.hid hz
  have HCV := Lib.hid hcv
  clear hcv hz hi ho
  go_wp2_with (first
    | (refine wpList_load_row rfl 29 (.tmp 1) rfl w.heap.size rfl 29 CS (0, 0) _ HU2.out.1 Try.underlying29 rfl HI.out ?_)
    | (refine wpList_store_row rfl 29 (.tmp 2) (.tmp 47) rfl (w.heap.size + 1) CS rfl rfl 29 zlit HU2.out.2.1 HI.out (by rw [HZ.out]; rfl) HO.out ?_))
  refine bodyPost_ret (results_cell_row rfl _ _ (w.heap.size + 1) 29 CS (0, 0) _ rfl ?_ Try.underlying29 rfl HI.out) rfl ⟨by rw [HCV.out], ?_⟩
  · exact (HU2.out.row CS).2.1
  · exact (HU2.out.row CS).2.2
set_option maxRecDepth 100000 in
set_option maxHeartbeats 1000000 in
theorem untold3 (c : Ck) (s : Ls) (w : World) (hk : c.kd = 3) :
    Calls Try.prog 29 #[.agg (cv c s)] w fun e w' => e = .returned (.agg (cv (unt c) (uns c.kd s))) ∧ Below w.heap.size w w' := by
  have HU : Hid (Un w (cv c s) zlit _) := Lib.hid (Un.new w (cv c s) zlit)
  have he : ((((cv c s).setIfInBounds 4 (.int .u32 0)).setIfInBounds 3 (.int .u32 0)).setIfInBounds 12 (.slice none 0 0)).setIfInBounds 13 (.slice none 0 0) = cv (unt c) (uns c.kd s) := by simp [unt, uns, hk, cv]
  have HE := Lib.hid he
  clear he
  go_enter Try.func29, Try.ntmps29
  go_upto_region 1 with fail
  generalize World.alloc (World.alloc w _) _ = W1 at HU ⊢
  have g0 := HU.out.1.c0
  have g3 := HU.out.1.c3
  have g4 := HU.out.1.c4
  have g12 := HU.out.1.c12
  have g13 := HU.out.1.c13
  have f := fun i => HU.out.1.frozen i
  rw [hk] at g0
  have HU2 := Lib.hid ((((HU.out.set 4 (.int .u32 0)).set 3 (.int .u32 0)).set 12 (.slice none 0 0)).set 13 (.slice none 0 0))
  rw [HE.out] at HU2
  go_upto_region 19 with fail
  clear g0 g3 g4 g12 g13
  clear f
  generalize World.setCell (World.setCell (World.setCell (World.setCell W1 _ _) _ _) _ _) _ _ = W2 at HU2 ⊢
  generalize hcv : cv (unt c) (uns c.kd s) = CS at HU2 ⊢
  have hz : CS.size = 15 := by rw [← hcv]; rfl
  have hi : (Try.prog.info? 29).map (·.size) = some CS.size := by rw [hz]; exact ckinfo
  have ho : CS.all (·.oneCell') = true := by rw [← hcv]; exact cv_one _ _
  have HI := Lib.hid hi
  have HO := Lib.hid ho
  have HZ := Lib.hid hz
  have HCV := Lib.hid hcv
  clear hcv hz hi ho
  go_wp2_with (first
    | (refine wpList_load_row rfl 29 (.tmp 1) rfl w.heap.size rfl 29 CS (0, 0) _ HU2.out.1 Try.underlying29 rfl HI.out ?_)
    | (refine wpList_store_row rfl 29 (.tmp 2) (.tmp 47) rfl (w.heap.size + 1) CS rfl rfl 29 zlit HU2.out.2.1 HI.out (by rw [HZ.out]; rfl) HO.out ?_))
  refine bodyPost_ret (results_cell_row rfl _ _ (w.heap.size + 1) 29 CS (0, 0) _ rfl ?_ Try.underlying29 rfl HI.out) rfl ⟨by rw [HCV.out], ?_⟩
  · exact (HU2.out.row CS).2.1
  · exact (HU2.out.row CS).2.2
set_option maxRecDepth 100000 in
set_option maxHeartbeats 1000000 in
theorem untold6 (c : Ck) (s : Ls) (w : World) (hk : c.kd = 6) :
    Calls Try.prog 29 #[.agg (cv c s)] w fun e w' => e = .returned (.agg (cv (unt c) (uns c.kd s))) ∧ Below w.heap.size w w' := by
  have HU : Hid (Un w (cv c s) zlit _) := Lib.hid (Un.new w (cv c s) zlit)
  have he : (cv c s).setIfInBounds 14 (.slice none 0 0) = cv (unt c) (uns c.kd s) := by simp [unt, uns, hk, cv]
  have HE := Lib.hid he
  clear he
  go_enter Try.func29, Try.ntmps29
  go_upto_region 1 with fail
  generalize World.alloc (World.alloc w _) _ = W1 at HU ⊢
  have g0 := HU.out.1.c0
  have g14 := HU.out.1.c14
  have f := fun i => HU.out.1.frozen i
  rw [hk] at g0
  have HU2 := Lib.hid (HU.out.set 14 (.slice none 0 0))
  rw [HE.out] at HU2
  go_upto_region 19 with fail
  clear g0 g14
  clear f
  generalize World.setCell W1 _ _ = W2 at HU2 ⊢
  generalize hcv : cv (unt c) (uns c.kd s) = CS at HU2 ⊢
  have hz : CS.size = 15 := by rw [← hcv]; rfl
  have hi : (Try.prog.info? 29).map (·.size) = some CS.size := by rw [hz]; exact ckinfo
  have ho : CS.all (·.oneCell') = true := by rw [← hcv]; exact cv_one _ _
  have HI := Lib.hid hi
  have HO := Lib.hid ho
  have HZ := Lib.hid hz
  have HCV := Lib.hid hcv
  clear hcv hz hi ho
  go_wp2_with (first
    | (refine wpList_load_row rfl 29 (.tmp 1) rfl w.heap.size rfl 29 CS (0, 0) _ HU2.out.1 Try.underlying29 rfl HI.out ?_)
    | (refine wpList_store_row rfl 29 (.tmp 2) (.tmp 47) rfl (w.heap.size + 1) CS rfl rfl 29 zlit HU2.out.2.1 HI.out (by rw [HZ.out]; rfl) HO.out ?_))
  refine bodyPost_ret (results_cell_row rfl _ _ (w.heap.size + 1) 29 CS (0, 0) _ rfl ?_ Try.underlying29 rfl HI.out) rfl ⟨by rw [HCV.out], ?_⟩
  · exact (HU2.out.row CS).2.1
  · exact (HU2.out.row CS).2.2
set_option maxRecDepth 100000 in
set_option maxHeartbeats 1000000 in
theorem untold9 (c : Ck) (s : Ls) (w : World) (hk : c.kd = 9) :
    Calls Try.prog 29 #[.agg (cv c s)] w fun e w' => e = .returned (.agg (cv (unt c) (uns c.kd s))) ∧ Below w.heap.size w w' := by
  have HU : Hid (Un w (cv c s) zlit _) := Lib.hid (Un.new w (cv c s) zlit)
  have he : (cv c s).setIfInBounds 14 (.slice none 0 0) = cv (unt c) (uns c.kd s) := by simp [unt, uns, hk, cv]
  have HE := Lib.hid he
  clear he
  go_enter Try.func29, Try.ntmps29
  go_upto_region 1 with fail
  generalize World.alloc (World.alloc w _) _ = W1 at HU ⊢
  have g0 := HU.out.1.c0
  have g14 := HU.out.1.c14
  have f := fun i => HU.out.1.frozen i
  rw [hk] at g0
  have HU2 := Lib.hid (HU.out.set 14 (.slice none 0 0))
  rw [HE.out] at HU2
  go_upto_region 19 with fail
  clear g0 g14
  clear f
  generalize World.setCell W1 _ _ = W2 at HU2 ⊢
  generalize hcv : cv (unt c) (uns c.kd s) = CS at HU2 ⊢
  have hz : CS.size = 15 := by rw [← hcv]; rfl
  have hi : (Try.prog.info? 29).map (·.size) = some CS.size := by rw [hz]; exact ckinfo
  have ho : CS.all (·.oneCell') = true := by rw [← hcv]; exact cv_one _ _
  have HI := Lib.hid hi
  have HO := Lib.hid ho
  have HZ := Lib.hid hz
  have HCV := Lib.hid hcv
  clear hcv hz hi ho
  go_wp2_with (first
    | (refine wpList_load_row rfl 29 (.tmp 1) rfl w.heap.size rfl 29 CS (0, 0) _ HU2.out.1 Try.underlying29 rfl HI.out ?_)
    | (refine wpList_store_row rfl 29 (.tmp 2) (.tmp 47) rfl (w.heap.size + 1) CS rfl rfl 29 zlit HU2.out.2.1 HI.out (by rw [HZ.out]; rfl) HO.out ?_))
  refine bodyPost_ret (results_cell_row rfl _ _ (w.heap.size + 1) 29 CS (0, 0) _ rfl ?_ Try.underlying29 rfl HI.out) rfl ⟨by rw [HCV.out], ?_⟩
  · exact (HU2.out.row CS).2.1
  · exact (HU2.out.row CS).2.2
set_option maxRecDepth 100000 in
set_option maxHeartbeats 1000000 in
theorem untold7 (c : Ck) (s : Ls) (w : World) (hk : c.kd = 7) :
    Calls Try.prog 29 #[.agg (cv c s)] w fun e w' => e = .returned (.agg (cv (unt c) (uns c.kd s))) ∧ Below w.heap.size w w' := by
  have HU : Hid (Un w (cv c s) zlit _) := Lib.hid (Un.new w (cv c s) zlit)
  have he : (cv c s).setIfInBounds 4 (.int .u32 0) = cv (unt c) (uns c.kd s) := by simp [unt, uns, hk, cv]
  have HE := Lib.hid he
  clear he
  go_enter Try.func29, Try.ntmps29
  go_upto_region 1 with fail
  generalize World.alloc (World.alloc w _) _ = W1 at HU ⊢
  have g0 := HU.out.1.c0
  have g4 := HU.out.1.c4
  have f := fun i => HU.out.1.frozen i
  rw [hk] at g0
  have HU2 := Lib.hid (HU.out.set 4 (.int .u32 0))
  rw [HE.out] at HU2
  go_upto_region 19 with fail
  clear g0 g4
  clear f
  generalize World.setCell W1 _ _ = W2 at HU2 ⊢
  generalize hcv : cv (unt c) (uns c.kd s) = CS at HU2 ⊢
  have hz : CS.size = 15 := by rw [← hcv]; rfl
  have hi : (Try.prog.info? 29).map (·.size) = some CS.size := by rw [hz]; exact ckinfo
  have ho : CS.all (·.oneCell') = true := by rw [← hcv]; exact cv_one _ _
  have HI := Lib.hid hi
  have HO := Lib.hid ho
  have HZ := Lib.hid hz
  have HCV := Lib.hid hcv
  clear hcv hz hi ho
  go_wp2_with (first
    | (refine wpList_load_row rfl 29 (.tmp 1) rfl w.heap.size rfl 29 CS (0, 0) _ HU2.out.1 Try.underlying29 rfl HI.out ?_)
    | (refine wpList_store_row rfl 29 (.tmp 2) (.tmp 47) rfl (w.heap.size + 1) CS rfl rfl 29 zlit HU2.out.2.1 HI.out (by rw [HZ.out]; rfl) HO.out ?_))
  refine bodyPost_ret (results_cell_row rfl _ _ (w.heap.size + 1) 29 CS (0, 0) _ rfl ?_ Try.underlying29 rfl HI.out) rfl ⟨by rw [HCV.out], ?_⟩
  · exact (HU2.out.row CS).2.1
  · exact (HU2.out.row CS).2.2
set_option maxRecDepth 100000 in
set_option maxHeartbeats 1000000 in
theorem untold8 (c : Ck) (s : Ls) (w : World) (hk : c.kd = 8) :
    Calls Try.prog 29 #[.agg (cv c s)] w fun e w' => e = .returned (.agg (cv (unt c) (uns c.kd s))) ∧ Below w.heap.size w w' := by
  have HU : Hid (Un w (cv c s) zlit _) := Lib.hid (Un.new w (cv c s) zlit)
  have he : cv c s = cv (unt c) (uns c.kd s) := by simp [unt, uns, hk, cv]
  have HE := Lib.hid he
  clear he
  go_enter Try.func29, Try.ntmps29
  go_upto_region 1 with fail
  generalize World.alloc (World.alloc w _) _ = W1 at HU ⊢
  have g0 := HU.out.1.c0
  rw [hk] at g0
  have HU2 := Lib.hid HU.out
  rw [HE.out] at HU2
  go_upto_region 19 with fail
  clear g0 
  generalize hcv : cv (unt c) (uns c.kd s) = CS at HU2 ⊢
  have hz : CS.size = 15 := by rw [← hcv]; rfl
  have hi : (Try.prog.info? 29).map (·.size) = some CS.size := by rw [hz]; exact ckinfo
  have ho : CS.all (·.oneCell') = true := by rw [← hcv]; exact cv_one _ _
  have HI := Lib.hid hi
  have HO := Lib.hid ho
  have HZ := Lib.hid hz
  have HCV := Lib.hid hcv
  clear hcv hz hi ho
  go_wp2_with (first
    | (refine wpList_load_row rfl 29 (.tmp 1) rfl w.heap.size rfl 29 CS (0, 0) _ HU2.out.1 Try.underlying29 rfl HI.out ?_)
    | (refine wpList_store_row rfl 29 (.tmp 2) (.tmp 47) rfl (w.heap.size + 1) CS rfl rfl 29 zlit HU2.out.2.1 HI.out (by rw [HZ.out]; rfl) HO.out ?_))
  refine bodyPost_ret (results_cell_row rfl _ _ (w.heap.size + 1) 29 CS (0, 0) _ rfl ?_ Try.underlying29 rfl HI.out) rfl ⟨by rw [HCV.out], ?_⟩
  · exact (HU2.out.row CS).2.1
  · exact (HU2.out.row CS).2.2
set_option maxRecDepth 100000 in
set_option maxHeartbeats 1000000 in
theorem untold11 (c : Ck) (s : Ls) (w : World) (hk : c.kd = 11) :
    Calls Try.prog 29 #[.agg (cv c s)] w fun e w' => e = .returned (.agg (cv (unt c) (uns c.kd s))) ∧ Below w.heap.size w w' := by
  have HU : Hid (Un w (cv c s) zlit _) := Lib.hid (Un.new w (cv c s) zlit)
  have he : cv c s = cv (unt c) (uns c.kd s) := by simp [unt, uns, hk, cv]
  have HE := Lib.hid he
  clear he
  go_enter Try.func29, Try.ntmps29
  go_upto_region 1 with fail
  generalize World.alloc (World.alloc w _) _ = W1 at HU ⊢
  have g0 := HU.out.1.c0
  rw [hk] at g0
  have HU2 := Lib.hid HU.out
  rw [HE.out] at HU2
  go_upto_region 19 with fail
  clear g0 
  generalize hcv : cv (unt c) (uns c.kd s) = CS at HU2 ⊢
  have hz : CS.size = 15 := by rw [← hcv]; rfl
  have hi : (Try.prog.info? 29).map (·.size) = some CS.size := by rw [hz]; exact ckinfo
  have ho : CS.all (·.oneCell') = true := by rw [← hcv]; exact cv_one _ _
  have HI := Lib.hid hi
  have HO := Lib.hid ho
  have HZ := Lib.hid hz
  have HCV := Lib.hid hcv
  clear hcv hz hi ho
  go_wp2_with (first
    | (refine wpList_load_row rfl 29 (.tmp 1) rfl w.heap.size rfl 29 CS (0, 0) _ HU2.out.1 Try.underlying29 rfl HI.out ?_)
    | (refine wpList_store_row rfl 29 (.tmp 2) (.tmp 47) rfl (w.heap.size + 1) CS rfl rfl 29 zlit HU2.out.2.1 HI.out (by rw [HZ.out]; rfl) HO.out ?_))
  refine bodyPost_ret (results_cell_row rfl _ _ (w.heap.size + 1) 29 CS (0, 0) _ rfl ?_ Try.underlying29 rfl HI.out) rfl ⟨by rw [HCV.out], ?_⟩
  · exact (HU2.out.row CS).2.1
  · exact (HU2.out.row CS).2.2
set_option maxRecDepth 100000 in
set_option maxHeartbeats 1000000 in
theorem untold14 (c : Ck) (s : Ls) (w : World) (hk : c.kd = 14) :
    Calls Try.prog 29 #[.agg (cv c s)] w fun e w' => e = .returned (.agg (cv (unt c) (uns c.kd s))) ∧ Below w.heap.size w w' := by
  have HU : Hid (Un w (cv c s) zlit _) := Lib.hid (Un.new w (cv c s) zlit)
  have he : cv c s = cv (unt c) (uns c.kd s) := by simp [unt, uns, hk, cv]
  have HE := Lib.hid he
  clear he
  go_enter Try.func29, Try.ntmps29
  go_upto_region 1 with fail
  generalize World.alloc (World.alloc w _) _ = W1 at HU ⊢
  have g0 := HU.out.1.c0
  rw [hk] at g0
  have HU2 := Lib.hid HU.out
  rw [HE.out] at HU2
  go_upto_region 19 with fail
  clear g0 
  generalize hcv : cv (unt c) (uns c.kd s) = CS at HU2 ⊢
  have hz : CS.size = 15 := by rw [← hcv]; rfl
  have hi : (Try.prog.info? 29).map (·.size) = some CS.size := by rw [hz]; exact ckinfo
  have ho : CS.all (·.oneCell') = true := by rw [← hcv]; exact cv_one _ _
  have HI := Lib.hid hi
  have HO := Lib.hid ho
  have HZ := Lib.hid hz
  have HCV := Lib.hid hcv
  clear hcv hz hi ho
  go_wp2_with (first
    | (refine wpList_load_row rfl 29 (.tmp 1) rfl w.heap.size rfl 29 CS (0, 0) _ HU2.out.1 Try.underlying29 rfl HI.out ?_)
    | (refine wpList_store_row rfl 29 (.tmp 2) (.tmp 47) rfl (w.heap.size + 1) CS rfl rfl 29 zlit HU2.out.2.1 HI.out (by rw [HZ.out]; rfl) HO.out ?_))
  refine bodyPost_ret (results_cell_row rfl _ _ (w.heap.size + 1) 29 CS (0, 0) _ rfl ?_ Try.underlying29 rfl HI.out) rfl ⟨by rw [HCV.out], ?_⟩
  · exact (HU2.out.row CS).2.1
  · exact (HU2.out.row CS).2.2
set_option maxRecDepth 100000 in
set_option maxHeartbeats 1000000 in
theorem untoldN (c : Ck) (s : Ls) (w : World) (hk : ¬ (c.kd = 0 ∨ c.kd = 1 ∨ c.kd = 2 ∨ c.kd = 3 ∨ c.kd = 6 ∨ c.kd = 9 ∨ c.kd = 7 ∨ c.kd = 8 ∨ c.kd = 11 ∨ c.kd = 14)) :
    Calls Try.prog 29 #[.agg (cv c s)] w fun e w' => e = .returned (.agg (cv (unt c) (uns c.kd s))) ∧ Below w.heap.size w w' := by
  have HU : Hid (Un w (cv c s) zlit _) := Lib.hid (Un.new w (cv c s) zlit)
  have he : (cv c s).setIfInBounds 10 (.slice none 0 0) = cv (unt c) (uns c.kd s) := by unfold unt uns; rw [if_neg (by omega), if_neg (by omega), if_neg (by omega), if_neg (by omega), if_neg (by omega), if_neg (by omega), if_neg (by omega), if_neg (by omega), if_neg (by omega), if_neg (by omega), if_neg (by omega), if_neg (by omega), if_neg (by omega)]; simp [cv]
  have HE := Lib.hid he
  clear he
  have d0 : ((c.kd : Int) == 0) = false := by simp; omega
  have d1 : ((c.kd : Int) == 1) = false := by simp; omega
  have d2 : ((c.kd : Int) == 2) = false := by simp; omega
  have d3 : ((c.kd : Int) == 3) = false := by simp; omega
  have d6 : ((c.kd : Int) == 6) = false := by simp; omega
  have d7 : ((c.kd : Int) == 7) = false := by simp; omega
  have d8 : ((c.kd : Int) == 8) = false := by simp; omega
  have d9 : ((c.kd : Int) == 9) = false := by simp; omega
  have d11 : ((c.kd : Int) == 11) = false := by simp; omega
  have d14 : ((c.kd : Int) == 14) = false := by simp; omega
  go_enter Try.func29, Try.ntmps29
  go_upto_region 1 with fail
  generalize World.alloc (World.alloc w _) _ = W1 at HU ⊢
  have g0 := HU.out.1.c0
  have g10 := HU.out.1.c10
  have f := fun i => HU.out.1.frozen i
  have HU2 := Lib.hid (HU.out.set 10 (.slice none 0 0))
  rw [HE.out] at HU2
  go_upto_region 19 with fail
  clear g0 g10
  clear f
  generalize World.setCell W1 _ _ = W2 at HU2 ⊢
  generalize hcv : cv (unt c) (uns c.kd s) = CS at HU2 ⊢
  have hz : CS.size = 15 := by rw [← hcv]; rfl
  have hi : (Try.prog.info? 29).map (·.size) = some CS.size := by rw [hz]; exact ckinfo
  have ho : CS.all (·.oneCell') = true := by rw [← hcv]; exact cv_one _ _
  have HI := Lib.hid hi
  have HO := Lib.hid ho
  have HZ := Lib.hid hz
  have HCV := Lib.hid hcv
  clear hcv hz hi ho
  go_wp2_with (first
    | (refine wpList_load_row rfl 29 (.tmp 1) rfl w.heap.size rfl 29 CS (0, 0) _ HU2.out.1 Try.underlying29 rfl HI.out ?_)
    | (refine wpList_store_row rfl 29 (.tmp 2) (.tmp 47) rfl (w.heap.size + 1) CS rfl rfl 29 zlit HU2.out.2.1 HI.out (by rw [HZ.out]; rfl) HO.out ?_))
  refine bodyPost_ret (results_cell_row rfl _ _ (w.heap.size + 1) 29 CS (0, 0) _ rfl ?_ Try.underlying29 rfl HI.out) rfl ⟨by rw [HCV.out], ?_⟩
  · exact (HU2.out.row CS).2.1
  · exact (HU2.out.row CS).2.2
theorem untold_any (c : Ck) (s : Ls) (w : World) :
    Calls Try.prog 29 #[.agg (cv c s)] w fun e w' => e = .returned (.agg (cv (unt c) (uns c.kd s))) ∧ Below w.heap.size w w' := by
  by_cases h : c.kd = 0 ∨ c.kd = 1 ∨ c.kd = 2 ∨ c.kd = 3 ∨ c.kd = 6 ∨ c.kd = 9 ∨ c.kd = 7 ∨ c.kd = 8 ∨ c.kd = 11 ∨ c.kd = 14
  · rcases h with h | h | h | h | h | h | h | h | h | h
    · exact untold0 c s w h
    · exact untold1 c s w h
    · exact untold2 c s w h
    · exact untold3 c s w h
    · exact untold6 c s w h
    · exact untold9 c s w h
    · exact untold7 c s w h
    · exact untold8 c s w h
    · exact untold11 c s w h
    · exact untold14 c s w h
  · exact untoldN c s w h
end Go.Proofs.Ytjlemghkaodkkaa
