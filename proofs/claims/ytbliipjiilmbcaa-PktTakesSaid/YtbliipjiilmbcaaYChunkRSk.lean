/-
  The document's sack.
-/
import Derived.Test.YtbliipjiilmbcaaYP1d
import Derived.Test.YtbliipjiilmbcaaYChunkRd5
import Derived.Deep.RegionHeld3
set_option linter.unusedVariables false
set_option linter.unusedSimpArgs false
namespace Go.Proofs.Ytbliipjiilmbcaa
open Go.RowKit Wire Tlv Chunk Go.Shelf

/-- The blocks of a call that is handed a chunk and answers one: the chunk, the answer. -/
def UP (w : World) (y z : Array Value) (W : World) : Prop := Bk W w.heap.size y 32 ∧ Bk W (w.heap.size + 1) z 32 ∧ Below w.heap.size w W
theorem UP.new (w : World) (y : Array Value) : UP w y zlit ((w.alloc (.cells y 32)).alloc (.cells zlit 32)) := by
  refine ⟨(Bk.new w y _).alloc _, ?_, ((Below.refl _ _).alloc (Nat.le_refl _) _).alloc (by simp) _⟩
  have := Bk.new (w.alloc (.cells y 32)) zlit 32
  rw [World.size_alloc] at this
  exact this
theorem UP.next {w W W' : World} {y z : Array Value} (h : UP w y z W) (hb : Below W.heap.size W W') : UP w y z W' := ⟨h.1.next hb, h.2.1.next hb, bnext' h.2.2 hb⟩
theorem UP.drew {w W : World} {y z : Array Value} (h : UP w y z W) : UP w y z W.drew := h.next (Below.refl _ _).drew
theorem UP.set {w W : World} {y z : Array Value} (h : UP w y z W) (i : Nat) (v : Value) : UP w (y.setIfInBounds i v) z (W.setCell ⟨w.heap.size, i, none⟩ v) :=
  ⟨h.1.set i v, h.2.1.other (by omega) i v, below_ot h.2.2 ((Ot.refl W w.heap.size).set i v) h.2.2.size (Nat.le_refl _)⟩
theorem UP.row {w W : World} {y z : Array Value} (h : UP w y z W) (z' : Array Value) : UP w y z' (W.setRow (w.heap.size + 1) z') := ⟨h.1.rowO (by omega) _, h.2.1.row_ _, below_setRow h.2.2 (by omega) _⟩
theorem UP.gr {w W W' : World} {y z : Array Value} {ob : Option Nat} (h : UP w y z W) (hg : W.grownBy W' ob) (hob : ∀ j, ob = some j → w.heap.size + 2 ≤ j) : UP w y z W' :=
  ⟨(hg.block _ h.1.lt (fun e => by have := hob _ e.symm; omega)).trans h.1, (hg.block _ h.2.1.lt (fun e => by have := hob _ e.symm; omega)).trans h.2.1, h.2.2.grown hg h.2.2.size (fun j hj => by have := hob j hj; omega)⟩
theorem UP.two {w W : World} {y z : Array Value} (h : UP w y z W) : w.heap.size + 2 ≤ W.heap.size := by have := h.2.1.lt; omega
theorem cv_ga (c : Ck) (s : Ls) (l : List (Nat × Nat)) (A : Option Addr) (n cp : Nat) : (cv c s).setIfInBounds 12 (.slice A n cp) = cv { c with ga := l } (putG s A n cp) := by simp [cv, putG]
theorem cv_du (c : Ck) (s : Ls) (l : List Nat) (A : Option Addr) (n cp : Nat) : (cv c s).setIfInBounds 13 (.slice A n cp) = cv { c with du := l } (putU s A n cp) := by simp [cv, putU]
def SkSt (w : World) (v : List Int) (c : Ck) (k : Nat) (W : World) : Prop := ∃ gA gc, UP w (cv { c with ga := gaps_ v k } (putG nol gA k gc)) zlit W ∧ W.ownsRow (w.heap.size + 2) 63 2 (.slice gA k gc) k (gs (gaps_ v k))
def SkSu (w : World) (v : List Int) (c : Ck) (g k : Nat) (W : World) : Prop := ∃ gA gc uA uc, UP w (cv { c with ga := gaps_ v g, du := dups_ v g k } (putU (putG nol gA g gc) uA k uc)) zlit W ∧ W.ownsRow (w.heap.size + 2) 63 2 (.slice gA g gc) g (gs (gaps_ v g)) ∧ W.ownsRow (w.heap.size + 2) 27 1 (.slice uA k uc) k (us (dups_ v g k))
/-- What sack leaves. -/
def SkOut (w : World) (ok : Bool) (c : Ck) (e : Ending) (w' : World) : Prop := ∃ c' s', e = .returned (.tuple #[.agg (cv c' s'), .bool ok]) ∧ Below w.heap.size w w' ∧ (ok = true → c' = c ∧ ChF w.heap.size w' c s')
set_option maxRecDepth 100000 in
set_option maxHeartbeats 4000000 in
theorem rsack_any (k f : Nat) (v : List Int) (A : Option Addr) (n cp : Nat) (w : World) (hx : (⟨k, f, v⟩ : Tv).ok) (hk : k ≤ 255) (hl : v.length = n) (hn : n ≤ 65531) (hle : n ≤ cp) (hr : Row w A (bs v)) :
    Calls Try.prog 37 #[.agg (cv (bare ⟨k, f, v⟩) nol), .slice A n cp] w (SkOut w (decide (n = 12 + 4 * nn v 8 2 + 4 * nn v 10 2)) { bare ⟨k, f, v⟩ with tsn := nn v 0 4, rw := nn v 4 4, ga := gaps_ v (nn v 8 2), du := dups_ v (nn v 8 2) (nn v 10 2) }) := by
  have HU : Hid (UP w (cv (bare ⟨k, f, v⟩) nol) zlit _) := Lib.hid (UP.new w (cv (bare ⟨k, f, v⟩) nol))
  have HBO := Lib.hid (bare_ok hx hk)
  have HBY := Lib.hid hx.2.2
  have HCO : ∀ c : Ck, ∀ s : Ls, (cv c s).all (·.oneCell') = true := cv_one
  have HCO := Lib.hid HCO
  have HCI : ∀ c : Ck, ∀ s : Ls, (Try.prog.info? 32).map (·.size) = some (cv c s).size := cv_info
  have HCI := Lib.hid HCI
  obtain ⟨i0, hi0, hz0, hz1, hz2⟩ := info_parts Try_infoGap
  have HI := Lib.hid hi0
  have HZ0 := Lib.hid hz0
  have HZ1 := Lib.hid hz1
  have HZ2 := Lib.hid hz2
  obtain ⟨i4, hi4, hy0, hy1, hy2⟩ := info_parts Try_info32
  have HJ := Lib.hid hi4
  have HY0 := Lib.hid hy0
  have HY1 := Lib.hid hy1
  have HY2 := Lib.hid hy2
  clear hi0 hz0 hz1 hz2 hi4 hy0 hy1 hy2
  have CN := Lib.hid fun (at_ sz : Nat) (W : World) (hs : sz ≤ 4) (ha : at_ ≤ 1000000) (hW : Below w.heap.size w W) => rn_any A n cp v at_ sz W hl hle hs hx.2.2 (hr.below hW) ha (by omega)
  have C8 : Hid (∀ W, Below w.heap.size w W → Calls Try.prog 35 #[.slice A n cp, .int .i64 8, .int .i64 2] W fun e w' => e = .returned (.int .u32 (nn v 8 2 : Nat)) ∧ W = w') := Lib.hid fun W hW => CN.out 8 2 W (by omega) (by omega) hW
  have C10 : Hid (∀ W, Below w.heap.size w W → Calls Try.prog 35 #[.slice A n cp, .int .i64 10, .int .i64 2] W fun e w' => e = .returned (.int .u32 (nn v 10 2 : Nat)) ∧ W = w') := Lib.hid fun W hW => CN.out 10 2 W (by omega) (by omega) hW
  have C0 : Hid (∀ W, Below w.heap.size w W → Calls Try.prog 35 #[.slice A n cp, .int .i64 0, .int .i64 4] W fun e w' => e = .returned (.int .u32 (nn v 0 4 : Nat)) ∧ W = w') := Lib.hid fun W hW => CN.out 0 4 W (by omega) (by omega) hW
  have C4 : Hid (∀ W, Below w.heap.size w W → Calls Try.prog 35 #[.slice A n cp, .int .i64 4, .int .i64 4] W fun e w' => e = .returned (.int .u32 (nn v 4 4 : Nat)) ∧ W = w') := Lib.hid fun W hW => CN.out 4 4 W (by omega) (by omega) hW
  have hg := nn_lt2 hx.2.2 8
  have hd := nn_lt2 hx.2.2 10
  have HL0 := Lib.hid (nn_lt4 hx.2.2 0)
  have HL4 := Lib.hid (nn_lt4 hx.2.2 4)
  obtain ⟨g, hge⟩ : ∃ g, nn v 8 2 = g := ⟨_, rfl⟩
  obtain ⟨d, hde⟩ : ∃ d, nn v 10 2 = d := ⟨_, rfl⟩
  obtain ⟨z0, hz0⟩ : ∃ z, nn v 0 4 = z := ⟨_, rfl⟩
  obtain ⟨z4, hz4⟩ : ∃ z, nn v 4 4 = z := ⟨_, rfl⟩
  rw [hge] at hg C8 ⊢
  rw [hde] at hd C10 ⊢
  rw [hz0] at C0 HL0 ⊢
  rw [hz4] at C4 HL4 ⊢
  have wg : IntKind.i64.wrap (g : Int) = (g : Int) := IntWalk.i64_in _ (by omega)
  have wd : IntKind.i64.wrap (d : Int) = (d : Int) := IntWalk.i64_in _ (by omega)
  obtain ⟨c0, hc0⟩ : ∃ c : Ck, bare ⟨k, f, v⟩ = c := ⟨_, rfl⟩
  have HK0 : Hid (c0.da = [] ∧ c0.ad = [] ∧ c0.ga = [] ∧ c0.du = [] ∧ c0.ca = []) := Lib.hid (by rw [← hc0]; exact ⟨rfl, rfl, rfl, rfl, rfl⟩)
  rw [hc0] at HU HBO ⊢
  obtain ⟨ok, hok⟩ : ∃ ok, decide (n = 12 + 4 * g + 4 * d) = ok := ⟨_, rfl⟩
  rw [hok]
  have HOK := Lib.hid hok
  clear hge hde hz0 hz4 hc0 hl hr hx hle hok
  go_enter Try.func37, Try.ntmps37
  go_upto_region 1 with fail
  generalize World.alloc (World.alloc w _) _ = W1 at HU ⊢
  go_wp2_with fail
  have hb1 := HU.out.2.2
  (with_reducible refine (C8.out _ hb1).mono ?_)
  rintro e w1 ⟨rfl, rfl⟩
  go_wp2_with fail
  (with_reducible refine (C10.out _ hb1).mono ?_)
  rintro e w1 ⟨rfl, rfl⟩
  by_cases heq : n = 12 + 4 * g + 4 * d
  · have d1 : ((n : Int) != 12 + 4 * (g : Int) + 4 * (d : Int)) = false := by simp; omega
    have HOT := Lib.hid (show ok = true by rw [← HOK.out]; simpa using heq)
    clear heq
    go_wp2_with fail
    clear d1
    have k4 := HU.out.1.c4
    have f4 := HU.out.1.frozen 4
    have hb1 := HU.out.2.2
    (with_reducible refine (C0.out _ hb1).mono ?_)
    rintro e w1 ⟨rfl, rfl⟩
    go_upto_region 5 with fail
    have hU := HU.out.set 4 (.int .u32 (z0 : Int))
    rw [cv_tsn] at hU
    obtain ⟨c1, hcc1⟩ : ∃ c : Ck, c = { c0 with tsn := z0 } := ⟨_, rfl⟩
    rw [← hcc1] at hU
    have HEc1 := Lib.hid hcc1
    generalize World.setCell _ _ _ = W2 at hU ⊢
    clear HU k4 f4 hcc1 hb1
    have HU := Lib.hid hU
    clear hU
    go_wp2_with fail
    have k3 := HU.out.1.c3
    have f3 := HU.out.1.frozen 3
    have hb1 := HU.out.2.2
    (with_reducible refine (C4.out _ hb1).mono ?_)
    rintro e w1 ⟨rfl, rfl⟩
    go_upto_region 6 with fail
    have hU := HU.out.set 3 (.int .u32 (z4 : Int))
    rw [cv_rw] at hU
    obtain ⟨c, hcc⟩ : ∃ c : Ck, c = { c1 with rw := z4 } := ⟨_, rfl⟩
    rw [← hcc] at hU
    have HEc := Lib.hid hcc
    generalize World.setCell _ _ _ = W3 at hU ⊢
    clear HU k3 f3 hcc hb1
    have HU := Lib.hid hU
    clear hU
    have HST : Hid (SkSt w v c 0 W3) := Lib.hid (by
      refine ⟨none, 0, ?_, World.ownsRow_nil _ _ _ _⟩
      have e : ({ c with ga := gaps_ v 0 } : Ck) = c := by
        have h1 : c.ga = [] := by rw [HEc.out, HEc1.out]; exact HK0.out.2.2.1
        show ({ c with ga := [] } : Ck) = c
        rw [← h1]
      rw [e]
      exact HU.out)
    clear HU
    go_wp2_with fail
    go_loopw [8] (fun i wr => ∃ q : Nat, q ≤ g ∧ i = .int .i64 (q : Int) ∧ Hid (SkSt w v c q wr)) (fun i _ => g - (intOf i).toNat)
    case atStart => exact ⟨0, by omega, rfl, HST⟩
    case round =>
      clear HST
      obtain ⟨q, hq1, rfl, hst⟩ := hrel
      obtain ⟨gA, gc, hU, hog⟩ := hst.out
      by_cases hlt1 : q < g
      · have C12 : Hid (∀ W, Below w.heap.size w W → Calls Try.prog 35 #[.slice A n cp, .int .i64 (IntKind.i64.wrap (12 + IntKind.i64.wrap (4 * (q : Int)))), .int .i64 2] W fun e w' => e = .returned (.int .u32 (nn v (12 + 4 * q) 2 : Nat)) ∧ W = w') := Lib.hid fun W hW => by
          have h := CN.out (12 + 4 * q) 2 W (by omega) (by omega) hW
          rw [show ((12 + 4 * q : Nat) : Int) = 12 + 4 * (q : Int) by omega] at h
          rw [show IntKind.i64.wrap (4 * (q : Int)) = 4 * (q : Int) from IntWalk.i64_in _ (by omega), show IntKind.i64.wrap (12 + 4 * (q : Int)) = 12 + 4 * (q : Int) from IntWalk.i64_in _ (by omega)]
          exact h
        have C14 : Hid (∀ W, Below w.heap.size w W → Calls Try.prog 35 #[.slice A n cp, .int .i64 (IntKind.i64.wrap (14 + IntKind.i64.wrap (4 * (q : Int)))), .int .i64 2] W fun e w' => e = .returned (.int .u32 (nn v (14 + 4 * q) 2 : Nat)) ∧ W = w') := Lib.hid fun W hW => by
          have h := CN.out (14 + 4 * q) 2 W (by omega) (by omega) hW
          rw [show ((14 + 4 * q : Nat) : Int) = 14 + 4 * (q : Int) by omega] at h
          rw [show IntKind.i64.wrap (4 * (q : Int)) = 4 * (q : Int) from IntWalk.i64_in _ (by omega), show IntKind.i64.wrap (14 + 4 * (q : Int)) = 14 + 4 * (q : Int) from IntWalk.i64_in _ (by omega)]
          exact h
        have HS := Lib.hid (gaps_snoc v q)
        have hx0 := nn_lt2 HBY.out (12 + 4 * q)
        have hx1 := nn_lt2 HBY.out (14 + 4 * q)
        generalize nn v (12 + 4 * q) 2 = y0 at C12 HS hx0
        generalize nn v (14 + 4 * q) 2 = y1 at C14 HS hx1
        have wy0 : IntKind.u16.wrap (y0 : Int) = (y0 : Int) := by rw [IntKind.wrap_u16]; omega
        have wy1 : IntKind.u16.wrap (y1 : Int) = (y1 : Int) := by rw [IntKind.wrap_u16]; omega
        have hal : Below wr.drew.heap.size wr.drew (wr.drew.alloc (.cells #[.int .u16 (y0 : Int), .int .u16 (y1 : Int)] 63)) := (Below.refl _ _).alloc (Nat.le_refl _) _
        have HUA := Lib.hid (hU.drew.next hal)
        have HOA := Lib.hid (own_below (own_below hog (Below.refl _ _).drew) hal)
        have HNA : Hid (∀ j, (Value.slice gA q gc).ownBlock = some j → w.heap.size + 2 ≤ j) := Lib.hid fun j e => (hog.lt j e).1
        have g12 : wr.drew.cell? ⟨w.heap.size, 12, none⟩ = some (.slice gA q gc) := hU.drew.1.c12
        have g12A : (wr.alloc (.cells #[.int .u16 (y0 : Int), .int .u16 (y1 : Int)] 63)).drew.cell? ⟨w.heap.size, 12, none⟩ = some (.slice gA q gc) := HUA.out.1.c12
        have hbd := hU.drew.2.2
        clear hst hU hog hal
        go_upto_region 9 with fail
        refine wp_region_held_drew (S := (fun _ => True)) (by kernel_rfl) (trivial) (fun hHeld => ?_)
        refine wpAnyH_take (i := 0) (v := ?_) rfl (by kernel_rfl) (by kernel_rfl) (by kernel_rfl) (fun _ _ _ h => h) (Or.inl ⟨by rfl, ?_⟩) (by first | assumption | trivial) ?_
        rotate_left 1
        · (intro w9 hSw; go_simp; try (with_reducible rfl))
        try simp only [Act.put, List.setIfInBounds_toArray, List.set_cons_zero, List.set_cons_succ, List.getElem_toArray, List.getElem_cons_zero, List.getElem_cons_succ]
        refine wpAnyH_take (i := 2) (v := ?_) rfl (by kernel_rfl) (by kernel_rfl) (by kernel_rfl) (fun _ _ _ h => h) (Or.inl ⟨by rfl, ?_⟩) (by first | assumption | trivial) ?_
        rotate_left 1
        · (intro w9 hSw; go_simp; try (with_reducible rfl))
        try simp only [Act.put, List.setIfInBounds_toArray, List.set_cons_zero, List.set_cons_succ, List.getElem_toArray, List.getElem_cons_zero, List.getElem_cons_succ]
        refine wpAnyH_take (i := 3) (v := ?_) rfl (by kernel_rfl) (by kernel_rfl) (by kernel_rfl) (fun _ _ _ h => h) (Or.inl ⟨by rfl, ?_⟩) (by first | assumption | trivial) ?_
        rotate_left 1
        · (intro w9 hSw; go_simp; try (with_reducible rfl))
        try simp only [Act.put, List.setIfInBounds_toArray, List.set_cons_zero, List.set_cons_succ, List.getElem_toArray, List.getElem_cons_zero, List.getElem_cons_succ]
        refine wpAnyH_take (i := 4) (v := ?_) rfl (by kernel_rfl) (by kernel_rfl) (by kernel_rfl) (fun _ _ _ h => h) (Or.inl ⟨by rfl, ?_⟩) (by first | assumption | trivial) ?_
        rotate_left 1
        · (intro w9 hSw; go_simp; try (with_reducible rfl))
        try simp only [Act.put, List.setIfInBounds_toArray, List.set_cons_zero, List.set_cons_succ, List.getElem_toArray, List.getElem_cons_zero, List.getElem_cons_succ]
        refine wpAnyH_take (i := 5) (v := ?_) rfl (by kernel_rfl) (by kernel_rfl) (by kernel_rfl) (fun _ _ _ h => h) (Or.inl ⟨by rfl, ?_⟩) (by first | assumption | trivial) ?_
        rotate_left 1
        · (intro w9 hSw; go_simp; try (with_reducible rfl))
        try simp only [Act.put, List.setIfInBounds_toArray, List.set_cons_zero, List.set_cons_succ, List.getElem_toArray, List.getElem_cons_zero, List.getElem_cons_succ]
        refine wpAnyH_take (i := 8) (v := ?_) rfl (by kernel_rfl) (by kernel_rfl) (by kernel_rfl) (fun _ _ _ h => h) (Or.inl ⟨by rfl, ?_⟩) (by first | assumption | trivial) ?_
        rotate_left 1
        · (intro w9 hSw; go_simp; try (with_reducible rfl))
        try simp only [Act.put, List.setIfInBounds_toArray, List.set_cons_zero, List.set_cons_succ, List.getElem_toArray, List.getElem_cons_zero, List.getElem_cons_succ]
        refine wpAnyH_take (i := 9) (v := ?_) rfl (by kernel_rfl) (by kernel_rfl) (by kernel_rfl) (fun _ _ _ h => h) (Or.inl ⟨by rfl, ?_⟩) (by first | assumption | trivial) ?_
        rotate_left 1
        · (intro w9 hSw; go_simp; try (with_reducible rfl))
        try simp only [Act.put, List.setIfInBounds_toArray, List.set_cons_zero, List.set_cons_succ, List.getElem_toArray, List.getElem_cons_zero, List.getElem_cons_succ]
        refine wpAnyH_take (i := 10) (v := ?_) rfl (by kernel_rfl) (by kernel_rfl) (by kernel_rfl) (fun _ _ _ h => h) (Or.inl ⟨by rfl, ?_⟩) (by first | assumption | trivial) ?_
        rotate_left 1
        · (intro w9 hSw; go_simp; try (with_reducible rfl))
        try simp only [Act.put, List.setIfInBounds_toArray, List.set_cons_zero, List.set_cons_succ, List.getElem_toArray, List.getElem_cons_zero, List.getElem_cons_succ]
        refine wpAnyH_take (i := 11) (v := ?_) rfl (by kernel_rfl) (by kernel_rfl) (by kernel_rfl) (fun _ _ _ h => h) (Or.inl ⟨by rfl, ?_⟩) (by first | assumption | trivial) ?_
        rotate_left 1
        · (intro w9 hSw; go_simp; try (with_reducible rfl))
        try simp only [Act.put, List.setIfInBounds_toArray, List.set_cons_zero, List.set_cons_succ, List.getElem_toArray, List.getElem_cons_zero, List.getElem_cons_succ]
        refine wpAnyH_ready (rs := [1, 6]) (by kernel_rfl) (by simp) ?_
        refine AllReadyH.cons rfl (fun K hK => ?_) (AllReadyH.cons rfl (fun K hK => ?_) AllReadyH.nil)
        · go_simp
          refine hK.out _ _ (hHeld) (fun hHeld => ?_)
          clear hK K
          try simp only [Act.put, List.setIfInBounds_toArray, List.set_cons_zero, List.set_cons_succ, List.getElem_toArray, List.getElem_cons_zero, List.getElem_cons_succ]
          refine wpAnyH_ready (rs := [6]) (by kernel_rfl) (by simp) ?_
          refine AllReadyH.cons rfl (fun K hK => ?_) AllReadyH.nil
          go_simp
          go_at_call 35
          (with_reducible refine (C12.out _ hbd).mono ?_)
          rintro e w1 ⟨rfl, rfl⟩
          refine hK.out _ _ (hHeld) (fun hHeld => ?_)
          clear hK K
          try simp only [Act.put, List.setIfInBounds_toArray, List.set_cons_zero, List.set_cons_succ, List.getElem_toArray, List.getElem_cons_zero, List.getElem_cons_succ]
          refine wpAnyH_take (i := 7) (v := ?_) rfl (by kernel_rfl) (by kernel_rfl) (by kernel_rfl) (fun _ _ _ h => h) (Or.inl ⟨by rfl, ?_⟩) (by first | assumption | trivial) ?_
          rotate_left 1
          · (intro w9 hSw; go_simp; try (with_reducible rfl))
          try simp only [Act.put, List.setIfInBounds_toArray, List.set_cons_zero, List.set_cons_succ, List.getElem_toArray, List.getElem_cons_zero, List.getElem_cons_succ]
          refine wpAnyH_ready (rs := [12]) (by kernel_rfl) (by simp) ?_
          refine AllReadyH.cons rfl (fun K hK => ?_) AllReadyH.nil
          go_simp
          go_at_call 35
          (with_reducible refine (C14.out _ hbd).mono ?_)
          rintro e w1 ⟨rfl, rfl⟩
          refine hK.out _ _ (hHeld) (fun hHeld => ?_)
          clear hK K
          try simp only [Act.put, List.setIfInBounds_toArray, List.set_cons_zero, List.set_cons_succ, List.getElem_toArray, List.getElem_cons_zero, List.getElem_cons_succ]
          refine wpAnyH_take (i := 13) (v := ?_) rfl (by kernel_rfl) (by kernel_rfl) (by kernel_rfl) (fun _ _ _ h => h) (Or.inl ⟨by rfl, ?_⟩) (by first | assumption | trivial) ?_
          rotate_left 1
          · (intro w9 hSw; go_simp; try (with_reducible rfl))
          try simp only [Act.put, List.setIfInBounds_toArray, List.set_cons_zero, List.set_cons_succ, List.getElem_toArray, List.getElem_cons_zero, List.getElem_cons_succ]
          refine wpAnyH_take (i := 14) (v := ?_) rfl (by kernel_rfl) (by kernel_rfl) (by kernel_rfl) (fun _ _ _ h => h) (Or.inl ⟨by rfl, ?_⟩) (by first | assumption | trivial) ?_
          rotate_left 1
          · (intro w9 hSw; go_simp; try (with_reducible rfl))
          try simp only [Act.put, List.setIfInBounds_toArray, List.set_cons_zero, List.set_cons_succ, List.getElem_toArray, List.getElem_cons_zero, List.getElem_cons_succ]
          refine wpAnyH_ready (rs := [15]) (by kernel_rfl) (by simp) ?_
          refine AllReadyH.cons rfl (fun K hK => ?_) AllReadyH.nil
          go_simp
          refine hK.out _ _ (hHeld) (fun hHeld => ?_)
          clear hK K
          try simp only [Act.put, List.setIfInBounds_toArray, List.set_cons_zero, List.set_cons_succ, List.getElem_toArray, List.getElem_cons_zero, List.getElem_cons_succ]
          refine wpAnyH_ready (rs := [16]) (by kernel_rfl) (by simp) ?_
          refine AllReadyH.cons rfl (fun K hK => ?_) AllReadyH.nil
          refine step_append_lies _ rfl (.tmp 38) (.tmp 52) 29 rfl (w.heap.size + 2) 63 i0 _ 2 4 Try.underlying29 HI.out HZ0.out HZ1.out HZ2.out rfl (by decide) _ q _ rfl HOA.out ⟨wr.heap.size, 0, none⟩ 1 1 [.int .u16 (y0 : Int), .int .u16 (y1 : Int)] rfl rfl (bcells (Row.new wr.drew [.int .u16 (y0 : Int), .int .u16 (y1 : Int)] 63 (0, 0))) (by simp [Value.oneCell']) (by omega) (by unfold maxLen; omega) (by omega) HUA.out.two _ rfl ?_
          intro g9 cap9 w10 hown10 hgrow10 hat10 _
          have hU10 := HUA.out.gr hgrow10 HNA.out
          have HU10 := Lib.hid hU10
          have k12 := hU10.1.c12
          have f12 := hU10.1.frozen 12
          have HOW := Lib.hid hown10
          clear hU10 hown10 hgrow10 hat10
          refine hK.out _ _ (hHeld) (fun hHeld => ?_)
          clear hK K
          try simp only [Act.put, List.setIfInBounds_toArray, List.set_cons_zero, List.set_cons_succ, List.getElem_toArray, List.getElem_cons_zero, List.getElem_cons_succ]
          refine wpAnyH_take (i := 17) (v := ?_) rfl (by kernel_rfl) (by kernel_rfl) (by kernel_rfl) (fun _ _ _ h => h) (Or.inl ⟨by rfl, ?_⟩) (by first | assumption | trivial) ?_
          rotate_left 1
          · (intro w9 hSw; go_simp; try (with_reducible rfl))
          try simp only [Act.put, List.setIfInBounds_toArray, List.set_cons_zero, List.set_cons_succ, List.getElem_toArray, List.getElem_cons_zero, List.getElem_cons_succ]
          refine wpAnyH_ready (rs := [18]) (by kernel_rfl) (by simp) ?_
          refine AllReadyH.cons rfl (fun K hK => ?_) AllReadyH.nil
          go_simp
          refine hK.out _ _ (hHeld) (fun hHeld => ?_)
          clear hK K
          try simp only [Act.put, List.setIfInBounds_toArray, List.set_cons_zero, List.set_cons_succ, List.getElem_toArray, List.getElem_cons_zero, List.getElem_cons_succ]
          refine wpAnyH_done (by kernel_rfl) ?_ _
          have HN : Hid (SkSt w v c (q + 1) (w10.setCell ⟨w.heap.size, 12, none⟩ (.slice (some ⟨g9, 0, none⟩) (q + 1) cap9))) := Lib.hid (by
            have h1 := HU10.out.set 12 (.slice (some ⟨g9, 0, none⟩) (q + 1) cap9)
            rw [cv_ga _ _ (gaps_ v (q + 1))] at h1
            refine ⟨some ⟨g9, 0, none⟩, cap9, h1, owns_put ?_ (by omega)⟩
            rw [HS.out, gs_snoc]
            exact HOW.out)
          go_wp2_with fail
          go_roundw
          case rel => exact ⟨q + 1, by omega, by go_num, HN⟩
          case measure => simp [intOf]; omega
        · go_simp
          go_at_call 35
          (with_reducible refine (C12.out _ hbd).mono ?_)
          rintro e w1 ⟨rfl, rfl⟩
          refine hK.out _ _ (hHeld) (fun hHeld => ?_)
          clear hK K
          try simp only [Act.put, List.setIfInBounds_toArray, List.set_cons_zero, List.set_cons_succ, List.getElem_toArray, List.getElem_cons_zero, List.getElem_cons_succ]
          refine wpAnyH_take (i := 7) (v := ?_) rfl (by kernel_rfl) (by kernel_rfl) (by kernel_rfl) (fun _ _ _ h => h) (Or.inl ⟨by rfl, ?_⟩) (by first | assumption | trivial) ?_
          rotate_left 1
          · (intro w9 hSw; go_simp; try (with_reducible rfl))
          try simp only [Act.put, List.setIfInBounds_toArray, List.set_cons_zero, List.set_cons_succ, List.getElem_toArray, List.getElem_cons_zero, List.getElem_cons_succ]
          refine wpAnyH_ready (rs := [1, 12]) (by kernel_rfl) (by simp) ?_
          refine AllReadyH.cons rfl (fun K hK => ?_) (AllReadyH.cons rfl (fun K hK => ?_) AllReadyH.nil)
          · go_simp
            refine hK.out _ _ (hHeld) (fun hHeld => ?_)
            clear hK K
            try simp only [Act.put, List.setIfInBounds_toArray, List.set_cons_zero, List.set_cons_succ, List.getElem_toArray, List.getElem_cons_zero, List.getElem_cons_succ]
            refine wpAnyH_ready (rs := [12]) (by kernel_rfl) (by simp) ?_
            refine AllReadyH.cons rfl (fun K hK => ?_) AllReadyH.nil
            go_simp
            go_at_call 35
            (with_reducible refine (C14.out _ hbd).mono ?_)
            rintro e w1 ⟨rfl, rfl⟩
            refine hK.out _ _ (hHeld) (fun hHeld => ?_)
            clear hK K
            try simp only [Act.put, List.setIfInBounds_toArray, List.set_cons_zero, List.set_cons_succ, List.getElem_toArray, List.getElem_cons_zero, List.getElem_cons_succ]
            refine wpAnyH_take (i := 13) (v := ?_) rfl (by kernel_rfl) (by kernel_rfl) (by kernel_rfl) (fun _ _ _ h => h) (Or.inl ⟨by rfl, ?_⟩) (by first | assumption | trivial) ?_
            rotate_left 1
            · (intro w9 hSw; go_simp; try (with_reducible rfl))
            try simp only [Act.put, List.setIfInBounds_toArray, List.set_cons_zero, List.set_cons_succ, List.getElem_toArray, List.getElem_cons_zero, List.getElem_cons_succ]
            refine wpAnyH_take (i := 14) (v := ?_) rfl (by kernel_rfl) (by kernel_rfl) (by kernel_rfl) (fun _ _ _ h => h) (Or.inl ⟨by rfl, ?_⟩) (by first | assumption | trivial) ?_
            rotate_left 1
            · (intro w9 hSw; go_simp; try (with_reducible rfl))
            try simp only [Act.put, List.setIfInBounds_toArray, List.set_cons_zero, List.set_cons_succ, List.getElem_toArray, List.getElem_cons_zero, List.getElem_cons_succ]
            refine wpAnyH_ready (rs := [15]) (by kernel_rfl) (by simp) ?_
            refine AllReadyH.cons rfl (fun K hK => ?_) AllReadyH.nil
            go_simp
            refine hK.out _ _ (hHeld) (fun hHeld => ?_)
            clear hK K
            try simp only [Act.put, List.setIfInBounds_toArray, List.set_cons_zero, List.set_cons_succ, List.getElem_toArray, List.getElem_cons_zero, List.getElem_cons_succ]
            refine wpAnyH_ready (rs := [16]) (by kernel_rfl) (by simp) ?_
            refine AllReadyH.cons rfl (fun K hK => ?_) AllReadyH.nil
            refine step_append_lies _ rfl (.tmp 38) (.tmp 52) 29 rfl (w.heap.size + 2) 63 i0 _ 2 4 Try.underlying29 HI.out HZ0.out HZ1.out HZ2.out rfl (by decide) _ q _ rfl HOA.out ⟨wr.heap.size, 0, none⟩ 1 1 [.int .u16 (y0 : Int), .int .u16 (y1 : Int)] rfl rfl (bcells (Row.new wr.drew [.int .u16 (y0 : Int), .int .u16 (y1 : Int)] 63 (0, 0))) (by simp [Value.oneCell']) (by omega) (by unfold maxLen; omega) (by omega) HUA.out.two _ rfl ?_
            intro g9 cap9 w10 hown10 hgrow10 hat10 _
            have hU10 := HUA.out.gr hgrow10 HNA.out
            have HU10 := Lib.hid hU10
            have k12 := hU10.1.c12
            have f12 := hU10.1.frozen 12
            have HOW := Lib.hid hown10
            clear hU10 hown10 hgrow10 hat10
            refine hK.out _ _ (hHeld) (fun hHeld => ?_)
            clear hK K
            try simp only [Act.put, List.setIfInBounds_toArray, List.set_cons_zero, List.set_cons_succ, List.getElem_toArray, List.getElem_cons_zero, List.getElem_cons_succ]
            refine wpAnyH_take (i := 17) (v := ?_) rfl (by kernel_rfl) (by kernel_rfl) (by kernel_rfl) (fun _ _ _ h => h) (Or.inl ⟨by rfl, ?_⟩) (by first | assumption | trivial) ?_
            rotate_left 1
            · (intro w9 hSw; go_simp; try (with_reducible rfl))
            try simp only [Act.put, List.setIfInBounds_toArray, List.set_cons_zero, List.set_cons_succ, List.getElem_toArray, List.getElem_cons_zero, List.getElem_cons_succ]
            refine wpAnyH_ready (rs := [18]) (by kernel_rfl) (by simp) ?_
            refine AllReadyH.cons rfl (fun K hK => ?_) AllReadyH.nil
            go_simp
            refine hK.out _ _ (hHeld) (fun hHeld => ?_)
            clear hK K
            try simp only [Act.put, List.setIfInBounds_toArray, List.set_cons_zero, List.set_cons_succ, List.getElem_toArray, List.getElem_cons_zero, List.getElem_cons_succ]
            refine wpAnyH_done (by kernel_rfl) ?_ _
            have HN : Hid (SkSt w v c (q + 1) (w10.setCell ⟨w.heap.size, 12, none⟩ (.slice (some ⟨g9, 0, none⟩) (q + 1) cap9))) := Lib.hid (by
              have h1 := HU10.out.set 12 (.slice (some ⟨g9, 0, none⟩) (q + 1) cap9)
              rw [cv_ga _ _ (gaps_ v (q + 1))] at h1
              refine ⟨some ⟨g9, 0, none⟩, cap9, h1, owns_put ?_ (by omega)⟩
              rw [HS.out, gs_snoc]
              exact HOW.out)
            go_wp2_with fail
            go_roundw
            case rel => exact ⟨q + 1, by omega, by go_num, HN⟩
            case measure => simp [intOf]; omega
          · go_simp
            go_at_call 35
            (with_reducible refine (C14.out _ hbd).mono ?_)
            rintro e w1 ⟨rfl, rfl⟩
            refine hK.out _ _ (hHeld) (fun hHeld => ?_)
            clear hK K
            try simp only [Act.put, List.setIfInBounds_toArray, List.set_cons_zero, List.set_cons_succ, List.getElem_toArray, List.getElem_cons_zero, List.getElem_cons_succ]
            refine wpAnyH_take (i := 13) (v := ?_) rfl (by kernel_rfl) (by kernel_rfl) (by kernel_rfl) (fun _ _ _ h => h) (Or.inl ⟨by rfl, ?_⟩) (by first | assumption | trivial) ?_
            rotate_left 1
            · (intro w9 hSw; go_simp; try (with_reducible rfl))
            try simp only [Act.put, List.setIfInBounds_toArray, List.set_cons_zero, List.set_cons_succ, List.getElem_toArray, List.getElem_cons_zero, List.getElem_cons_succ]
            refine wpAnyH_take (i := 14) (v := ?_) rfl (by kernel_rfl) (by kernel_rfl) (by kernel_rfl) (fun _ _ _ h => h) (Or.inl ⟨by rfl, ?_⟩) (by first | assumption | trivial) ?_
            rotate_left 1
            · (intro w9 hSw; go_simp; try (with_reducible rfl))
            try simp only [Act.put, List.setIfInBounds_toArray, List.set_cons_zero, List.set_cons_succ, List.getElem_toArray, List.getElem_cons_zero, List.getElem_cons_succ]
            refine wpAnyH_ready (rs := [1, 15]) (by kernel_rfl) (by simp) ?_
            refine AllReadyH.cons rfl (fun K hK => ?_) (AllReadyH.cons rfl (fun K hK => ?_) AllReadyH.nil)
            · go_simp
              refine hK.out _ _ (hHeld) (fun hHeld => ?_)
              clear hK K
              try simp only [Act.put, List.setIfInBounds_toArray, List.set_cons_zero, List.set_cons_succ, List.getElem_toArray, List.getElem_cons_zero, List.getElem_cons_succ]
              refine wpAnyH_ready (rs := [15]) (by kernel_rfl) (by simp) ?_
              refine AllReadyH.cons rfl (fun K hK => ?_) AllReadyH.nil
              go_simp
              refine hK.out _ _ (hHeld) (fun hHeld => ?_)
              clear hK K
              try simp only [Act.put, List.setIfInBounds_toArray, List.set_cons_zero, List.set_cons_succ, List.getElem_toArray, List.getElem_cons_zero, List.getElem_cons_succ]
              refine wpAnyH_ready (rs := [16]) (by kernel_rfl) (by simp) ?_
              refine AllReadyH.cons rfl (fun K hK => ?_) AllReadyH.nil
              refine step_append_lies _ rfl (.tmp 38) (.tmp 52) 29 rfl (w.heap.size + 2) 63 i0 _ 2 4 Try.underlying29 HI.out HZ0.out HZ1.out HZ2.out rfl (by decide) _ q _ rfl HOA.out ⟨wr.heap.size, 0, none⟩ 1 1 [.int .u16 (y0 : Int), .int .u16 (y1 : Int)] rfl rfl (bcells (Row.new wr.drew [.int .u16 (y0 : Int), .int .u16 (y1 : Int)] 63 (0, 0))) (by simp [Value.oneCell']) (by omega) (by unfold maxLen; omega) (by omega) HUA.out.two _ rfl ?_
              intro g9 cap9 w10 hown10 hgrow10 hat10 _
              have hU10 := HUA.out.gr hgrow10 HNA.out
              have HU10 := Lib.hid hU10
              have k12 := hU10.1.c12
              have f12 := hU10.1.frozen 12
              have HOW := Lib.hid hown10
              clear hU10 hown10 hgrow10 hat10
              refine hK.out _ _ (hHeld) (fun hHeld => ?_)
              clear hK K
              try simp only [Act.put, List.setIfInBounds_toArray, List.set_cons_zero, List.set_cons_succ, List.getElem_toArray, List.getElem_cons_zero, List.getElem_cons_succ]
              refine wpAnyH_take (i := 17) (v := ?_) rfl (by kernel_rfl) (by kernel_rfl) (by kernel_rfl) (fun _ _ _ h => h) (Or.inl ⟨by rfl, ?_⟩) (by first | assumption | trivial) ?_
              rotate_left 1
              · (intro w9 hSw; go_simp; try (with_reducible rfl))
              try simp only [Act.put, List.setIfInBounds_toArray, List.set_cons_zero, List.set_cons_succ, List.getElem_toArray, List.getElem_cons_zero, List.getElem_cons_succ]
              refine wpAnyH_ready (rs := [18]) (by kernel_rfl) (by simp) ?_
              refine AllReadyH.cons rfl (fun K hK => ?_) AllReadyH.nil
              go_simp
              refine hK.out _ _ (hHeld) (fun hHeld => ?_)
              clear hK K
              try simp only [Act.put, List.setIfInBounds_toArray, List.set_cons_zero, List.set_cons_succ, List.getElem_toArray, List.getElem_cons_zero, List.getElem_cons_succ]
              refine wpAnyH_done (by kernel_rfl) ?_ _
              have HN : Hid (SkSt w v c (q + 1) (w10.setCell ⟨w.heap.size, 12, none⟩ (.slice (some ⟨g9, 0, none⟩) (q + 1) cap9))) := Lib.hid (by
                have h1 := HU10.out.set 12 (.slice (some ⟨g9, 0, none⟩) (q + 1) cap9)
                rw [cv_ga _ _ (gaps_ v (q + 1))] at h1
                refine ⟨some ⟨g9, 0, none⟩, cap9, h1, owns_put ?_ (by omega)⟩
                rw [HS.out, gs_snoc]
                exact HOW.out)
              go_wp2_with fail
              go_roundw
              case rel => exact ⟨q + 1, by omega, by go_num, HN⟩
              case measure => simp [intOf]; omega
            · go_simp
              refine hK.out _ _ (hHeld) (fun hHeld => ?_)
              clear hK K
              try simp only [Act.put, List.setIfInBounds_toArray, List.set_cons_zero, List.set_cons_succ, List.getElem_toArray, List.getElem_cons_zero, List.getElem_cons_succ]
              refine wpAnyH_ready (rs := [1]) (by kernel_rfl) (by simp) ?_
              refine AllReadyH.cons rfl (fun K hK => ?_) AllReadyH.nil
              go_simp
              refine hK.out _ _ (hHeld) (fun hHeld => ?_)
              clear hK K
              try simp only [Act.put, List.setIfInBounds_toArray, List.set_cons_zero, List.set_cons_succ, List.getElem_toArray, List.getElem_cons_zero, List.getElem_cons_succ]
              refine wpAnyH_ready (rs := [16]) (by kernel_rfl) (by simp) ?_
              refine AllReadyH.cons rfl (fun K hK => ?_) AllReadyH.nil
              refine step_append_lies _ rfl (.tmp 38) (.tmp 52) 29 rfl (w.heap.size + 2) 63 i0 _ 2 4 Try.underlying29 HI.out HZ0.out HZ1.out HZ2.out rfl (by decide) _ q _ rfl HOA.out ⟨wr.heap.size, 0, none⟩ 1 1 [.int .u16 (y0 : Int), .int .u16 (y1 : Int)] rfl rfl (bcells (Row.new wr.drew [.int .u16 (y0 : Int), .int .u16 (y1 : Int)] 63 (0, 0))) (by simp [Value.oneCell']) (by omega) (by unfold maxLen; omega) (by omega) HUA.out.two _ rfl ?_
              intro g9 cap9 w10 hown10 hgrow10 hat10 _
              have hU10 := HUA.out.gr hgrow10 HNA.out
              have HU10 := Lib.hid hU10
              have k12 := hU10.1.c12
              have f12 := hU10.1.frozen 12
              have HOW := Lib.hid hown10
              clear hU10 hown10 hgrow10 hat10
              refine hK.out _ _ (hHeld) (fun hHeld => ?_)
              clear hK K
              try simp only [Act.put, List.setIfInBounds_toArray, List.set_cons_zero, List.set_cons_succ, List.getElem_toArray, List.getElem_cons_zero, List.getElem_cons_succ]
              refine wpAnyH_take (i := 17) (v := ?_) rfl (by kernel_rfl) (by kernel_rfl) (by kernel_rfl) (fun _ _ _ h => h) (Or.inl ⟨by rfl, ?_⟩) (by first | assumption | trivial) ?_
              rotate_left 1
              · (intro w9 hSw; go_simp; try (with_reducible rfl))
              try simp only [Act.put, List.setIfInBounds_toArray, List.set_cons_zero, List.set_cons_succ, List.getElem_toArray, List.getElem_cons_zero, List.getElem_cons_succ]
              refine wpAnyH_ready (rs := [18]) (by kernel_rfl) (by simp) ?_
              refine AllReadyH.cons rfl (fun K hK => ?_) AllReadyH.nil
              go_simp
              refine hK.out _ _ (hHeld) (fun hHeld => ?_)
              clear hK K
              try simp only [Act.put, List.setIfInBounds_toArray, List.set_cons_zero, List.set_cons_succ, List.getElem_toArray, List.getElem_cons_zero, List.getElem_cons_succ]
              refine wpAnyH_done (by kernel_rfl) ?_ _
              have HN : Hid (SkSt w v c (q + 1) (w10.setCell ⟨w.heap.size, 12, none⟩ (.slice (some ⟨g9, 0, none⟩) (q + 1) cap9))) := Lib.hid (by
                have h1 := HU10.out.set 12 (.slice (some ⟨g9, 0, none⟩) (q + 1) cap9)
                rw [cv_ga _ _ (gaps_ v (q + 1))] at h1
                refine ⟨some ⟨g9, 0, none⟩, cap9, h1, owns_put ?_ (by omega)⟩
                rw [HS.out, gs_snoc]
                exact HOW.out)
              go_wp2_with fail
              go_roundw
              case rel => exact ⟨q + 1, by omega, by go_num, HN⟩
              case measure => simp [intOf]; omega
      · have hqe : q = g := by omega
        subst hqe
        have HSU : Hid (SkSu w v c q 0 wr) := Lib.hid (by
          refine ⟨gA, gc, none, 0, ?_, hog, World.ownsRow_nil _ _ _ _⟩
          have e : ({ c with ga := gaps_ v q, du := dups_ v q 0 } : Ck) = { c with ga := gaps_ v q } := by
            have h1 : c.du = [] := by rw [HEc.out, HEc1.out]; exact HK0.out.2.2.2.1
            show ({ c with ga := gaps_ v q, du := [] } : Ck) = _
            rw [← h1]
          rw [e]
          exact hU)
        clear hst hU hog
        go_wp2_with fail
        go_loopw [9] (fun i wr => ∃ j : Nat, j ≤ d ∧ i = .int .i64 (j : Int) ∧ Hid (SkSu w v c q j wr)) (fun i _ => d - (intOf i).toNat)
        case atStart => exact ⟨0, by omega, rfl, HSU⟩
        case round =>
          clear HSU
          obtain ⟨j, hj1, rfl, hst⟩ := hrel
          obtain ⟨gA, gc, uA, uc, hU, hog, hou⟩ := hst.out
          obtain ⟨g, hg2⟩ : ∃ g, q = g := ⟨_, rfl⟩
          subst hg2
          by_cases hlt2 : j < d
          · have C12 : Hid (∀ W, Below w.heap.size w W → Calls Try.prog 35 #[.slice A n cp, .int .i64 (IntKind.i64.wrap (IntKind.i64.wrap (12 + IntKind.i64.wrap (4 * (q : Int))) + IntKind.i64.wrap (4 * (j : Int)))), .int .i64 4] W fun e w' => e = .returned (.int .u32 (nn v (12 + 4 * q + 4 * j) 4 : Nat)) ∧ W = w') := Lib.hid fun W hW => by
              have h := CN.out (12 + 4 * q + 4 * j) 4 W (by omega) (by omega) hW
              rw [show ((12 + 4 * q + 4 * j : Nat) : Int) = 12 + 4 * (q : Int) + 4 * (j : Int) by omega] at h
              rw [show IntKind.i64.wrap (4 * (q : Int)) = 4 * (q : Int) from IntWalk.i64_in _ (by omega), show IntKind.i64.wrap (12 + 4 * (q : Int)) = 12 + 4 * (q : Int) from IntWalk.i64_in _ (by omega), show IntKind.i64.wrap (4 * (j : Int)) = 4 * (j : Int) from IntWalk.i64_in _ (by omega), show IntKind.i64.wrap (12 + 4 * (q : Int) + 4 * (j : Int)) = 12 + 4 * (q : Int) + 4 * (j : Int) from IntWalk.i64_in _ (by omega)]
              exact h
            have HS := Lib.hid (dups_snoc v q j)
            have hx0 := nn_lt4 HBY.out (12 + 4 * q + 4 * j)
            generalize nn v (12 + 4 * q + 4 * j) 4 = y0 at C12 HS hx0
            have hal : Below wr.drew.heap.size wr.drew (wr.drew.alloc (.cells #[.int .u32 (y0 : Int)] 27)) := (Below.refl _ _).alloc (Nat.le_refl _) _
            have HUA := Lib.hid (hU.drew.next hal)
            have HOA := Lib.hid (own_below (own_below hou (Below.refl _ _).drew) hal)
            have HOGA := Lib.hid (own_below (own_below hog (Below.refl _ _).drew) hal)
            have HNN := Lib.hid (own_apart HOGA.out HOA.out (by decide))
            have HNA : Hid (∀ i, (Value.slice uA j uc).ownBlock = some i → w.heap.size + 2 ≤ i) := Lib.hid fun i e => (hou.lt i e).1
            have g13 : wr.drew.cell? ⟨w.heap.size, 13, none⟩ = some (.slice uA j uc) := hU.drew.1.c13
            have g13A : (wr.alloc (.cells #[.int .u32 (y0 : Int)] 27)).drew.cell? ⟨w.heap.size, 13, none⟩ = some (.slice uA j uc) := HUA.out.1.c13
            have hbd := hU.drew.2.2
            clear hst hU hog hou hal
            go_upto_region 13 with fail
            refine wp_region_held_drew (S := (fun _ => True)) (by kernel_rfl) (trivial) (fun hHeld => ?_)
            refine wpAnyH_take (i := 0) (v := ?_) rfl (by kernel_rfl) (by kernel_rfl) (by kernel_rfl) (fun _ _ _ h => h) (Or.inl ⟨by rfl, ?_⟩) (by first | assumption | trivial) ?_
            rotate_left 1
            · (intro w9 hSw; go_simp; try (with_reducible rfl))
            try simp only [Act.put, List.setIfInBounds_toArray, List.set_cons_zero, List.set_cons_succ, List.getElem_toArray, List.getElem_cons_zero, List.getElem_cons_succ]
            refine wpAnyH_take (i := 2) (v := ?_) rfl (by kernel_rfl) (by kernel_rfl) (by kernel_rfl) (fun _ _ _ h => h) (Or.inl ⟨by rfl, ?_⟩) (by first | assumption | trivial) ?_
            rotate_left 1
            · (intro w9 hSw; go_simp; try (with_reducible rfl))
            try simp only [Act.put, List.setIfInBounds_toArray, List.set_cons_zero, List.set_cons_succ, List.getElem_toArray, List.getElem_cons_zero, List.getElem_cons_succ]
            refine wpAnyH_take (i := 3) (v := ?_) rfl (by kernel_rfl) (by kernel_rfl) (by kernel_rfl) (fun _ _ _ h => h) (Or.inl ⟨by rfl, ?_⟩) (by first | assumption | trivial) ?_
            rotate_left 1
            · (intro w9 hSw; go_simp; try (with_reducible rfl))
            try simp only [Act.put, List.setIfInBounds_toArray, List.set_cons_zero, List.set_cons_succ, List.getElem_toArray, List.getElem_cons_zero, List.getElem_cons_succ]
            refine wpAnyH_take (i := 4) (v := ?_) rfl (by kernel_rfl) (by kernel_rfl) (by kernel_rfl) (fun _ _ _ h => h) (Or.inl ⟨by rfl, ?_⟩) (by first | assumption | trivial) ?_
            rotate_left 1
            · (intro w9 hSw; go_simp; try (with_reducible rfl))
            try simp only [Act.put, List.setIfInBounds_toArray, List.set_cons_zero, List.set_cons_succ, List.getElem_toArray, List.getElem_cons_zero, List.getElem_cons_succ]
            refine wpAnyH_take (i := 5) (v := ?_) rfl (by kernel_rfl) (by kernel_rfl) (by kernel_rfl) (fun _ _ _ h => h) (Or.inl ⟨by rfl, ?_⟩) (by first | assumption | trivial) ?_
            rotate_left 1
            · (intro w9 hSw; go_simp; try (with_reducible rfl))
            try simp only [Act.put, List.setIfInBounds_toArray, List.set_cons_zero, List.set_cons_succ, List.getElem_toArray, List.getElem_cons_zero, List.getElem_cons_succ]
            refine wpAnyH_take (i := 6) (v := ?_) rfl (by kernel_rfl) (by kernel_rfl) (by kernel_rfl) (fun _ _ _ h => h) (Or.inl ⟨by rfl, ?_⟩) (by first | assumption | trivial) ?_
            rotate_left 1
            · (intro w9 hSw; go_simp; try (with_reducible rfl))
            try simp only [Act.put, List.setIfInBounds_toArray, List.set_cons_zero, List.set_cons_succ, List.getElem_toArray, List.getElem_cons_zero, List.getElem_cons_succ]
            refine wpAnyH_take (i := 7) (v := ?_) rfl (by kernel_rfl) (by kernel_rfl) (by kernel_rfl) (fun _ _ _ h => h) (Or.inl ⟨by rfl, ?_⟩) (by first | assumption | trivial) ?_
            rotate_left 1
            · (intro w9 hSw; go_simp; try (with_reducible rfl))
            try simp only [Act.put, List.setIfInBounds_toArray, List.set_cons_zero, List.set_cons_succ, List.getElem_toArray, List.getElem_cons_zero, List.getElem_cons_succ]
            refine wpAnyH_take (i := 8) (v := ?_) rfl (by kernel_rfl) (by kernel_rfl) (by kernel_rfl) (fun _ _ _ h => h) (Or.inl ⟨by rfl, ?_⟩) (by first | assumption | trivial) ?_
            rotate_left 1
            · (intro w9 hSw; go_simp; try (with_reducible rfl))
            try simp only [Act.put, List.setIfInBounds_toArray, List.set_cons_zero, List.set_cons_succ, List.getElem_toArray, List.getElem_cons_zero, List.getElem_cons_succ]
            refine wpAnyH_ready (rs := [1, 9]) (by kernel_rfl) (by simp) ?_
            refine AllReadyH.cons rfl (fun K hK => ?_) (AllReadyH.cons rfl (fun K hK => ?_) AllReadyH.nil)
            · go_simp
              refine hK.out _ _ (hHeld) (fun hHeld => ?_)
              clear hK K
              try simp only [Act.put, List.setIfInBounds_toArray, List.set_cons_zero, List.set_cons_succ, List.getElem_toArray, List.getElem_cons_zero, List.getElem_cons_succ]
              refine wpAnyH_ready (rs := [9]) (by kernel_rfl) (by simp) ?_
              refine AllReadyH.cons rfl (fun K hK => ?_) AllReadyH.nil
              go_simp
              go_at_call 35
              (with_reducible refine (C12.out _ hbd).mono ?_)
              rintro e w1 ⟨rfl, rfl⟩
              refine hK.out _ _ (hHeld) (fun hHeld => ?_)
              clear hK K
              try simp only [Act.put, List.setIfInBounds_toArray, List.set_cons_zero, List.set_cons_succ, List.getElem_toArray, List.getElem_cons_zero, List.getElem_cons_succ]
              refine wpAnyH_ready (rs := [10]) (by kernel_rfl) (by simp) ?_
              refine AllReadyH.cons rfl (fun K hK => ?_) AllReadyH.nil
              go_simp
              refine hK.out _ _ (hHeld) (fun hHeld => ?_)
              clear hK K
              try simp only [Act.put, List.setIfInBounds_toArray, List.set_cons_zero, List.set_cons_succ, List.getElem_toArray, List.getElem_cons_zero, List.getElem_cons_succ]
              refine wpAnyH_ready (rs := [11]) (by kernel_rfl) (by simp) ?_
              refine AllReadyH.cons rfl (fun K hK => ?_) AllReadyH.nil
              refine step_append_lies _ rfl (.tmp 61) (.tmp 70) 28 rfl (w.heap.size + 2) 27 i4 _ 1 4 Try.underlying28 HJ.out HY0.out HY1.out HY2.out rfl (by decide) _ j _ rfl HOA.out ⟨wr.heap.size, 0, none⟩ 1 1 [.int .u32 (y0 : Int)] rfl rfl (bcells (Row.new wr.drew [.int .u32 (y0 : Int)] 27 (0, 0))) (by simp [Value.oneCell']) (by omega) (by unfold maxLen; omega) (by omega) HUA.out.two _ rfl ?_
              intro g9 cap9 w10 hown10 hgrow10 hat10 _
              have hU10 := HUA.out.gr hgrow10 HNA.out
              have HU10 := Lib.hid hU10
              have k13 := hU10.1.c13
              have f13 := hU10.1.frozen 13
              have HOW := Lib.hid hown10
              have HOG10 := Lib.hid (HOGA.out.kept hgrow10 HNN.out)
              clear hU10 hown10 hgrow10 hat10
              refine hK.out _ _ (hHeld) (fun hHeld => ?_)
              clear hK K
              try simp only [Act.put, List.setIfInBounds_toArray, List.set_cons_zero, List.set_cons_succ, List.getElem_toArray, List.getElem_cons_zero, List.getElem_cons_succ]
              refine wpAnyH_take (i := 12) (v := ?_) rfl (by kernel_rfl) (by kernel_rfl) (by kernel_rfl) (fun _ _ _ h => h) (Or.inl ⟨by rfl, ?_⟩) (by first | assumption | trivial) ?_
              rotate_left 1
              · (intro w9 hSw; go_simp; try (with_reducible rfl))
              try simp only [Act.put, List.setIfInBounds_toArray, List.set_cons_zero, List.set_cons_succ, List.getElem_toArray, List.getElem_cons_zero, List.getElem_cons_succ]
              refine wpAnyH_ready (rs := [13]) (by kernel_rfl) (by simp) ?_
              refine AllReadyH.cons rfl (fun K hK => ?_) AllReadyH.nil
              go_simp
              refine hK.out _ _ (hHeld) (fun hHeld => ?_)
              clear hK K
              try simp only [Act.put, List.setIfInBounds_toArray, List.set_cons_zero, List.set_cons_succ, List.getElem_toArray, List.getElem_cons_zero, List.getElem_cons_succ]
              refine wpAnyH_done (by kernel_rfl) ?_ _
              have HN : Hid (SkSu w v c q (j + 1) (w10.setCell ⟨w.heap.size, 13, none⟩ (.slice (some ⟨g9, 0, none⟩) (j + 1) cap9))) := Lib.hid (by
                have h1 := HU10.out.set 13 (.slice (some ⟨g9, 0, none⟩) (j + 1) cap9)
                rw [cv_du _ _ (dups_ v q (j + 1))] at h1
                refine ⟨gA, gc, some ⟨g9, 0, none⟩, cap9, h1, owns_put HOG10.out (by omega), owns_put ?_ (by omega)⟩
                rw [HS.out, us_snoc]
                exact HOW.out)
              go_wp2_with fail
              go_roundw
              case rel => exact ⟨j + 1, by omega, by go_num, HN⟩
              case measure => simp [intOf]; omega
            · go_simp
              go_at_call 35
              (with_reducible refine (C12.out _ hbd).mono ?_)
              rintro e w1 ⟨rfl, rfl⟩
              refine hK.out _ _ (hHeld) (fun hHeld => ?_)
              clear hK K
              try simp only [Act.put, List.setIfInBounds_toArray, List.set_cons_zero, List.set_cons_succ, List.getElem_toArray, List.getElem_cons_zero, List.getElem_cons_succ]
              refine wpAnyH_ready (rs := [1, 10]) (by kernel_rfl) (by simp) ?_
              refine AllReadyH.cons rfl (fun K hK => ?_) (AllReadyH.cons rfl (fun K hK => ?_) AllReadyH.nil)
              · go_simp
                refine hK.out _ _ (hHeld) (fun hHeld => ?_)
                clear hK K
                try simp only [Act.put, List.setIfInBounds_toArray, List.set_cons_zero, List.set_cons_succ, List.getElem_toArray, List.getElem_cons_zero, List.getElem_cons_succ]
                refine wpAnyH_ready (rs := [10]) (by kernel_rfl) (by simp) ?_
                refine AllReadyH.cons rfl (fun K hK => ?_) AllReadyH.nil
                go_simp
                refine hK.out _ _ (hHeld) (fun hHeld => ?_)
                clear hK K
                try simp only [Act.put, List.setIfInBounds_toArray, List.set_cons_zero, List.set_cons_succ, List.getElem_toArray, List.getElem_cons_zero, List.getElem_cons_succ]
                refine wpAnyH_ready (rs := [11]) (by kernel_rfl) (by simp) ?_
                refine AllReadyH.cons rfl (fun K hK => ?_) AllReadyH.nil
                refine step_append_lies _ rfl (.tmp 61) (.tmp 70) 28 rfl (w.heap.size + 2) 27 i4 _ 1 4 Try.underlying28 HJ.out HY0.out HY1.out HY2.out rfl (by decide) _ j _ rfl HOA.out ⟨wr.heap.size, 0, none⟩ 1 1 [.int .u32 (y0 : Int)] rfl rfl (bcells (Row.new wr.drew [.int .u32 (y0 : Int)] 27 (0, 0))) (by simp [Value.oneCell']) (by omega) (by unfold maxLen; omega) (by omega) HUA.out.two _ rfl ?_
                intro g9 cap9 w10 hown10 hgrow10 hat10 _
                have hU10 := HUA.out.gr hgrow10 HNA.out
                have HU10 := Lib.hid hU10
                have k13 := hU10.1.c13
                have f13 := hU10.1.frozen 13
                have HOW := Lib.hid hown10
                have HOG10 := Lib.hid (HOGA.out.kept hgrow10 HNN.out)
                clear hU10 hown10 hgrow10 hat10
                refine hK.out _ _ (hHeld) (fun hHeld => ?_)
                clear hK K
                try simp only [Act.put, List.setIfInBounds_toArray, List.set_cons_zero, List.set_cons_succ, List.getElem_toArray, List.getElem_cons_zero, List.getElem_cons_succ]
                refine wpAnyH_take (i := 12) (v := ?_) rfl (by kernel_rfl) (by kernel_rfl) (by kernel_rfl) (fun _ _ _ h => h) (Or.inl ⟨by rfl, ?_⟩) (by first | assumption | trivial) ?_
                rotate_left 1
                · (intro w9 hSw; go_simp; try (with_reducible rfl))
                try simp only [Act.put, List.setIfInBounds_toArray, List.set_cons_zero, List.set_cons_succ, List.getElem_toArray, List.getElem_cons_zero, List.getElem_cons_succ]
                refine wpAnyH_ready (rs := [13]) (by kernel_rfl) (by simp) ?_
                refine AllReadyH.cons rfl (fun K hK => ?_) AllReadyH.nil
                go_simp
                refine hK.out _ _ (hHeld) (fun hHeld => ?_)
                clear hK K
                try simp only [Act.put, List.setIfInBounds_toArray, List.set_cons_zero, List.set_cons_succ, List.getElem_toArray, List.getElem_cons_zero, List.getElem_cons_succ]
                refine wpAnyH_done (by kernel_rfl) ?_ _
                have HN : Hid (SkSu w v c q (j + 1) (w10.setCell ⟨w.heap.size, 13, none⟩ (.slice (some ⟨g9, 0, none⟩) (j + 1) cap9))) := Lib.hid (by
                  have h1 := HU10.out.set 13 (.slice (some ⟨g9, 0, none⟩) (j + 1) cap9)
                  rw [cv_du _ _ (dups_ v q (j + 1))] at h1
                  refine ⟨gA, gc, some ⟨g9, 0, none⟩, cap9, h1, owns_put HOG10.out (by omega), owns_put ?_ (by omega)⟩
                  rw [HS.out, us_snoc]
                  exact HOW.out)
                go_wp2_with fail
                go_roundw
                case rel => exact ⟨j + 1, by omega, by go_num, HN⟩
                case measure => simp [intOf]; omega
              · go_simp
                refine hK.out _ _ (hHeld) (fun hHeld => ?_)
                clear hK K
                try simp only [Act.put, List.setIfInBounds_toArray, List.set_cons_zero, List.set_cons_succ, List.getElem_toArray, List.getElem_cons_zero, List.getElem_cons_succ]
                refine wpAnyH_ready (rs := [1]) (by kernel_rfl) (by simp) ?_
                refine AllReadyH.cons rfl (fun K hK => ?_) AllReadyH.nil
                go_simp
                refine hK.out _ _ (hHeld) (fun hHeld => ?_)
                clear hK K
                try simp only [Act.put, List.setIfInBounds_toArray, List.set_cons_zero, List.set_cons_succ, List.getElem_toArray, List.getElem_cons_zero, List.getElem_cons_succ]
                refine wpAnyH_ready (rs := [11]) (by kernel_rfl) (by simp) ?_
                refine AllReadyH.cons rfl (fun K hK => ?_) AllReadyH.nil
                refine step_append_lies _ rfl (.tmp 61) (.tmp 70) 28 rfl (w.heap.size + 2) 27 i4 _ 1 4 Try.underlying28 HJ.out HY0.out HY1.out HY2.out rfl (by decide) _ j _ rfl HOA.out ⟨wr.heap.size, 0, none⟩ 1 1 [.int .u32 (y0 : Int)] rfl rfl (bcells (Row.new wr.drew [.int .u32 (y0 : Int)] 27 (0, 0))) (by simp [Value.oneCell']) (by omega) (by unfold maxLen; omega) (by omega) HUA.out.two _ rfl ?_
                intro g9 cap9 w10 hown10 hgrow10 hat10 _
                have hU10 := HUA.out.gr hgrow10 HNA.out
                have HU10 := Lib.hid hU10
                have k13 := hU10.1.c13
                have f13 := hU10.1.frozen 13
                have HOW := Lib.hid hown10
                have HOG10 := Lib.hid (HOGA.out.kept hgrow10 HNN.out)
                clear hU10 hown10 hgrow10 hat10
                refine hK.out _ _ (hHeld) (fun hHeld => ?_)
                clear hK K
                try simp only [Act.put, List.setIfInBounds_toArray, List.set_cons_zero, List.set_cons_succ, List.getElem_toArray, List.getElem_cons_zero, List.getElem_cons_succ]
                refine wpAnyH_take (i := 12) (v := ?_) rfl (by kernel_rfl) (by kernel_rfl) (by kernel_rfl) (fun _ _ _ h => h) (Or.inl ⟨by rfl, ?_⟩) (by first | assumption | trivial) ?_
                rotate_left 1
                · (intro w9 hSw; go_simp; try (with_reducible rfl))
                try simp only [Act.put, List.setIfInBounds_toArray, List.set_cons_zero, List.set_cons_succ, List.getElem_toArray, List.getElem_cons_zero, List.getElem_cons_succ]
                refine wpAnyH_ready (rs := [13]) (by kernel_rfl) (by simp) ?_
                refine AllReadyH.cons rfl (fun K hK => ?_) AllReadyH.nil
                go_simp
                refine hK.out _ _ (hHeld) (fun hHeld => ?_)
                clear hK K
                try simp only [Act.put, List.setIfInBounds_toArray, List.set_cons_zero, List.set_cons_succ, List.getElem_toArray, List.getElem_cons_zero, List.getElem_cons_succ]
                refine wpAnyH_done (by kernel_rfl) ?_ _
                have HN : Hid (SkSu w v c q (j + 1) (w10.setCell ⟨w.heap.size, 13, none⟩ (.slice (some ⟨g9, 0, none⟩) (j + 1) cap9))) := Lib.hid (by
                  have h1 := HU10.out.set 13 (.slice (some ⟨g9, 0, none⟩) (j + 1) cap9)
                  rw [cv_du _ _ (dups_ v q (j + 1))] at h1
                  refine ⟨gA, gc, some ⟨g9, 0, none⟩, cap9, h1, owns_put HOG10.out (by omega), owns_put ?_ (by omega)⟩
                  rw [HS.out, us_snoc]
                  exact HOW.out)
                go_wp2_with fail
                go_roundw
                case rel => exact ⟨j + 1, by omega, by go_num, HN⟩
                case measure => simp [intOf]; omega
          · have hje : j = d := by omega
            subst hje
            have HU := Lib.hid hU
            have HOG := Lib.hid hog
            have HOU := Lib.hid hou
            clear hst hU hog hou
            obtain ⟨c2, hc2⟩ : ∃ c2 : Ck, c2 = { c with ga := gaps_ v q, du := dups_ v q j } := ⟨_, rfl⟩
            have hcF : c2 = { c0 with tsn := z0, rw := z4, ga := gaps_ v q, du := dups_ v q j } := by rw [hc2, HEc.out, HEc1.out]
            rw [← hc2] at HU
            have HCF := Lib.hid hcF
            clear hc2 hcF
            go_wp2_with (first | (refine wpList_load_row rfl 32 (.tmp 2) rfl w.heap.size rfl 32 (cv c2 (putU (putG nol gA q gc) uA j uc)) (0, 0) _ HU.out.1 Try.underlying32 rfl (HCI.out _ _) ?_) | (refine wpList_store_row rfl 32 (.tmp 4) (.tmp 73) rfl (w.heap.size + 1) (cv c2 (putU (putG nol gA q gc) uA j uc)) rfl rfl 32 zlit HU.out.2.1 (HCI.out _ _) (cv_size _ _).symm (HCO.out _ _) ?_))
            have hV := HU.out.row (cv c2 (putU (putG nol gA q gc) uA j uc))
            have hO9 := owns_same (W' := World.setRow wr (w.heap.size + 1) (cv c2 (putU (putG nol gA q gc) uA j uc))) HOG.out (fun k hk _ => setRow_other _ _ _ _ (by omega))
            have hO8 := owns_same (W' := World.setRow wr (w.heap.size + 1) (cv c2 (putU (putG nol gA q gc) uA j uc))) HOU.out (fun k hk _ => setRow_other _ _ _ _ (by omega))
            generalize World.setRow _ _ _ = W9 at hV hO9 hO8 ⊢
            have hz := hV.2.1
            refine bodyPost_ret (v := .tuple #[.agg (cv c2 (putU (putG nol gA q gc) uA j uc)), .bool true]) (by simp [results, Try.results37, go_sem, hz.c0, hz.c1, hz.c2, hz.c3, hz.c4, hz.c5, hz.c6, hz.c7, hz.c8, hz.c9, hz.c10, hz.c11, hz.c12, hz.c13, hz.c14, cv]) rfl ⟨c2, putU (putG nol gA q gc) uA j uc, by rw [HOT.out], hV.2.2, fun _ => ⟨HCF.out, ?_⟩⟩
            rw [← HCF.out]
            have h1 := HK0.out
            have hb := HBO.out
            refine (ch_sack (B := w.heap.size + 2) ?_ (by rw [HCF.out]; exact h1.1) (by rw [HCF.out]; exact h1.2.1) (by rw [HCF.out]; exact h1.2.2.2.2) (by rw [HCF.out]; exact gaps_len _ _) (by rw [HCF.out]; exact dups_len _ _ _) (by omega) (by omega) ?_ ?_).lower (by omega)
            · rw [HCF.out]
              exact { hb with tsn := HL0.out, rw := HL4.out, ga := fun p hp => (by
                obtain ⟨i, _, rfl⟩ := List.mem_map.1 hp
                exact ⟨nn_lt2 HBY.out _, nn_lt2 HBY.out _⟩), du := fun p hp => (by
                obtain ⟨i, _, rfl⟩ := List.mem_map.1 hp
                exact nn_lt4 HBY.out _) }
            · rw [HCF.out]; exact hO9
            · rw [HCF.out]; exact hO8
  · have d1 : ((n : Int) != 12 + 4 * (g : Int) + 4 * (d : Int)) = true := by simp; omega
    have HOF := Lib.hid (show ok = false by rw [← HOK.out]; simpa using heq)
    clear heq
    go_wp2_with (first | (refine wpList_load_row rfl 32 (.tmp 2) rfl w.heap.size rfl 32 (cv c0 nol) (0, 0) _ HU.out.1 Try.underlying32 rfl (HCI.out _ _) ?_) | (refine wpList_store_row rfl 32 (.tmp 4) (.tmp 25) rfl (w.heap.size + 1) (cv c0 nol) rfl rfl 32 zlit HU.out.2.1 (HCI.out _ _) (cv_size _ _).symm (HCO.out _ _) ?_))
    have hV := HU.out.row (cv c0 nol)
    generalize World.setRow _ _ _ = W9 at hV ⊢
    have hz := hV.2.1
    refine bodyPost_ret (v := .tuple #[.agg (cv c0 nol), .bool false]) (by simp [results, Try.results37, go_sem, hz.c0, hz.c1, hz.c2, hz.c3, hz.c4, hz.c5, hz.c6, hz.c7, hz.c8, hz.c9, hz.c10, hz.c11, hz.c12, hz.c13, hz.c14, cv]) rfl ⟨c0, nol, by rw [HOF.out], hV.2.2, fun h => by rw [HOF.out] at h; cases h⟩
end Go.Proofs.Ytbliipjiilmbcaa
