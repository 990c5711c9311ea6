/-
  What the document's Take does.
-/
import Derived.Test.YtgepmicodfhhmaaHeadTake
namespace Go.Proofs.Ytgepmicodfhhmaa
open Go.RowKit Crc Head

/-- The three blocks of the call: the result, the empty head, the head. -/
def K3 (w : World) (f t g : Nat) (W : World) : Prop := Kh w 0 0 0 W ∧ W.heap[w.heap.size + 1]? = some (.cells #[.int .u16 0, .int .u16 0, .int .u32 0] 25 (0, 0)) ∧ W.heap[w.heap.size + 2]? = some (.cells #[.int .u16 (f : Int), .int .u16 (t : Int), .int .u32 (g : Int)] 25 (0, 0))
theorem K3.next {w W W' : World} {f t g : Nat} (h : K3 w f t g W) (hb : Below W.heap.size W W') : K3 w f t g W' :=
  ⟨h.1.next hb, (hb.block _ (Array.getElem?_eq_some_iff.1 h.2.1).1).trans h.2.1, (hb.block _ (Array.getElem?_eq_some_iff.1 h.2.2).1).trans h.2.2⟩
theorem K3.drew {w W : World} {f t g : Nat} (h : K3 w f t g W) : K3 w f t g W.drew := ⟨h.1.drew, h.2.1, h.2.2⟩
theorem K3.z0 {w W : World} {f t g : Nat} (h : K3 w f t g W) : W.cell? ⟨w.heap.size + 1, 0, none⟩ = some (.int .u16 0) := cell_of_row _ _ 0 _ _ _ h.2.1
theorem K3.z1 {w W : World} {f t g : Nat} (h : K3 w f t g W) : W.cell? ⟨w.heap.size + 1, 1, none⟩ = some (.int .u16 0) := cell_of_row _ _ 1 _ _ _ h.2.1
theorem K3.z2 {w W : World} {f t g : Nat} (h : K3 w f t g W) : W.cell? ⟨w.heap.size + 1, 2, none⟩ = some (.int .u32 0) := cell_of_row _ _ 2 _ _ _ h.2.1
theorem K3.h0 {w W : World} {f t g : Nat} (h : K3 w f t g W) : W.cell? ⟨w.heap.size + 2, 0, none⟩ = some (.int .u16 (f : Int)) := cell_of_row _ _ 0 _ _ _ h.2.2
theorem K3.h1 {w W : World} {f t g : Nat} (h : K3 w f t g W) : W.cell? ⟨w.heap.size + 2, 1, none⟩ = some (.int .u16 (t : Int)) := cell_of_row _ _ 1 _ _ _ h.2.2
theorem K3.h2 {w W : World} {f t g : Nat} (h : K3 w f t g W) : W.cell? ⟨w.heap.size + 2, 2, none⟩ = some (.int .u32 (g : Int)) := cell_of_row _ _ 2 _ _ _ h.2.2
theorem K3.lt {w W : World} {f t g : Nat} (h : K3 w f t g W) : w.heap.size + 3 ≤ W.heap.size := (Array.getElem?_eq_some_iff.1 h.2.2).1
theorem k3_new (w : World) (f t g : Nat) : K3 w f t g (((w.alloc (.cells #[.int .u16 0, .int .u16 0, .int .u32 0] 25)).alloc (.cells #[.int .u16 0, .int .u16 0, .int .u32 0] 25)).alloc (.cells #[.int .u16 (f : Int), .int .u16 (t : Int), .int .u32 (g : Int)] 25)) :=
  ⟨((kh_new w 0 0 0).alloc _).alloc _, (Below.heap_alloc _ _ _ (by simp)).trans (by have := heap_alloc_new (w.alloc (.cells #[.int .u16 0, .int .u16 0, .int .u32 0] 25)) (.cells #[.int .u16 0, .int .u16 0, .int .u32 0] 25); simpa using this),
    by have := heap_alloc_new ((w.alloc (.cells #[.int .u16 0, .int .u16 0, .int .u32 0] 25)).alloc (.cells #[.int .u16 0, .int .u16 0, .int .u32 0] 25)) (.cells #[.int .u16 (f : Int), .int .u16 (t : Int), .int .u32 (g : Int)] 25); simpa using this⟩
theorem step_append_own {P : Program} {w : World} {ops : Array Oper} {o : Oper} {a : Act} {K : Act → World → Prop} {Q : Exit → Act → World → Prop} {E : Prop} (hgd : o.guard = none) (s x : Operand) (t : TypeId)
    (ho : o.op = .call { callee := .builtin .append, args := #[s, x], argTypes := #[t, t] })
    (base : Nat) (e : TypeId) (i : TypeInfo) (z : Value) (size bytes : Nat) (ht : P.underlying t = some (.slice e)) (hi : P.info? e = some i) (hz : i.zero = some z)
    (hsize : i.size = size) (hby : i.bytes = bytes) (hzs : z.cells.size = size) (hsz : 0 < size)
    (v : Value) (n : Nat) (xs : List Value) (hs : a.eval s = v) (hown : w.ownsRow base e size v n xs)
    (ad : Addr) (m c : Nat) (news : List Value) (hx : a.eval x = .slice (some ad) m c) (hl : news.length = m * size) (hnews : ∀ j u, news[j]? = some u → w.cell? (ad.add j) = some u) (h1 : ∀ u ∈ news, u.oneCell' = true)
    (h63 : n + m ≤ maxLen) (hbytes : (n + m) * bytes ≤ 140737488355328) (hbase : base ≤ w.heap.size)
    (h : ∀ v' w', w'.ownsRow base e size v' (n + m) (xs ++ news) → w.grownBy w' v.ownBlock → K (a.put o.dst v') w') :
    if Region.wanted o (yielded ops a.tmps) = true then Oper.wp P o a w K Q else E := by
  rw [if_pos (by simp [Region.wanted, hgd])]
  exact wp_append_own w s x t ho base e i z size bytes ht hi hz hsize hby hzs hsz v n xs hs hown ad m c news hx hl hnews h1 h63 hbytes hbase fun v' w' h1 h2 _ => h v' w' h1 h2

theorem toList_loop (b : ByteArray) : ∀ (k i : Nat) (r : List UInt8), b.size - i = k → ByteArray.toList.loop b i r = r.reverse ++ b.data.toList.drop i := by
  intro k
  induction k with
  | zero =>
    intro i r h
    unfold ByteArray.toList.loop
    rw [if_neg (by omega), List.drop_of_length_le (by rw [Array.length_toList]; show b.size ≤ i; omega), List.append_nil]
  | succ k ih =>
    intro i r h
    have hi : i < b.data.toList.length := by rw [Array.length_toList]; show i < b.size; omega
    unfold ByteArray.toList.loop
    rw [if_pos (by omega), ih (i + 1) _ (by omega), List.drop_eq_getElem_cons hi]
    have e : b.get! i = b.data.toList[i] := by
      unfold ByteArray.get!
      rw [Array.getElem_toList]
      exact getElem!_pos b.data i (by simpa using hi)
    rw [e]
    simp
theorem toList_data (b : ByteArray) : b.toList = b.data.toList := by
  unfold ByteArray.toList
  rw [toList_loop b _ 0 [] rfl]
  simp
theorem strOf_push (l : List Int) : ∀ r : ByteArray, (l.foldl (fun r n => r.push (UInt8.ofNat n.toNat)) r).data.toList = r.data.toList ++ l.map fun n => UInt8.ofNat n.toNat := by
  induction l with
  | nil => intro r; simp
  | cons x l ih => intro r; rw [List.foldl_cons, ih]; simp [ByteArray.push]
theorem strOf_toList (l : List Int) : (strOf l).toList = l.map fun n => UInt8.ofNat n.toNat := by
  rw [toList_data]
  unfold strOf
  rw [strOf_push]
  simp
theorem strOf_inj {l m : List Int} (hl : Byt l) (hm : Byt m) (h : (strOf l).toList = (strOf m).toList) : l = m := by
  rw [strOf_toList, strOf_toList] at h
  apply List.ext_getElem (by simpa using congrArg List.length h)
  intro i h1 h2
  have h3 := congrArg (fun x : List UInt8 => x[i]?) h
  simp only [List.getElem?_map, List.getElem?_eq_getElem h1, List.getElem?_eq_getElem h2, Option.map_some, Option.some.injEq] at h3
  have a1 := hl _ (List.getElem_mem h1)
  have a2 := hm _ (List.getElem_mem h2)
  have h4 := congrArg UInt8.toNat h3
  simp only [UInt8.toNat_ofNat'] at h4
  omega
theorem strOf_ne {l m : List Int} (hl : Byt l) (hm : Byt m) (h : l ≠ m) : ((strOf l).toList == (strOf m).toList) = false := by
  rw [beq_eq_false_iff_ne]
  exact fun e => h (strOf_inj hl hm e)

set_option maxRecDepth 100000 in
set_option maxHeartbeats 1000000 in
theorem rtake_bad (A : Option Addr) (n c : Nat) (l : List Int) (w : World) (hl : l.length = n) (hn : n ≤ 100000) (hbad : 1500 < n ∨ n < 12 ∨ n % 4 ≠ 0) :
    Calls Try.prog 10 #[.slice A n c] w (TakeOut w (tk l)) := by
  have hnb : Own w ((w.alloc (.cells #[.int .u16 0, .int .u16 0, .int .u32 0] 25)).alloc (.cells #[.int .u16 0, .int .u16 0, .int .u32 0] 25)) none 0 0 [] := ⟨World.ownsRow_nil _ _ _ _, ((Below.refl _ _).alloc (Nat.le_refl _) _).alloc (by simp) _⟩
  have HNB := Lib.hid hnb
  have htk : tk l = if 1500 < n then ⟨0, 0, 0, [], 3⟩ else if n < 12 then ⟨0, 0, 0, [], 30⟩ else if n % 4 ≠ 0 then ⟨0, 0, 0, [], 32⟩ else tk l := by
    conv => lhs; unfold tk
    rw [hl]
    split
    · rfl
    split
    · rfl
    split
    · rfl
    · omega
  by_cases h1 : 1500 < n
  · rw [if_pos h1] at htk
    rw [htk]
    have d1 : decide ((1500 : Int) < (n : Int)) = true := by simp; omega
    clear hnb htk hl hbad
    go_enter Try.func10, Try.ntmps10
    go_wp2_with fail
    go_returns
    exact ⟨_, _, _, rfl, HNB.out⟩
  rw [if_neg h1] at htk
  have d1 : decide ((1500 : Int) < (n : Int)) = false := by simp; omega
  by_cases h2 : n < 12
  · rw [if_pos h2] at htk
    rw [htk]
    have d2 : decide ((n : Int) < 12) = true := by simp; omega
    clear hnb htk hl hbad
    go_enter Try.func10, Try.ntmps10
    go_wp2_with fail
    go_returns
    exact ⟨_, _, _, rfl, HNB.out⟩
  rw [if_neg h2] at htk
  have d2 : decide ((n : Int) < 12) = false := by simp; omega
  have h3 : n % 4 ≠ 0 := by omega
  rw [if_pos h3] at htk
  rw [htk]
  have d3 : ((n : Int) % 4 != 0) = true := by simp only [bne_iff_ne, ne_eq]; omega
  clear hnb htk hl hbad
  go_enter Try.func10, Try.ntmps10
  go_wp2_with fail
  go_returns
  exact ⟨_, _, _, rfl, HNB.out⟩

theorem cut_some {W : World} {A : Option Addr} {l : List Int} (hr : Row W A (bs l)) (h : 0 < l.length) (c k : Nat) : ∃ a, cutA A c k = some a := by
  obtain ⟨a, rfl, _⟩ := Row.byte hr h
  unfold cutA
  split
  · exact ⟨_, rfl⟩
  · exact ⟨_, rfl⟩
theorem row_cut {W : World} {A : Option Addr} {l : List Int} {n c i j : Nat} (hl : l.length = n) (hj : j ≤ n) (hnc : n ≤ c) (hr : Row W A (bs l)) : Row W (cutA A c i) (bs ((l.take j).drop i)) := by
  have := hr.cut (c := c) (lo := i) (hi := j) (by omega)
  simpa [bs] using this
set_option maxRecDepth 100000 in
set_option maxHeartbeats 1000000 in
theorem rtake_good (A : Option Addr) (n c : Nat) (l : List Int) (w : World) (hl : l.length = n) (hn : n ≤ 100000) (hnc : n ≤ c) (hcm : c ≤ maxLen) (hb : Byt l) (hr : Row w A (bs l)) (h1 : ¬ 1500 < n) (h2 : ¬ n < 12) (h3 : n % 4 = 0) :
    Calls Try.prog 10 #[.slice A n c] w (TakeOut w (tk l)) := by
  have htk : tk l = if su l ≠ sm l then ⟨0, 0, 0, [], 31⟩ else ⟨fr l, to_ l, tg l, l.drop 12, 0⟩ := by
    unfold tk
    rw [hl, if_neg h1, if_neg h2, if_neg (by omega)]
  have d1 : decide ((1500 : Int) < (n : Int)) = false := by simp; omega
  have d2 : decide ((n : Int) < 12) = false := by simp; omega
  have d3 : ((n : Int) % 4 != 0) = false := by simp only [bne_eq_false_iff_eq]; omega
  have sz : (Try.prog.info? 5).map (·.size) = some 1 := by kernel_rfl
  have q2 : ∀ W, (Instr.slice 26 (.slice A n c) none (some (.int .i64 2)) none).run Try.prog W = .ok (.slice A 2 c) W := fun W => by
    have := run_cut_h (P := Try.prog) Try.underlying26 sz (k := .i64) A n c 2 (by omega) W
    rw [cut0] at this
    exact this
  have q24 : ∀ W, (Instr.slice 26 (.slice A n c) (some (.int .i64 2)) (some (.int .i64 4)) none).run Try.prog W = .ok (.slice (cutA A c 2) 2 (c - 2)) W := fun W => run_cut_lh (P := Try.prog) Try.underlying26 sz (k := .i64) (k' := .i64) A n c 2 4 (by omega) (by omega) W
  have q48 : ∀ W, (Instr.slice 26 (.slice A n c) (some (.int .i64 4)) (some (.int .i64 8)) none).run Try.prog W = .ok (.slice (cutA A c 4) 4 (c - 4)) W := fun W => run_cut_lh (P := Try.prog) Try.underlying26 sz (k := .i64) (k' := .i64) A n c 4 8 (by omega) (by omega) W
  have q12 : ∀ W, (Instr.slice 26 (.slice A n c) (some (.int .i64 12)) none none).run Try.prog W = .ok (.slice (cutA A c 12) (n - 12) (c - 12)) W := fun W => run_cut_l (P := Try.prog) Try.underlying26 sz (k := .i64) A n c 12 (by omega) W
  obtain ⟨p1, p2, p3, p4⟩ := parts_lt (l := l) (by omega) hb
  have c2 : ∀ W, Hid (Row W A (bs l)) → Calls Try.prog 17 #[.slice A 2 c] W fun e w' => e = .returned (.int .u64 (fr l : Nat)) ∧ w' = W := fun W h =>
    rnumber_any A 2 c (l.take 2) W (by simp; omega) (by omega) (Byt.take hb 2) (by have := h.out.take 2; simpa [bs] using this)
  have c24 : ∀ W, Hid (Row W A (bs l)) → Calls Try.prog 17 #[.slice (cutA A c 2) 2 (c - 2)] W fun e w' => e = .returned (.int .u64 (to_ l : Nat)) ∧ w' = W := fun W h =>
    rnumber_any (cutA A c 2) 2 (c - 2) ((l.take 4).drop 2) W (by simp; omega) (by omega) (Byt.drop (Byt.take hb 4) 2) (row_cut hl (by omega) hnc h.out)
  have c48 : ∀ W, Hid (Row W A (bs l)) → Calls Try.prog 17 #[.slice (cutA A c 4) 4 (c - 4)] W fun e w' => e = .returned (.int .u64 (tg l : Nat)) ∧ w' = W := fun W h =>
    rnumber_any (cutA A c 4) 4 (c - 4) ((l.take 8).drop 4) W (by simp; omega) (by omega) (Byt.drop (Byt.take hb 8) 4) (row_cut hl (by omega) hnc h.out)
  have C2 := Lib.hid c2
  have C24 := Lib.hid c24
  have C48 := Lib.hid c48
  have HR : Hid (Row w A (bs l)) := hr
  have HL := Lib.hid hl
  have HB := Lib.hid hb
  have HNC := Lib.hid hnc
  have w1 : IntKind.u16.wrap (fr l : Int) = (fr l : Int) := by rw [IntKind.wrap_u16]; omega
  have w2 : IntKind.u16.wrap (to_ l : Int) = (to_ l : Int) := by rw [IntKind.wrap_u16]; omega
  have w3 : IntKind.u32.wrap (tg l : Int) = (tg l : Int) := by rw [IntKind.wrap_u32]; omega
  have HTK := Lib.hid htk
  have HB4 : Hid (n % 4 = 0 ∧ ¬ 1500 < n ∧ 12 ≤ n) := ⟨h3, h1, by omega⟩
  clear c2 c24 c48 hr hl hb hnc hcm h1 h2 h3 htk sz
  obtain ⟨f, hf⟩ : ∃ f, fr l = f := ⟨_, rfl⟩
  obtain ⟨t, ht⟩ : ∃ t, to_ l = t := ⟨_, rfl⟩
  obtain ⟨g, hg⟩ : ∃ g, tg l = g := ⟨_, rfl⟩
  rw [hf] at C2 p1 w1
  rw [ht] at C24 p2 w2
  rw [hg] at C48 p3 w3
  have HF : Hid (fr l = f ∧ to_ l = t ∧ tg l = g) := ⟨hf, ht, hg⟩
  clear hf ht hg
  go_enter Try.func10, Try.ntmps10
  go_upto_region 8 with fail
  go_cut [6] from 23 to 35 (fun v6 W => v6 = .pointer (some ⟨w.heap.size + 2, 0, none⟩) ∧ Hid (K3 w f t g W))
  case first =>
    have hr0 : Hid (Row ((w.alloc (.cells #[.int .u16 0, .int .u16 0, .int .u32 0] 25)).alloc (.cells #[.int .u16 0, .int .u16 0, .int .u32 0] 25)).drew A (bs l)) := (HR.out.alloc _).alloc _
    have hr1 : Hid (Row (((w.alloc (.cells #[.int .u16 0, .int .u16 0, .int .u32 0] 25)).alloc (.cells #[.int .u16 0, .int .u16 0, .int .u32 0] 25)).alloc (.cells #[.int .u16 0, .int .u16 0, .int .u32 0] 25)).drew A (bs l)) := ((HR.out.alloc _).alloc _).alloc _
    go_region_with (first
      | (go_at_call 17; (with_reducible refine (C2.out _ ?_).mono ?_); assumption; rintro e w' ⟨rfl, rfl⟩)
      | (go_at_call 17; (with_reducible refine (C24.out _ ?_).mono ?_); assumption; rintro e w' ⟨rfl, rfl⟩)
      | (go_at_call 17; (with_reducible refine (C48.out _ ?_).mono ?_); assumption; rintro e w' ⟨rfl, rfl⟩))
    all_goals
      go_wp2_with fail
      go_meet
      case rel => exact ⟨rfl, (k3_new w f t g).drew⟩
  case rest =>
    obtain ⟨rfl, hk⟩ := hcut
    have hbo := HB4.out
    have hL := HL.out
    obtain ⟨L, hLd⟩ : ∃ L, pk f t g (sm l) (l.drop 12) = L := ⟨_, rfl⟩
    have hpt : pt f t g (l.drop 12) = (L, 0) := by
      rw [← hLd]
      unfold pt
      rw [List.length_drop, hL, if_neg (by omega), if_neg (by omega), ← sm_pk f t g (su l) (l.drop 12)]
      have := parts (l := l) (by omega) HB.out
      rw [HF.out.1, HF.out.2.1, HF.out.2.2] at this
      rw [this]
    have hLB : Byt L := by rw [← hLd]; exact pk_byt _ _ _ _ (Byt.drop HB.out 12)
    have cp : ∀ W, Hid (K3 w f t g W) → Calls Try.prog 8 #[.agg #[.int .u16 (f : Int), .int .u16 (t : Int), .int .u32 (g : Int)], .slice (cutA A c 12) (n - 12) (c - 12)] W fun e w' => ∃ A' n' c', e = .returned (.tuple #[.slice A' n' c', .int .i64 0]) ∧ Hid (Row w' A' (bs L)) ∧ Hid (L.length = n') ∧ Hid (K3 w f t g w') := fun W h => by
      have hrw := HR.out.below h.out.1.2
      obtain ⟨a, ha⟩ := cut_some hrw (by omega) c 12
      refine (rput_any f t g (cutA A c 12) (n - 12) (c - 12) (l.drop 12) W p1 p2 p3 (by simp; omega) (by omega) (Byt.drop HB.out 12) (row_drop hL HNC.out hrw) (fun h0 => by rw [ha] at h0; cases h0)).mono ?_
      rw [hpt]
      rintro e w' ⟨A', n', c', he, ho⟩
      exact ⟨A', n', c', he, ho.row, ho.len, h.out.next ho.2⟩
    have CP := Lib.hid cp
    have HLB := Lib.hid hLB
    have HLD := Lib.hid hLd
    clear cp hbo hL hpt hLB hLd C2 C24 C48 w1 w2 w3 q2 q24 q48
    go_upto_region 9 with fail
    have hk1 : Hid (K3 w f t g wc.drew) := hk.out.drew
    have e0 := hk.out.h0
    have e1 := hk.out.h1
    have e2 := hk.out.h2
    go_cut [7, 8] from 36 to 42 (fun v7 v8 W => ∃ A' n' c', v7 = .slice A' n' c' ∧ v8 = .int .i64 0 ∧ Hid (Row W A' (bs L)) ∧ Hid (L.length = n') ∧ Hid (K3 w f t g W))
    case first =>
      go_region_with (first
        | (go_at_call 8; (with_reducible refine (CP.out _ ?_).mono ?_); assumption; rintro e w7 ⟨A7, n7, c7, rfl, hr7, hn7, hk7⟩))
      all_goals
        go_wp2_with fail
        go_meet
        case rel => exact ⟨A7, n7, c7, rfl, rfl, hr7, hn7, hk7⟩
    case rest =>
      clear e0 e1 e2 hk1 hk CP
      obtain ⟨A7, n7, c7, rfl, rfl, hr7, hn7, hk7⟩ := hcut
      have cv1 := run_strOf (P := Try.prog) (w := wc) (src := 26) (dst := 9) (c := c7) Try.underlying26 Try.underlying5 Try.underlying9 hn7.out hr7.out
      have cv2 := run_strOf (P := Try.prog) (w := wc) (src := 26) (dst := 9) (c := c) Try.underlying26 Try.underlying5 Try.underlying9 HL.out (HR.out.below hk7.out.1.2)
      have hr8 := HR.out.below hk7.out.1.2
      by_cases h4 : su l = sm l
      case neg =>
        have htk := HTK.out
        rw [if_pos h4] at htk
        have hLl : L ≠ l := by
          intro e
          apply h4
          have h5 := parts (l := l) (by have := HL.out; have := HB4.out; omega) HB.out
          rw [← HLD.out, ← HF.out.1, ← HF.out.2.1, ← HF.out.2.2] at e
          exact (pk_inj (by rw [HF.out.1]; exact p1) (by rw [HF.out.2.1]; exact p2) (by rw [HF.out.2.2]; exact p3) p4 (by rw [HF.out.1]; exact p1) (by rw [HF.out.2.1]; exact p2) (by rw [HF.out.2.2]; exact p3) (sm_lt l) (h5.trans e.symm)).2.2.2.1
        have hne := strOf_ne HLB.out HB.out hLl
        have HK7 := Lib.hid hk7.out
        have z0 := hk7.out.z0
        have z1 := hk7.out.z1
        have z2 := hk7.out.z2
        have y0 := hk7.out.1.c0
        have y1 := hk7.out.1.c1
        have y2 := hk7.out.1.c2
        have fz := hk7.out.1.f0
        have hk3 := kh_stored hk7.out.1 0 0 0
        have g0 := hk3.c0
        have g1 := hk3.c1
        have g2 := hk3.c2
        have HO := Lib.hid (kh_own (l := []) hk7.out.1 (World.ownsRow_nil wc (w.heap.size + 1) 5 1) 0 0 0)
        clear h4 hLl hk3 hr8 hk7 hr7 hn7
        have HT2 := Lib.hid htk
        clear htk HTK
        go_wp2_with fail
        generalize World.setCell (World.setCell (World.setCell wc _ _) _ _) _ _ = W9 at g0 g1 g2 HO ⊢
        refine bodyPost_ret (v := .tuple #[.agg #[.int .u16 0, .int .u16 0, .int .u32 0], .slice none 0 0, .int .i64 31]) (by simp [results, Try.results10, go_sem, g0, g1, g2]) rfl (by rw [HT2.out]; exact ⟨_, _, _, rfl, HO.out⟩)
      case pos =>
        have htk := HTK.out
        rw [if_neg (by simpa using h4), HF.out.1, HF.out.2.1, HF.out.2.2] at htk
        have hLl : L = l := by
          have h5 := parts (l := l) (by have := HL.out; have := HB4.out; omega) HB.out
          rw [HF.out.1, HF.out.2.1, HF.out.2.2, h4, HLD.out] at h5
          exact h5
        rw [hLl] at cv1
        obtain ⟨a, ha⟩ := cut_some hr8 (by have := HL.out; have := HB4.out; omega) c 12
        have hrd := row_drop (k := 12) HL.out HNC.out hr8
        rw [ha] at q12 hrd
        have hbo := HB4.out
        have hdl : (l.drop 12).length = n - 12 := by simp [HL.out]
        have HRD := Lib.hid hrd
        have HDL := Lib.hid hdl
        have HK7 := Lib.hid hk7.out
        obtain ⟨i0, hi0, hz0, hz1, hz2⟩ := info_parts Try_info8
        have HI := Lib.hid hi0
        have HZ0 := Lib.hid hz0
        have HZ1 := Lib.hid hz1
        have HZ2 := Lib.hid hz2
        have HBO := Lib.hid hbo
        clear h4 hLl hr8 hk7 hr7 hn7 ha hrd hbo hdl hi0 hz0 hz1 hz2
        have HT2 := Lib.hid htk
        clear htk HTK
        generalize strOf l = str at cv1 cv2
        go_upto_region 12 with fail
        have e0 := HK7.out.h0
        have e1 := HK7.out.h1
        have e2 := HK7.out.h2
        have hk8 := (HK7.out.next ((Below.refl _ _).alloc (Nat.le_refl _) (.cells #[] 5))).drew
        have e3 := hk8.h0
        have e4 := hk8.h1
        have e5 := hk8.h2
        have HK8 := Lib.hid hk8
        clear hk8
        go_region_law (first
          | (refine step_append_own rfl (.tmp 50) (.tmp 52) 26 rfl (w.heap.size + 3) 5 i0 (.int .u8 0) 1 1 Try.underlying26 HI.out HZ0.out HZ1.out HZ2.out rfl (by decide) _ 0 [] rfl (World.ownsRow_made wc #[] 0 HK7.out.lt (by decide) rfl).drew a (n - 12) (c - 12) (bs (l.drop 12)) rfl (by rw [bs_len, HDL.out, Nat.mul_one]) (bcells (HRD.out.alloc (.cells #[] 5))) (bs_one _) (by have := HBO.out; unfold maxLen; omega) (by have := HBO.out; omega) (Nat.le_trans HK7.out.lt (by simp)) ?_; intro v9 w9 hown9 hgr9; have hk9 := HK7.out.next ((((Below.refl _ _).alloc (Nat.le_refl _) (.cells #[] 5)).drew).grown hgr9 (by simp) (fun k hk => by injection hk with hk; exact Nat.le_of_eq hk)); have y0 := hk9.1.c0; have y1 := hk9.1.c1; have y2 := hk9.1.c2; have fz := hk9.1.f0; have e6 := hk9.h0; have e7 := hk9.h1; have e8 := hk9.h2; have HK9 := Lib.hid hk9; clear hk9))
        all_goals
          clear e0 e1 e2 e3 e4 e5 e6 e7 e8 y0 y1 y2 fz
          rw [Nat.zero_add, List.nil_append] at hown9
          obtain ⟨A9, c9, rfl⟩ := own_form hown9
          have hk3 := kh_stored HK9.out.1 f t g
          have g0 := hk3.c0
          have g1 := hk3.c1
          have g2 := hk3.c2
          have HO := Lib.hid (kh_own HK9.out.1 (own_base hown9 (by omega)) f t g)
          clear hk3 hown9 hgr9
          go_wp2_with fail
          generalize World.setCell (World.setCell (World.setCell w9 _ _) _ _) _ _ = W9 at g0 g1 g2 HO ⊢
          refine bodyPost_ret (v := .tuple #[.agg #[.int .u16 (f : Int), .int .u16 (t : Int), .int .u32 (g : Int)], .slice A9 (n - 12) c9, .int .i64 0]) (by simp [results, Try.results10, go_sem, g0, g1, g2]) rfl (by rw [HT2.out]; exact ⟨_, _, _, rfl, HO.out⟩)

theorem rtake_any (A : Option Addr) (n c : Nat) (l : List Int) (w : World) (hl : l.length = n) (hn : n ≤ 100000) (hnc : n ≤ c) (hcm : c ≤ maxLen) (hb : Byt l) (hr : Row w A (bs l)) :
    Calls Try.prog 10 #[.slice A n c] w (TakeOut w (tk l)) := by
  by_cases h : 1500 < n ∨ n < 12 ∨ n % 4 ≠ 0
  · exact rtake_bad A n c l w hl hn h
  · exact rtake_good A n c l w hl hn hnc hcm hb hr (by omega) (by omega) (by omega)
end Go.Proofs.Ytgepmicodfhhmaa
