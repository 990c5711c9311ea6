/-
  The walk of SipParts.
-/
import Derived.Test.YtgjobmhpghgnfaaSipSums
import Derived.Deep.AppendLies
import Derived.Deep.RegionHeld3
import Derived.Deep.RegionLaw
import Derived.Laws.IdiomStrings
import Derived.Deep.CutRange
namespace Go.Proofs.Ytgjobmhpghgnfaa
open Go.RowKit Sip

theorem Try_info26 : (Try.prog.info? 26).map (fun i => (i.zero, i.size, i.bytes)) = some (some (.slice none 0 0), 1, 24) := by kernel_rfl
theorem run_min2 {P : Program} (ts : Array TypeId) (t : TypeId) (x y : Nat) : ∃ n : Nat, n ≤ x ∧ n ≤ y ∧
    ∀ W, (Builtin.min_ ts t #[.int .i64 (x : Int), .int .i64 (y : Int)]).run P W = .ok (.int .i64 (n : Int)) W := by
  refine ⟨min x y, by omega, by omega, fun W => ?_⟩
  simp [Builtin.min_, Builtin.min2]
  omega
/-- As cuts. -/
def us (l : List Int) : List Value := l.map (.int .u16)
theorem IsRow.cuts {w : World} {a : Option Addr} {len cap : Nat} {zs : List Int} (h : IsRow .u16 w a len cap zs) :
    ∃ l, l.length = len ∧ len ≤ maxLen ∧ (∀ c ∈ l, 0 ≤ c ∧ c < 65536) ∧ Row w a (us l) := by
  rcases h with ⟨rfl, rfl, rfl, rfl⟩ | ⟨x, rfl, h1, h2, h3, h4, h5⟩
  · exact ⟨[], rfl, Nat.zero_le _, fun c h => by simp at h, fun i v h => by simp [us] at h⟩
  · refine ⟨zs.take len, by simp; omega, by omega, fun c hc => wf_u16 (h5 c (List.mem_of_mem_take hc)), fun i v hv => ⟨x, rfl, ?_⟩⟩
    simp only [us, List.map_take, List.getElem?_take] at hv
    split at hv
    · rw [List.getElem?_map] at hv
      obtain ⟨y, hy, rfl⟩ := Option.map_eq_some_iff.1 hv
      obtain ⟨hi, hy⟩ := List.getElem?_eq_some_iff.1 hy
      rw [h4 i hi]
      simp [List.getD, hy, List.getElem?_eq_getElem hi]
    · cases hv
theorem cut_cell {w : World} {a : Option Addr} {l : List Int} (h : Row w a (us l)) (hb : ∀ c ∈ l, 0 ≤ c ∧ c < 65536) {k : Nat} (hk : k < l.length) :
    ∃ (x : Addr) (u : Nat), a = some x ∧ w.cell? (x.add k) = some (.int .u16 (u : Int)) ∧ u < 65536 := by
  obtain ⟨x, hx, hc⟩ := h k (.int .u16 l[k]) (by simp [us, List.getElem?_eq_getElem hk])
  have := hb l[k] (List.getElem_mem hk)
  exact ⟨x, l[k].toNat, hx, by rw [hc]; congr; omega, by omega⟩
/-- What has been cut off so far, and what is left, of the bytes l that stood in w. -/
def Cut (w : World) (l : List Int) (ps : List (Value × List Int)) (A : Option Addr) (n c : Nat) (rl : List Int) : Prop :=
  flat ps ++ rl = l ∧ (∀ p ∈ ps, Part w p) ∧ Row w A (bs rl) ∧ rl.length = n ∧ n ≤ c
theorem Cut.next {w : World} {l : List Int} {ps : List (Value × List Int)} {A : Option Addr} {n c m : Nat} {rl : List Int} (h : Cut w l ps A n c rl) (hm : m ≤ n) (hl : l.length ≤ 20000) (hb : Byt l) :
    Cut w l (ps ++ [(.slice (cutA A c 0) m c, rl.take m)]) (cutA A c m) (n - m) (c - m) (rl.drop m) := by
  obtain ⟨h1, h2, h3, h4, h5⟩ := h
  have h6 : rl.length ≤ l.length := by rw [← h1, List.length_append]; omega
  have h7 : Byt rl := fun x hx => hb x (by rw [← h1]; simp [hx])
  refine ⟨?_, fun p hp => ?_, ?_, by simp; omega, by omega⟩
  · rw [← h1]; simp [flat]
  · rcases List.mem_append.1 hp with hp | hp
    · exact h2 p hp
    · simp at hp; subst hp
      refine ⟨_, m, c, rfl, by simp; omega, by omega, Byt.take h7 m, ?_⟩
      have := cut_at (c := c) (lo := 0) (hi := m) h3 (by omega)
      simpa using this
  · have := cut_at (c := c) (lo := m) (hi := n) h3 h5
    rwa [List.take_of_length_le (by simp; omega)] at this
theorem Cut.last {w : World} {l : List Int} {ps : List (Value × List Int)} {A : Option Addr} {n c : Nat} {rl : List Int} (h : Cut w l ps A n c rl) (hl : l.length ≤ 20000) (hb : Byt l) :
    flat (ps ++ [(.slice A n c, rl)]) = l ∧ ∀ p ∈ ps ++ [(.slice A n c, rl)], Part w p := by
  obtain ⟨h1, h2, h3, h4, h5⟩ := h
  have h6 : rl.length ≤ l.length := by rw [← h1, List.length_append]; omega
  have h7 : Byt rl := fun x hx => hb x (by rw [← h1]; simp [hx])
  refine ⟨by rw [← h1]; simp [flat], fun p hp => ?_⟩
  rcases List.mem_append.1 hp with hp | hp
  · exact h2 p hp
  · simp at hp; subst hp
    exact ⟨A, n, c, rfl, h4, by omega, h7, h3⟩

theorem ownsRow_drew {w : World} {B : Nat} {e : TypeId} {s : Nat} {v : Value} {n : Nat} {xs : List Value} (h : w.ownsRow B e s v n xs) : w.drew.ownsRow B e s v n xs := h
theorem one_cell (w : World) (v : Value) (t : TypeId) : ∀ j u, [v][j]? = some u → (w.alloc (.cells #[v] t)).cell? ((⟨w.heap.size, 0, none⟩ : Addr).add j) = some u := by
  intro j u hj
  match j, hj with
  | 0, hj => simp at hj; subst hj; simp [Addr.add]
theorem one_one {a : Option Addr} {n c : Nat} : ∀ u ∈ [Value.slice a n c], u.oneCell' = true := by intro u hu; simp at hu; subst hu; rfl
theorem kd_room {w W : World} {C : Array Value} (h : Kd w C W) (o : Obj) : w.heap.size + 1 ≤ (W.alloc o).heap.size := by
  have := (Array.getElem?_eq_some_iff.1 h.1).1
  simp
  omega

theorem new_cell (W : World) (v : Value) (t : TypeId) : (W.alloc (.cells #[v] t)).cell? ⟨W.heap.size, 0, none⟩ = some v := by simp
theorem second_cell (W : World) (o : Obj) (v : Value) (t : TypeId) : ((W.alloc o).alloc (.cells #[v] t)).drew.cell? ⟨W.heap.size + 1, 0, none⟩ = some v := by
  have := new_cell (W.alloc o) v t
  rwa [show (W.alloc o).heap.size = W.heap.size + 1 by simp] at this
theorem strOf_snoc (l : List Int) (x : Int) : strOf (l ++ [x]) = (strOf l).push (UInt8.ofNat x.toNat) := by simp [strOf]
theorem strOf_data (l : List Int) : (strOf l).data.toList = l.map fun x => UInt8.ofNat x.toNat := by
  generalize hn : l.length = n
  induction n generalizing l with
  | zero => have : l = [] := List.length_eq_zero_iff.1 hn; subst this; rfl
  | succ n ih =>
    obtain ⟨m, x, rfl⟩ := split_last (l := l) (by omega)
    rw [strOf_snoc]
    have := ih m (by simp at hn; omega)
    simp [ByteArray.push, this]
theorem strOf_size (l : List Int) : (strOf l).size = l.length := by
  show (strOf l).data.size = l.length
  rw [← Array.length_toList, strOf_data l, List.length_map]
theorem str_row {l : List Int} {s : ByteArray} (h : strOf l = s) (hb : Byt l) (w : World) (cap : Nat) (t : TypeId) (fr : Nat × Nat) : Row (w.alloc (.cells (bytesRow s cap) t fr)) (some ⟨w.heap.size, 0, none⟩) (bs l) := by
  intro i v hv
  refine ⟨_, rfl, ?_⟩
  have e : (⟨w.heap.size, 0, none⟩ : Addr).add i = ⟨w.heap.size, i, none⟩ := by unfold Addr.add; split <;> simp_all
  rw [e, cell_of_row _ _ _ _ _ _ (heap_alloc_new _ _)]
  have hi : i < l.length := by
    have := (List.getElem?_eq_some_iff.1 hv).1
    simpa [bs] using this
  have hd := strOf_data l
  rw [h] at hd
  have hs : i < s.data.size := by rw [← Array.length_toList, hd]; simpa using hi
  have hx : s.data[i]? = some (UInt8.ofNat l[i].toNat) := by
    rw [← Array.getElem?_toList, hd]
    simp [List.getElem?_eq_getElem hi]
  rw [bytesRow, Array.getElem?_append_left (by simpa using hs)]
  simp only [Array.getElem?_map, hx, Option.map_some]
  rw [← hv]
  obtain ⟨c, hc, hc2⟩ := hb.at hi
  simp only [bs, List.getElem?_map, List.getElem?_eq_getElem hi, Option.map_some]
  have := hb l[i] (List.getElem_mem hi)
  have e3 : ((UInt8.ofNat l[i].toNat).toNat : Int) = l[i] := by rw [UInt8.toNat_ofNat']; omega
  rw [e3]
/-- The key's block, the parts, the bytes. -/
def Three (w : World) (C : Array Value) (a1 : Option Addr) (l : List Int) (P : Option Addr) (ps : List (Value × List Int)) (W : World) : Prop := Kd w C W ∧ Parts W P ps ∧ Row W a1 (bs l)
theorem Three.next {w W W' : World} {C : Array Value} {a1 P : Option Addr} {l : List Int} {ps : List (Value × List Int)} (h : Three w C a1 l P ps W) (hb : Below W.heap.size W W') : Three w C a1 l P ps W' := ⟨h.1.next hb, h.2.1.below hb, h.2.2.below hb⟩
theorem Three.drew {w W : World} {C : Array Value} {a1 P : Option Addr} {l : List Int} {ps : List (Value × List Int)} (h : Three w C a1 l P ps W) : Three w C a1 l P ps W.drew := ⟨h.1.drew, h.2.1.drewN 1, h.2.2.drewN 1⟩
theorem Three.alloc {w W : World} {C : Array Value} {a1 P : Option Addr} {l : List Int} {ps : List (Value × List Int)} (h : Three w C a1 l P ps W) (o : Obj) : Three w C a1 l P ps (W.alloc o) := h.next ((Below.refl _ _).alloc (Nat.le_refl _) _)
theorem kd_range {w W : World} {C : Array Value} (h : Kd w C W) : W.rangeAt w.heap.size 0 C.toList := fun j v hv => by
  rw [Nat.zero_add, key_cells h j]
  simpa using hv

theorem parts_three {W : World} {a : Option Addr} {n c : Nat} {l : List Int} (hl : l.length = n) (hn : n ≤ 1000000) (hb : Byt l) (hr : Row W a (bs l)) (t : TypeId) :
    Parts (W.alloc (.cells #[.slice none 0 0, .slice a n c, .slice none 0 0] t)) (some ⟨W.heap.size, 0, none⟩) [(.slice none 0 0, []), (.slice a n c, l), (.slice none 0 0, [])] := by
  refine ⟨Row.new W [.slice none 0 0, .slice a n c, .slice none 0 0] t (0, 0), fun q hq => ?_⟩
  simp only [List.mem_cons, List.not_mem_nil, or_false] at hq
  rcases hq with rfl | rfl | rfl
  · exact ⟨none, 0, 0, rfl, rfl, by omega, fun x h => by simp at h, Row.nil_ _ _⟩
  · exact ⟨a, n, c, rfl, hl, hn, hb, hr.alloc _⟩
  · exact ⟨none, 0, 0, rfl, rfl, by omega, fun x h => by simp at h, Row.nil_ _ _⟩
theorem of_three {w W : World} {k l : List Int} {C : Array Value} {a1 P : Option Addr} {n c z : Nat} {pz : List (Value × List Int)} (hk : k.length = 16) (hkb : Byt k) (hC : kv k = C) (h : Three w C a1 l P pz W) (hl : l.length = n) (hb : Byt l) (hn : n ≤ 20000) (hz : sip k l = z) :
    Calls Try.prog 6 #[.agg C, .slice (some ⟨W.heap.size, 0, none⟩) 3 3] (W.alloc (.cells #[.slice none 0 0, .slice a1 n c, .slice none 0 0] 26)) fun e w' => e = .returned (.int .u64 (z : Int)) ∧ Below W.heap.size W w' := by
  subst hC
  have hp := parts_three (c := c) hl (by omega) hb h.2.2 26
  have hf : flat [(.slice none 0 0, []), (.slice a1 n c, l), (.slice none 0 0, [])] = l := by simp [flat]
  have := of_any k (some ⟨W.heap.size, 0, none⟩) 3 3 _ _ hk hkb rfl (by omega) (by rw [hf]; omega) hp
  rw [hf, hz] at this
  exact this.mono fun e w' ⟨he, hb2⟩ => ⟨he, ((Below.refl _ _).alloc (Nat.le_refl _) _).trans (hb2.mono (by simp))⟩

set_option maxRecDepth 100000 in
set_option maxHeartbeats 4000000 in
theorem sipParts_walk (k : List Int) (a1 : Option Addr) (len1 cap1 : Nat) (z1 : List Int) (a2 : Option Addr) (len2 cap2 : Nat) (z2 : List Int) (w : World)
    (hk : k.length = 16) (hkb : Byt k) (w1 : IsRow .u8 w a1 len1 cap1 z1) (w2 : IsRow .u16 w a2 len2 cap2 z2) :
    Calls Try.prog 4 #[.agg (kv k), .slice a1 len1 cap1, .slice a2 len2 cap2] w fun e w' => e = .returned (.bool true) ∧ Below w.heap.size w w' := by
  obtain ⟨l, hl, hlc, hcm, hb, hr⟩ := w1.bytes
  obtain ⟨cs, hcl, hcm2, hcb, hcr⟩ := w2.cuts
  obtain ⟨i0, hi0, hz0, hz1, hz2⟩ := info_parts Try_info26
  have HI := Lib.hid hi0
  have HZ0 := Lib.hid hz0
  have HZ1 := Lib.hid hz1
  have HZ2 := Lib.hid hz2
  have HKN := Lib.hid known_any
  have hks : (kv k).size = 16 := by rw [kv_size, hk]
  have HK := Lib.hid hk
  have HKB := Lib.hid hkb
  have HL := Lib.hid hl
  have HLC := Lib.hid hlc
  have HB := Lib.hid hb
  have HR := Lib.hid hr
  have HCL := Lib.hid hcl
  have HCB := Lib.hid hcb
  have HCR := Lib.hid hcr
  have h63 : len1 ≤ 9223372036854775807 := by unfold maxLen at hcm; omega
  have h64 : len2 ≤ 9223372036854775807 := hcm2
  have HKD : Hid (Kd w (kv k) (w.alloc (.cells (kv k) 23))) := Lib.hid ⟨heap_alloc_new _ _, (Below.refl _ _).alloc (Nat.le_refl _) _⟩
  clear hi0 hz0 hz1 hz2 hk hkb w1 w2 hl hlc hcm hb hr hcl hcm2 hcb hcr
  generalize hC : kv k = C at hks HKD
  have HC := Lib.hid hC
  clear hC
  by_cases h1 : (20000 : Int) < (len1 : Int)
  · go_enter Try.func4, Try.ntmps4
    go_wp2_with fail
    refine (HKN.out _).mono ?_
    rintro e w1 ⟨rfl, hb1⟩
    go_wp2_with fail
    go_ret
    exact ⟨rfl, (HKD.out.next hb1).2⟩
  by_cases h2 : (100 : Int) < (len2 : Int)
  · have d1 : decide ((20000 : Int) < (len1 : Int)) = false := by simpa using h1
    go_enter Try.func4, Try.ntmps4
    go_wp2_with fail
    refine (HKN.out _).mono ?_
    rintro e w1 ⟨rfl, hb1⟩
    go_wp2_with fail
    go_ret
    exact ⟨rfl, (HKD.out.next hb1).2⟩
  have hn1 : len1 ≤ 20000 := by omega
  have hn2 : len2 ≤ 100 := by omega
  have d1 : decide ((20000 : Int) < (len1 : Int)) = false := by simpa using h1
  have d2 : decide ((100 : Int) < (len2 : Int)) = false := by simpa using h2
  clear h1 h2 h63 h64
  have hst : ∀ W, Below w.heap.size w W → (convert 26 9 (.slice a1 len1 cap1)).run Try.prog W = .ok (.string (strOf l)) W := fun W hW =>
    run_strOf Try.underlying26 Try.underlying5 Try.underlying9 HL.out (HR.out.below hW)
  have HST := Lib.hid hst
  clear hst
  go_enter Try.func4, Try.ntmps4
  go_wp2_with fail
  refine (HKN.out _).mono ?_
  rintro e w1 ⟨rfl, hb1⟩
  have hd1 := HKD.out.next hb1
  have cv1 := HST.out w1 hd1.2
  have HD1 := Lib.hid hd1
  clear hb1 hd1
  generalize hsl : strOf l = str at *
  have HSL := Lib.hid hsl
  clear hsl
  go_wp2_with fail
  clear cv1
  go_loopw [8, 9, 30] (fun v r i W => ∃ (q n c : Nat) (A : Option Addr) (rl : List Int) (ps : List (Value × List Int)), q ≤ len2 ∧ n ≤ len1 ∧ i = .int .i64 q ∧ r = .slice A n c ∧ Hid (Cut w l ps A n c rl) ∧ W.ownsRow (w.heap.size + 1) 26 1 v q (ps.map (·.1)) ∧ Kd w C W) (fun _ _ i _ => len2 - (intOf i).toNat)
  case atStart => exact ⟨0, len1, cap1, a1, l, [], by omega, by omega, rfl, rfl, Lib.hid ⟨by simp [flat], fun p hp => by simp at hp, HR.out, HL.out, HLC.out⟩, World.ownsRow_nil _ _ _ _, HD1.out⟩
  case round =>
    obtain ⟨q, n, c, A, rl, ps, hq, hn, rfl, rfl, hcut, hown, hd⟩ := hrel
    by_cases hlt : q < len2
    · obtain ⟨x2, u, rfl, hc, hu⟩ := cut_cell (HCR.out.below hd.2) HCB.out (k := q) (by rw [HCL.out]; exact hlt)
      obtain ⟨m, hmu, hmn, hmin⟩ := run_min2 (P := Try.prog) #[3, 3] 3 u n
      have hnext := hcut.out.next hmn (by rw [HL.out]; omega) HB.out
      have hnc := hcut.out.2.2.2.2
      have hq1 := fun W => run_cut_h (P := Try.prog) Try.underlying26 Try_size1 (k := .i64) A n c m (by omega) W
      have hq2 := fun W => run_cut_l (P := Try.prog) Try.underlying26 Try_size1 (k := .i64) A n c m hmn W
      have HN := Lib.hid hnext
      have HO := Lib.hid hown
      have HD := Lib.hid hd
      have HMN := Lib.hid hmn
      clear hnext hown hd hcut hnc hmu hmn
      go_wp2_with fail
      go_region_law (first
        | (refine step_append_lies _ rfl (.tmp 39) (.tmp 43) 24 rfl (w.heap.size + 1) 26 i0 (.slice none 0 0) 1 24 Try.underlying24 HI.out HZ0.out HZ1.out HZ2.out rfl (by decide) _ _ _ rfl ((ownsRow_drew HO.out).alloc _) ⟨wr.heap.size, 0, none⟩ 1 1 [.slice (cutA A c 0) m c] rfl rfl (one_cell _ _ _) one_one (by omega) (by unfold maxLen; omega) (by omega) (kd_room HD.out _) _ rfl ?_; intro g cap w3 hown3 hgrow3 _ _))
      have hd3 := (HD.out.alloc (.cells #[.slice (cutA A c 0) m c] 26)).drew.grown hgrow3 (fun b hb => (HO.out.lt b hb).1)
      have HO3 := Lib.hid hown3
      have HD3 := Lib.hid hd3
      have hmn := HMN.out
      clear hown3 hgrow3 hd3
      go_wp2_with fail
      go_roundw
      case rel => exact ⟨q + 1, n - m, c - m, cutA A c m, rl.drop m, ps ++ [(.slice (cutA A c 0) m c, rl.take m)], by omega, by omega, by go_num, rfl, Lib.hid HN.out, by simpa using HO3.out, HD3.out⟩
      case measure => simp [intOf]; omega
    · have hqn : q = len2 := by omega
      subst hqn
      have hlast := hcut.out.last (by rw [HL.out]; omega) HB.out
      have hroom := kd_room hd
      have HO := Lib.hid hown
      have HD := Lib.hid hd
      have HLA := Lib.hid hlast
      have HRM := Lib.hid hroom
      clear hown hd hcut hlast hroom
      go_wp2_with (at_builtin; refine wpList_append_lies _ rfl (.tmp 49) (.tmp 51) 24 rfl (w.heap.size + 1) 26 i0 (.slice none 0 0) 1 24 Try.underlying24 HI.out HZ0.out HZ1.out HZ2.out rfl (by decide) _ _ _ rfl (HO.out.alloc _) ⟨wr.heap.size, 0, none⟩ 1 1 [.slice A n c] rfl rfl (one_cell _ _ _) one_one (by omega) (by unfold maxLen; omega) (by omega) (HRM.out _) _ rfl ?_; intro g cap w3 hown3 hgrow3 _ _)
      have hd3 := (HD.out.alloc (.cells #[.slice A n c] 26)).grown hgrow3 (fun b hb => (HO.out.lt b hb).1)
      have hp3 : Parts w3 (some ⟨g, 0, none⟩) (ps ++ [(.slice A n c, rl)]) := ⟨fun i v hv => ⟨_, rfl, hown3.cells (g := g) rfl i v (by simpa using hv)⟩, fun p hp => (HLA.out.2 p hp).below hd3.2⟩
      have hg0 : Three w C a1 l (some ⟨g, 0, none⟩) (ps ++ [(.slice A n c, rl)]) w3 := ⟨hd3, hp3, HR.out.below hd3.2⟩
      have hflat := HLA.out.1
      have hpl : (ps ++ [(Value.slice A n c, rl)]).length = q + 1 := by have := HO.out.1; simp at this ⊢; omega
      generalize ps ++ [(.slice A n c, rl)] = pz at hg0 hflat hp3 hpl
      have hwa := fun W (hW : Three w C a1 l (some ⟨g, 0, none⟩) pz W) (B : Addr) (hB : W.cell? B = some (.slice a1 len1 cap1)) =>
        keep_of (Three w C a1 l (some ⟨g, 0, none⟩) pz) (of_any k (some B) 1 1 [(.slice a1 len1 cap1, l)] W HK.out HKB.out rfl (by omega) (by rw [flat_one, HL.out]; omega) (parts_one hB HL.out (by omega) HB.out hW.2.2)) fun _ hw => hW.next hw
      have hwg := fun W (hW : Three w C a1 l (some ⟨g, 0, none⟩) pz W) (B : Addr) (A0 : Option Addr) (n0 c0 : Nat) (hB : W.cell? B = some (.slice A0 n0 c0)) (hn0 : n0 = len1) (hr0 : Row W A0 (bs l)) =>
        keep_of (Three w C a1 l (some ⟨g, 0, none⟩) pz) (of_any k (some B) 1 1 [(.slice A0 n0 c0, l)] W HK.out HKB.out rfl (by omega) (by rw [flat_one, HL.out]; omega) (parts_one hB (by rw [HL.out, hn0]) (by omega) HB.out hr0)) fun _ hw => hW.next hw
      simp only [flat_one] at hwg
      have hwb := fun W (hW : Three w C a1 l (some ⟨g, 0, none⟩) pz W) =>
        (of_any k (some ⟨g, 0, none⟩) (q + 1) cap pz W HK.out HKB.out hpl (by omega) (by rw [hflat, HL.out]; omega) hW.2.1).mono fun e w' ⟨he, hb⟩ => (⟨he, hW.next hb, fun B v hv => (hb.cell (block_lt_of_cell hv)).trans hv⟩ : e = _ ∧ Three w C a1 l (some ⟨g, 0, none⟩) pz w' ∧ ∀ B v, W.cell? B = some v → w'.cell? B = some v)
      simp only [flat_one] at hwa
      rw [hflat] at hwb
      rw [HC.out] at hwa hwb hwg
      obtain ⟨z, hz⟩ : ∃ z, sip k l = z := ⟨_, rfl⟩
      rw [hz] at hwa hwb hwg
      have HSZ := Lib.hid hz
      clear hz
      have HWA := Lib.hid hwa
      have HWB := Lib.hid hwb
      have HWG := Lib.hid hwg
      clear hwa hwb hwg hpl hflat hp3 hown3 hgrow3 hd3
      go_wp2_with fail
      have hg1 := hg0.drew
      have HC3 := HC
      clear HC HKD HD1 HD
      obtain ⟨k0, k1, k2, k3, k4, k5, k6, k7, k8, k9, k10, k11, k12, k13, k14, k15, rfl⟩ := sixteen hks
      have l1 := key_cells hg1.1
      have hgd := (hg0.alloc (.cells #[.slice a1 len1 cap1] 26)).drew
      have ld := key_cells hgd.1
      have hcd : (w3.alloc (.cells #[.slice a1 len1 cap1] 26)).drew.cell? ⟨w3.heap.size, 0, none⟩ = some (.slice a1 len1 cap1) := new_cell w3 _ _
      have hcv := fun W => run_bytes_of_string (P := Try.prog) W 9 26 5 str Try.underlying9 Try.underlying26 Try.underlying5
      have HCV := Lib.hid hcv
      clear hcv
      go_cut [13, 14] from 53 to 59 (fun s13 s14 W => s13 = .int .u64 (z : Int) ∧ s14 = .int .u64 (z : Int) ∧ Hid (Three w #[k0, k1, k2, k3, k4, k5, k6, k7, k8, k9, k10, k11, k12, k13, k14, k15] a1 l (some ⟨g, 0, none⟩) pz W))
      case first =>
        have hu := Try.underlying23
        have hi : (Try.prog.info? 23).map (·.size) = some (List.length [k0, k1, k2, k3, k4, k5, k6, k7, k8, k9, k10, k11, k12, k13, k14, k15]) := Try_keysize
        refine wp_region_held_drew (S := fun W' => W'.rangeAt w.heap.size 0 [k0, k1, k2, k3, k4, k5, k6, k7, k8, k9, k10, k11, k12, k13, k14, k15]) (by kernel_rfl) (kd_range hg1.1) (fun hHeld => ?_)
        refine wpAnyH_take (i := 0) rfl (by kernel_rfl) (by kernel_rfl) (by kernel_rfl) (fun _ _ _ h => h) (yieldsIf_load_mid (by rfl) _ _ rfl _ _ rfl _ _ (fun W h => h) hu rfl hi) hHeld ?_
        simp only [Act.put, List.setIfInBounds_toArray, List.set_cons_zero, List.set_cons_succ]
        refine wpAnyH_take (i := 4) rfl (by kernel_rfl) (by kernel_rfl) (by kernel_rfl) (fun _ _ _ h => h) (yieldsIf_load_mid (by rfl) _ _ rfl _ _ rfl _ _ (fun W h => h) hu rfl hi) hHeld ?_
        simp only [Act.put, List.setIfInBounds_toArray, List.set_cons_zero, List.set_cons_succ]
        refine wpAnyH_take (i := 1) (v := .slice a1 len1 cap1) rfl (by kernel_rfl) (by kernel_rfl) (by kernel_rfl) (fun _ _ _ h => h) (Or.inl ⟨by rfl, fun w _ => by go_simp⟩) hHeld ?_
        simp only [Act.put, List.setIfInBounds_toArray, List.set_cons_zero, List.set_cons_succ]
        refine wpAnyH_take (i := 5) (v := .slice (some ⟨g, 0, none⟩) (q + 1) cap) rfl (by kernel_rfl) (by kernel_rfl) (by kernel_rfl) (fun _ _ _ h => h) (Or.inl ⟨by rfl, fun w _ => by go_simp⟩) hHeld ?_
        simp only [Act.put, List.setIfInBounds_toArray, List.set_cons_zero, List.set_cons_succ]
        refine wpAnyH_ready (rs := [2]) (by kernel_rfl) (by simp) (AllReadyH.cons rfl (fun K hK => ?_) AllReadyH.nil)
        go_simp
        refine hK.out _ _ (kd_range hgd.1) (fun hHeld => ?_)
        clear hK
        refine wpAnyH_ready (rs := [3]) (by kernel_rfl) (by simp) (AllReadyH.cons rfl (fun K hK => ?_) AllReadyH.nil)
        go_simp
        (with_reducible refine (HWA.out _ ?_ _ ?_).mono ?_)
        exact hgd
        exact hcd
        rintro e w4 ⟨rfl, hga⟩
        go_wp2_with fail
        refine hK.out _ _ (kd_range hga.1) (fun hHeld => ?_)
        clear hK
        refine wpAnyH_ready (rs := [6]) (by kernel_rfl) (by simp) (AllReadyH.cons rfl (fun K hK => ?_) AllReadyH.nil)
        go_simp
        (with_reducible refine (HWB.out _ ?_).mono ?_)
        exact hga
        rintro e w5 ⟨rfl, hgb, hcb⟩
        go_wp2_with fail
        refine hK.out _ _ (kd_range hgb.1) (fun hHeld => ?_)
        clear hK
        refine wpAnyH_ready (rs := [7]) (by kernel_rfl) (by simp) (AllReadyH.cons rfl (fun K hK => ?_) AllReadyH.nil)
        go_simp
        refine hK.out _ _ (kd_range hgb.1) (fun hHeld => ?_)
        clear hK
        refine wpAnyH_ready (rs := [8]) (by kernel_rfl) (by simp) (AllReadyH.cons rfl (fun K hK => ?_) AllReadyH.nil)
        go_simp
        refine hK.out _ _ (kd_range hgb.1) (fun hHeld => ?_)
        clear hK
        refine wpAnyH_done (by kernel_rfl) ?_ _
        go_wp2_with fail
        go_meet
        case rel => exact ⟨rfl, rfl, Lib.hid hgb⟩
      case rest =>
        obtain ⟨rfl, rfl, hT⟩ := hcut
        clear l1 ld hcd hgd hg1 hg0
        have lc := key_cells hT.out.1
        have hcs := HST.out wc hT.out.1.2
        have hcv := HCV.out wc
        go_wp2_with fail
        have hT2 := ((hT.out.alloc (.cells (bytesRow str (grownCap wc str.size 0 5)) 5 ((bytesRow str (grownCap wc str.size 0 5)).size, (bytesRow str (grownCap wc str.size 0 5)).size + 1))).alloc (.cells #[.slice (some ⟨wc.heap.size, 0, none⟩) str.size (grownCap wc str.size 0 5)] 26)).drew
        have hrw := (str_row HSL.out HB.out wc (grownCap wc str.size 0 5) 5 ((bytesRow str (grownCap wc str.size 0 5)).size, (bytesRow str (grownCap wc str.size 0 5)).size + 1)).alloc (.cells #[.slice (some ⟨wc.heap.size, 0, none⟩) str.size (grownCap wc str.size 0 5)] 26)
        refine (HWG.out _ hT2 ⟨wc.heap.size + 1, 0, none⟩ _ _ _ (second_cell wc _ _ _) (by rw [← HSL.out, strOf_size, HL.out]) (hrw.drewN 1)).mono ?_
        rintro e w5 ⟨rfl, hT5⟩
        clear hT2 hrw hcv hcs lc
        have l5 := key_cells hT5.1
        go_wp2_with fail
        refine (of_three HK.out HKB.out HC3.out hT5 HL.out HB.out (by omega) HSZ.out).mono ?_
        rintro e w6 ⟨rfl, hb6⟩
        go_wp2_with fail
        go_ret
        exact ⟨rfl, hT5.1.2.trans (hb6.mono hT5.1.2.size)⟩
end Go.Proofs.Ytgjobmhpghgnfaa
