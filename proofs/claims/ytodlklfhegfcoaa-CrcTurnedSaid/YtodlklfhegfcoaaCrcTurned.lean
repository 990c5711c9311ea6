/-
  The walk of CrcTurned.
-/
import Derived.Test.YtodlklfhegfcoaaCrcKnown
import Derived.Test.YtodlklfhegfcoaaCrcBits
import Derived.Deep.RegionWith
namespace Go.Proofs.Ytodlklfhegfcoaa
open Go.RowKit Crc

theorem Try_info8 : (Try.prog.info? 5).map (fun i => (i.zero, i.size, i.bytes)) = some (some (.int .u8 0), 1, 1) := by kernel_rfl
theorem Try_size1' : (Try.prog.info? 5).map (·.size) = some 1 := by kernel_rfl
theorem run_min4 {P : Program} (ts : Array TypeId) (t : TypeId) (x y z u : Nat) : ∃ n : Nat, n ≤ x ∧ n ≤ y ∧ n ≤ z ∧ n ≤ u ∧
    ∀ W, (Builtin.min_ ts t #[.int .i64 (x : Int), .int .i64 (y : Int), .int .i64 (z : Int), .int .i64 (u : Int)]).run P W = .ok (.int .i64 (n : Int)) W := by
  refine ⟨min (min (min x y) z) u, by omega, by omega, by omega, by omega, fun W => ?_⟩
  simp [Builtin.min_, Builtin.min2]
  omega
/-- Four rows are there, and what stood at the beginning is as it was. -/
def Four (w : World) (A B C D : Option Addr) (a b c d : List Int) (W : World) : Prop := Row W A (bs a) ∧ Row W B (bs b) ∧ Row W C (bs c) ∧ Row W D (bs d) ∧ Below w.heap.size w W
theorem Four.next {w W w' : World} {A B C D : Option Addr} {a b c d : List Int} (h : Four w A B C D a b c d W) (hb : Below W.heap.size W w') : Four w A B C D a b c d w' :=
  ⟨h.1.below hb, h.2.1.below hb, h.2.2.1.below hb, h.2.2.2.1.below hb, bnext h.2.2.2.2 hb⟩
theorem Four.drew {w W : World} {A B C D : Option Addr} {a b c d : List Int} (h : Four w A B C D a b c d W) : Four w A B C D a b c d W.drew := ⟨h.1, h.2.1, h.2.2.1, h.2.2.2.1, h.2.2.2.2.drew⟩
theorem sum_cut {A : Option Addr} {n cap : Nat} {l : List Int} {W : World} (hn : n ≤ l.length) (hc : n ≤ cap) (hm : n ≤ maxLen) (hb : Byt l) (hr : Row W A (bs l)) :
    Calls Try.prog 8 #[.slice (cutA A cap 0) n cap] W fun e w' => e = .returned (.int .u32 (more 0 (l.take n) : Nat)) ∧ Below W.heap.size W w' :=
  sum_any _ n cap (l.take n) W (by simp; omega) hm (Byt.take hb n) (by have := hr.cut (c := cap) (lo := 0) hc; rw [List.drop_zero] at this; simpa [bs] using this)
/-- Behind k rounds: the row of block g has the three rows turned by one another, as far as k. -/
def TRel (w : World) (g n : Nat) (a b c : List Int) (k : Nat) (wr : World) : Prop :=
  ∃ d : List Int, d.length = n ∧ Byt d ∧ (∀ j, j < k → (d.getD j 0).toNat = (a.getD j 0).toNat ^^^ (b.getD j 0).toNat ^^^ (c.getD j 0).toNat) ∧
    wr.ownsRow w.heap.size 5 1 (.slice (some ⟨g, 0, none⟩) n n) n (bs d) ∧ Below w.heap.size w wr

theorem trel_zero {w W W' : World} {n : Nat} {a b c : List Int} {z : Value} (hz : z = .int .u8 0) (hbe : Below w.heap.size w W) (hg : W.grownBy W' none)
    (hown : W'.ownsRow w.heap.size 5 1 (.slice (some ⟨W.heap.size, 0, none⟩) n n) n (madeCells z.cells (n * 1)).toList) : TRel w W.heap.size n a b c 0 W' := by
  subst hz
  refine ⟨List.replicate n 0, by simp, fun c hc => by simp at hc; omega, fun j hj => by omega, ?_, hbe.grown hg hbe.size (by simp)⟩
  have e : (madeCells (Value.int .u8 0).cells (n * 1)).toList = bs (List.replicate n 0) := by
    apply List.ext_getElem
    · simp [madeCells, bs]
    · intro i h1 h2
      simp [madeCells, bs, Value.cells, Nat.mod_one]
  rw [← e]
  exact hown
theorem trel_step {w wr : World} {g n k x y z : Nat} {a b c d : List Int} (hk : k < n) (hd : d.length = n) (hb : Byt d)
    (h : ∀ j, j < k → (d.getD j 0).toNat = (a.getD j 0).toNat ^^^ (b.getD j 0).toNat ^^^ (c.getD j 0).toNat)
    (ho : wr.ownsRow w.heap.size 5 1 (.slice (some ⟨g, 0, none⟩) n n) n (bs d)) (hbe : Below w.heap.size w wr)
    (hx : a.getD k 0 = x) (hy : b.getD k 0 = y) (hz : c.getD k 0 = z) (hx2 : x < 256) (hy2 : y < 256) (hz2 : z < 256) :
    TRel w g n a b c (k + 1) (wr.setCell ⟨g, k, none⟩ (.int .u8 (x ^^^ y ^^^ z : Nat))).drew := by
  have hs := ho.stored k (.int .u8 (x ^^^ y ^^^ z : Nat))
  rw [bs_set] at hs
  have hgb : w.heap.size ≤ g := (ho.lt g rfl).1
  refine ⟨d.set k (x ^^^ y ^^^ z : Nat), by simp [hd], Byt.set hb k (xor_lt8 (xor_lt8 hx2 hy2) hz2), fun j hj => ?_, hs.1.drew, (hbe.setCell (p := ⟨g, k, none⟩) hgb _).drew⟩
  by_cases e : j = k
  · subst e
    rw [hx, hy, hz]
    simp [List.getD, List.getElem?_set, hd, hk]
  · rw [← h j (by omega)]
    simp [List.getD, List.getElem?_set, Ne.symm e]

set_option maxRecDepth 100000 in
set_option maxHeartbeats 400000 in
theorem crcTurned_walk (a0 : Option Addr) (len0 cap0 : Nat) (z0 : List Int) (a1 : Option Addr) (len1 cap1 : Nat) (z1 : List Int) (a2 : Option Addr) (len2 cap2 : Nat) (z2 : List Int) (w : World)
    (w0 : IsRow .u8 w a0 len0 cap0 z0) (w1 : IsRow .u8 w a1 len1 cap1 z1) (w2 : IsRow .u8 w a2 len2 cap2 z2) :
    Calls Try.prog 6 #[.slice a0 len0 cap0, .slice a1 len1 cap1, .slice a2 len2 cap2] w fun e w' => e = .returned (.bool true) ∧ Below w.heap.size w w' := by
  obtain ⟨l0, hl0, hlc0, hcm0, hb0, hr0⟩ := w0.bytes
  obtain ⟨l1, hl1, hlc1, hcm1, hb1, hr1⟩ := w1.bytes
  obtain ⟨l2, hl2, hlc2, hcm2, hb2, hr2⟩ := w2.bytes
  obtain ⟨n, hn0, hn1, hn2, hn, hmin⟩ := run_min4 (P := Try.prog) #[3, 3, 3, 3] 3 len0 len1 len2 20000
  obtain ⟨i0, hi0, hz0, hz1, hz2⟩ := info_parts Try_info8
  have HK := Lib.hid known_any
  have HL0 := Lib.hid hl0
  have HL1 := Lib.hid hl1
  have HL2 := Lib.hid hl2
  have HR0 := Lib.hid hr0
  have HR1 := Lib.hid hr1
  have HR2 := Lib.hid hr2
  have HB0 := Lib.hid hb0
  have HB1 := Lib.hid hb1
  have HB2 := Lib.hid hb2
  have HI := Lib.hid hi0
  have HZ0 := Lib.hid hz0
  have HZ1 := Lib.hid hz1
  have HZ2 := Lib.hid hz2
  have hmin : ∀ W, (Builtin.min_ #[3, 3, 3, 3] 3 #[.int .i64 (len0 : Int), .int .i64 (len1 : Int), .int .i64 (len2 : Int), .int .i64 20000]).run Try.prog W = .ok (.int .i64 (n : Int)) W := hmin
  clear w0 w1 w2
  clear hl0 hb0 hr0 hcm0 hl1 hb1 hr1 hcm1 hl2 hb2 hr2 hcm2 hi0 hz0 hz1 hz2
  go_enter Try.func6, Try.ntmps6
  go_wp2_with fail
  refine (HK.out _).mono ?_
  rintro e w1 ⟨rfl, hb1⟩
  go_wp2_with (at_make; refine wpList_make_full _ rfl _ _ 23 rfl w.heap.size 5 i0 (.int .u8 0) 1 Try.underlying23 HI.out HZ0.out HZ1.out .i64 .i64 n n n rfl rfl rfl rfl (by rw [HZ2.out]; omega) (by unfold maxLen; omega) hb1.size ?_; intro w2 hown hgr)
  have h0 : TRel w w1.heap.size n l0 l1 l2 0 w2 := trel_zero rfl hb1 hgr hown
  clear hown hgr
  go_loopw [9, 23] (fun _ i wr => ∃ k : Nat, k ≤ n ∧ i = .int .i64 k ∧ TRel w w1.heap.size n l0 l1 l2 k wr) (fun _ i _ => n - (intOf i).toNat)
  case atStart => exact ⟨0, by omega, rfl, h0⟩
  case round =>
    obtain ⟨k, hk, rfl, d, hdl, hdb, hdx, hown, hbw⟩ := hrel
    by_cases hlt : k < n
    · obtain ⟨A0, rfl, hx⟩ := Row.byte (HR0.out.below hbw) (show k < l0.length by rw [HL0.out]; omega)
      obtain ⟨A1, rfl, hy⟩ := Row.byte (HR1.out.below hbw) (show k < l1.length by rw [HL1.out]; omega)
      obtain ⟨A2, rfl, hz⟩ := Row.byte (HR2.out.below hbw) (show k < l2.length by rw [HL2.out]; omega)
      obtain ⟨x, hx1, hx2⟩ := Byt.at HB0.out (show k < l0.length by rw [HL0.out]; omega)
      obtain ⟨y, hy1, hy2⟩ := Byt.at HB1.out (show k < l1.length by rw [HL1.out]; omega)
      obtain ⟨z, hz1, hz2⟩ := Byt.at HB2.out (show k < l2.length by rw [HL2.out]; omega)
      rw [hx1] at hx
      rw [hy1] at hy
      rw [hz1] at hz
      have hf := hown.frozenAt k
      have hc := (hown.cellAt k (by omega)).trans (bs_get (show k < d.length by omega))
      have hxy := u8_xor_nat x y hx2 hy2
      have hxyz := u8_xor_nat (x ^^^ y) z (xor_lt8 hx2 hy2) hz2
      have HX1 := Lib.hid hx1
      have HY1 := Lib.hid hy1
      have HZZ := Lib.hid hz1
      have HD := Lib.hid hdl
      have HDB := Lib.hid hdb
      have HDX := Lib.hid hdx
      have HO := Lib.hid hown
      clear hx1 hy1 hz1 hdl hdb hdx hown
      generalize d.getD k 0 = u at hc
      go_wp2_with fail
      go_region
      go_wp2_with fail
      go_roundw
      case rel => exact ⟨k + 1, by omega, by go_num, trel_step hlt HD.out HDB.out HDX.out HO.out hbw HX1.out HY1.out HZZ.out hx2 hy2 hz2⟩
      case measure => simp [intOf]; omega
    · have hkn : k = n := by omega
      subst hkn
      have hrd : Row wr (some ⟨w1.heap.size, 0, none⟩) (bs d) := fun i v hv => ⟨_, rfl, hown.cells (g := w1.heap.size) rfl i v hv⟩
      have hg0 : Four w a0 a1 a2 (some ⟨w1.heap.size, 0, none⟩) l0 l1 l2 d wr := ⟨HR0.out.below hbw, HR1.out.below hbw, HR2.out.below hbw, hrd, hbw⟩
      have hm : k ≤ maxLen := by unfold maxLen; omega
      have q0 := fun W => run_cut_h (P := Try.prog) Try.underlying23 Try_size1' (k := .i64) a0 len0 cap0 k (by omega) W
      have q1 := fun W => run_cut_h (P := Try.prog) Try.underlying23 Try_size1' (k := .i64) a1 len1 cap1 k (by omega) W
      have q2 := fun W => run_cut_h (P := Try.prog) Try.underlying23 Try_size1' (k := .i64) a2 len2 cap2 k (by omega) W
      have C0 := Lib.hid fun W (hg : Four w a0 a1 a2 (some ⟨w1.heap.size, 0, none⟩) l0 l1 l2 d W) => keep_of (Four w a0 a1 a2 (some ⟨w1.heap.size, 0, none⟩) l0 l1 l2 d) ((sum_cut (n := k) (cap := cap0) (by rw [HL0.out]; omega) (by omega) hm HB0.out hg.1)) fun _ hw => hg.next hw
      have C1 := Lib.hid fun W (hg : Four w a0 a1 a2 (some ⟨w1.heap.size, 0, none⟩) l0 l1 l2 d W) => keep_of (Four w a0 a1 a2 (some ⟨w1.heap.size, 0, none⟩) l0 l1 l2 d) ((sum_cut (n := k) (cap := cap1) (by rw [HL1.out]; omega) (by omega) hm HB1.out hg.2.1)) fun _ hw => hg.next hw
      have C2 := Lib.hid fun W (hg : Four w a0 a1 a2 (some ⟨w1.heap.size, 0, none⟩) l0 l1 l2 d W) => keep_of (Four w a0 a1 a2 (some ⟨w1.heap.size, 0, none⟩) l0 l1 l2 d) ((sum_cut (n := k) (cap := cap2) (by rw [HL2.out]; omega) (by omega) hm HB2.out hg.2.2.1)) fun _ hw => hg.next hw
      have C3 := Lib.hid fun W (hg : Four w a0 a1 a2 (some ⟨w1.heap.size, 0, none⟩) l0 l1 l2 d W) => keep_of (Four w a0 a1 a2 (some ⟨w1.heap.size, 0, none⟩) l0 l1 l2 d) ((sum_any _ k k d W hdl hm hdb hg.2.2.2.1)) fun _ hw => hg.next hw
      have x0 := more_lt 0 (l0.take k)
      have x1 := more_lt 0 (l1.take k)
      have x2 := more_lt 0 (l2.take k)
      have e1 := u32_xor_nat _ _ x0 x1
      have e2 := u32_xor_nat _ _ (xor_lt32 x0 x1) x2
      have hx := more_xor3 (a := l0.take k) (b := l1.take k) (c := l2.take k) (d := d) (by rw [hdl, List.length_take, HL0.out]; omega) (by rw [hdl, List.length_take, HL1.out]; omega) (by rw [hdl, List.length_take, HL2.out]; omega)
        (Byt.take HB0.out k) (Byt.take HB1.out k) (Byt.take HB2.out k) hdb (fun i hi => by rw [hdx i (by omega)]; simp [List.getD, show i < k by omega])
      rw [← hx] at e2
      clear hx x0 x1 x2 hdl hdb hdx hown hrd hbw
      generalize more 0 (l0.take k) = S0 at C0 e1 e2
      generalize more 0 (l1.take k) = S1 at C1 e1 e2
      generalize more 0 (l2.take k) = S2 at C2 e1 e2
      generalize more 0 d = S at C3 e2
      go_wp2_with fail
      have hg2 := hg0.drew
      go_region_with (first
        | (go_at_call 8; (with_reducible refine (C0.out _ ?_).mono ?_); assumption; rintro e w4 ⟨rfl, hg4⟩)
        | (go_at_call 8; (with_reducible refine (C1.out _ ?_).mono ?_); assumption; rintro e w5 ⟨rfl, hg5⟩)
        | (go_at_call 8; (with_reducible refine (C2.out _ ?_).mono ?_); assumption; rintro e w6 ⟨rfl, hg6⟩)
        | (go_at_call 8; (with_reducible refine (C3.out _ ?_).mono ?_); assumption; rintro e w3 ⟨rfl, hg3⟩))
      go_wp2_with fail
      go_ret
      exact ⟨rfl, hg6.2.2.2.2⟩
end Go.Proofs.Ytodlklfhegfcoaa
