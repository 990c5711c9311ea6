/-
  What the document's own answer does: a round, the sum.
-/
import Derived.Test.YtgjobmhpghgnfaaSipRound
import Derived.Deep.WholeRow
import Derived.Handy
namespace Go.Proofs.Ytgjobmhpghgnfaa
open Go.RowKit Sip

def vs (v : V) : Array Value := #[vi v.a, vi v.b, vi v.c, vi v.d]

set_option maxRecDepth 100000 in
set_option maxHeartbeats 400000 in
theorem rround_any (v : V) (w : World) (hv : v.ok) :
    Calls Try.prog 13 #[.agg (vs v)] w fun e w' => e = .returned (.agg (vs (rnd v))) ∧ Below w.heap.size w w' := by
  obtain ⟨a1, r1, b1, a2, d0, r2, d1, a3, r3, d2, c2, r4, b2, c3, ⟨k1, k2, k3, k4⟩, ⟨e1, e2, e3, e4, e5, e6, e7, e8⟩, ⟨s1, s2, s3, s4, s5, s6⟩, hr⟩ := rnd_way hv
  have C1 := Lib.hid fun W => tu13_any v.b W hv.2.1
  have C2 := Lib.hid fun W => tu32_any a1 W k1
  have C3 := Lib.hid fun W => tu16_any v.d W hv.2.2.2
  have C4 := Lib.hid fun W => tu21_any d1 W k3
  have C5 := Lib.hid fun W => tu17_any b1 W k2
  have C6 := Lib.hid fun W => tu32_any c2 W k4
  rw [← s1] at C1
  rw [← s2] at C2
  rw [← s3] at C3
  rw [← s4] at C4
  rw [← s5] at C5
  rw [← s6] at C6
  rw [hr]
  clear s1 s2 s3 s4 s5 s6 hr hv k1 k2 k3 k4
  unfold vs vi
  generalize v.a = ua at e1
  generalize v.b = ub at e1 C1
  generalize v.c = uc at e3
  generalize v.d = ud at e3 C3
  go_enter Try.func13, Try.ntmps13
  go_wp2
  go_quiet (fail)
  go_wp2_with fail
  refine (C1.out _).mono ?_
  rintro e w' ⟨rfl, q1, rfl⟩
  go_wp2_with fail
  refine (C2.out _).mono ?_
  rintro e w' ⟨rfl, q2, rfl⟩
  go_wp2_with fail
  refine (C3.out _).mono ?_
  rintro e w' ⟨rfl, q3, rfl⟩
  go_wp2_with fail
  refine (C4.out _).mono ?_
  rintro e w' ⟨rfl, q4, rfl⟩
  go_wp2_with fail
  refine (C5.out _).mono ?_
  rintro e w' ⟨rfl, q5, rfl⟩
  go_wp2_with fail
  refine (C6.out _).mono ?_
  rintro e w' ⟨rfl, q6, rfl⟩
  go_wp2_with fail
  go_returns
  exact ⟨rfl, by go_grown; exact below_drewN (((Below.refl _ _).alloc (Nat.le_refl _) _).alloc (by simp) _) _⟩

theorem Try_size1 : (Try.prog.info? 5).map (·.size) = some 1 := by kernel_rfl
theorem xor_a (x : Nat) (h : x < 18446744073709551616) : bits .xor .u64 (x : Int) 8317987319222330741 = ((x ^^^ 8317987319222330741 : Nat) : Int) := u64_xor_nat x 8317987319222330741 h (by decide)
theorem xor_b (x : Nat) (h : x < 18446744073709551616) : bits .xor .u64 (x : Int) 7237128888997146477 = ((x ^^^ 7237128888997146477 : Nat) : Int) := u64_xor_nat x 7237128888997146477 h (by decide)
theorem xor_c (x : Nat) (h : x < 18446744073709551616) : bits .xor .u64 (x : Int) 7816392313619706465 = ((x ^^^ 7816392313619706465 : Nat) : Int) := u64_xor_nat x 7816392313619706465 h (by decide)
theorem xor_d (x : Nat) (h : x < 18446744073709551616) : bits .xor .u64 (x : Int) 8387220255154660723 = ((x ^^^ 8387220255154660723 : Nat) : Int) := u64_xor_nat x 8387220255154660723 h (by decide)
theorem init_way {k : List Int} (hk : k.length = 16) (hkb : Byt k) : ∃ k0 k1 y1 y2 y3 y4 : Nat, k0 = wd (k.take 8) ∧ k1 = wd (k.drop 8) ∧
    bits .xor .u64 (k0 : Int) 8317987319222330741 = (y1 : Int) ∧ bits .xor .u64 (k1 : Int) 7237128888997146477 = (y2 : Int) ∧
    bits .xor .u64 (k0 : Int) 7816392313619706465 = (y3 : Int) ∧ bits .xor .u64 (k1 : Int) 8387220255154660723 = (y4 : Int) ∧ init k = ⟨y1, y2, y3, y4⟩ := by
  have hw0 := wd_lt8 (Byt.take hkb 8) (by simp; omega)
  have hw1 := wd_lt8 (Byt.drop hkb 8) (by simp; omega)
  exact ⟨_, _, _, _, _, _, rfl, rfl, xor_a _ hw0, xor_b _ hw1, xor_c _ hw0, xor_d _ hw1, init_def k⟩
theorem Row.drewN {w : World} {A : Option Addr} {l : List Value} (h : Row w A l) (q : Nat) : Row (w.drewN q) A l := h.keep fun _ _ hp => (World.cell?_drewN w q _).trans hp
theorem st_new {t : TypeId} (w : World) (g : Nat) (v : V) (hg : g = w.heap.size) : St t (w.alloc (.cells #[.int .u64 (v.a : Int), .int .u64 (v.b : Int), .int .u64 (v.c : Int), .int .u64 (v.d : Int)] t)) g v := by
  subst hg
  refine World.rowIs_alloc w _ t (vf v) fun i hi => ?_
  unfold vf vi
  rcases (show i = 0 ∨ i = 1 ∨ i = 2 ∨ i = 3 by simp at hi; omega) with rfl | rfl | rfl | rfl <;> rfl
theorem cut_at {W : World} {A : Option Addr} {l : List Int} {c lo hi : Nat} (h : Row W A (bs l)) (hc : hi ≤ c) : Row W (cutA A c lo) (bs ((l.drop lo).take (hi - lo))) := by
  have := h.cut (c := c) (lo := lo) hc
  rw [List.drop_take] at this
  simpa [bs] using this
/-- A word is taken: on the way. -/
theorem tk_way {v : V} {x : Nat} (hv : v.ok) (hx : x < 18446744073709551616) : ∃ u1 u2 : V, u1 = rnd { v with d := v.d ^^^ x } ∧ u2 = rnd u1 ∧ V.ok { v with d := v.d ^^^ x } ∧ u1.ok ∧ u2.ok ∧
    bits .xor .u64 (v.d : Int) (x : Int) = ((v.d ^^^ x : Nat) : Int) ∧ bits .xor .u64 (u2.a : Int) (x : Int) = ((u2.a ^^^ x : Nat) : Int) ∧ tk v x = { u2 with a := u2.a ^^^ x } := by
  have h1 : V.ok { v with d := v.d ^^^ x } := ⟨hv.1, hv.2.1, hv.2.2.1, xr_lt hv.2.2.2 hx⟩
  have h2 := rnd_ok (rnd_ok h1)
  exact ⟨_, _, rfl, rfl, h1, rnd_ok h1, h2, u64_xor_nat _ _ hv.2.2.2 hx, u64_xor_nat _ _ h2.1 hx, rfl⟩
theorem four {w W : World} {B g : Nat} {a b c d : Value} (h : Below B w W) (hg : B ≤ g) :
    Below B w ((((W.setCell ⟨g, 0, none⟩ a).setCell ⟨g, 1, none⟩ b).setCell ⟨g, 2, none⟩ c).setCell ⟨g, 3, none⟩ d) :=
  (((h.setCell hg _).setCell hg _).setCell hg _).setCell hg _
theorem five {w W : World} {B g : Nat} {a b c d e : Value} (h : Below B w W) (hg : B ≤ g) :
    Below B w (((((W.setCell ⟨g, 0, none⟩ a).setCell ⟨g, 1, none⟩ b).setCell ⟨g, 2, none⟩ c).setCell ⟨g, 3, none⟩ d).setCell ⟨g, 0, none⟩ e) :=
  ((((h.setCell hg _).setCell hg _).setCell hg _).setCell hg _).setCell hg _
theorem fin_way {v : V} (hv : v.ok) : ∃ (u1 u2 u3 u4 : V) (x1 x2 x3 : Nat), u1 = rnd { v with c := v.c ^^^ 255 } ∧ u2 = rnd u1 ∧ u3 = rnd u2 ∧ u4 = rnd u3 ∧ V.ok { v with c := v.c ^^^ 255 } ∧ u1.ok ∧ u2.ok ∧ u3.ok ∧
    bits .xor .u64 (v.c : Int) 255 = ((v.c ^^^ 255 : Nat) : Int) ∧ bits .xor .u64 (u4.a : Int) (u4.b : Int) = (x1 : Int) ∧ bits .xor .u64 (x1 : Int) (u4.c : Int) = (x2 : Int) ∧ bits .xor .u64 (x2 : Int) (u4.d : Int) = ((fin v : Nat) : Int) := by
  have h1 : V.ok { v with c := v.c ^^^ 255 } := ⟨hv.1, hv.2.1, xr_lt hv.2.2.1 (by omega), hv.2.2.2⟩
  have h2 := rnd_ok h1
  have h3 := rnd_ok h2
  have h4 := rnd_ok h3
  have h5 := rnd_ok h4
  refine ⟨_, _, _, _, _, _, 0, rfl, rfl, rfl, rfl, h1, h2, h3, h4, u64_xor_nat v.c 255 hv.2.2.1 (by omega), u64_xor_nat _ _ h5.1 h5.2.1, u64_xor_nat _ _ (xr_lt h5.1 h5.2.1) h5.2.2.1, ?_⟩
  rw [u64_xor_nat _ _ (xr_lt (xr_lt h5.1 h5.2.1) h5.2.2.1) h5.2.2.2]
  rfl
/-- A key, as a value. -/
def kv (k : List Int) : Array Value := (bs k).toArray
/-- Behind i rounds. -/
def refAt (k l : List Int) (i : Nat) : V := if 8 * i ≤ l.length then words k l i else tk (words k l (i - 1)) (wd (l.drop (8 * (i - 1))) + l.length % 256 * 72057594037927936)
theorem refAt_zero (k l : List Int) : refAt k l 0 = init k := by simp [refAt, words_zero]
theorem refAt_whole {k l : List Int} (hb : Byt l) (i : Nat) (h : 8 * i + 8 ≤ l.length) : refAt k l (i + 1) = tk (refAt k l i) (wd ((l.drop (8 * i)).take 8)) := by
  unfold refAt
  rw [if_pos (by omega), if_pos (by omega), words_succ hb i (by omega)]
theorem refAt_last {k l : List Int} (i : Nat) (h : 8 * i ≤ l.length) (h2 : l.length < 8 * i + 8) : refAt k l (i + 1) = tk (refAt k l i) (wd (l.drop (8 * i)) + l.length % 256 * 72057594037927936) := by
  unfold refAt
  rw [if_neg (by omega), if_pos (by omega), show i + 1 - 1 = i by omega]
theorem refAt_end {k l : List Int} (hb : Byt l) (i : Nat) (h : l.length < 8 * i) (h2 : 8 * i ≤ l.length + 8) : sip k l = fin (refAt k l i) := by
  unfold refAt
  rw [if_neg (by omega), sip_words hb (i - 1) (by omega) (by omega)]
theorem refAt_ok {k l : List Int} (hk : k.length = 16) (hkb : Byt k) (hb : Byt l) (i : Nat) (h2 : 8 * i ≤ l.length + 8) : (refAt k l i).ok := by
  unfold refAt
  split
  · exact words_ok hk hkb hb i
  · exact tk_ok (words_ok hk hkb hb _) (last_lt (Byt.drop hb _) (by simp; omega) _)
theorem kv_size (k : List Int) : (kv k).size = k.length := by simp [kv, bs]
theorem kv_row (w : World) (k : List Int) (t : TypeId) (fr : Nat × Nat) : Row (w.alloc (.cells (kv k) t fr)) (some ⟨w.heap.size, 0, none⟩) (bs k) := Row.new w (bs k) t fr
theorem key_lo {W : World} {k : List Int} {b : Nat} (h : Row W (some ⟨b, 0, none⟩) (bs k)) : Row W (some ⟨b, 0, none⟩) (bs (k.take 8)) := by
  have := h.cut (c := 16) (lo := 0) (hi := 8) (by omega)
  simpa [cutA, bs, Addr.add] using this
theorem key_hi {W : World} {k : List Int} {b : Nat} (hk : k.length = 16) (h : Row W (some ⟨b, 0, none⟩) (bs k)) : Row W (some ⟨b, 8, none⟩) (bs (k.drop 8)) := by
  have := h.cut (c := 16) (lo := 8) (hi := 16) (by omega)
  rw [List.take_of_length_le (by simp [bs]; omega)] at this
  simpa [cutA, bs, Addr.add] using this

set_option maxRecDepth 100000 in
set_option maxHeartbeats 4000000 in
theorem rof_any (k : List Int) (A : Option Addr) (n c : Nat) (l : List Int) (w : World) (hk : k.length = 16) (hkb : Byt k) (hl : l.length = n) (hm : n ≤ 1000000) (hnc : n ≤ c) (hb : Byt l) (hr : Row w A (bs l)) :
    Calls Try.prog 7 #[.agg (kv k), .slice A n c] w fun e w' => e = .returned (.int .u64 (sip k l : Nat)) ∧ Below w.heap.size w w' := by
  have hks : (kv k).size = 16 := by rw [kv_size, hk]
  have hkr := kv_row w k 23 (0, 0)
  have h1 := fun W hr => rword_any (some ⟨w.heap.size, 0, none⟩) 8 16 (k.take 8) W (by simp; omega) (by omega) (Byt.take hkb 8) hr
  have h2 := fun W hr => rword_any (some ⟨w.heap.size, 8, none⟩) 8 8 (k.drop 8) W (by simp; omega) (by omega) (Byt.drop hkb 8) hr
  have hi0 := refAt_zero k l
  have hik := init_ok hk hkb
  have hsz := Try_size1
  obtain ⟨k0, k1, y1, y2, y3, y4, hk0, hk1, x1, x2, x3, x4, hinit⟩ := init_way hk hkb
  rw [← hk0] at h1
  rw [← hk1] at h2
  have HI := Lib.hid hinit
  have HK := Lib.hid fun q => (key_lo hkr).drewN q
  have HK2 := Lib.hid fun q => (key_hi hk hkr).drewN q
  have H1 := Lib.hid h1
  have H2 := Lib.hid h2
  have HB := Lib.hid hb
  have HR := Lib.hid hr
  have HL := Lib.hid hl
  have HKB := Lib.hid hkb
  have HKL := Lib.hid hk
  have HO := Lib.hid fun i => refAt_ok (l := l) hk hkb hb i
  have HZ := Lib.hid hi0
  have HC := Lib.hid hnc
  clear hnc hkr h1 h2 hi0 hb hr hl hkb hk hik hk0 hk1 hinit
  generalize kv k = C at hks HK HK2
  go_enter Try.func7, Try.ntmps7
  go_wp2
  go_quiet (first | (go_at_call 12; (with_reducible refine Calls.quiet_of_same (H1.out _ ?_)); exact HK.out _) | (go_at_call 12; (with_reducible refine Calls.quiet_of_same (H2.out _ ?_)); exact HK2.out _))
  go_wp2
  have hS0 : St 42 (((w.alloc (.cells C 23)).drewN nq).alloc (.cells #[.int .u64 (y1 : Int), .int .u64 (y2 : Int), .int .u64 (y3 : Int), .int .u64 (y4 : Int)] 42)) (w.heap.size + 1) (refAt k l 0) := by
    rw [HZ.out, HI.out]
    exact st_new _ (w.heap.size + 1) ⟨y1, y2, y3, y4⟩ (by simp)
  have hB0 : Below w.heap.size w (((w.alloc (.cells C 23)).drewN nq).alloc (.cells #[.int .u64 (y1 : Int), .int .u64 (y2 : Int), .int .u64 (y3 : Int), .int .u64 (y4 : Int)] 42)) :=
    (below_drewN ((Below.refl _ _).alloc (Nat.le_refl _) _) _).alloc (by simp) _
  have HS0 := Lib.hid hS0
  clear hS0
  go_loopw [8] (fun q W => ∃ i a : Nat, a = 8 * i ∧ a ≤ n + 8 ∧ q = .int .i64 (a : Int) ∧ St 42 W (w.heap.size + 1) (refAt k l i) ∧ Below w.heap.size w W) (fun q _ => n + 8 - (intOf q).toNat)
  case atStart => exact ⟨0, 0, rfl, by omega, rfl, HS0.out, hB0⟩
  case round =>
    obtain ⟨i, a, ha, hi, rfl, hS, hB⟩ := hrel
    have hok := HO.out i (by rw [HL.out]; omega)
    obtain ⟨c0, c1, c2, c3⟩ := hS.cells
    have f0 := hS.frozen 0
    have f1 := hS.frozen 1
    have f2 := hS.frozen 2
    have f3 := hS.frozen 3
    have HSi := Lib.hid hS
    have hrow := HR.out.below hB
    have HA := Lib.hid ha
    by_cases hle : a ≤ n
    · by_cases hw : a + 8 ≤ n
      · obtain ⟨x, hxe⟩ : ∃ x, x = wd ((l.drop a).take 8) := ⟨_, rfl⟩
        have hx := wd_lt8 (Byt.take (Byt.drop HB.out a) 8) (by simp; omega)
        have hnext := refAt_whole (k := k) HB.out i (by rw [HL.out]; omega)
        rw [← ha] at hnext
        have hcall := fun W hr => rword_any (cutA A c a) 8 (c - a) ((l.drop a).take 8) W (by simp; rw [HL.out]; omega) (by omega) (Byt.take (Byt.drop HB.out _) _) hr
        have hcut := cut_at (lo := a) (hi := a + 8) hrow (Nat.le_trans hw HC.out)
        rw [show a + 8 - a = 8 by omega] at hcut
        have hq := fun W => run_cut_lh (P := Try.prog) Try.underlying26 hsz (k := .i64) (k' := .i64) A n c a (a + 8) (by omega) (Nat.le_trans hw HC.out) W
        rw [show a + 8 - a = 8 by omega, show ((a + 8 : Nat) : Int) = (a : Int) + 8 from rfl] at hq
        rw [← hxe] at hx hnext hcall
        obtain ⟨u1, u2, hu1, hu2, ok1, ok2, ok3, e1, e2, e3⟩ := tk_way hok hx
        rw [e3] at hnext
        have ⟨s1, b1⟩ := st_d (w := wr) (x := (refAt k l i).d ^^^ x) HSi.out (Below.refl _ _)
        have R1 := fun W => rround_any _ W ok1
        rw [← hu1] at R1
        have R2 := fun W => rround_any _ W ok2
        rw [← hu2] at R2
        simp only [vs, vi] at R1 R2
        have HN := Lib.hid hnext
        have HX := Lib.hid hx
        have HCALL := Lib.hid hcall
        have HCUT := Lib.hid hcut
        have HS1 := Lib.hid s1
        have HR1 := Lib.hid R1
        have HR2 := Lib.hid R2
        clear hnext hx hcall hcut s1 R1 R2 e3 ok1 ok2 ok3 hu1 hu2 hS hok hrow hB0 HS0 ha hxe
        generalize hv : refAt k l i = v at c0 c1 c2 c3 e1 b1 HSi HS1 HR1
        clear hv
        generalize v.d ^^^ x = y at e1 b1 HS1 HR1
        go_wp2_with fail
        (with_reducible refine (HCALL.out _ HCUT.out).mono ?_)
        rintro e w' ⟨rfl, rfl⟩
        go_wp2_with fail
        (with_reducible refine (HR1.out _).mono ?_)
        rintro e w2 ⟨rfl, hb2⟩
        go_wp2_with fail
        (with_reducible refine (HR2.out _).mono ?_)
        rintro e w3 ⟨rfl, hb3⟩
        have hs3 := (HS1.out.next hb2).next hb3
        have hB3 := (hB.trans (b1.mono (Nat.le_succ _))).trans ((hb2.mono (by simp; exact hB.size)).trans (hb3.mono (Nat.le_trans (by simp; exact hB.size) hb2.size)))
        obtain ⟨c0, c1, c2, c3⟩ := hs3.cells
        have f0 := hs3.frozen 0
        have f1 := hs3.frozen 1
        have f2 := hs3.frozen 2
        have f3 := hs3.frozen 3
        have HS3 := Lib.hid hs3
        clear hs3
        clear hb2 hb3 b1
        go_wp2_with fail
        go_roundw
        case rel => exact ⟨i + 1, a + 8, by rw [HA.out]; omega, by omega, by go_num, by rw [HN.out]; exact (st_a (st_stored (u := u2) HS3.out (Below.refl _ _)).1 (Below.refl _ _)).1, five hB3 (Nat.le_succ _)⟩
        case measure => simp [intOf]; omega
      · obtain ⟨r, hre⟩ : ∃ r, r = wd (l.drop a) := ⟨_, rfl⟩
        obtain ⟨x, hxv⟩ : ∃ x : Nat, x = r + n % 256 * 72057594037927936 := ⟨_, rfl⟩
        have hx := last_lt (Byt.drop HB.out a) (by simp; rw [HL.out]; omega) n
        have hnext := refAt_last (k := k) (l := l) i (by rw [HL.out]; omega) (by rw [HL.out]; omega)
        rw [← ha, HL.out] at hnext
        have hcall := fun W hr => rword_any (cutA A c a) (n - a) (c - a) (l.drop a) W (by simp; rw [HL.out]) (by omega) (Byt.drop HB.out _) hr
        have hcut : Row wr (cutA A c a) (bs (l.drop a)) := by
          have := cut_at (lo := a) (hi := n) hrow HC.out
          rwa [List.take_of_length_le (by simp; rw [HL.out]; omega)] at this
        have hq := fun W => run_cut_l (P := Try.prog) Try.underlying26 hsz (k := .i64) A n c a hle W
        rw [← hre] at hx hnext hcall
        rw [← hxv] at hx hnext
        obtain ⟨r2, hr2⟩ : ∃ r2 : Nat, r2 = n % 256 := ⟨_, rfl⟩
        have hr3 : (n : Int) % 256 = (r2 : Int) := by omega
        have hr4 : r2 < 256 := by omega
        have hxw : (r : Int) + (r2 : Int) * 72057594037927936 = (x : Int) := by omega
        have hx7 : x < 18446744073709551616 := hx
        clear hr2 hxv
        obtain ⟨u1, u2, hu1, hu2, ok1, ok2, ok3, e1, e2, e3⟩ := tk_way hok hx
        rw [e3] at hnext
        have ⟨s1, b1⟩ := st_d (w := wr) (x := (refAt k l i).d ^^^ x) HSi.out (Below.refl _ _)
        have R1 := fun W => rround_any _ W ok1
        rw [← hu1] at R1
        have R2 := fun W => rround_any _ W ok2
        rw [← hu2] at R2
        simp only [vs, vi] at R1 R2
        have HN := Lib.hid hnext
        have HX := Lib.hid hx
        have HCALL := Lib.hid hcall
        have HCUT := Lib.hid hcut
        have HS1 := Lib.hid s1
        have HR1 := Lib.hid R1
        have HR2 := Lib.hid R2
        clear hnext hx hcall hcut s1 R1 R2 e3 ok1 ok2 ok3 hu1 hu2 hS hok hrow hB0 HS0 ha hre
        generalize hv : refAt k l i = v at c0 c1 c2 c3 e1 b1 HSi HS1 HR1
        clear hv
        generalize v.d ^^^ x = y at e1 b1 HS1 HR1
        go_wp2_with fail
        (with_reducible refine (HCALL.out _ HCUT.out).mono ?_)
        rintro e w' ⟨rfl, rfl⟩
        go_wp2_with fail
        (with_reducible refine (HR1.out _).mono ?_)
        rintro e w2 ⟨rfl, hb2⟩
        go_wp2_with fail
        (with_reducible refine (HR2.out _).mono ?_)
        rintro e w3 ⟨rfl, hb3⟩
        have hs3 := (HS1.out.next hb2).next hb3
        have hB3 := (hB.trans (b1.mono (Nat.le_succ _))).trans ((hb2.mono (by simp; exact hB.size)).trans (hb3.mono (Nat.le_trans (by simp; exact hB.size) hb2.size)))
        obtain ⟨c0, c1, c2, c3⟩ := hs3.cells
        have f0 := hs3.frozen 0
        have f1 := hs3.frozen 1
        have f2 := hs3.frozen 2
        have f3 := hs3.frozen 3
        have HS3 := Lib.hid hs3
        clear hs3
        clear hb2 hb3 b1
        go_wp2_with fail
        go_roundw
        case rel => exact ⟨i + 1, a + 8, by rw [HA.out]; omega, by omega, by go_num, by rw [HN.out]; exact (st_a (st_stored (u := u2) HS3.out (Below.refl _ _)).1 (Below.refl _ _)).1, five hB3 (Nat.le_succ _)⟩
        case measure => simp [intOf]; omega
    · have hend := refAt_end (k := k) HB.out i (by rw [HL.out]; omega) (by rw [HL.out]; omega)
      obtain ⟨u1, u2, u3, u4, x1, x2, x3, hu1, hu2, hu3, hu4, ok1, ok2, ok3, ok4, e1, e2, e3, e4⟩ := fin_way hok
      rw [← hend] at e4
      have ⟨s1, b1⟩ := st_c (w := wr) (x := (refAt k l i).c ^^^ 255) HSi.out (Below.refl _ _)
      have R1 := fun W => rround_any _ W ok1
      rw [← hu1] at R1
      have R2 := fun W => rround_any _ W ok2
      rw [← hu2] at R2
      have R3 := fun W => rround_any _ W ok3
      rw [← hu3] at R3
      have R4 := fun W => rround_any _ W ok4
      rw [← hu4] at R4
      simp only [vs, vi] at R1 R2 R3 R4
      have HS1 := Lib.hid s1
      have HR1 := Lib.hid R1
      have HR2 := Lib.hid R2
      have HR3 := Lib.hid R3
      have HR4 := Lib.hid R4
      clear s1 R1 R2 R3 R4 ok1 ok2 ok3 ok4 hu1 hu2 hu3 hu4 hS hok hrow hB0 HS0 ha hend
      generalize hv : refAt k l i = v at c0 c1 c2 c3 e1 b1 HSi HS1 HR1
      clear hv
      generalize v.c ^^^ 255 = y at e1 b1 HS1 HR1
      go_wp2_with fail
      (with_reducible refine (HR1.out _).mono ?_)
      rintro e w2 ⟨rfl, hb2⟩
      go_wp2_with fail
      (with_reducible refine (HR2.out _).mono ?_)
      rintro e w3 ⟨rfl, hb3⟩
      go_wp2_with fail
      (with_reducible refine (HR3.out _).mono ?_)
      rintro e w4 ⟨rfl, hb4⟩
      go_wp2_with fail
      (with_reducible refine (HR4.out _).mono ?_)
      rintro e w5 ⟨rfl, hb5⟩
      have hs5 := (((HS1.out.next hb2).next hb3).next hb4).next hb5
      have hB5 := bnext (bnext (bnext (bnext (hB.trans (b1.mono (Nat.le_succ _))) (hb2.mono (by simp))) hb3) hb4) hb5
      obtain ⟨c0, c1, c2, c3⟩ := hs5.cells
      have f0 := hs5.frozen 0
      have f1 := hs5.frozen 1
      have f2 := hs5.frozen 2
      have f3 := hs5.frozen 3
      clear hs5 hb2 hb3 hb4 hb5 b1
      go_wp2_with fail
      go_ret
      exact ⟨rfl, four hB5 (Nat.le_succ _)⟩
end Go.Proofs.Ytgjobmhpghgnfaa
