/-
  What a round does, on both sides; what taking a word and finishing do.
-/
import Derived.Test.YtgjobmhpghgnfaaSipLow
import Derived.Deep.OwnRows
import Derived.BigRegion
namespace Go.Proofs.Ytgjobmhpghgnfaa
open Go.RowKit Sip

/-- The four numbers, as cells. -/
def vf (v : V) (i : Nat) : Value := if i = 0 then vi v.a else if i = 1 then vi v.b else if i = 2 then vi v.c else vi v.d
/-- Block g holds the four numbers. -/
def St (t : TypeId) (W : World) (g : Nat) (v : V) : Prop := W.rowIs g t 4 (vf v)
theorem St.next {t : TypeId} {W W' : World} {g : Nat} {v : V} (h : St t W g v) (hb : Below W.heap.size W W') : St t W' g v := World.rowIs.of_block h (hb.block g (World.rowIs.lt h))

theorem add_val (x y : Nat) : IntKind.u64.wrap ((x : Int) + (y : Int)) = ((add x y : Nat) : Int) := by
  rw [IntKind.wrap_u64]; unfold add; omega
/-- A round's numbers on the way, each under a name. -/
theorem rnd_way {v : V} (h : v.ok) : ∃ a1 r1 b1 a2 c1 r2 d1 a3 r3 d2 c2 r4 b2 c3 : Nat,
    (a1 < 18446744073709551616 ∧ b1 < 18446744073709551616 ∧ d1 < 18446744073709551616 ∧ c2 < 18446744073709551616) ∧
    (IntKind.u64.wrap ((v.a : Int) + (v.b : Int)) = (a1 : Int) ∧ bits .xor .u64 (r1 : Int) (a1 : Int) = (b1 : Int) ∧
    IntKind.u64.wrap ((v.c : Int) + (v.d : Int)) = (c1 : Int) ∧ bits .xor .u64 (r2 : Int) (c1 : Int) = (d1 : Int) ∧
    IntKind.u64.wrap ((a2 : Int) + (d1 : Int)) = (a3 : Int) ∧ bits .xor .u64 (r3 : Int) (a3 : Int) = (d2 : Int) ∧
    IntKind.u64.wrap ((c1 : Int) + (b1 : Int)) = (c2 : Int) ∧ bits .xor .u64 (r4 : Int) (c2 : Int) = (b2 : Int)) ∧
    (r1 = rot v.b 13 ∧ a2 = rot a1 32 ∧ r2 = rot v.d 16 ∧ r3 = rot d1 21 ∧ r4 = rot b1 17 ∧ c3 = rot c2 32) ∧
    rnd v = ⟨a3, b2, c3, d2⟩ := by
  obtain ⟨_, h2, _, h4⟩ := h
  have q1 := rot_lt v.b 13 h2
  have q2 := add_lt v.a v.b
  have q3 := rot_lt v.d 16 h4
  have q4 := add_lt v.c v.d
  have q5 := xr_lt q1 q2
  have q6 := xr_lt q3 q4
  have q7 := rot_lt _ 21 q6
  have q8 := rot_lt _ 17 q5
  exact ⟨_, _, _, _, _, _, _, _, _, _, _, _, _, _, ⟨q2, q5, q6, add_lt _ _⟩, ⟨add_val _ _, u64_xor_nat _ _ q1 q2, add_val _ _, u64_xor_nat _ _ q3 q4, add_val _ _, u64_xor_nat _ _ q7 (add_lt _ _), add_val _ _, u64_xor_nat _ _ q8 (add_lt _ _)⟩,
    ⟨rfl, rfl, rfl, rfl, rfl, rfl⟩, rfl⟩

theorem st_stored {t : TypeId} {w W : World} {g : Nat} {v u : V} (h : St t W g v) (hb : Below g w W) :
    St t ((((W.setCell ⟨g, 0, none⟩ (.int .u64 (u.a : Int))).setCell ⟨g, 1, none⟩ (.int .u64 (u.b : Int))).setCell ⟨g, 2, none⟩ (.int .u64 (u.c : Int))).setCell ⟨g, 3, none⟩ (.int .u64 (u.d : Int))) g u ∧
    Below g w ((((W.setCell ⟨g, 0, none⟩ (.int .u64 (u.a : Int))).setCell ⟨g, 1, none⟩ (.int .u64 (u.b : Int))).setCell ⟨g, 2, none⟩ (.int .u64 (u.c : Int))).setCell ⟨g, 3, none⟩ (.int .u64 (u.d : Int))) := by
  refine ⟨World.rowIs.congr ((((h.set 0 _).set 1 _).set 2 _).set 3 _) fun i hi => ?_, (((hb.setCell (Nat.le_refl _) _).setCell (Nat.le_refl _) _).setCell (Nat.le_refl _) _).setCell (Nat.le_refl _) _⟩
  unfold vf vi
  rcases (show i = 0 ∨ i = 1 ∨ i = 2 ∨ i = 3 by omega) with rfl | rfl | rfl | rfl <;> rfl

set_option maxRecDepth 100000 in
set_option maxHeartbeats 400000 in
theorem rounds_any (g n : Nat) (v : V) (w : World) (hv : v.ok) (h : St 36 w g v) (hn : n ≤ 4) :
    Calls Try.prog 15 #[.pointer (some ⟨g, 0, none⟩), .int .i64 (n : Int)] w fun e w' => e = .returned (.tuple #[]) ∧ St 36 w' g (rnds n v) ∧ Below g w w' := by
  have c0 := h.cell (i := 0) (by omega)
  have c1 := h.cell (i := 1) (by omega)
  have c2 := h.cell (i := 2) (by omega)
  have c3 := h.cell (i := 3) (by omega)
  have f0 := h.frozen 0
  have f1 := h.frozen 1
  have f2 := h.frozen 2
  have f3 := h.frozen 3
  have H := Lib.hid h
  have HV := Lib.hid hv
  simp only [vf, vi] at c0 c1 c2 c3
  simp at c0 c1 c2 c3
  clear h hv
  go_enter Try.func15, Try.ntmps15
  go_wp2
  go_quiet (fail)
  go_wp2
  generalize hW : w.drewN _ = W
  have hc0 : W.cell? ⟨g, 0, none⟩ = some (.int .u64 (v.a : Int)) := by rw [← hW]; exact c0
  have hc1 : W.cell? ⟨g, 1, none⟩ = some (.int .u64 (v.b : Int)) := by rw [← hW]; exact c1
  have hc2 : W.cell? ⟨g, 2, none⟩ = some (.int .u64 (v.c : Int)) := by rw [← hW]; exact c2
  have hc3 : W.cell? ⟨g, 3, none⟩ = some (.int .u64 (v.d : Int)) := by rw [← hW]; exact c3
  have hf0 : W.frozen? ⟨g, 0, none⟩ = false := by rw [← hW]; exact f0
  have hf1 : W.frozen? ⟨g, 1, none⟩ = false := by rw [← hW]; exact f1
  have hf2 : W.frozen? ⟨g, 2, none⟩ = false := by rw [← hW]; exact f2
  have hf3 : W.frozen? ⟨g, 3, none⟩ = false := by rw [← hW]; exact f3
  have hS : St 36 W g v := by rw [← hW]; exact H.out
  have hB : Below g w W := by rw [← hW]; exact below_drewN (Below.refl _ _) _
  have HS := Lib.hid hS
  have HB := Lib.hid hB
  clear hS hB hW c0 c1 c2 c3 f0 f1 f2 f3
  go_loop [4, 5, 6, 7, 25] (fun a b c d i => ∃ k : Nat, k ≤ n ∧ i = .int .i64 k ∧ a = .int .u64 ((rnds k v).a : Nat) ∧ b = .int .u64 ((rnds k v).b : Nat) ∧ c = .int .u64 ((rnds k v).c : Nat) ∧ d = .int .u64 ((rnds k v).d : Nat)) (fun _ _ _ _ i => n - (intOf i).toNat)
  case atStart => exact ⟨0, by omega, rfl, rfl, rfl, rfl, rfl⟩
  case round =>
    obtain ⟨k, hk, rfl, rfl, rfl, rfl, rfl⟩ := hrel
    by_cases hlt : k < n
    · have hok := rnds_ok k HV.out
      have hsucc : rnds (k + 1) v = rnd (rnds k v) := rfl
      generalize rnds k v = u at hok hsucc
      obtain ⟨a1, r1, b1, a2, d0, r2, d1, a3, r3, d2, c2, r4, b2, c3, ⟨k1, k2, k3, k4⟩, ⟨e1, e2, e3, e4, e5, e6, e7, e8⟩, ⟨s1, s2, s3, s4, s5, s6⟩, hr⟩ := rnd_way hok
      have C1 := Lib.hid fun W => rl13_any u.b W hok.2.1
      have C2 := Lib.hid fun W => rl32_any a1 W k1
      have C3 := Lib.hid fun W => rl16_any u.d W hok.2.2.2
      have C4 := Lib.hid fun W => rl21_any d1 W k3
      have C5 := Lib.hid fun W => rl17_any b1 W k2
      have C6 := Lib.hid fun W => rl32_any c2 W k4
      rw [← s1] at C1
      rw [← s2] at C2
      rw [← s3] at C3
      rw [← s4] at C4
      rw [← s5] at C5
      rw [← s6] at C6
      rw [hr] at hsucc
      have HS2 := Lib.hid hsucc
      clear s1 s2 s3 s4 s5 s6 hr hsucc hok k1 k2 k3 k4
      generalize u.a = ua at e1
      generalize u.b = ub at e1 C1
      generalize u.c = uc at e3
      generalize u.d = ud at e3 C3
      go_wp2_with fail
      refine (C1.out _).mono ?_
      rintro e w' ⟨rfl, rfl⟩
      go_wp2_with fail
      refine (C2.out _).mono ?_
      rintro e w' ⟨rfl, rfl⟩
      go_wp2_with fail
      refine (C3.out _).mono ?_
      rintro e w' ⟨rfl, rfl⟩
      go_wp2_with fail
      refine (C4.out _).mono ?_
      rintro e w' ⟨rfl, rfl⟩
      go_wp2_with fail
      refine (C5.out _).mono ?_
      rintro e w' ⟨rfl, rfl⟩
      go_wp2_with fail
      refine (C6.out _).mono ?_
      rintro e w' ⟨rfl, rfl⟩
      go_wp2_with fail
      go_round
      case rel => exact ⟨k + 1, by omega, by go_num, by rw [HS2.out], by rw [HS2.out], by rw [HS2.out], by rw [HS2.out]⟩
      case measure => simp [intOf]; omega
    · have hkn : k = n := by omega
      subst hkn
      go_wp2
      exact bodyPost_end (v := .tuple #[]) (results_none rfl _ _ _) rfl ⟨rfl, st_stored HS.out HB.out⟩

theorem st_d {t : TypeId} {w W : World} {g x : Nat} {v : V} (h : St t W g v) (hb : Below g w W) : St t (W.setCell ⟨g, 3, none⟩ (.int .u64 (x : Int))) g { v with d := x } ∧ Below g w (W.setCell ⟨g, 3, none⟩ (.int .u64 (x : Int))) := by
  refine ⟨World.rowIs.congr (h.set 3 _) fun i hi => ?_, hb.setCell (Nat.le_refl _) _⟩
  unfold vf vi
  rcases (show i = 0 ∨ i = 1 ∨ i = 2 ∨ i = 3 by omega) with rfl | rfl | rfl | rfl <;> rfl
theorem st_a {t : TypeId} {w W : World} {g x : Nat} {v : V} (h : St t W g v) (hb : Below g w W) : St t (W.setCell ⟨g, 0, none⟩ (.int .u64 (x : Int))) g { v with a := x } ∧ Below g w (W.setCell ⟨g, 0, none⟩ (.int .u64 (x : Int))) := by
  refine ⟨World.rowIs.congr (h.set 0 _) fun i hi => ?_, hb.setCell (Nat.le_refl _) _⟩
  unfold vf vi
  rcases (show i = 0 ∨ i = 1 ∨ i = 2 ∨ i = 3 by omega) with rfl | rfl | rfl | rfl <;> rfl
theorem st_c {t : TypeId} {w W : World} {g x : Nat} {v : V} (h : St t W g v) (hb : Below g w W) : St t (W.setCell ⟨g, 2, none⟩ (.int .u64 (x : Int))) g { v with c := x } ∧ Below g w (W.setCell ⟨g, 2, none⟩ (.int .u64 (x : Int))) := by
  refine ⟨World.rowIs.congr (h.set 2 _) fun i hi => ?_, hb.setCell (Nat.le_refl _) _⟩
  unfold vf vi
  rcases (show i = 0 ∨ i = 1 ∨ i = 2 ∨ i = 3 by omega) with rfl | rfl | rfl | rfl <;> rfl
theorem St.cells {t : TypeId} {W : World} {g : Nat} {v : V} (h : St t W g v) : W.cell? ⟨g, 0, none⟩ = some (.int .u64 (v.a : Int)) ∧ W.cell? ⟨g, 1, none⟩ = some (.int .u64 (v.b : Int)) ∧ W.cell? ⟨g, 2, none⟩ = some (.int .u64 (v.c : Int)) ∧ W.cell? ⟨g, 3, none⟩ = some (.int .u64 (v.d : Int)) :=
  ⟨h.cell (i := 0) (by omega), h.cell (i := 1) (by omega), h.cell (i := 2) (by omega), h.cell (i := 3) (by omega)⟩

set_option maxRecDepth 100000 in
set_option maxHeartbeats 400000 in
theorem take_any (g x : Nat) (v : V) (w : World) (hv : v.ok) (h : St 36 w g v) (hx : x < 18446744073709551616) :
    Calls Try.prog 10 #[.pointer (some ⟨g, 0, none⟩), .int .u64 (x : Int)] w fun e w' => e = .returned (.tuple #[]) ∧ St 36 w' g (tk v x) ∧ Below g w w' := by
  obtain ⟨-, -, -, c3⟩ := h.cells
  have f3 := h.frozen 3
  have e1 := u64_xor_nat v.d x hv.2.2.2 hx
  have ⟨s1, b1⟩ := st_d (x := v.d ^^^ x) h (Below.refl g w)
  have hv1 : V.ok { v with d := v.d ^^^ x } := ⟨hv.1, hv.2.1, hv.2.2.1, xr_lt hv.2.2.2 hx⟩
  have htk : tk v x = { rnds 2 { v with d := v.d ^^^ x } with a := (rnds 2 { v with d := v.d ^^^ x }).a ^^^ x } := rfl
  have C := Lib.hid (rounds_any g 2 _ _ hv1 s1 (by omega))
  have hu := rnds_ok 2 hv1
  generalize rnds 2 { v with d := v.d ^^^ x } = u at htk C hu
  have e2 := u64_xor_nat u.a x hu.1 hx
  have HT := Lib.hid htk
  have HB := Lib.hid b1
  clear htk hu hv1 s1 b1 hv h hx
  generalize v.d ^^^ x = y at e1 C HB
  generalize v.d = vd at c3 e1
  go_enter Try.func10, Try.ntmps10
  go_wp2_with fail
  refine C.out.mono ?_
  rintro e w1 ⟨rfl, hs1, hb1⟩
  obtain ⟨c0, -, -, -⟩ := hs1.cells
  have f0 := hs1.frozen 0
  have ⟨s2, b2⟩ := st_a (x := u.a ^^^ x) hs1 (HB.out.trans hb1)
  have HS2 := Lib.hid s2
  clear s2 hs1 hb1
  go_wp2_with fail
  exact bodyPost_end (v := .tuple #[]) (results_none rfl _ _ _) rfl ⟨rfl, by rw [HT.out]; exact HS2.out, b2⟩

set_option maxRecDepth 100000 in
set_option maxHeartbeats 400000 in
theorem sum_any (g : Nat) (v : V) (w : World) (hv : v.ok) (h : St 36 w g v) :
    Calls Try.prog 11 #[.pointer (some ⟨g, 0, none⟩)] w fun e w' => e = .returned (.int .u64 (fin v : Nat)) ∧ Below g w w' := by
  obtain ⟨-, -, c2, -⟩ := h.cells
  have f2 := h.frozen 2
  have e1 := u64_xor_nat v.c 255 hv.2.2.1 (by omega)
  have ⟨s1, b1⟩ := st_c (x := v.c ^^^ 255) h (Below.refl g w)
  have hv1 : V.ok { v with c := v.c ^^^ 255 } := ⟨hv.1, hv.2.1, xr_lt hv.2.2.1 (by omega), hv.2.2.2⟩
  have htk : fin v = (rnds 4 { v with c := v.c ^^^ 255 }).a ^^^ (rnds 4 { v with c := v.c ^^^ 255 }).b ^^^ (rnds 4 { v with c := v.c ^^^ 255 }).c ^^^ (rnds 4 { v with c := v.c ^^^ 255 }).d := rfl
  have C := Lib.hid (rounds_any g 4 _ _ hv1 s1 (by omega))
  have hu := rnds_ok 4 hv1
  generalize rnds 4 { v with c := v.c ^^^ 255 } = u at htk C hu
  have e2 := u64_xor_nat u.a u.b hu.1 hu.2.1
  have e3 := u64_xor_nat (u.a ^^^ u.b) u.c (xr_lt hu.1 hu.2.1) hu.2.2.1
  have e4 := u64_xor_nat (u.a ^^^ u.b ^^^ u.c) u.d (xr_lt (xr_lt hu.1 hu.2.1) hu.2.2.1) hu.2.2.2
  rw [← htk] at e4
  have HB := Lib.hid b1
  clear htk hu hv1 s1 b1 hv h
  generalize v.c ^^^ 255 = y at e1 C HB
  generalize v.c = vc at c2 e1
  have e1 : bits .xor .u64 (vc : Int) 255 = (y : Int) := e1
  go_enter Try.func11, Try.ntmps11
  go_wp2_with fail
  refine C.out.mono ?_
  rintro e w1 ⟨rfl, hs1, hb1⟩
  obtain ⟨c0, c1, c2, c3⟩ := hs1.cells
  have hb2 := HB.out.trans hb1
  clear hs1 hb1
  generalize u.a ^^^ u.b ^^^ u.c = x3 at e3 e4
  generalize u.a ^^^ u.b = x2 at e2 e3
  generalize u.a = ua at e2 c0
  generalize u.b = ub at e2 c1
  generalize u.c = uc at e3 c2
  generalize u.d = ud at e4 c3
  go_wp2_with fail
  go_quiet (fail)
  go_wp2_with fail
  go_ret
  exact ⟨rfl, below_drewN hb2 _⟩
end Go.Proofs.Ytgjobmhpghgnfaa
