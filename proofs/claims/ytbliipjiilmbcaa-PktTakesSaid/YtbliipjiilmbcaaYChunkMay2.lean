/-
  What chunk.nothing and chunk.apart do.
-/
import Derived.Test.YtbliipjiilmbcaaYP1a
namespace Go.Proofs.Ytbliipjiilmbcaa
open Go.RowKit Wire Tlv Chunk

def n1B (c : Ck) : Bool := decide (((c.tag ||| c.rw) ||| c.tsn) ||| c.ppid = 0)
def n2B (c : Ck) : Bool := decide (((c.out ||| c.inn) ||| c.sid) ||| c.ssn = 0)
def n3B (s : Ls) : Bool := decide (s.dn + s.an + s.gn + s.un + s.cn = 0)
theorem or_lt {n a b : Nat} (ha : a < 2 ^ n) (hb : b < 2 ^ n) : a ||| b < 2 ^ n := Nat.or_lt_two_pow ha hb
/-- A call's one block. -/
def U1 (w : World) (cs : Array Value) (W : World) : Prop := Bk W w.heap.size cs 32 ∧ Below w.heap.size w W
theorem U1.new (w : World) (cs : Array Value) : U1 w cs (w.alloc (.cells cs 32)) := ⟨Bk.new w cs _, (Below.refl _ _).alloc (Nat.le_refl _) _⟩
theorem U1.next {w W W' : World} {cs : Array Value} (h : U1 w cs W) (hb : Below W.heap.size W W') : U1 w cs W' := ⟨h.1.next hb, bnext' h.2 hb⟩
theorem U1.drew {w W : World} {cs : Array Value} (h : U1 w cs W) : U1 w cs W.drew := ⟨h.1, h.2.drew⟩
set_option maxRecDepth 100000 in
set_option maxHeartbeats 1000000 in
theorem nothing_any (c : Ck) (s : Ls) (w : World) (hc : c.ok) (hz : Lz c s) :
    Calls Try.prog 44 #[.agg (cv c s)] w fun e w' => e = .returned (.bool (n1B c && (n2B c && n3B s))) ∧ Below w.heap.size w w' := by
  have HU : Hid (U1 w (cv c s) _) := Lib.hid (U1.new w (cv c s))
  have m1 := hz.dm
  have m2 := hz.am
  have m3 := hz.gm
  have m4 := hz.um
  have m5 := hz.cm
  have o1 := u32_or_nat c.tag c.rw hc.tag hc.rw
  have o2 := u32_or_nat (c.tag ||| c.rw) c.tsn (or_lt (n := 32) hc.tag hc.rw) hc.tsn
  have o3 := u32_or_nat ((c.tag ||| c.rw) ||| c.tsn) c.ppid (or_lt (n := 32) (or_lt (n := 32) hc.tag hc.rw) hc.tsn) hc.ppid
  have o4 := u16_or_nat c.out c.inn hc.out hc.inn
  have o5 := u16_or_nat (c.out ||| c.inn) c.sid (or_lt (n := 16) hc.out hc.inn) hc.sid
  have o6 := u16_or_nat ((c.out ||| c.inn) ||| c.sid) c.ssn (or_lt (n := 16) (or_lt (n := 16) hc.out hc.inn) hc.sid) hc.ssn
  have d1 : (((((c.tag ||| c.rw) ||| c.tsn) ||| c.ppid : Nat) : Int) == 0) = n1B c := by
    unfold n1B
    generalize ((c.tag ||| c.rw) ||| c.tsn) ||| c.ppid = x
    rw [Bool.eq_iff_iff]; simp
  have d2 : (((((c.out ||| c.inn) ||| c.sid) ||| c.ssn : Nat) : Int) == 0) = n2B c := by
    unfold n2B
    generalize ((c.out ||| c.inn) ||| c.sid) ||| c.ssn = x
    rw [Bool.eq_iff_iff]; simp
  have d3 : ((s.dn : Int) + s.an + s.gn + s.un + s.cn == 0) = n3B s := by
    unfold n3B
    rw [Bool.eq_iff_iff]; simp; omega
  generalize ((c.tag ||| c.rw) ||| c.tsn) ||| c.ppid = x3 at *
  generalize (c.tag ||| c.rw) ||| c.tsn = x2 at *
  generalize c.tag ||| c.rw = x1 at *
  generalize ((c.out ||| c.inn) ||| c.sid) ||| c.ssn = y3 at *
  generalize (c.out ||| c.inn) ||| c.sid = y2 at *
  generalize c.out ||| c.inn = y1 at *
  generalize n1B c = b1 at d1 ⊢
  generalize n2B c = b2 at d2 ⊢
  generalize n3B s = b3 at d3 ⊢
  clear hc hz
  cases b1 <;> cases b2 <;> cases b3
  all_goals
    go_enter Try.func44, Try.ntmps44
    go_upto_region 1 with fail
    generalize World.alloc w _ = W1 at HU ⊢
    have g2 := HU.out.1.c2
    have g3 := HU.out.1.c3
    have g4 := HU.out.1.c4
    have g5 := HU.out.1.c5
    have g6 := HU.out.1.c6
    have g7 := HU.out.1.c7
    have g8 := HU.out.1.c8
    have g9 := HU.out.1.c9
    have g10 := HU.out.1.c10
    have g11 := HU.out.1.c11
    have g12 := HU.out.1.c12
    have g13 := HU.out.1.c13
    have g14 := HU.out.1.c14
    go_wp2_with fail
    go_ret
    exact ⟨rfl, HU.out.2⟩
theorem noth_B {c : Ck} {s : Ls} (hz : Lz c s) : (n1B c && (n2B c && n3B s)) = decide (Noth c) := by
  rw [Bool.eq_iff_iff]
  simp only [Bool.and_eq_true, n1B, n2B, n3B, decide_eq_true_eq, Nat.or_eq_zero_iff]
  have h1 := hz.d
  have h2 := hz.a
  have h3 := hz.g
  have h4 := hz.u
  have h5 := hz.c
  constructor
  · rintro ⟨⟨⟨⟨a1, a2⟩, a3⟩, a4⟩, ⟨⟨⟨b1, b2⟩, b3⟩, b4⟩, e⟩
    exact ⟨a1, a2, a3, a4, b1, b2, b3, b4, by omega, by omega, by omega, by omega, by omega⟩
  · rintro ⟨a1, a2, a3, a4, b1, b2, b3, b4, e1, e2, e3, e4, e5⟩
    exact ⟨⟨⟨⟨a1, a2⟩, a3⟩, a4⟩, ⟨⟨⟨b1, b2⟩, b3⟩, b4⟩, by omega⟩
set_option maxRecDepth 100000 in
set_option maxHeartbeats 1000000 in
theorem apart_any (A : Option Addr) (n c : Nat) (l : List (Nat × Nat)) (w : World) (hl : l.length = n) (hn : n ≤ 140737488351232) (hb : ∀ g ∈ l, g.1 < 65536 ∧ g.2 < 65536) (hr : Row w A (gs l)) :
    Calls Try.prog 46 #[.slice A n c] w fun e w' => e = .returned (.bool (apart 0 l)) ∧ Below w.heap.size w w' := by
  have HL := Lib.hid hl
  have HR := Lib.hid hr
  have HB := Lib.hid hb
  clear hl hr hb
  go_enter Try.func46, Try.ntmps46
  go_wp2
  go_loopw [3, 8] (fun v i wr => ∃ (k e : Nat), k ≤ n ∧ e < 65536 ∧ i = .int .i64 (k : Int) ∧ v = .int .i64 (e : Int) ∧ Hid (apart 0 l = apart e (l.drop k)) ∧ Hid (Below w.heap.size w wr)) (fun _ i _ => n - (intOf i).toNat)
  case atStart => exact ⟨0, 0, by omega, by omega, rfl, rfl, Lib.hid rfl, Lib.hid (Below.refl _ _)⟩
  case round =>
    obtain ⟨k, e, hk, he, rfl, rfl, hap, hbw⟩ := hrel
    by_cases hlt : k < n
    · have hkl : k < l.length := by rw [HL.out]; exact hlt
      obtain ⟨a, rfl, k0, k1⟩ := gap_at (HR.out.below hbw.out) hkl
      have hg := HB.out l[k] (List.getElem_mem hkl)
      have hd : Hid (l.drop k = l[k] :: l.drop (k + 1)) := Lib.hid (List.drop_eq_getElem_cons hkl)
      generalize l[k] = g at *
      obtain ⟨g1, g2⟩ := g
      simp only at k0 k1 hg
      have hB2 : Hid (Below w.heap.size w (wr.alloc (.cells #[.int .u16 (g1 : Int), .int .u16 (g2 : Int)] 63))) := Lib.hid (hbw.out.alloc hbw.out.size _)
      by_cases h1 : g1 ≤ g2
      · have e1 : decide (g2 < g1) = false := by simp; omega
        by_cases h2 : e + 2 ≤ g1
        · have e2 : decide ((g1 : Int) < (e : Int) + 2) = false := by simp; omega
          have hN : Hid (apart 0 l = apart g2 (l.drop (k + 1))) := Lib.hid (by rw [hap.out, hd.out]; simp [apart, h1, h2])
          clear hap hd h1 h2
          go_wp2_with fail
          go_roundw
          case rel => exact ⟨k + 1, g2, by omega, by omega, by go_num, rfl, hN, hB2⟩
          case measure => simp [intOf]; omega
        · have e2 : decide ((g1 : Int) < (e : Int) + 2) = true := by simp; omega
          have hN : Hid (apart 0 l = false) := Lib.hid (by rw [hap.out, hd.out]; simp [apart, h2])
          clear hap hd h1 h2
          go_wp2_with fail
          go_ret
          exact ⟨by rw [hN.out]; rfl, hB2.out⟩
      · have e1 : decide (g2 < g1) = true := by simp; omega
        have hN : Hid (apart 0 l = false) := Lib.hid (by rw [hap.out, hd.out]; simp [apart, h1])
        clear hap hd h1
        go_wp2_with fail
        go_ret
        exact ⟨by rw [hN.out]; rfl, hB2.out⟩
    · have hN : Hid (apart 0 l = true) := Lib.hid (by rw [hap.out, List.drop_of_length_le (by rw [HL.out]; omega)]; rfl)
      clear hap
      go_wp2_with fail
      go_ret
      exact ⟨by rw [hN.out]; rfl, hbw.out⟩
end Go.Proofs.Ytbliipjiilmbcaa
