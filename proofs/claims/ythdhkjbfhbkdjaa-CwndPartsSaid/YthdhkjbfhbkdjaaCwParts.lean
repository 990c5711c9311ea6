/-
  CwndParts: the walk.
-/
import Derived.Test.YthdhkjbfhbkdjaaCwHead
import Derived.Test.YthdhkjbfhbkdjaaIsr
namespace Go.Proofs.Ythdhkjbfhbkdjaa
set_option maxRecDepth 4000
open Go.RowKit Cw
set_option linter.unusedVariables false
set_option linter.unusedSimpArgs false

namespace Cw
theorem sub_cast {p s : Nat} (h : s ≤ p) : (p : Int) - (s : Int) = ((p - s : Nat) : Int) := by omega
theorem add_cast {p s : Nat} : (p : Int) + (s : Int) = ((p + s : Nat) : Int) := by omega
theorem small_le {p k q : Nat} (h : p ≤ bnd k) (hk : k ≤ 4000) (hq : q < 65536) : p + q ≤ 8796093022208 := by
  have := bnd_most hk
  omega
theorem cap_int {a b : Nat} : (if (1048576 : Int) < (a : Int) + (b : Int) then (1048576 : Int) else (a : Int) + (b : Int)) = ((min (a + b) 1048576 : Nat) : Int) := by split <;> omega
theorem cap_nat {a : Nat} : (if (1048576 : Int) < (a : Int) then (1048576 : Int) else (a : Int)) = ((min a 1048576 : Nat) : Int) := by split <;> omega
/-- Above the threshold. -/
def T.Abv (t : T) (mtu : Nat) : Prop := t.m = mtu ∧ t.th = 4 * mtu ∧ 4 * mtu < t.sz
theorem abv_small {t : T} {mtu b q : Nat} (h : t.Abv mtu) (ok : t.Ok b) (h1 : 1 ≤ q) (h2 : q ≤ 65535) (hp : t.pt + q < t.sz) : t.ack (q : Int) true = ⟨t.m, t.sz, t.th, t.pt + q⟩ := by
  have e1 : cnt (q : Int) = q := by unfold cnt; omega
  have e2 : t.ack (q : Int) true = t.more (cnt (q : Int)) := by unfold T.ack; rw [if_pos ⟨rfl, by omega⟩]
  rw [e2, e1]
  unfold T.more
  rw [if_neg (by have := h.2.1; have := h.2.2; omega), if_pos hp]
  have : min t.sz 1048576 = t.sz := by have := ok.2.1; omega
  rw [this]
theorem abv_great {t : T} {mtu q : Nat} (h : t.Abv mtu) (h1 : 1 ≤ q) (h2 : q ≤ 65535) (hp : ¬ t.pt + q < t.sz) : t.ack (q : Int) true = ⟨t.m, min (t.sz + mtu) 1048576, t.th, t.pt + q - t.sz⟩ := by
  have e1 : cnt (q : Int) = q := by unfold cnt; omega
  have e2 : t.ack (q : Int) true = t.more (cnt (q : Int)) := by unfold T.ack; rw [if_pos ⟨rfl, by omega⟩]
  rw [e2, e1]
  unfold T.more
  rw [if_neg (by have := h.2.1; have := h.2.2; omega), if_neg hp, h.1]
theorem ab_start {m : Nat} (h1 : 64 ≤ m) (h2 : m ≤ 1500) : (t0 m).loss = ⟨m, 4 * m, 4 * m, 0⟩ ∧ (⟨m, 4 * m, 4 * m, 0⟩ : T).ack (m : Int) true = ⟨m, 5 * m, 4 * m, 0⟩ := by
  constructor
  · show (⟨m, max (2 * m / 2) (4 * m), max (2 * m / 2) (4 * m), 0⟩ : T) = _
    have : max (2 * m / 2) (4 * m) = 4 * m := by omega
    rw [this]
  · have e1 : cnt (m : Int) = m := by unfold cnt; omega
    have e2 : (⟨m, 4 * m, 4 * m, 0⟩ : T).ack (m : Int) true = (⟨m, 4 * m, 4 * m, 0⟩ : T).more (cnt (m : Int)) := by unfold T.ack; rw [if_pos ⟨rfl, by omega⟩]
    rw [e2, e1]
    show (if 4 * m ≤ 4 * m then (⟨m, min (4 * m + min m m) 1048576, 4 * m, 0⟩ : T) else _) = _
    rw [if_pos (Nat.le_refl _)]
    have : min (4 * m + min m m) 1048576 = 5 * m := by omega
    rw [this]
end Cw
set_option maxHeartbeats 4000000 in
theorem cwndParts_main (m : Int) (A : Option Addr) (n cap : Nat) (l : List Nat) (w0 : World) (hl : l.length = n) (hx : ∀ x ∈ l, x < 65536) (hr : Row w0 A (ns .u16 l)) : Calls Try.prog 8 #[.int .i64 m, .slice A n cap] w0 fun e w' => e = .returned (.bool true) ∧ Below w0.heap.size w0 w' := by
  have HL := Lib.hid hl
  have HR := Lib.hid hr
  have HX := Lib.hid hx
  clear hl hr hx
  by_cases hall : m < 64 ∨ 1500 < m ∨ 3000 < n
  · have hz : decide (m < 64) = true ∨ (decide (m < 64) = false ∧ decide (1500 < m) = true) ∨ (decide (m < 64) = false ∧ decide (1500 < m) = false ∧ decide ((3000 : Int) < (n : Int)) = true) := by
      by_cases h1 : m < 64
      · exact .inl (decide_eq_true h1)
      by_cases h2 : 1500 < m
      · exact .inr (.inl ⟨decide_eq_false h1, decide_eq_true h2⟩)
      · exact .inr (.inr ⟨decide_eq_false h1, decide_eq_false h2, decide_eq_true (by omega)⟩)
    clear hall
    rcases hz with h1 | ⟨h1, h2⟩ | ⟨h1, h2, h3⟩
    all_goals
      go_enter Try.func8, Try.ntmps8
      go_wp2_with fail
      refine (works_any _).mono ?_
      rintro e w4 ⟨rfl, h4⟩
      have H4 := Lib.hid h4
      clear h4
      go_wp2_with fail
      go_ret
      exact ⟨rfl, H4.out⟩
  have d1 : decide (m < 64) = false := decide_eq_false (by omega)
  have d2 : decide (1500 < m) = false := decide_eq_false (by omega)
  have d3 : decide ((3000 : Int) < (n : Int)) = false := decide_eq_false (by omega)
  have hn2 : n ≤ 3000 := by omega
  have hm1 : 64 ≤ m ∧ m ≤ 1500 := by omega
  clear hall
  obtain ⟨mtu, rfl⟩ : ∃ k : Nat, m = k := ⟨m.toNat, by omega⟩
  have CN := Lib.hid (new_ok mtu w0 hm1.1 hm1.2)
  have hmt : mtu ≤ 1500 := by omega
  have hmt0 : 64 ≤ mtu := by omega
  rw [Int.toNat_natCast] at CN
  clear hm1
  go_enter Try.func8, Try.ntmps8
  go_wp2_with fail
  refine CN.out.mono ?_
  rintro e w1 ⟨g, rfl, hg, ht, hb⟩
  have H1 : Hid (Tn w0 g (t0 mtu) w1) := Lib.hid ⟨ht, hg, hb⟩
  have HO1 := Lib.hid (t0_ok hmt)
  have HS1 := Lib.hid (ab_start hmt0 hmt)
  have C1 := Lib.hid (H1.out.loss HO1.out)
  rw [HS1.out.1] at C1
  have HO2 : Hid ((⟨mtu, 4 * mtu, 4 * mtu, 0⟩ : T).Ok 0) := Lib.hid ⟨hmt, by show 4 * mtu ≤ 1048576; omega, by show 4 * mtu ≤ 1048576; omega, Nat.le_refl _⟩
  clear ht hg hb CN H1 HO1
  go_wp2_with fail
  refine C1.out.mono ?_
  rintro e w2 ⟨rfl, h2⟩
  have C2 := Lib.hid (h2.ack HO2.out (by decide) (mtu : Int) true)
  rw [HS1.out.2] at C2
  clear h2 C1 HO2 HS1
  have HA0 : Hid ((⟨mtu, 5 * mtu, 4 * mtu, 0⟩ : T).Ok (bnd 0) ∧ (⟨mtu, 5 * mtu, 4 * mtu, 0⟩ : T).Abv mtu) := Lib.hid ⟨⟨hmt, by show 5 * mtu ≤ 1048576; omega, by show 4 * mtu ≤ 1048576; omega, Nat.le_refl _⟩, rfl, rfl, by show 4 * mtu < 5 * mtu; omega⟩
  go_wp2_with fail
  refine C2.out.mono ?_
  rintro e w3 ⟨rfl, h3⟩
  have H3 := Lib.hid h3
  clear h3 C2
  go_wp2_with fail
  go_loopw [7, 8, 39] (fun v7 v8 v39 wr => ∃ (k : Nat) (t : T), v39 = .int .i64 k ∧ v7 = .int .i64 (t.sz : Int) ∧ v8 = .int .i64 (t.pt : Int) ∧ k ≤ n ∧ Hid (t.Ok (bnd k) ∧ t.Abv mtu) ∧ Hid (Tn w0 g t wr)) (fun _ _ v39 _ => n - (intOf v39).toNat)
  case atStart => exact ⟨0, ⟨mtu, 5 * mtu, 4 * mtu, 0⟩, rfl, by simp, rfl, Nat.zero_le _, HA0, H3⟩
  case round =>
    obtain ⟨k, t, rfl, rfl, rfl, hk, HT, HC⟩ := hrel
    clear H3 HA0
    have HS := Lib.hid (size_any HC.out.1)
    by_cases hlt : k < n
    · have hkl : k < l.length := by rw [HL.out]; exact hlt
      obtain ⟨a, rfl, hc⟩ := (HR.out.below HC.out.2.2) k _ (ns_get hkl)
      have hq : l.getD k 0 < 65536 := by
        rw [List.getD, List.getElem?_eq_getElem hkl]
        exact HX.out _ (List.getElem_mem hkl)
      generalize l.getD k 0 = q at hc hq
      clear hkl
      by_cases h0 : q = 0
      · subst h0
        go_wp2_with (go_at_call 32; (with_reducible refine HS.out.mono ?_); rintro e w9 ⟨rfl, rfl⟩)
        go_roundw
        case rel => exact ⟨k + 1, t, by go_num, rfl, rfl, by omega, Lib.hid ⟨ok_le HT.out.1 (bnd_le (by omega)), HT.out.2⟩, HC⟩
        case measure => simp [intOf] <;> omega
      · have CA := Lib.hid (HC.out.ack HT.out.1 (bnd_most (by omega)) (q : Int) true)
        have hok := ack_ok HT.out.1 (q : Int) true
        rw [bnd_step] at hok
        have hbig : t.pt + q ≤ 8796093022208 := small_le HT.out.1.2.2.2 (by omega) hq
        have e1 : wrap64 ((t.pt : Int) + (q : Int)) = ((t.pt + q : Nat) : Int) := i64e add_cast hbig
        by_cases hp : t.pt + q < t.sz
        · have HE := abv_small HT.out.2 HT.out.1 (by omega) (by omega) hp
          rw [HE] at CA hok
          have HT2 : Hid ((⟨t.m, t.sz, t.th, t.pt + q⟩ : T).Ok (bnd (k + 1)) ∧ (⟨t.m, t.sz, t.th, t.pt + q⟩ : T).Abv mtu) := Lib.hid ⟨hok, HT.out.2⟩
          have HSZ : Hid ((⟨t.m, t.sz, t.th, t.pt + q⟩ : T).sz = t.sz ∧ (⟨t.m, t.sz, t.th, t.pt + q⟩ : T).pt = t.pt + q) := Lib.hid ⟨rfl, rfl⟩
          generalize (⟨t.m, t.sz, t.th, t.pt + q⟩ : T) = t2 at CA HT2 HSZ
          have hp2 : ¬ ((t.sz : Int) ≤ ((t.pt + q : Nat) : Int)) := by omega
          have hp3 : ¬ t.sz ≤ t.pt + q := by omega
          clear HE hok HT hp hbig
          generalize t.pt + q = p at e1 hp2 hp3 HSZ
          go_wp2_with (first
            | (go_at_call 32; (with_reducible refine HS.out.mono ?_); rintro e w9 ⟨rfl, rfl⟩))
          refine CA.out.mono ?_
          rintro e w5 ⟨rfl, h5⟩
          have H5 := Lib.hid h5
          clear h5 CA HS
          go_wp2_with fail
          go_roundw
          case rel => exact ⟨k + 1, t2, by go_num, by rw [HSZ.out.1], by rw [e1, HSZ.out.2], by omega, HT2, H5⟩
          case measure => simp [intOf] <;> omega
        · have hsm : t.sz + mtu ≤ 8796093022208 := by have := HT.out.1.2.1; clear hbig e1; omega
          have HE := abv_great HT.out.2 (by omega) (by omega) hp
          rw [HE] at CA hok
          have HT2 : Hid ((⟨t.m, min (t.sz + mtu) 1048576, t.th, t.pt + q - t.sz⟩ : T).Ok (bnd (k + 1)) ∧ (⟨t.m, min (t.sz + mtu) 1048576, t.th, t.pt + q - t.sz⟩ : T).Abv mtu) := Lib.hid ⟨hok, HT.out.2.1, HT.out.2.2.1, by have := HT.out.2.2.2; show 4 * mtu < min (t.sz + mtu) 1048576; omega⟩
          have HSZ : Hid ((⟨t.m, min (t.sz + mtu) 1048576, t.th, t.pt + q - t.sz⟩ : T).sz = min (t.sz + mtu) 1048576 ∧ (⟨t.m, min (t.sz + mtu) 1048576, t.th, t.pt + q - t.sz⟩ : T).pt = t.pt + q - t.sz) := Lib.hid ⟨rfl, rfl⟩
          generalize (⟨t.m, min (t.sz + mtu) 1048576, t.th, t.pt + q - t.sz⟩ : T) = t2 at CA HT2 HSZ
          have hp2 : ((t.sz : Int) ≤ ((t.pt + q : Nat) : Int)) := by omega
          have hp3 : t.sz ≤ t.pt + q := by omega
          have e2 : wrap64 (((t.pt + q : Nat) : Int) - (t.sz : Int)) = ((t.pt + q - t.sz : Nat) : Int) := i64e (sub_cast hp3) (Nat.le_trans (Nat.sub_le _ _) hbig)
          have e4 : wrap64 ((t.sz : Int) + (mtu : Int)) = ((t.sz + mtu : Nat) : Int) := i64e add_cast hsm
          have m2 : (if (1048576 : Int) < ((t.sz + mtu : Nat) : Int) then (1048576 : Int) else ((t.sz + mtu : Nat) : Int)) = ((min (t.sz + mtu) 1048576 : Nat) : Int) := cap_nat
          clear HE hok HT hp hbig
          generalize min (t.sz + mtu) 1048576 = s2 at m2 HSZ
          clear hsm
          generalize t.sz + mtu = sm at e4 m2
          generalize t.pt + q - t.sz = r at e2 HSZ
          generalize t.pt + q = p at e1 e2 hp2 hp3
          go_wp2_with (first
            | (go_at_call 32; (with_reducible refine HS.out.mono ?_); rintro e w9 ⟨rfl, rfl⟩))
          refine CA.out.mono ?_
          rintro e w5 ⟨rfl, h5⟩
          have H5 := Lib.hid h5
          clear h5 CA HS
          go_wp2_with fail
          go_roundw
          case rel => exact ⟨k + 1, t2, by go_num, by rw [HSZ.out.1], by first | rw [e1, e2, HSZ.out.2] | rw [e2, HSZ.out.2] | rw [HSZ.out.2], by omega, HT2, H5⟩
          case measure => simp [intOf] <;> omega
    · clear HT
      go_wp2_with (first
        | (go_at_call 32; (with_reducible refine HS.out.mono ?_); rintro e w9 ⟨rfl, rfl⟩))
      refine (works_any _).mono ?_
      rintro e w4 ⟨rfl, h4⟩
      have H4 := Lib.hid (bnext HC.out.2.2 h4)
      clear HC h4
      go_wp2_with fail
      go_ret
      exact ⟨rfl, H4.out⟩
theorem cwndParts_walk (m : Int) (A : Option Addr) (n cap : Nat) (zs : List Int) (w0 : World) (hm : (Lit.int .i64 m).wf = true) (hr : IsRow .u16 w0 A n cap zs) :
    Calls Try.prog 8 #[.int .i64 m, .slice A n cap] w0 fun e w' => e = .returned (.bool true) ∧ Below w0.heap.size w0 w' := by
  obtain ⟨l, hl, h1, h2, hx, hrow, hz⟩ := isrow_nats 65536 (fun n hn => wf_u16 hn) hr
  exact cwndParts_main m A n cap l w0 hl hx hrow
end Go.Proofs.Ythdhkjbfhbkdjaa
