/-
  CwndBounds: the walk.
-/
import Derived.Test.YthdhkjbfhbkdjaaCwHead
namespace Go.Proofs.Ythdhkjbfhbkdjaa
set_option maxRecDepth 4000
open Go.RowKit Cw
set_option linter.unusedVariables false
set_option linter.unusedSimpArgs false

set_option maxHeartbeats 4000000 in
theorem cwndBounds_walk (m : Int) (A : Option Addr) (n cap : Nat) (qs : List Q3) (w0 : World) (hm : (Lit.int .i64 m).wf = true) (hq : DosIn w0 A n cap qs) : Calls Try.prog 7 #[.int .i64 m, .slice A n cap] w0 fun e w' => e = .returned (.bool true) ∧ Below w0.heap.size w0 w' := by
  obtain ⟨hl, hcap, hcm, hr, hw⟩ := hq
  have HL := Lib.hid hl
  have HR := Lib.hid hr
  clear hl hr hw hm
  by_cases hn : 3000 < n
  · have hz : decide ((3000 : Int) < (n : Int)) = true := decide_eq_true (by omega)
    clear hn hcap hcm
    go_enter Try.func7, Try.ntmps7
    go_wp2_with fail
    refine (works_any _).mono ?_
    rintro e w4 ⟨rfl, h4⟩
    have H4 := Lib.hid h4
    clear h4
    go_wp2_with fail
    go_ret
    exact ⟨rfl, H4.out⟩
  have hz : decide ((3000 : Int) < (n : Int)) = false := decide_eq_false (by omega)
  have hn2 : n ≤ 3000 := by omega
  clear hn hcap hcm
  by_cases hm : ¬ (64 ≤ m ∧ m ≤ 1500)
  · have CN := Lib.hid (new_bad m w0 hm)
    have hd : (decide (m < 64) = true) ∨ (decide (m < 64) = false ∧ decide (1500 < m) = true) := by
      by_cases h : m < 64
      · exact .inl (decide_eq_true h)
      · exact .inr ⟨decide_eq_false h, decide_eq_true (by omega)⟩
    clear hm
    rcases hd with hd | ⟨hd, hd2⟩
    all_goals
      go_enter Try.func7, Try.ntmps7
      go_wp2_with fail
      refine CN.out.mono ?_
      rintro e w1 ⟨rfl, rfl⟩
      go_wp2_with fail
      refine (works_any _).mono ?_
      rintro e w4 ⟨rfl, h4⟩
      have H4 := Lib.hid h4
      clear h4 CN
      go_wp2_with fail
      go_ret
      exact ⟨rfl, H4.out⟩
  have hm1 : 64 ≤ m ∧ m ≤ 1500 := Decidable.not_not.1 hm
  clear hm
  obtain ⟨mtu, rfl⟩ : ∃ k : Nat, m = k := ⟨m.toNat, by omega⟩
  have CN := Lib.hid (new_ok mtu w0 hm1.1 hm1.2)
  have hmt : mtu ≤ 1500 := by omega
  rw [Int.toNat_natCast] at CN
  clear hm1
  go_enter Try.func7, Try.ntmps7
  go_wp2_with fail
  refine CN.out.mono ?_
  rintro e w1 ⟨g, rfl, hg, ht, hb⟩
  have H1 : Hid (Tn w0 g (t0 mtu) w1) := Lib.hid ⟨ht, hg, hb⟩
  have HI1 := Lib.hid (t0_in hmt)
  have HO1 := Lib.hid (t0_ok hmt)
  generalize t0 mtu = tt at H1 HI1 HO1
  clear ht hg hb CN
  go_wp2_with fail
  go_loopw [33] (fun v33 wr => ∃ (k : Nat) (t : T), v33 = .int .i64 k ∧ k ≤ n ∧ Hid (t.Ok (bnd k) ∧ t.In mtu) ∧ Hid (Tn w0 g t wr)) (fun v33 _ => n - (intOf v33).toNat)
  case atStart => exact ⟨0, tt, rfl, Nat.zero_le _, Lib.hid ⟨HO1.out, HI1.out⟩, H1⟩
  case round =>
    obtain ⟨k, t, rfl, hk, HT, HC⟩ := hrel
    clear H1 HI1 HO1
    by_cases hlt : k < n
    · have hkl : k < qs.length := by rw [HL.out]; exact hlt
      obtain ⟨a, rfl, hd0, hd1, hd2⟩ := dos_at (HR.out.below HC.out.2.2) hkl
      obtain ⟨⟨q0, q1, q2⟩, hqq⟩ : ∃ q, qs[k] = q := ⟨_, rfl⟩
      rw [hqq] at hd0 hd1 hd2
      simp only at hd0 hd1 hd2
      clear hqq hkl
      have HX1 := Lib.hid (Cx.new HC.out q0 q1 q2)
      go_upto_region 9 with fail
      unfold xc at HX1
      generalize hx : wr.heap.size = x at HX1 ⊢
      generalize hW : World.alloc wr _ = W1 at HX1 ⊢
      clear hx hW hd0 hd1 hd2
      have x0 : W1.cell? ⟨x, 0, none⟩ = some (.int .i64 q0) := HX1.out.cells.1
      have x1 : W1.cell? ⟨x, 1, none⟩ = some (.int .i64 q1) := HX1.out.cells.2.1
      have x2 : W1.cell? ⟨x, 2, none⟩ = some (.bool q2) := HX1.out.cells.2.2
      go_wp2_with fail
      refine (size_any HX1.out.1.1).mono ?_
      rintro e w ⟨rfl, rfl⟩
      have CT : Hid (Calls Try.prog 31 #[.pointer (some ⟨g, 0, none⟩), .agg #[.int .i64 0, .int .i64 0, .int .i64 0, .int .i64 0], .agg #[.int .i64 q0, .int .i64 q1, .bool q2]] W1 fun e w' => e = .returned (.agg (dc (tz.tell q0 q1 q2))) ∧ Cx w0 g (t.tell q0 q1 q2) x q0 q1 q2 w') := Lib.hid (HX1.out.tell HT.out.1 (bnd_most (by omega)) tz (tz_ok _))
      have hgo := tell_goes HT.out.2 HT.out.1 q0 q1 q2
      have HT2 : Hid ((t.tell q0 q1 q2).Ok (bnd (k + 1)) ∧ (t.tell q0 q1 q2).In mtu) := Lib.hid ⟨ok_step HT.out.1 q0 q1 q2, hgo.1⟩
      have hsz := HT.out.1.2.1
      generalize t.tell q0 q1 q2 = t2 at CT hgo HT2
      generalize dc (tz.tell q0 q1 q2) = dd at CT
      go_wp2_with fail
      refine CT.out.mono ?_
      rintro e W2 ⟨rfl, h2⟩
      have HX2 := Lib.hid h2
      clear h2 CT HX1 HT HC x0 x1 x2
      have HS := Lib.hid (size_any HX2.out.1.1)
      have HTH := Lib.hid (thr_any HX2.out.1.1)
      have x0 : W2.cell? ⟨x, 0, none⟩ = some (.int .i64 q0) := HX2.out.cells.1
      have x2 : W2.cell? ⟨x, 2, none⟩ = some (.bool q2) := HX2.out.cells.2.2
      obtain ⟨hi, hg0, hg1, hg2, hg3⟩ := hgo
      have a1 : ¬ t2.sz < mtu := by have := hi.2.1; omega
      have a2 : decide ((1048576 : Int) < (t2.sz : Int)) = false := decide_eq_false (by have := HT2.out.1.2.1; omega)
      have a3 : decide ((t2.th : Int) < 4 * (mtu : Int)) = false := decide_eq_false (by have := hi.2.2; omega)
      clear hi
      by_cases h0 : q0 = 0
      · subst h0
        obtain ⟨b1, b2, b3⟩ := hg0 rfl
        have b5 : ¬ t2.sz < t.sz := by omega
        have b6 : decide ((t.sz : Int) + (mtu : Int) < (t2.sz : Int)) = false := decide_eq_false (by omega)
        clear hg0 hg1 hg2 hg3 b1 b2
        have b7 : (t.sz < t2.sz ∧ q2 = true) ∨ ¬ t.sz < t2.sz := by
          by_cases h : t.sz < t2.sz
          · refine .inl ⟨h, ?_⟩
            cases q2
            · have := b3 rfl
              omega
            · rfl
          · exact .inr h
        clear b3
        rcases b7 with ⟨b7, rfl⟩ | b7
        all_goals
          go_wp2_with (first
            | (go_at_call 32; (with_reducible refine HS.out.mono ?_); rintro e w9 ⟨rfl, rfl⟩)
            | (go_at_call 37; (with_reducible refine HTH.out.mono ?_); rintro e w9 ⟨rfl, rfl⟩))
          go_roundw
          case rel => exact ⟨k + 1, t2, by go_num, by omega, HT2, Lib.hid HX2.out.1⟩
          case measure => simp [intOf] <;> omega
      by_cases h1 : q0 = 1
      · subst h1
        obtain ⟨b1, b2⟩ := hg1 rfl
        have b3 : wrap64 ((t.sz : Int) / 2) = ((t.sz / 2 : Nat) : Int) := i64e (by omega) (by omega)
        have b4 : ¬ t2.sz < t.sz / 2 := by omega
        have b5 : ¬ t2.th < t2.sz := by omega
        have b6 : decide ((t2.sz : Int) < (t.sz : Int) / 2) = false := decide_eq_false (by omega)
        clear hg0 hg1 hg2 hg3 b1 b2
        go_wp2_with (first
            | (go_at_call 32; (with_reducible refine HS.out.mono ?_); rintro e w9 ⟨rfl, rfl⟩)
            | (go_at_call 37; (with_reducible refine HTH.out.mono ?_); rintro e w9 ⟨rfl, rfl⟩))
        go_roundw
        case rel => exact ⟨k + 1, t2, by go_num, by omega, HT2, Lib.hid HX2.out.1⟩
        case measure => simp [intOf] <;> omega

      by_cases h2 : q0 = 2
      · subst h2
        obtain ⟨b1, b2⟩ := hg2 rfl
        have b3 : ((t2.sz : Int) == (mtu : Int)) = true := by simp [b1]
        have b5 : ¬ t2.th < t2.sz := by omega
        clear hg0 hg1 hg2 hg3 b2
        go_wp2_with (first
            | (go_at_call 32; (with_reducible refine HS.out.mono ?_); rintro e w9 ⟨rfl, rfl⟩)
            | (go_at_call 37; (with_reducible refine HTH.out.mono ?_); rintro e w9 ⟨rfl, rfl⟩))
        go_roundw
        case rel => exact ⟨k + 1, t2, by go_num, by omega, HT2, Lib.hid HX2.out.1⟩
        case measure => simp [intOf] <;> omega

      have b1 := hg3 h0 h1 h2
      have b3 : ((t2.sz : Int) == (t.sz : Int)) = true := by simp [b1]
      clear hg0 hg1 hg2 hg3
      go_wp2_with (first
            | (go_at_call 32; (with_reducible refine HS.out.mono ?_); rintro e w9 ⟨rfl, rfl⟩)
            | (go_at_call 37; (with_reducible refine HTH.out.mono ?_); rintro e w9 ⟨rfl, rfl⟩))
      go_roundw
      case rel => exact ⟨k + 1, t2, by go_num, by omega, HT2, Lib.hid HX2.out.1⟩
      case measure => simp [intOf] <;> omega
    · clear HT
      go_wp2_with fail
      refine (works_any _).mono ?_
      rintro e w4 ⟨rfl, h4⟩
      have H4 := Lib.hid (bnext HC.out.2.2 h4)
      clear HC h4
      go_wp2_with fail
      go_ret
      exact ⟨rfl, H4.out⟩
end Go.Proofs.Ythdhkjbfhbkdjaa
