/-
  FragKeeps: the walk.
-/
import Derived.Test.YtonemhgppfbmjaaFgPcs
import Derived.Test.YtonemhgppfbmjaaFgKeepsP
namespace Go.Proofs.Ytonemhgppfbmjaa
open Go.RowKit Go.Maps
open Fg
set_option linter.unusedVariables false
set_option linter.unusedSimpArgs false

theorem put_told {w' : World} {e : Ending} {K : List Pc} {x : Pc} {R : List Pc × Option (Ms × Nat)} (hk : Keeps K x R) (ht : told w' e R.2) :
    ∃ (ms mp s : Nat) (u b : Bool) (AM : Option Addr) (mn mc : Nat), e = .returned (.tuple #[.agg #[.int .u16 (ms : Int), .bool u, .int .u32 (mp : Int), .slice AM mn mc], .int .u16 (s : Int), .bool b]) ∧
      ((b = false ∧ R.1.length = K.length ∧ held R.1 = held K) ∨ (b = false ∧ R.1.length = K.length + 1 ∧ held R.1 = held K + x.d.length) ∨ (b = true ∧ R.1.length ≤ K.length ∧ held R.1 + mn = held K + x.d.length)) := by
  obtain ⟨K', r⟩ := R
  rcases hk with ⟨h1, h2, h3⟩ | ⟨h1, h2, h3⟩ | ⟨m, s, h1, h2, h3⟩
  · exact ⟨0, 0, 0, false, false, none, 0, 0, told_none ht h1, .inl ⟨rfl, h2, h3⟩⟩
  · exact ⟨0, 0, 0, false, false, none, 0, 0, told_none ht h1, .inr (.inl ⟨rfl, h2, h3⟩)⟩
  · obtain ⟨A, n, c, he, hn, _⟩ := told_some ht h1
    subst hn
    exact ⟨m.s, m.p, s, m.u, true, A, m.d.length, c, he, .inr (.inr ⟨rfl, h2, h3⟩)⟩
theorem great_not {qs : List Pq} (h : great qs = false) : tot qs ≤ 20000 ∧ qs.length ≤ 60 := by
  unfold great at h
  simp at h
  omega
set_option maxRecDepth 100000 in
set_option maxHeartbeats 4000000 in
theorem fragKeeps_walk (A : Option Addr) (n c : Nat) (qs : List Pq) (W : World) (hp : PcsIn W A n c qs) :
    Calls Try.prog 5 #[.slice A n c] W fun e w' => e = .returned (.bool true) ∧ Below W.heap.size W w' := by
  obtain ⟨hl, hnc, hcm, hr, hq⟩ := hp
  have hn : n ≤ 140737488355328 := by omega
  have HL := Lib.hid hl
  have HR := Lib.hid hr
  have HQ := Lib.hid hq
  have HHN := Lib.hid hn
  clear hl hr hq hnc hcm hn
  go_enter Try.func5, Try.ntmps5
  go_wp2_with fail
  refine (Fg.known_any W).mono ?_
  rintro e w1 ⟨rfl, hb1⟩
  have HB1 := Lib.hid hb1
  have C1 := Lib.hid (great_any A n c qs w1 HL.out HHN.out (HR.out.below hb1) (fun q hq' => by have h1 := (HQ.out q hq').cap; have h2 := (HQ.out q hq').most; omega))
  clear hb1
  cases hg : great qs with
  | true =>
    rw [hg] at C1
    clear hg
    go_wp2_with fail
    refine C1.out.mono ?_
    rintro e w ⟨rfl, rfl⟩
    clear C1
    go_wp2_with fail
    go_ret
    exact ⟨rfl, HB1.out⟩
  | false =>
    rw [hg] at C1
    have HG := Lib.hid (great_not hg)
    have hn60 : n ≤ 60 := by have := (great_not hg).2; have := HL.out; omega
    clear hg
    go_wp2_with fail
    refine C1.out.mono ?_
    rintro e w ⟨rfl, rfl⟩
    clear C1
    have H1 := Lib.hid (Now.emp W w1 HB1.out)
    go_wp2_with fail
    refine (s_new H1.out emp_fr).mono ?_
    rintro e w2 ⟨j, rfl, h2⟩
    have H2 := Lib.hid h2.left
    clear h2 H1 HB1
    go_wp2_with fail
    go_loopw [4, 5, 20] (fun vi vo v wr => ∃ (k a b : Nat) (K : List Pc), v = .int .i64 k ∧ k ≤ n ∧ vi = .int .i64 a ∧ vo = .int .i64 b ∧ a ≤ 20000 ∧ b ≤ 20000 ∧ Hid (a = b + held K ∧ a ≤ tot (qs.take k) ∧ K.length ≤ k) ∧ Hid (Now W wr (JA j K))) (fun _ _ v _ => n - (intOf v).toNat)
    case atStart => exact ⟨0, 0, 0, [], rfl, Nat.zero_le _, rfl, rfl, by omega, by omega, Lib.hid ⟨rfl, Nat.zero_le _, Nat.zero_le _⟩, H2⟩
    case round =>
      obtain ⟨k, a, b, K, rfl, hk, rfl, rfl, ha, hb, HI, HN⟩ := hrel
      clear H2
      by_cases hlt : k < n
      · have hkq : k < qs.length := by rw [HL.out]; exact hlt
        obtain ⟨ad, rfl, f0, f1, f2, f3, f4, f5⟩ := pf_at (HR.out.below HN.out.below) hkq
        have HQK := Lib.hid (HQ.out _ (List.getElem_mem hkq))
        have HT := Lib.hid (tot_take hkq)
        have HTL := Lib.hid (Nat.le_trans (tot_take_le qs (k + 1)) HG.out.1)
        generalize qs[k] = q at f0 f1 f2 f3 f4 f5 HQK HT
        obtain ⟨⟨t, f, s, m, p, d⟩, B, dn, dc⟩ := q
        simp only at f0 f1 f2 f3 f4 f5 HT
        have hdn : dn ≤ 20000 := by have := HT.out; have := HTL.out; omega
        have hadn : a + dn ≤ 20000 := by have := HT.out; have := HTL.out; have := HI.out; omega
        clear hkq
        obtain ⟨F, hj, hlow, hltF, hbel⟩ := HN.out
        have HLO := Lib.hid hlow
        have HNF : Hid (¬ F wr.heap.size) := Lib.hid fun h => by have := hltF _ h; omega
        have HLT := Lib.hid hltF
        have HKP := Lib.hid (put_keeps ⟨t, f, s, m, p, d⟩ (by obtain ⟨_, _, ⟨_, _, _, _, hap, _⟩, _⟩ := hj; exact hap) HQK.out.ok.t (by have := HI.out; omega : K.length < 1000000000))
        have HB5 := Lib.hid (bnext hbel (Fg.bAlloc wr (.cells #[.int .u32 (t : Int), .int .u8 (f : Int), .int .u16 (s : Int), .int .u16 (m : Int), .int .u32 (p : Int), .slice B dn dc] 33)))
        have HJ5 := Lib.hid (JA.next hj (Fg.bAlloc wr (.cells #[.int .u32 (t : Int), .int .u8 (f : Int), .int .u16 (s : Int), .int .u16 (m : Int), .int .u32 (p : Int), .slice B dn dc] 33)))
        have HP5 : Hid (Bk (wr.alloc (.cells #[.int .u32 (t : Int), .int .u8 (f : Int), .int .u16 (s : Int), .int .u16 (m : Int), .int .u32 (p : Int), .slice B dn dc] 33)) wr.heap.size #[.int .u32 (t : Int), .int .u8 (f : Int), .int .u16 (s : Int), .int .u16 (m : Int), .int .u32 (p : Int), .slice B dn dc] 33) := Lib.hid (Bk.new _ _ _)
        have HZ5 : Hid (wr.heap.size < (wr.alloc (.cells #[.int .u32 (t : Int), .int .u8 (f : Int), .int .u16 (s : Int), .int .u16 (m : Int), .int .u32 (p : Int), .slice B dn dc] 33)).heap.size) := Lib.hid (by simp)
        have HFL : Hid (∀ b, F b → b < wr.heap.size) := Lib.hid hltF
        clear hj hlow hltF hbel HN
        go_upto_region 10 with fail
        clear f0 f1 f2 f3 f4 f5
        generalize wr.alloc (.cells #[.int .u32 (t : Int), .int .u8 (f : Int), .int .u16 (s : Int), .int .u16 (m : Int), .int .u32 (p : Int), .slice B dn dc] 33) = w5 at HB5 HJ5 HP5 HZ5 ⊢
        generalize wr.heap.size = gp at HNF HP5 HLT HZ5 HFL ⊢
        go_wp2_with fail
        refine (len_any w5 F j K HJ5.out).mono ?_
        rintro e w ⟨rfl, rfl⟩
        have g5 := (HP5.out.alloc (.cells #[] 5)).cell 5
        simp at g5
        go_upto_region 12 with (at_builtin; refine app_step rfl (.tmp 26) (.tmp 28) rfl w5.heap.size (some ⟨w5.heap.size, 0, none⟩) 0 0 [] rfl (World.ownsRow_made w5 #[] 0 (Nat.le_refl _) (by decide) rfl) B dn dc d rfl HQK.out.len ((HQK.out.row.below HB5.out).alloc _) HQK.out.nil (by omega) (by simp) ?_; intro A6 n6 c6 w6 hn6 ho6 hb6)
        clear g5
        obtain rfl : n6 = dn := by omega
        clear hn6
        have hb56 : Below w5.heap.size w5 w6 := ((Below.refl _ _).alloc (Nat.le_refl _) _).trans hb6
        rw [List.nil_append] at ho6
        have HJ6 := Lib.hid (HJ5.out.next hb56)
        have HP6 := Lib.hid (HP5.out.next hb56)
        have HB6 := Lib.hid (bnext HB5.out hb56)
        have HO6 : Hid (Row w6 A6 (bs d) ∧ ∀ a, A6 = some a → ¬ F a.block) := Lib.hid ⟨row_of_own ho6, fun a e hf => by
          have h1 := (ho6.lt a.block (by rw [e]; rfl)).1
          have h2 := HFL.out _ hf
          have := HZ5.out
          omega⟩
        clear ho6 hb56 hb6 HJ5 HP5 HB5 HZ5
        have g0 := HP6.out.cell 0
        have g1 := HP6.out.cell 1
        have g2 := HP6.out.cell 2
        have g3 := HP6.out.cell 3
        have g4 := HP6.out.cell 4
        have g5 := HP6.out.cell 5
        simp at g0 g1 g2 g3 g4 g5
        have C7 := Lib.hid (put_any w6 F j K ⟨t, f, s, m, p, d⟩ B n6 dc HJ6.out HQK.out.ok HQK.out.len (by omega) (HQK.out.row.below HB6.out) (by have := HI.out; omega) (by have := HI.out; omega))
        unfold pv at C7
        generalize put K ⟨t, f, s, m, p, d⟩ = R at HKP C7
        obtain ⟨K', r⟩ := R
        go_wp2_with fail
        refine C7.out.mono ?_
        clear C7 g0 g1 g2 g3 g4 g5
        rintro e w7 ⟨F', hnew, hj7, hkp, ht⟩
        obtain ⟨ms, mp, sn, u, bb, AM, mn, mc, rfl, hcase⟩ := put_told HKP.out ht
        clear ht HKP
        simp only at hcase
        have HJ7 := Lib.hid hj7
        have HP7 : Hid (Bk w7 gp _ _) := Lib.hid ((hkp.block gp HP6.out.lt HNF.out).trans HP6.out)
        have HO7 := Lib.hid (Row.frame HO6.out.1 hkp HO6.out.2)
        have HB7 := Lib.hid (Kp.to_below HB6.out hkp HLO.out HB6.out.size)
        have HLO7 : Hid (∀ k, F' k → W.heap.size ≤ k) := Lib.hid fun k hk => by
          rcases hnew k hk with h | h
          · exact HLO.out k h
          · exact Nat.le_trans HB6.out.size h
        clear hj7 hkp hnew HJ6 HP6 HO6 HB6 HLO HNF HLT HFL
        go_upto_region 13 with fail
        have hb8 := Fg.bAlloc w7 (.cells #[.int .u16 (ms : Int), .bool u, .int .u32 (mp : Int), .slice AM mn mc] 26)
        have HM8 : Hid (Bk (w7.alloc (.cells #[.int .u16 (ms : Int), .bool u, .int .u32 (mp : Int), .slice AM mn mc] 26)) w7.heap.size #[.int .u16 (ms : Int), .bool u, .int .u32 (mp : Int), .slice AM mn mc] 26) := Lib.hid (Bk.new _ _ _)
        have HJ8 := Lib.hid (HJ7.out.next hb8)
        have HP8 := Lib.hid (HP7.out.next hb8)
        have HO8 := Lib.hid (HO7.out.below hb8)
        have HB8 := Lib.hid (bnext HB7.out hb8)
        clear hb8 HJ7 HP7 HO7 HB7
        generalize w7.alloc (.cells #[.int .u16 (ms : Int), .bool u, .int .u32 (mp : Int), .slice AM mn mc] 26) = w8 at HM8 HJ8 HP8 HO8 HB8 ⊢
        generalize w7.heap.size = gm at HM8 ⊢
        have g3 := HM8.out.cell 3
        have g5 := HP8.out.cell 5
        simp at g3 g5
        obtain ⟨sd, hsd⟩ : ∃ sd, strOf d = sd := ⟨_, rfl⟩
        have cv1 := str_at (n := n6) (c := c6) HQK.out.len HO8.out hsd
        have cv2 := str_at (n := n6) (c := dc) HQK.out.len (HQK.out.row.below HB8.out) hsd
        clear hsd
        have HLEN := Lib.hid HQK.out.len
        have HH8 := Lib.hid (held_any w8 F' j K' HJ8.out)
        have HL8 := Lib.hid (len_any w8 F' j K' HJ8.out)
        have HNOW : Hid (Now W w8 (JA j K')) := Lib.hid ⟨F', HJ8.out, HLO7.out, fun k hk => JB.lt HJ8.out hk, HB8.out⟩
        clear HM8 HP8 HO8 HQK HQ HG
        have HCASE := Lib.hid hcase
        have hKL : K.length ≤ 60 := by have := HI.out; omega
        have hK'L : K'.length ≤ 61 := by have := HI.out; omega
        have hH' : held K' ≤ 20000 := by
          have := HI.out; have := HLEN.out
          simp only at this
          omega
        generalize hKl : K.length = L at hKL HI HCASE hcase ⊢
        generalize hKl' : K'.length = L' at hK'L HL8 HCASE hcase ⊢
        generalize hKh' : held K' = H' at hH' HH8 HCASE hcase ⊢
        have HE1 := Lib.hid hKl
        have HE2 := Lib.hid hKl'
        have HE3 := Lib.hid hKh'
        have hn6 : d.length = n6 := HLEN.out
        have HN6 := Lib.hid hn6
        clear hKl hKl' hKh' hn6
        rcases hcase with ⟨rfl, h1, h2⟩ | ⟨rfl, h1, h2⟩ | ⟨rfl, h1, h2⟩
        · have HNEW : Hid (a = b + held K' ∧ a ≤ tot (qs.take (k + 1)) ∧ K'.length ≤ k + 1) := Lib.hid (by
            have e1 := HI.out; have e2 := HT.out; have e3 := HE2.out; have e4 := HE3.out; have e6 := HN6.out
            omega)
          have hbm : b + H' ≤ 20000 := by have e1 := HNEW.out.1; have e2 := HE3.out; omega
          have HX : Hid ((a : Int) = (b : Int) + (H' : Int) ∧ ¬ L + 1 < L' ∧ ¬ L < L') := Lib.hid (by have e1 := HNEW.out.1; have e2 := HE3.out; omega)
          clear h1 h2
          go_wp2_with (first
            | (go_at_call 14; (with_reducible refine HH8.out.mono ?_); rintro e w ⟨rfl, rfl⟩)
            | (go_at_call 15; (with_reducible refine HL8.out.mono ?_); rintro e w ⟨rfl, rfl⟩))
          all_goals first
            | (exfalso; have e1 := HX.out; omega)
            | (go_roundw
               case rel => exact ⟨k + 1, a, b, K', by go_num, by omega, by go_num, by go_num, by omega, by omega, HNEW, HNOW⟩
               case measure => simp [intOf] <;> omega)
        · have HNEW : Hid ((a + n6) = b + held K' ∧ (a + n6) ≤ tot (qs.take (k + 1)) ∧ K'.length ≤ k + 1) := Lib.hid (by
            have e1 := HI.out; have e2 := HT.out; have e3 := HE2.out; have e4 := HE3.out; have e6 := HN6.out
            omega)
          have hbm : b + H' ≤ 20000 := by have e1 := HNEW.out.1; have e2 := HE3.out; omega
          have HX : Hid (((a : Int) + (n6 : Int)) = (b : Int) + (H' : Int) ∧ ¬ L + 1 < L' ∧ L < L') := Lib.hid (by have e1 := HNEW.out.1; have e2 := HE3.out; omega)
          clear h1 h2
          go_wp2_with (first
            | (go_at_call 14; (with_reducible refine HH8.out.mono ?_); rintro e w ⟨rfl, rfl⟩)
            | (go_at_call 15; (with_reducible refine HL8.out.mono ?_); rintro e w ⟨rfl, rfl⟩))
          all_goals first
            | (exfalso; have e1 := HX.out; omega)
            | (go_roundw
               case rel => exact ⟨k + 1, a + n6, b, K', by go_num, by omega, by go_num, by go_num, by omega, by omega, HNEW, HNOW⟩
               case measure => simp [intOf] <;> omega)
        · have HNEW : Hid ((a + n6) = (b + mn) + held K' ∧ (a + n6) ≤ tot (qs.take (k + 1)) ∧ K'.length ≤ k + 1) := Lib.hid (by
            have e1 := HI.out; have e2 := HT.out; have e3 := HE2.out; have e4 := HE3.out; have e6 := HN6.out
            omega)
          have hbm : b + mn + H' ≤ 20000 := by have e1 := HNEW.out.1; have e2 := HE3.out; omega
          have HX : Hid (((a : Int) + (n6 : Int)) = ((b : Int) + (mn : Int)) + (H' : Int) ∧ ¬ L + 1 < L') := Lib.hid (by have e1 := HNEW.out.1; have e2 := HE3.out; omega)
          clear h1 h2
          go_wp2_with (first
            | (go_at_call 14; (with_reducible refine HH8.out.mono ?_); rintro e w ⟨rfl, rfl⟩)
            | (go_at_call 15; (with_reducible refine HL8.out.mono ?_); rintro e w ⟨rfl, rfl⟩))
          all_goals first
            | (exfalso; have e1 := HX.out; omega)
            | (go_roundw
               case rel => exact ⟨k + 1, a + n6, b + mn, K', by go_num, by omega, by go_num, by go_num, by omega, by omega, HNEW, HNOW⟩
               case measure => simp [intOf] <;> omega)
      · obtain rfl : k = n := by omega
        go_wp2_with fail
        go_ret
        exact ⟨rfl, HN.out.below⟩
end Go.Proofs.Ytonemhgppfbmjaa
