/-
  The library's sort at 16 bits: pdqsort: a sorted permutation of the part.
-/
import Derived.Test.YtednkcjmlpgipaaYP1a
import Derived.Test.YtednkcjmlpgipaaYP1b
import Derived.Test.YtednkcjmlpgipaaYSoPeq
import Derived.Test.YtednkcjmlpgipaaYSoPart
import Derived.Test.YtednkcjmlpgipaaYSoPins
import Derived.Sort.WalkA14
namespace Go.Proofs.Ytednkcjmlpgipaa
open Go.RowKit Go.Sort
set_option linter.unusedVariables false

/-- What is left to be done: whatever sorted permutation of the part comes, the whole is one. -/
def Todo (a b : Nat) (d : Array Int) (a' b' : Nat) (d' : Array Int) : Prop :=
  d'.size = d.size ∧ Sort.Below ltInt a' b' d' ∧ ∀ R, PermIn a' b' d' R → SortedIn ltInt a' b' R → PermIn a b d R ∧ SortedIn ltInt a b R
theorem Todo.perm {a b a' b' : Nat} {d d1 d2 : Array Int} (h : Todo a b d a' b' d1) (hp : PermIn a' b' d1 d2) (hb : b' ≤ d1.size) : Todo a b d a' b' d2 :=
  ⟨hp.1.trans h.1, h.2.1.perm hb hp, fun R hR hs => h.2.2 R (permIn_trans _ _ _ _ _ hp hR) hs⟩
theorem Todo.eq {a b a' b' p : Nat} {d d3 : Array Int} (h : Todo a b d a' b' d3) (ha : 0 < a') (h1 : a' ≤ p) (h2 : p < b') (hb : b' ≤ d3.size) (hl : ltInt d3[a' - 1]! d3[p]! = false) :
    a' < (partitionEqual ltInt d3 a' b' p).1 ∧ (partitionEqual ltInt d3 a' b' p).1 ≤ b' ∧ Todo a b d (partitionEqual ltInt d3 a' b' p).1 b' (partitionEqual ltInt d3 a' b' p).2 := by
  obtain ⟨q1, q2, q3, q4, q5⟩ := round_eq swo_ltInt (partitionEqual_holds ltInt) ha h1 h2 hb h.2.1 hl rfl
  exact ⟨q1, q2, q3.trans h.1, q4, fun R hR hs => h.2.2 R (q5 R hR hs).1 (q5 R hR hs).2⟩
theorem Todo.part {a b a' b' p : Nat} {d d3 : Array Int} (h : Todo a b d a' b' d3) (h1 : a' ≤ p) (h2 : p < b') (hb : b' ≤ d3.size) :
    ∃ m d4, (partition ltInt d3 a' b' p).1 = m ∧ (partition ltInt d3 a' b' p).2.2 = d4 ∧ a' ≤ m ∧ m < b' ∧ d4.size = d3.size ∧ Sort.Below ltInt a' m d4 ∧ Sort.Below ltInt (m + 1) b' d4 ∧
      (∀ L, PermIn a' m d4 L → SortedIn ltInt a' m L → Todo a b d (m + 1) b' L) ∧ (∀ L, PermIn (m + 1) b' d4 L → SortedIn ltInt (m + 1) b' L → Todo a b d a' m L) := by
  obtain ⟨q1, q2, q3, q4, q5, q6, q7⟩ := round_part swo_ltInt (partition_holds ltInt) h1 h2 hb h.2.1 rfl
  exact ⟨_, _, rfl, rfl, q1, q2, q3, q4, q5, fun L hL hs => ⟨hL.1.trans (q3.trans h.1), (q6 L hL hs).1, fun R hR hr => h.2.2 R ((q6 L hL hs).2 R hR hr).1 ((q6 L hL hs).2 R hR hr).2⟩,
    fun L hL hs => ⟨hL.1.trans (q3.trans h.1), (q7 L hL hs).1, fun R hR hr => h.2.2 R ((q7 L hL hs).2 R hR hr).1 ((q7 L hL hs).2 R hR hr).2⟩⟩
set_option maxRecDepth 100000 in
set_option maxHeartbeats 4000000 in
theorem pdq_any : ∀ (N g off cap a b limit : Nat) (d : Array Int) (w : World), b - a < N → Holds u16 w g off d → g < w.heap.size → a ≤ b → b ≤ d.size → d.size < 4611686018427387904 → limit < 1000 → Sort.Below ltInt a b d →
    Calls Try.prog 120 #[.slice (some ⟨g, off, none⟩) d.size cap, .int .i64 a, .int .i64 b, .int .i64 limit] w fun e w' => ∃ d', e = .returned (.tuple #[]) ∧ PermIn a b d d' ∧ SortedIn ltInt a b d' ∧ SW w g off d' w' := by
  intro N
  induction N with
  | zero => intro g off cap a b limit d w h; omega
  | succ N ih =>
  intro g off cap a b limit d w hN hH hg hab hb hsz hlim hB
  have IH := Lib.hid ih
  have HS0 := Lib.hid (SW.refl hH)
  have HT0 : Hid (Todo a b d a b d) := Lib.hid ⟨rfl, hB, fun R hR hs => ⟨hR, hs⟩⟩
  clear ih hH hB
  obtain ⟨len, hlen⟩ : ∃ len, len = d.size := ⟨_, rfl⟩
  rw [← hlen] at hb hsz ⊢
  have HL := Lib.hid hlen.symm
  clear hlen
  -- the callees, at whatever row of this length
  have FINI : Hid (∀ (d1 R : Array Int) (W W' : World) (a' b' : Nat), Hid (Todo a b d a' b' d1) → Hid (SW w g off d1 W) → PermIn a' b' d1 R → SortedIn ltInt a' b' R → SW W g off R W' → ∃ d', PermIn a b d d' ∧ SortedIn ltInt a b d' ∧ SW w g off d' W') :=
    Lib.hid fun d1 R W W' a' b' hT hS hp hs hW => ⟨R, (hT.out.2.2 R hp hs).1, (hT.out.2.2 R hp hs).2, hS.out.trans hW⟩
  go_enter Try.func120, Try.ntmps120
  go_wp2
  go_loopw [1, 2, 3, 8, 9] (fun va vb vl v8 v9 wr => ∃ (a' b' l : Nat) (wb wp : Bool) (dk : Array Int), va = .int .i64 a' ∧ vb = .int .i64 b' ∧ vl = .int .i64 l ∧ v8 = .bool wb ∧ v9 = .bool wp ∧ a' ≤ b' ∧ b' ≤ len ∧ b' - a' ≤ b - a ∧ l < 1000 ∧ Hid (dk.size = len) ∧ Hid (SW w g off dk wr) ∧ Hid (Todo a b d a' b' dk)) (fun va vb _ _ _ _ => (iof vb - iof va).toNat)
  case atStart => exact ⟨a, b, limit, true, true, d, rfl, rfl, rfl, rfl, rfl, hab, hb, Nat.le_refl _, hlim, HL, HS0, HT0⟩
  case round =>
    obtain ⟨a', b', l, wb, wp, dk, rfl, rfl, rfl, rfl, rfl, hab', hb', hbb, hl, hz, HS, HT⟩ := hrel
    clear HS0 HT0 HL
    have HGW : Hid (∀ d1 W, SW w g off d1 W → g < W.heap.size) := Lib.hid fun d1 W h => h.lt hg
    clear hg
    have HLT : Hid (g < wr.heap.size) := Lib.hid (HGW.out _ _ HS.out)
    by_cases h12 : b' - a' ≤ 12
    · have h12z : decide ((b' : Int) - (a' : Int) ≤ 12) = true := decide_eq_true (by omega)
      go_wp2_with fail
      have hI := insertion_any g off cap a' b' dk wr HS.out.1 hab' (by rw [hz.out]; exact hb') (by rw [hz.out]; exact hsz)
      rw [hz.out] at hI
      refine hI.mono ?_
      rintro e w1 ⟨rfl, hw1⟩
      have HW := Lib.hid hw1
      clear hw1 hI
      go_wp2_with fail
      all_goals (try simp only [Exit.inBlock, Exit.then])
      all_goals refine bodyPost_ret (results_none rfl _ _ _) rfl ?_
      have hi := insertionSort_holds swo_ltInt dk a' b' hab' (by rw [hz.out]; exact hb')
      obtain ⟨d', q⟩ := FINI.out dk _ wr w1 a' b' HT HS hi.1 hi.2 HW.out
      exact ⟨d', rfl, q⟩
    · have h12z : decide ((b' : Int) - (a' : Int) ≤ 12) = false := decide_eq_false (by omega)
      by_cases hl0 : l = 0
      · subst hl0
        go_wp2_with fail
        have hI := heap_any g off cap a' b' dk wr HS.out.1 hab' (by rw [hz.out]; exact hb') (by rw [hz.out]; exact hsz)
        rw [hz.out] at hI
        refine hI.mono ?_
        rintro e w1 ⟨rfl, hw1⟩
        have HW := Lib.hid hw1
        clear hw1 hI
        go_wp2_with fail
        all_goals (try simp only [Exit.inBlock, Exit.then])
        all_goals refine bodyPost_ret (results_none rfl _ _ _) rfl ?_
        have hi := heapSort_holds swo_ltInt dk a' b' hab' (by rw [hz.out]; exact hb')
        obtain ⟨d', q⟩ := FINI.out dk _ wr w1 a' b' HT HS hi.1 hi.2 HW.out
        exact ⟨d', rfl, q⟩
      · have hl0z : ((l : Int) == 0) = false := by simpa using hl0
        go_upto_if 35 with fail
        go_cut [3] from 36 to 41 (fun vl wx => ∃ (l1 : Nat) (d1 : Array Int), vl = .int .i64 l1 ∧ l1 < 1000 ∧ Hid (d1.size = len) ∧ Hid (SW w g off d1 wx) ∧ Hid (Todo a b d a' b' d1))
        case first =>
          cases wb
          · go_wp2_with fail
            have hI := break_any g off cap a' b' dk wr HS.out.1 HLT.out hab' (by rw [hz.out]; exact hb') (by rw [hz.out]; exact hsz)
            rw [hz.out] at hI
            refine hI.mono ?_
            rintro e w1 ⟨d1, rfl, hp1, hw1⟩
            have HP := Lib.hid hp1
            have HW := Lib.hid hw1
            clear hp1 hw1 hI
            go_wp2_with fail
            go_meet
            case rel => exact ⟨l - 1, d1, by go_num, by omega, Lib.hid (HP.out.1.trans hz.out), Lib.hid (HS.out.trans HW.out), Lib.hid (HT.out.perm HP.out (by rw [hz.out]; exact hb'))⟩
          · go_wp2_with fail
            go_meet
            case rel => exact ⟨l, dk, rfl, hl, hz, HS, HT⟩
        case rest =>
        obtain ⟨l1, d1, rfl, hl1, hz1, HS1, HT1⟩ := hcut
        clear HS HT hz HLT
        have HLT : Hid (g < wc.heap.size) := Lib.hid (HGW.out _ _ HS1.out)
        -- the pivot
        go_wp2_with fail
        have hI := pivot_any g off cap a' b' d1 wc HS1.out.1 HLT.out (by omega) (by rw [hz1.out]; exact hb') (by rw [hz1.out]; exact hsz)
        rw [hz1.out] at hI
        refine hI.mono ?_
        rintro e w2 ⟨x, h, rfl, hx1, hx2, hh, hw2⟩
        have HS2 := Lib.hid (HS1.out.trans hw2)
        clear hI hw2 HLT HS1
        have HLT : Hid (g < w2.heap.size) := Lib.hid (HGW.out _ _ HS2.out)
        go_upto_if 50 with fail
        go_cut [11, 12] from 51 to 60 (fun vx vh wx => ∃ (x1 h1 : Nat) (d2 : Array Int), vx = .int .i64 x1 ∧ vh = .int .i64 h1 ∧ a' ≤ x1 ∧ x1 < b' ∧ Hid (d2.size = len) ∧ Hid (SW w g off d2 wx) ∧ Hid (Todo a b d a' b' d2))
        case first =>
          by_cases hh2 : h = 2
          · subst hh2
            go_wp2_with fail
            have hI := reverse_any g off cap a' b' d1 w2 HS2.out.1 hab' (by rw [hz1.out]; exact hb') (by rw [hz1.out]; exact hsz)
            rw [hz1.out] at hI
            refine hI.mono ?_
            rintro e w3 ⟨rfl, hw3⟩
            have HW := Lib.hid hw3
            have HP := Lib.hid (reverseRange_holds d1 a' b' hab' (by rw [hz1.out]; exact hb'))
            clear hI hw3
            go_wp2_with fail
            go_meet
            case rel => exact ⟨b' - 1 - (x - a'), 1, _, by go_num, rfl, by omega, by omega, Lib.hid (HP.out.1.trans hz1.out), Lib.hid (HS2.out.trans HW.out), Lib.hid (HT1.out.perm HP.out (by rw [hz1.out]; exact hb'))⟩
          · have hh2z : ((h : Int) == 2) = false := by simp; omega
            go_wp2_with fail
            go_meet
            case rel => exact ⟨x, h, d1, rfl, rfl, hx1, hx2, hz1, HS2, HT1⟩
        case rest =>
        obtain ⟨x1, h1, d2, rfl, rfl, hx3, hx4, hz2, HS3, HT2⟩ := hcut
        clear HS2 HT1 hz1 HLT hh
        -- a part that may be sorted already
        go_upto_region 15 with fail
        go_cut [68] from 61 to 68 (fun v wx => ∃ q : Bool, v = .bool q ∧ Hid (SW w g off d2 wx))
        case first =>
          by_cases hh1 : h1 = 1
          · subst hh1
            cases wb <;> cases wp <;> (go_wp2_with fail; go_meet) <;> (case rel => exact ⟨_, rfl, HS3⟩)
          · have hh1z : ((h1 : Int) == 1) = false := by simp; omega
            cases wb <;> cases wp <;> (go_wp2_with fail; go_meet) <;> (case rel => exact ⟨_, rfl, HS3⟩)
        case rest =>
        obtain ⟨q, rfl, HS4⟩ := hcut
        clear HS3
        go_upto_if 68 with fail
        go_cut [] from 69 to 72 (fun wx => ∃ d3 : Array Int, Hid (d3.size = len) ∧ Hid (SW w g off d3 wx) ∧ Hid (Todo a b d a' b' d3))
        case first =>
          cases q
          · go_wp2_with fail
            go_meet
            case rel => exact ⟨d2, hz2, HS4, HT2⟩
          · go_wp2_with fail
            have hI := pins_any g off cap a' b' d2 wc HS4.out.1 (by omega) (by rw [hz2.out]; exact hb') (by rw [hz2.out]; exact hsz)
            rw [hz2.out] at hI
            refine hI.mono ?_
            rintro e w3 ⟨rfl, hw3⟩
            have HW := Lib.hid hw3
            have HP := Lib.hid (partialInsertionSort_holds swo_ltInt d2 a' b' (by omega) (by rw [hz2.out]; exact hb') HT2.out.2.1)
            clear hI hw3
            cases hr : (partialInsertionSort ltInt d2 a' b').2
            · have HR := Lib.hid hr
              clear hr
              go_wp2_with fail
              go_meet
              case rel => exact ⟨_, Lib.hid (HP.out.1.1.trans hz2.out), Lib.hid (HS4.out.trans HW.out), Lib.hid (HT2.out.perm HP.out.1 (by rw [hz2.out]; exact hb'))⟩
            · have HR := Lib.hid hr
              clear hr
              go_wp2_with fail
              all_goals (try simp only [Exit.inBlock, Exit.then])
              all_goals refine bodyPost_ret (results_none rfl _ _ _) rfl ?_
              obtain ⟨d', q⟩ := FINI.out d2 _ wc w3 a' b' HT2 HS4 HP.out.1 (HP.out.2 HR.out) HW.out
              exact ⟨d', rfl, q⟩
        case rest =>
        obtain ⟨d3, hz3, HS5, HT3⟩ := hcut
        clear HS4 HT2 hz2
        go_upto_region 17 with fail
        go_cut [87] from 73 to 87 (fun v wx => ∃ q2 : Bool, v = .bool q2 ∧ Hid (q2 = true → 0 < a' ∧ ltInt d3[a' - 1]! d3[x1]! = false) ∧ Hid (SW w g off d3 wx))
        case first =>
          obtain ⟨G, HG, hc, hf⟩ := HS5.out.fam hz3.out
          by_cases ha0 : a' = 0
          · subst ha0
            go_wp2_with fail
            go_quiet ((go_at_call 130; exact Calls.quiet_of_same (less_q _ _ _)))
            go_wp2_with fail
            go_meet
            case rel => exact ⟨false, rfl, Lib.hid (by simp), Lib.hid (HS5.out.drewN _)⟩
          · have ha0z : (a' : Int) > 0 := by omega
            have ha0n : 0 < a' := by omega
            go_wp2_with fail
            go_big_quiet (first | (go_at_call 130; refine Calls.quiet_of_same (less_q _ _ _)))
            go_wp2_with fail
            go_meet
            case rel => exact ⟨_, rfl, Lib.hid (fun h => ⟨by omega, by rw [← HG.out, ← HG.out]; simpa using h⟩), Lib.hid (HS5.out.drewN _)⟩
        case rest =>
        obtain ⟨q2, rfl, HQ, HS6⟩ := hcut
        clear HS5
        have hz3' : b' ≤ d3.size := by rw [hz3.out]; exact hb'
        have HZ := Lib.hid hz3'
        clear hz3'
        cases q2
        · -- two parts
          obtain ⟨m, d4, e1, e2, hm1, hm2, hz4, hBl, hBr, hL, hR⟩ := HT3.out.part hx3 hx4 HZ.out
          have E1 := Lib.hid e1
          have E2 := Lib.hid e2
          have BL := Lib.hid hBl
          have BR := Lib.hid hBr
          have TL := Lib.hid hL
          have TR := Lib.hid hR
          have hz4' : Hid (d4.size = len) := Lib.hid (hz4.trans hz3.out)
          clear e1 e2 hBl hBr hL hR hz4 HQ HT3
          go_wp2_with fail
          have hI := part_any g off cap a' b' x1 d3 wc HS6.out.1 hx3 hx4 HZ.out (by rw [hz3.out]; exact hsz)
          rw [hz3.out, E1.out, E2.out] at hI
          refine hI.mono ?_
          rintro e w3 ⟨rfl, hw3⟩
          have HS7 := Lib.hid (HS6.out.trans hw3)
          clear hI hw3 HS6 E1 E2 HZ hz3
          have HLT : Hid (g < w3.heap.size) := Lib.hid (HGW.out _ _ HS7.out)
          generalize (partition ltInt d3 a' b' x1).2.1 = ap
          by_cases hlr : m - a' < b' - m
          · have hlrz : decide ((m : Int) - (a' : Int) < (b' : Int) - (m : Int)) = true := decide_eq_true (by omega)
            go_wp2_with fail
            have hI := IH.out g off cap a' m l1 d4 w3 (by omega) HS7.out.1 HLT.out hm1 (by rw [hz4'.out]; omega) (by rw [hz4'.out]; exact hsz) hl1 BL.out
            rw [hz4'.out] at hI
            refine hI.mono ?_
            rintro e w4 ⟨R, rfl, hp, hs, hw4⟩
            have HS8 := Lib.hid (HS7.out.trans hw4)
            have HT8 := Lib.hid (TL.out R hp hs)
            have hzR : Hid (R.size = len) := Lib.hid (hp.1.trans hz4'.out)
            clear hI hp hs hw4
            go_wp2_with fail
            go_roundw
            case rel => exact ⟨m + 1, b', l1, _, ap, R, by go_num, rfl, rfl, rfl, rfl, by omega, hb', by omega, hl1, hzR, HS8, HT8⟩
            case measure => simp [iof] <;> omega
          · have hlrz : decide ((m : Int) - (a' : Int) < (b' : Int) - (m : Int)) = false := decide_eq_false (by omega)
            go_wp2_with fail
            have hI := IH.out g off cap (m + 1) b' l1 d4 w3 (by omega) HS7.out.1 HLT.out (by omega) (by rw [hz4'.out]; omega) (by rw [hz4'.out]; exact hsz) hl1 BR.out
            rw [hz4'.out] at hI
            have em : ((m + 1 : Nat) : Int) = (m : Int) + 1 := by omega
            rw [em] at hI
            refine hI.mono ?_
            rintro e w4 ⟨R, rfl, hp, hs, hw4⟩
            have HS8 := Lib.hid (HS7.out.trans hw4)
            have HT8 := Lib.hid (TR.out R hp hs)
            have hzR : Hid (R.size = len) := Lib.hid (hp.1.trans hz4'.out)
            clear hI hp hs hw4 em
            go_wp2_with fail
            go_roundw
            case rel => exact ⟨a', m, l1, _, ap, R, rfl, rfl, rfl, rfl, rfl, hm1, by omega, by omega, hl1, hzR, HS8, HT8⟩
            case measure => simp [iof] <;> omega
        · -- none is less than what stands ahead: those that are alike
          obtain ⟨ha1, hle⟩ := HQ.out rfl
          obtain ⟨q1, q3, hT⟩ := HT3.out.eq ha1 hx3 hx4 HZ.out hle
          obtain ⟨m, hm⟩ : ∃ m, (partitionEqual ltInt d3 a' b' x1).1 = m := ⟨_, rfl⟩
          rw [hm] at q1 q3 hT
          have HT7 := Lib.hid hT
          have HM := Lib.hid hm
          clear hT HQ hle hm
          go_wp2_with fail
          have hI := peq_any g off cap a' b' x1 d3 wc HS6.out.1 hx3 hx4 HZ.out (by rw [hz3.out]; exact hsz)
          rw [hz3.out, HM.out] at hI
          refine hI.mono ?_
          rintro e w3 ⟨rfl, hw3⟩
          have HS7 := Lib.hid (HS6.out.trans hw3)
          have hz7 : Hid ((partitionEqual ltInt d3 a' b' x1).2.size = len) := Lib.hid (HT7.out.1.trans (HT3.out.1.symm.trans hz3.out))
          clear hI hw3
          go_wp2_with fail
          go_roundw
          case rel => exact ⟨m, b', l1, wb, wp, _, rfl, rfl, rfl, rfl, rfl, q3, hb', by omega, hl1, hz7, HS7, HT7⟩
          case measure => simp [iof] <;> omega
theorem sort_any (g off cap : Nat) (d : Array Int) (w : World) (hH : Holds u16 w g off d) (hg : g < w.heap.size) (hsz : d.size < 1000000) :
    Calls Try.prog 111 #[.slice (some ⟨g, off, none⟩) d.size cap] w fun e w' => ∃ d', e = .returned (.tuple #[]) ∧ PermIn 0 d.size d d' ∧ SortedIn ltInt 0 d.size d' ∧ SW w g off d' w' := by
  have hlen := Try.bits_Len (d.size : Int) w (by omega) (by omega)
  have hl : Lib.bitLen ((d.size : Int).toNat) < 1000 := by
    rw [Int.toNat_natCast, bitLen_eq _ (by omega)]
    have := (bitsLen_le_iff d.size 60).2 (by omega)
    omega
  have hP := pdq_any (d.size + 1) g off cap 0 d.size (Lib.bitLen ((d.size : Int).toNat)) d w (by omega) hH hg (Nat.zero_le _) (Nat.le_refl _) (by omega) hl (Or.inl rfl)
  obtain ⟨len, hn⟩ : ∃ len, len = d.size := ⟨_, rfl⟩
  rw [← hn] at hsz hlen hl hP ⊢
  generalize Lib.bitLen ((len : Int).toNat) = bl at hlen hl hP
  have HP := Lib.hid hP
  have HN := Lib.hid hlen
  clear hP hlen hH hn
  go_enter Try.func111, Try.ntmps111
  go_wp2_with fail
  refine HN.out.mono ?_
  rintro e w1 ⟨rfl, rfl⟩
  go_wp2_with fail
  refine HP.out.mono ?_
  rintro e w2 ⟨d', rfl, hp, hs, hw⟩
  have HW := Lib.hid hw
  have HPP := Lib.hid hp
  have HSS := Lib.hid hs
  clear hw hp hs
  go_wp2_with fail
  go_end0
  exact ⟨d', rfl, HPP.out, HSS.out, HW.out⟩
end Go.Proofs.Ytednkcjmlpgipaa
