/-
  What the document's May does.
-/
import Derived.Test.YtbliipjiilmbcaaYP1b
import Derived.IntWalk
namespace Go.Proofs.Ytbliipjiilmbcaa
open Go.RowKit Wire Tlv Chunk

def okB (c : Ck) (s : Ls) : Bool :=
  ((((((((decide (c.fl ≤ flg c.kd)) && (hs c.kd % 2 == 1 || c.tsn == 0)) && (hs c.kd / 2 % 2 == 1 || c.rw == 0)) && (hs c.kd / 4 % 2 == 1 || s.dn == 0)) && (hs c.kd / 8 % 2 == 1 || ((c.sid == 0 && c.ssn == 0) && c.ppid == 0))) &&
    (hs c.kd / 16 % 2 == 1 || (((c.tag == 0 && c.out == 0) && c.inn == 0) && s.an == 0))) && (hs c.kd / 32 % 2 == 1 || (s.gn == 0 && s.un == 0))) && (hs c.kd / 64 % 2 == 1 || s.cn == 0))
theorem hs_bits (k : Nat) : (hs k % 2 = 1 ↔ hTsn k) ∧ (hs k / 2 % 2 = 1 ↔ hRw k) ∧ (hs k / 4 % 2 = 1 ↔ hDa k) ∧ (hs k / 8 % 2 = 1 ↔ hPc k) ∧ (hs k / 16 % 2 = 1 ↔ hIn k) ∧ (hs k / 32 % 2 = 1 ↔ hGp k) ∧ (hs k / 64 % 2 = 1 ↔ hCa k) := by
  simp only [hTsn, hRw, hDa, hPc, hIn, hGp, hCa]
  unfold hs
  repeat' split
  all_goals omega
theorem hs_le (k : Nat) : hs k ≤ 64 := by
  unfold hs
  repeat' split
  all_goals omega
def moreB (c : Ck) (s : Ls) : Bool := ((((!okB c s) || decide (3 < s.an)) || decide (64 < s.gn)) || decide (16 < s.un)) || ((c.kd == 0 || c.kd == 2) && s.dn == 0)
theorem fits_more {c : Ck} {s : Ls} (hz : Lz c s) : Fits c ↔ moreB c s = false := by
  have h1 := hz.d
  have h2 := hz.a
  have h3 := hz.g
  have h4 := hz.u
  have h5 := hz.c
  obtain ⟨b1, b2, b3, b4, b5, b6, b7⟩ := hs_bits c.kd
  simp only [moreB, okB, Bool.or_eq_false_iff, Bool.not_eq_false', Bool.and_eq_true, Bool.or_eq_true, beq_iff_eq, decide_eq_true_eq, decide_eq_false_iff_not, Bool.and_eq_false_iff, beq_eq_false_iff_ne, ne_eq, b1, b2, b3, b4, b5, b6, b7]
  constructor
  · rintro ⟨f1, f2, f3, f4, f5, f6, f7, f8, f9, f10, f11, f12⟩
    refine ⟨⟨⟨⟨⟨⟨⟨⟨⟨⟨⟨f1, f2⟩, f3⟩, ?_⟩, ?_⟩, ?_⟩, ?_⟩, ?_⟩, ?_⟩, ?_⟩, ?_⟩, ?_⟩
    · exact f4.imp id (by omega)
    · exact f5.imp id (fun h => ⟨⟨h.1, h.2.1⟩, h.2.2⟩)
    · exact f6.imp id (fun h => ⟨⟨⟨h.1, h.2.1⟩, h.2.2.1⟩, by omega⟩)
    · exact f7.imp id (by omega)
    · exact f8.imp id (by omega)
    all_goals omega
  · rintro ⟨⟨⟨⟨⟨⟨⟨⟨⟨⟨⟨f1, f2⟩, f3⟩, f4⟩, f5⟩, f6⟩, f7⟩, f8⟩, f9⟩, f10⟩, f11⟩, f12⟩
    refine ⟨f1, f2, f3, f4.imp id (by omega), f5.imp id (fun h => ⟨h.1.1, h.1.2, h.2⟩), f6.imp id (fun h => ⟨h.1.1.1, h.1.1.2, h.1.2, by omega⟩), f7.imp id (by omega), f8.imp id (by omega), ?_, ?_, ?_, ?_⟩
    all_goals omega
theorem rmay_B {c : Ck} {s : Ls} (hz : Lz c s) : mayB c = (!moreB c s && apart 0 c.ga) := by
  by_cases h : may c
  · rw [mayB_true h, (fits_more hz).1 h.1, h.2]
    rfl
  · rw [mayB_false h]
    symm
    rw [Bool.eq_false_iff]
    intro hf
    simp only [Bool.and_eq_true, Bool.not_eq_true'] at hf
    exact h ⟨(fits_more hz).2 hf.1, hf.2⟩
set_option maxRecDepth 100000 in
set_option maxHeartbeats 4000000 in
theorem rfMay_any (c : Ck) (s : Ls) (w : World) (h : Ch w c s) :
    Calls Try.prog 39 #[.agg (cv c s)] w fun e w' => e = .returned (.bool (mayB c)) ∧ Below w.heap.size w w' := by
  have HU : Hid (U1 w (cv c s) _) := Lib.hid (U1.new w (cv c s))
  rw [rmay_B h.z]
  have HH := Lib.hid fun W => rfHas_any c.kd W
  have HFL := Lib.hid fun W => rfFlags_any c.kd W
  have hH := hs_le c.kd
  have d1 : decide (c.fl ≤ flg c.kd) = decide (c.fl ≤ flg c.kd) := rfl
  obtain ⟨o1, ho1⟩ : ∃ b, decide (c.fl ≤ flg c.kd) = b := ⟨_, rfl⟩
  obtain ⟨p1, hp1⟩ : ∃ b, (hs c.kd % 2 == 1) = b := ⟨_, rfl⟩
  obtain ⟨p2, hp2⟩ : ∃ b, (hs c.kd / 2 % 2 == 1) = b := ⟨_, rfl⟩
  obtain ⟨p3, hp3⟩ : ∃ b, (hs c.kd / 4 % 2 == 1) = b := ⟨_, rfl⟩
  obtain ⟨p4, hp4⟩ : ∃ b, (hs c.kd / 8 % 2 == 1) = b := ⟨_, rfl⟩
  obtain ⟨p5, hp5⟩ : ∃ b, (hs c.kd / 16 % 2 == 1) = b := ⟨_, rfl⟩
  obtain ⟨p6, hp6⟩ : ∃ b, (hs c.kd / 32 % 2 == 1) = b := ⟨_, rfl⟩
  obtain ⟨p7, hp7⟩ : ∃ b, (hs c.kd / 64 % 2 == 1) = b := ⟨_, rfl⟩
  obtain ⟨q1_0, hq1_0⟩ : ∃ b, (c.tsn == 0) = b := ⟨_, rfl⟩
  obtain ⟨q2_0, hq2_0⟩ : ∃ b, (c.rw == 0) = b := ⟨_, rfl⟩
  obtain ⟨q3_0, hq3_0⟩ : ∃ b, (s.dn == 0) = b := ⟨_, rfl⟩
  obtain ⟨q4_0, hq4_0⟩ : ∃ b, (c.sid == 0) = b := ⟨_, rfl⟩
  obtain ⟨q4_1, hq4_1⟩ : ∃ b, (c.ssn == 0) = b := ⟨_, rfl⟩
  obtain ⟨q4_2, hq4_2⟩ : ∃ b, (c.ppid == 0) = b := ⟨_, rfl⟩
  obtain ⟨q5_0, hq5_0⟩ : ∃ b, (c.tag == 0) = b := ⟨_, rfl⟩
  obtain ⟨q5_1, hq5_1⟩ : ∃ b, (c.out == 0) = b := ⟨_, rfl⟩
  obtain ⟨q5_2, hq5_2⟩ : ∃ b, (c.inn == 0) = b := ⟨_, rfl⟩
  obtain ⟨q5_3, hq5_3⟩ : ∃ b, (s.an == 0) = b := ⟨_, rfl⟩
  obtain ⟨q6_0, hq6_0⟩ : ∃ b, (s.gn == 0) = b := ⟨_, rfl⟩
  obtain ⟨q6_1, hq6_1⟩ : ∃ b, (s.un == 0) = b := ⟨_, rfl⟩
  obtain ⟨q7_0, hq7_0⟩ : ∃ b, (s.cn == 0) = b := ⟨_, rfl⟩
  obtain ⟨k0, hk0⟩ : ∃ b, (c.kd == 0) = b := ⟨_, rfl⟩
  obtain ⟨k2, hk2⟩ : ∃ b, (c.kd == 2) = b := ⟨_, rfl⟩
  obtain ⟨m1, hm1⟩ : ∃ b, decide (3 < s.an) = b := ⟨_, rfl⟩
  obtain ⟨m2, hm2⟩ : ∃ b, decide (64 < s.gn) = b := ⟨_, rfl⟩
  obtain ⟨m3, hm3⟩ : ∃ b, decide (16 < s.un) = b := ⟨_, rfl⟩
  have hmore : moreB c s = ((((!(((((((o1 && (p1 || q1_0)) && (p2 || q2_0)) && (p3 || q3_0)) && (p4 || ((q4_0 && q4_1) && q4_2))) && (p5 || (((q5_0 && q5_1) && q5_2) && q5_3))) && (p6 || (q6_0 && q6_1))) && (p7 || q7_0)) || m1) || m2) || m3) || ((k0 || k2) && q3_0)) := by
    simp only [moreB, okB, ho1, hp1, hp2, hp3, hp4, hp5, hp6, hp7, hq1_0, hq2_0, hq3_0, hq4_0, hq4_1, hq4_2, hq5_0, hq5_1, hq5_2, hq5_3, hq6_0, hq6_1, hq7_0, hk0, hk2, hm1, hm2, hm3]
  have e1 : decide ((c.fl : Int) ≤ (flg c.kd : Nat)) = o1 := by rw [← ho1]; simp
  have ep1 : ((hs c.kd : Int) % 2 == 1) = p1 := by rw [← hp1, Bool.eq_iff_iff]; simp; omega
  have ep2 : ((hs c.kd : Int) / 2 % 2 == 1) = p2 := by rw [← hp2, Bool.eq_iff_iff]; simp; omega
  have ep3 : ((hs c.kd : Int) / 4 % 2 == 1) = p3 := by rw [← hp3, Bool.eq_iff_iff]; simp; omega
  have ep4 : ((hs c.kd : Int) / 8 % 2 == 1) = p4 := by rw [← hp4, Bool.eq_iff_iff]; simp; omega
  have ep5 : ((hs c.kd : Int) / 16 % 2 == 1) = p5 := by rw [← hp5, Bool.eq_iff_iff]; simp; omega
  have ep6 : ((hs c.kd : Int) / 32 % 2 == 1) = p6 := by rw [← hp6, Bool.eq_iff_iff]; simp; omega
  have ep7 : ((hs c.kd : Int) / 64 % 2 == 1) = p7 := by rw [← hp7, Bool.eq_iff_iff]; simp; omega
  have eq1_0 : ((c.tsn : Int) == 0) = q1_0 := by rw [← hq1_0, Bool.eq_iff_iff]; simp
  have eq2_0 : ((c.rw : Int) == 0) = q2_0 := by rw [← hq2_0, Bool.eq_iff_iff]; simp
  have eq3_0 : ((s.dn : Int) == 0) = q3_0 := by rw [← hq3_0, Bool.eq_iff_iff]; simp
  have eq4_0 : ((c.sid : Int) == 0) = q4_0 := by rw [← hq4_0, Bool.eq_iff_iff]; simp
  have eq4_1 : ((c.ssn : Int) == 0) = q4_1 := by rw [← hq4_1, Bool.eq_iff_iff]; simp
  have eq4_2 : ((c.ppid : Int) == 0) = q4_2 := by rw [← hq4_2, Bool.eq_iff_iff]; simp
  have eq5_0 : ((c.tag : Int) == 0) = q5_0 := by rw [← hq5_0, Bool.eq_iff_iff]; simp
  have eq5_1 : ((c.out : Int) == 0) = q5_1 := by rw [← hq5_1, Bool.eq_iff_iff]; simp
  have eq5_2 : ((c.inn : Int) == 0) = q5_2 := by rw [← hq5_2, Bool.eq_iff_iff]; simp
  have eq5_3 : ((s.an : Int) == 0) = q5_3 := by rw [← hq5_3, Bool.eq_iff_iff]; simp
  have eq6_0 : ((s.gn : Int) == 0) = q6_0 := by rw [← hq6_0, Bool.eq_iff_iff]; simp
  have eq6_1 : ((s.un : Int) == 0) = q6_1 := by rw [← hq6_1, Bool.eq_iff_iff]; simp
  have eq7_0 : ((s.cn : Int) == 0) = q7_0 := by rw [← hq7_0, Bool.eq_iff_iff]; simp
  have ek0 : ((c.kd : Int) == 0) = k0 := by rw [← hk0, Bool.eq_iff_iff]; simp
  have ek2 : ((c.kd : Int) == 2) = k2 := by rw [← hk2, Bool.eq_iff_iff]; simp; omega
  have em1 : decide ((3 : Int) < (s.an : Int)) = m1 := by rw [← hm1, Bool.eq_iff_iff]; simp; omega
  have em2 : decide ((64 : Int) < (s.gn : Int)) = m2 := by rw [← hm2, Bool.eq_iff_iff]; simp; omega
  have em3 : decide ((16 : Int) < (s.un : Int)) = m3 := by rw [← hm3, Bool.eq_iff_iff]; simp; omega
  have HO1 := Lib.hid ho1
  clear ho1 hp1 hp2 hp3 hp4 hp5 hp6 hp7 hq1_0 hq2_0 hq3_0 hq4_0 hq4_1 hq4_2 hq5_0 hq5_1 hq5_2 hq5_3 hq6_0 hq6_1 hq7_0 hk0 hk2 hm1 hm2 hm3 d1
  rw [hmore]
  clear hmore
  have HGL := Lib.hid h.z.g
  have HGR := Lib.hid h.gr
  have HGO := Lib.hid h.ok.ga
  have hgm := h.z.gm
  clear h
  generalize hs c.kd = H at *
  obtain ⟨o2, ho2⟩ : ∃ b, (o1 && (p1 || q1_0)) = b := ⟨_, rfl⟩
  rw [ho2]
  have HO2 := Lib.hid ho2
  clear ho2
  obtain ⟨o3, ho3⟩ : ∃ b, (o2 && (p2 || q2_0)) = b := ⟨_, rfl⟩
  rw [ho3]
  have HO3 := Lib.hid ho3
  clear ho3
  obtain ⟨o4, ho4⟩ : ∃ b, (o3 && (p3 || q3_0)) = b := ⟨_, rfl⟩
  rw [ho4]
  have HO4 := Lib.hid ho4
  clear ho4
  obtain ⟨o5, ho5⟩ : ∃ b, (o4 && (p4 || ((q4_0 && q4_1) && q4_2))) = b := ⟨_, rfl⟩
  rw [ho5]
  have HO5 := Lib.hid ho5
  clear ho5
  obtain ⟨o6, ho6⟩ : ∃ b, (o5 && (p5 || (((q5_0 && q5_1) && q5_2) && q5_3))) = b := ⟨_, rfl⟩
  rw [ho6]
  have HO6 := Lib.hid ho6
  clear ho6
  obtain ⟨o7, ho7⟩ : ∃ b, (o6 && (p6 || (q6_0 && q6_1))) = b := ⟨_, rfl⟩
  rw [ho7]
  have HO7 := Lib.hid ho7
  clear ho7
  obtain ⟨o8, ho8⟩ : ∃ b, (o7 && (p7 || q7_0)) = b := ⟨_, rfl⟩
  rw [ho8]
  have HO8 := Lib.hid ho8
  clear ho8
  obtain ⟨mm, hmm⟩ : ∃ b, ((((!o8 || m1) || m2) || m3) || ((k0 || k2) && q3_0)) = b := ⟨_, rfl⟩
  rw [hmm]
  have HMM := Lib.hid hmm
  clear hmm
  go_enter Try.func39, Try.ntmps39
  go_upto_region 1 with fail
  generalize World.alloc w _ = W1 at HU ⊢
  have hlt := HU.out.1.lt
  have g0 := HU.out.1.c0
  have g1 := HU.out.1.c1
  have g2 := HU.out.1.c2
  have g3 := HU.out.1.c3
  have g4 := HU.out.1.c4
  have g5 := HU.out.1.c5
  have g6 := HU.out.1.c6
  have g7 := HU.out.1.c7
  have g8 := HU.out.1.c8
  have g9 := HU.out.1.c9
  have g10 := HU.out.1.c10
  have g11 := HU.out.1.c11
  have g12 := HU.out.1.c12
  have g13 := HU.out.1.c13
  have g14 := HU.out.1.c14
  go_upto_region 2 with ((with_reducible refine (HH.out _).mono ?_); rintro e w' ⟨rfl, rfl⟩)
  go_cut [4] from 10 to 15 (fun v4 W => v4 = .bool o1 ∧ ∃ q, W1.drewN q = W)
  case first =>
    go_quiet ((go_at_call 70; exact Calls.quiet_of_same ((HFL.out _).mono fun _ _ ⟨h1, h2⟩ => ⟨h1, h2.symm⟩)))
    go_wp2_with fail
    go_meet
    case rel => exact ⟨by rw [← HO1.out], _, rfl⟩
  case rest =>
  obtain ⟨rfl, q, hWW⟩ := hcut
  have hU : U1 w (cv c s) wc := by rw [← hWW]; exact ⟨HU.out.1.drewN _, below_drewN HU.out.2 _⟩
  clear hWW HU g0 g1 g2 g3 g4 g5 g6 g7 g8 g9 g10 g11 g12 g13 g14
  have HU := Lib.hid hU
  clear hU
  have g0 := HU.out.1.c0
  have g1 := HU.out.1.c1
  have g2 := HU.out.1.c2
  have g3 := HU.out.1.c3
  have g4 := HU.out.1.c4
  have g5 := HU.out.1.c5
  have g6 := HU.out.1.c6
  have g7 := HU.out.1.c7
  have g8 := HU.out.1.c8
  have g9 := HU.out.1.c9
  have g10 := HU.out.1.c10
  have g11 := HU.out.1.c11
  have g12 := HU.out.1.c12
  have g13 := HU.out.1.c13
  have g14 := HU.out.1.c14
  go_upto_region 3 with fail
  go_cut [4] from 16 to 26 (fun v4 W => v4 = .bool o2 ∧ W = wc)
  case first =>
    cases o1 <;> cases p1 <;> cases q1_0
    all_goals
      go_wp2_with fail
      go_meet
      case rel => exact ⟨by rw [← HO2.out]; rfl, rfl⟩
  case rest =>
  obtain ⟨rfl, rfl⟩ := hcut
  go_upto_region 4 with fail
  go_cut [4] from 27 to 38 (fun v4 W => v4 = .bool o3 ∧ W = wc)
  case first =>
    cases o2 <;> cases p2 <;> cases q2_0
    all_goals
      go_wp2_with fail
      go_meet
      case rel => exact ⟨by rw [← HO3.out]; rfl, rfl⟩
  case rest =>
  obtain ⟨rfl, rfl⟩ := hcut
  go_upto_region 5 with fail
  go_cut [4] from 39 to 51 (fun v4 W => v4 = .bool o4 ∧ W = wc)
  case first =>
    cases o3 <;> cases p3 <;> cases q3_0
    all_goals
      go_wp2_with fail
      go_meet
      case rel => exact ⟨by rw [← HO4.out]; rfl, rfl⟩
  case rest =>
  obtain ⟨rfl, rfl⟩ := hcut
  go_upto_region 6 with fail
  go_cut [4] from 52 to 73 (fun v4 W => v4 = .bool o5 ∧ W = wc)
  case first =>
    cases o4 <;> cases p4 <;> cases q4_0 <;> cases q4_1 <;> cases q4_2
    all_goals
      go_wp2_with fail
      go_meet
      case rel => exact ⟨by rw [← HO5.out]; rfl, rfl⟩
  case rest =>
  obtain ⟨rfl, rfl⟩ := hcut
  go_upto_region 7 with fail
  go_cut [4] from 74 to 101 (fun v4 W => v4 = .bool o6 ∧ W = wc)
  case first =>
    cases o5 <;> cases p5 <;> cases q5_0 <;> cases q5_1 <;> cases q5_2 <;> cases q5_3
    all_goals
      go_wp2_with fail
      go_meet
      case rel => exact ⟨by rw [← HO6.out]; rfl, rfl⟩
  case rest =>
  obtain ⟨rfl, rfl⟩ := hcut
  go_upto_region 8 with fail
  go_cut [4] from 102 to 120 (fun v4 W => v4 = .bool o7 ∧ W = wc)
  case first =>
    cases o6 <;> cases p6 <;> cases q6_0 <;> cases q6_1
    all_goals
      go_wp2_with fail
      go_meet
      case rel => exact ⟨by rw [← HO7.out]; rfl, rfl⟩
  case rest =>
  obtain ⟨rfl, rfl⟩ := hcut
  go_upto_region 9 with fail
  go_cut [4] from 121 to 133 (fun v4 W => v4 = .bool o8 ∧ W = wc)
  case first =>
    cases o7 <;> cases p7 <;> cases q7_0
    all_goals
      go_wp2_with fail
      go_meet
      case rel => exact ⟨by rw [← HO8.out]; rfl, rfl⟩
  case rest =>
  obtain ⟨rfl, rfl⟩ := hcut
  go_upto_region 10 with fail
  clear e1 ep1 ep2 ep3 ep4 ep5 ep6 ep7 HO2 HO3 HO4 HO5 HO6 HO7 HO8
  go_cut [169] from 134 to 168 (fun v W => v = .bool mm ∧ W = wc)
  case first =>
    cases o8
    · go_wp2_with fail
      go_meet
      case rel => exact ⟨by rw [← HMM.out]; rfl, rfl⟩
    · cases m1
      · cases m2
        · cases m3
          · cases k0 <;> cases k2 <;> cases q3_0
            all_goals
              go_wp2_with fail
              go_meet
              case rel => exact ⟨by rw [← HMM.out]; rfl, rfl⟩
          · go_wp2_with fail
            go_meet
            case rel => exact ⟨by rw [← HMM.out]; rfl, rfl⟩
        · go_wp2_with fail
          go_meet
          case rel => exact ⟨by rw [← HMM.out]; rfl, rfl⟩
      · go_wp2_with fail
        go_meet
        case rel => exact ⟨by rw [← HMM.out]; rfl, rfl⟩
  case rest =>
  obtain ⟨rfl, rfl⟩ := hcut
  clear HMM em1 em2 em3 ek0 ek2 g0 g1 g2 g3 g4 g5 g6 g7 g8 g9 g10 g11 g13 g14
  cases mm
  · have HGW := Lib.hid (HGR.out.below HU.out.2)
    go_wp2_with fail
    clear g12
    go_loopw [5] (fun i wr => ∃ (k e : Nat), k ≤ s.gn ∧ e < 65536 ∧ i = .int .i64 (k : Int) ∧ Hid (e = if k = 0 then 0 else (c.ga.getD (k - 1) (0, 0)).2) ∧ Hid (U1 w (cv c s) wr) ∧ Hid (apart 0 c.ga = apart e (c.ga.drop k))) (fun i _ => s.gn - (intOf i).toNat)
    case atStart => exact ⟨0, 0, by omega, by omega, rfl, Lib.hid rfl, HU, Lib.hid rfl⟩
    case round =>
      obtain ⟨k, e, hk, he, rfl, hpe, hu, hap⟩ := hrel
      have g12 := hu.out.1.c12
      by_cases hlt1 : k < s.gn
      · have hkl : k < c.ga.length := by rw [HGL.out]; exact hlt1
        obtain ⟨a, hA, k0, k1⟩ := gap_at (HGR.out.below hu.out.2) hkl
        have hg := HGO.out c.ga[k] (List.getElem_mem hkl)
        have hd : Hid (c.ga.drop k = c.ga[k] :: c.ga.drop (k + 1)) := Lib.hid (List.drop_eq_getElem_cons hkl)
        have hnx : Hid ((c.ga[k]).2 = if k + 1 = 0 then 0 else (c.ga.getD (k + 1 - 1) (0, 0)).2) := Lib.hid (by rw [if_neg (by omega), Nat.add_sub_cancel, List.getD_eq_getElem?_getD, List.getElem?_eq_getElem hkl]; rfl)
        have hpv : Hid (0 < k → ∃ j y, k = j + 1 ∧ wr.cell? (a.add (j * 2)) = some (.int .u16 (y : Int)) ∧ wr.cell? { block := (a.add (j * 2)).block, off := (a.add (j * 2)).off + 1 } = some (.int .u16 (e : Int))) := Lib.hid fun hp => by
          obtain ⟨j, rfl⟩ : ∃ j, k = j + 1 := ⟨k - 1, by omega⟩
          have hjl : j < c.ga.length := by omega
          obtain ⟨a', hA', j0, j1⟩ := gap_at (HGR.out.below hu.out.2) hjl
          rw [hA] at hA'
          injection hA' with hA'
          subst hA'
          refine ⟨j, _, rfl, j0, ?_⟩
          rw [j1, hpe.out, if_neg (by omega), Nat.add_sub_cancel, List.getD_eq_getElem?_getD, List.getElem?_eq_getElem hjl]
          rfl
        rw [hA] at g12
        generalize c.ga[k] = g at *
        obtain ⟨g1, g2⟩ := g
        simp only at k0 k1 hg hnx
        have HN1 : Hid (e + 2 ≤ g1 → g1 ≤ g2 → apart 0 c.ga = apart g2 (c.ga.drop (k + 1))) := Lib.hid fun h1 h2 => by rw [hap.out, hd.out]; simp [apart, h1, h2]
        have HN2 : Hid (¬ (e + 2 ≤ g1 ∧ g1 ≤ g2) → apart 0 c.ga = false) := Lib.hid fun h1 => by rw [hap.out, hd.out]; simp only [apart]; rw [decide_eq_false h1]; rfl
        clear hap hd
        by_cases h1 : e + 2 ≤ g1
        · by_cases h2 : g1 ≤ g2
          · have c1 : decide ((g1 : Int) < (e : Int) + 2) = false := by simp; omega
            have c2 : decide (g2 < g1) = false := by simp; omega
            have c2' : decide ((g2 : Int) < (g1 : Int)) = false := by simp; omega
            have HN := Lib.hid (HN1.out h1 h2)
            clear HN1 HN2 h1 h2
            rcases Nat.eq_zero_or_pos k with hk0 | hk0
            · have he0 : e = 0 := by rw [hpe.out, if_pos hk0]
              subst he0
              subst hk0
              have k0' : wr.cell? a = some (.int .u16 (g1 : Int)) := by simpa [Addr.add] using k0
              have k1' : wr.cell? { block := a.block, off := a.off + 1 } = some (.int .u16 (g2 : Int)) := by simpa [Addr.add] using k1
              clear hpv
              have c3 : decide ((g1 : Int) < 2) = false := by simpa using c1
              go_wp2_with fail
              go_quiet (fail)
              go_wp2_with fail
              go_roundw
              case rel => exact ⟨1, g2, by omega, by omega, rfl, hnx, Lib.hid ⟨hu.out.1.drewN _, below_drewN hu.out.2 _⟩, HN⟩
              case measure => simp [intOf]; omega
            · obtain ⟨j, y, rfl, j0, j1⟩ := hpv.out hk0
              clear hpv hk0
              have b0 : (0 : Int) ≤ (j : Int) + 1 := by omega
              have b1 : (j : Int) + 1 < (s.gn : Int) := by omega
              have b2 : ((j : Int) + 1).toNat = j + 1 := by omega
              have b3 : IntKind.i64.wrap ((e : Int) + 2) = (e : Int) + 2 := IntWalk.i64_in _ (by omega)
              go_wp2_with fail
              go_quiet (fail)
              go_wp2_with fail
              go_roundw
              case rel => exact ⟨j + 1 + 1, g2, by omega, by omega, by go_num, hnx, Lib.hid ⟨hu.out.1.drewN _, below_drewN hu.out.2 _⟩, HN⟩
              case measure => simp [intOf]; omega
          · have c1 : decide ((g1 : Int) < (e : Int) + 2) = false := by simp; omega
            have c2 : decide (g2 < g1) = true := by simp; omega
            have c2' : decide ((g2 : Int) < (g1 : Int)) = true := by simp; omega
            have HN := Lib.hid (HN2.out (by omega))
            clear HN1 HN2 h1 h2
            rcases Nat.eq_zero_or_pos k with hk0 | hk0
            · have he0 : e = 0 := by rw [hpe.out, if_pos hk0]
              subst he0
              subst hk0
              have k0' : wr.cell? a = some (.int .u16 (g1 : Int)) := by simpa [Addr.add] using k0
              have k1' : wr.cell? { block := a.block, off := a.off + 1 } = some (.int .u16 (g2 : Int)) := by simpa [Addr.add] using k1
              clear hpv
              have c3 : decide ((g1 : Int) < 2) = false := by simpa using c1
              go_wp2_with fail
              go_quiet (fail)
              go_wp2_with fail
              go_ret
              exact ⟨by rw [HN.out]; rfl, below_drewN hu.out.2 _⟩
            · obtain ⟨j, y, rfl, j0, j1⟩ := hpv.out hk0
              clear hpv hk0
              have b0 : (0 : Int) ≤ (j : Int) + 1 := by omega
              have b1 : (j : Int) + 1 < (s.gn : Int) := by omega
              have b2 : ((j : Int) + 1).toNat = j + 1 := by omega
              have b3 : IntKind.i64.wrap ((e : Int) + 2) = (e : Int) + 2 := IntWalk.i64_in _ (by omega)
              go_wp2_with fail
              go_quiet (fail)
              go_wp2_with fail
              go_ret
              exact ⟨by rw [HN.out]; rfl, below_drewN hu.out.2 _⟩
        · have c1 : decide ((g1 : Int) < (e : Int) + 2) = true := by simp; omega
          have HN := Lib.hid (HN2.out (by omega))
          clear HN1 HN2 h1
          rcases Nat.eq_zero_or_pos k with hk0 | hk0
          · have he0 : e = 0 := by rw [hpe.out, if_pos hk0]
            subst he0
            subst hk0
            have k0' : wr.cell? a = some (.int .u16 (g1 : Int)) := by simpa [Addr.add] using k0
            have k1' : wr.cell? { block := a.block, off := a.off + 1 } = some (.int .u16 (g2 : Int)) := by simpa [Addr.add] using k1
            clear hpv
            have c3 : decide ((g1 : Int) < 2) = true := by simpa using c1
            go_wp2_with fail
            go_quiet (fail)
            go_wp2_with fail
            go_ret
            exact ⟨by rw [HN.out]; rfl, below_drewN hu.out.2 _⟩
          · obtain ⟨j, y, rfl, j0, j1⟩ := hpv.out hk0
            clear hpv hk0
            have b0 : (0 : Int) ≤ (j : Int) + 1 := by omega
            have b1 : (j : Int) + 1 < (s.gn : Int) := by omega
            have b2 : ((j : Int) + 1).toNat = j + 1 := by omega
            have b3 : IntKind.i64.wrap ((e : Int) + 2) = (e : Int) + 2 := IntWalk.i64_in _ (by omega)
            go_wp2_with fail
            go_quiet (fail)
            go_wp2_with fail
            go_ret
            exact ⟨by rw [HN.out]; rfl, below_drewN hu.out.2 _⟩
      · have HN : Hid (apart 0 c.ga = true) := Lib.hid (by rw [hap.out, List.drop_of_length_le (by rw [HGL.out]; omega)]; rfl)
        clear hap
        go_wp2_with fail
        go_ret
        exact ⟨by rw [HN.out]; rfl, hu.out.2⟩
  · go_wp2_with fail
    go_ret
    exact ⟨rfl, HU.out.2⟩
end Go.Proofs.Ytbliipjiilmbcaa
