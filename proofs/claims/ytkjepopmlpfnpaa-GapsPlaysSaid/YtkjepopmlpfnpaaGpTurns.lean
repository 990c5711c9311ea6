/-
  GapsTurns: the walk.
-/
import Derived.Test.YtkjepopmlpfnpaaGpArg
namespace Go.Proofs.Ytkjepopmlpfnpaa
open Go.RowKit Go.Maps
set_option linter.unusedVariables false

theorem nat32 {n : Int} (h : (Lit.int .u32 n).wf = true) : ∃ m : Nat, n = m ∧ m < 4294967296 := by
  have := wf_u32 h
  exact ⟨n.toNat, by omega, by omega⟩
theorem len_lit {A : Option Addr} {n c m : Nat} (h : n = m) : (Ending.returned (.slice A n c)) = .returned (.slice A m c) := by rw [h]
set_option maxHeartbeats 4000000 in
theorem gapsTurns_main (c y : Nat) (A : Option Addr) (n cap : Nat) (l : List Nat) (W : World) (hc : c < 4294967296) (hy : y < 4294967296) (hl : l.length = n) (hcap : n ≤ cap) (hcm : cap ≤ maxLen) (hm : ∀ x ∈ l, x < 4294967296) (hr : Row W A (ns .u32 l)) :
    Calls Try.prog 5 #[.int .u32 (c : Int), .int .u32 (y : Int), .slice A n cap] W fun e w' => e = .returned (.bool true) ∧ Below W.heap.size W w' := by
  have HR := Lib.hid hr
  have HL := Lib.hid hl
  have HM := Lib.hid hm
  have HC := Lib.hid hc
  clear hr hl hm
  go_enter Try.func5, Try.ntmps5
  go_wp2_with fail
  refine (known_any W).mono ?_
  rintro e w1 ⟨rfl, hb1⟩
  have HB1 := Lib.hid hb1
  clear hb1
  by_cases hn : 300 < n
  · have hz : decide ((300 : Int) < (n : Int)) = true := decide_eq_true (by omega)
    clear hn hcap hcm hc hy
    go_wp2_with fail
    go_ret
    exact ⟨rfl, HB1.out⟩
  · have hz : decide ((300 : Int) < (n : Int)) = false := decide_eq_false (by omega)
    have hn3 : n ≤ 300 := by omega
    clear hn hcap hcm
    have hwc : IntKind.u32.wrap ((c : Int) + (y : Int)) = ((up c y : Nat) : Int) := wrap_add
    go_wp2_with fail
    refine (s_new c (Now.emp W w1 HB1.out) emp_fr hc).mono ?_
    rintro e w2 ⟨a, rfl, h2⟩
    have H2 := Lib.hid h2
    clear h2 hc
    go_wp2_with fail
    refine (s_new (up c y) H2.out (star_fr (PA_fr a _) emp_fr) (up_lt c y)).mono ?_
    rintro e w3 ⟨b, rfl, h3⟩
    have H3 : Hid (Now W w3 (star (PA a ⟨c, [], []⟩) (PA b ((⟨c, [], []⟩ : St).turn y)))) := Lib.hid h3.drop2.comm
    clear h3
    go_wp2_with fail
    go_loopw [28] (fun v28 wr => ∃ (k : Nat) (st : St), v28 = .int .i64 k ∧ k ≤ n ∧ Hid st.Ok ∧ Hid (Now W wr (star (PA a st) (PA b (st.turn y))))) (fun v28 _ => n - (iof v28).toNat)
    case atStart => exact ⟨0, ⟨c, [], []⟩, rfl, Nat.zero_le _, Lib.hid (new_ok c HC.out), H3⟩
    case round =>
      obtain ⟨k, st, rfl, hk, HOK, HN⟩ := hrel
      clear H3
      by_cases hlt : k < n
      · have hkl : k < l.length := by rw [HL.out]; exact hlt
        obtain ⟨d, rfl, hcd⟩ := (HR.out.below HN.out.below) k _ (ns_get hkl)
        have ht := HM.out (l.getD k 0) (by
          have : l.getD k 0 = l[k] := by simp [List.getD, hkl]
          rw [this]; exact List.getElem_mem hkl)
        generalize l.getD k 0 = t at hcd ht
        clear hkl
        have hw1 : IntKind.u32.wrap ((t : Int) + (y : Int)) = ((up t y : Nat) : Int) := wrap_add
        have hw2 : IntKind.u32.wrap ((t : Int) + 1) = ((up t 1 : Nat) : Int) := wrap_add (a := t) (b := 1)
        have hw3 : IntKind.u32.wrap (((up t y : Nat) : Int) + 1) = ((up (up t y) 1 : Nat) : Int) := wrap_add (a := up t y) (b := 1)
        have HAT := Lib.hid (add_turn y HOK.out.1 ht)
        have HOK2 := Lib.hid (add_ok HOK.out ht)
        have HHT := Lib.hid (has_turn (s := (st.add t).1) y HOK2.out.1 (up_lt t 1))
        have hu := up_lt t y
        have hv := up_lt t 1
        have hx := up_lt (up t y) 1
        rw [← up_comm t y 1] at HHT
        obtain ⟨⟨st2, r⟩, hp⟩ : ∃ p, st.add t = p := ⟨_, rfl⟩
        rw [hp] at HAT HOK2 HHT
        have C4 := Lib.hid (s_add t HN.out (PA_fr b _) ht)
        rw [hp] at C4
        simp only at HAT HOK2 HHT C4
        clear hp
        generalize up (up t y) 1 = x at hw3 hx HHT
        generalize up t 1 = v at hw2 hv HHT
        generalize up t y = u at hw1 hw3 hu HAT
        obtain ⟨q, hq⟩ : ∃ q, st2.has v = q := ⟨_, rfl⟩
        rw [hq] at HHT
        have HQ := Lib.hid hq
        clear hq
        go_wp2_with fail
        refine C4.out.mono ?_
        rintro e w4 ⟨rfl, h4⟩
        have H4 := Lib.hid h4
        clear h4 C4
        have C5 := Lib.hid (s_add u H4.out.comm (PA_fr a _) hu)
        rw [HAT.out] at C5
        simp only at C5
        go_wp2_with fail
        refine C5.out.mono ?_
        rintro e w5 ⟨rfl, h5⟩
        have H5 := Lib.hid h5.comm
        clear h5 C5
        have C6 := Lib.hid (s_has v H5.out (PA_fr b _) hv)
        rw [HQ.out] at C6
        go_wp2_with fail
        refine C6.out.mono ?_
        rintro e w6 ⟨rfl, h6⟩
        have H6 := Lib.hid h6
        clear h6 C6
        have C7 := Lib.hid (s_has x H6.out.comm (PA_fr a _) hx)
        rw [HHT.out] at C7
        go_wp2_with fail
        refine C7.out.mono ?_
        rintro e w7 ⟨rfl, h7⟩
        have H7 := Lib.hid h7.comm
        clear h7 C7
        go_wp2_with fail
        go_roundw
        case rel => exact ⟨k + 1, st2, by go_num, by omega, HOK2, H7⟩
        case measure => simp [iof] <;> omega
      · have HNR : Hid (Row wr A (ns .u32 l)) := Lib.hid (HR.out.below HN.out.below)
        have C1 := Lib.hid (s_dups HN.out (PA_fr b _))
        obtain ⟨⟨cm, ws, ds⟩, hst⟩ : ∃ p, st = p := ⟨_, rfl⟩
        subst hst
        simp only at C1
        have hds : ds.length ≤ 16 := HOK.out.2.2.1
        obtain ⟨m, hm⟩ : ∃ m, ds.length = m := ⟨_, rfl⟩
        rw [hm] at C1 hds
        have HMD := Lib.hid hm
        clear hm
        go_wp2_with fail
        refine C1.out.mono ?_
        rintro e w4 ⟨B, cb, rfl, h4⟩
        have H4 := Lib.hid h4.comm
        clear h4 C1
        have C2 := Lib.hid (s_dups H4.out (RA_fr (PA_fr a _)))
        have e2 : ((⟨cm, ws, ds⟩ : St).turn y).ds = ds.map (up · y) := rfl
        rw [e2, List.length_map, HMD.out] at C2
        clear e2
        go_wp2_with fail
        refine C2.out.mono ?_
        rintro e w5 ⟨D, cd, rfl, h5⟩
        have HRX : Hid (Row w5 B (ns .u32 ds)) := Lib.hid h5.comm.row
        have HRY : Hid (Row w5 D (ns .u32 (ds.map (up · y)))) := Lib.hid h5.row
        have H5 : Hid (Now W w5 (star (PA a ⟨cm, ws, []⟩) (PA b ⟨up cm y, ws, []⟩))) := Lib.hid h5.unrow.comm.unrow
        clear h5 C2
        go_wp2_with fail
        go_loop [66] (fun v66 => ∃ j : Nat, v66 = .int .i64 j ∧ j ≤ m) (fun v66 => m - (iof v66).toNat)
        case atStart => exact ⟨0, rfl, Nat.zero_le _⟩
        case round =>
          obtain ⟨j, rfl, hj⟩ := hrel
          by_cases hjm : j < m
          · have hjl : j < ds.length := by rw [HMD.out]; exact hjm
            have hjl2 : j < (ds.map (up · y)).length := by simp; exact hjl
            obtain ⟨x, rfl, hcx⟩ := HRX.out j _ (ns_get hjl)
            obtain ⟨z, rfl, hcz⟩ := HRY.out j _ (ns_get hjl2)
            have hez : (ds.map (up · y)).getD j 0 = up (ds.getD j 0) y := by simp [List.getD, hjl]
            rw [hez] at hcz
            clear hez hjl hjl2
            generalize ds.getD j 0 = t at hcx hcz
            have hw1 : IntKind.u32.wrap ((t : Int) + (y : Int)) = ((up t y : Nat) : Int) := wrap_add
            generalize up t y = u at hw1 hcz
            go_wp2_with fail
            go_round
            case rel => exact ⟨j + 1, by go_num, by omega⟩
            case measure => simp [iof] <;> omega
          · have hw1 : IntKind.u32.wrap ((cm : Int) + (y : Int)) = ((up cm y : Nat) : Int) := wrap_add
            have C3 := Lib.hid (s_cum H5.out)
            have C4 := Lib.hid (s_cum H5.out.comm)
            have C5 := Lib.hid (s_gaps H5.out (PA_fr b _))
            simp only at C3 C4
            generalize up cm y = v at hw1 H5 C4 C5
            go_wp2_with fail
            refine C3.out.mono ?_
            rintro e w ⟨rfl, rfl⟩
            go_wp2_with fail
            refine C4.out.mono ?_
            rintro e w ⟨rfl, rfl⟩
            go_wp2_with fail
            refine C5.out.mono ?_
            rintro e w6 ⟨E, ce, rfl, hr6, hb6, h6⟩
            have H6 := Lib.hid h6
            have HR6 := Lib.hid hr6
            clear h6 hr6 C3 C4 C5 hb6
            have C6 := Lib.hid (s_gaps H6.out.comm (PA_fr a _))
            have eg : (⟨v, ws, []⟩ : St).gaps = (⟨cm, ws, []⟩ : St).gaps := rfl
            rw [eg] at C6
            have hgl := gaps_len (⟨cm, ws, []⟩ : St)
            obtain ⟨gl, hgl2⟩ : ∃ gl, (⟨cm, ws, []⟩ : St).gaps = gl := ⟨_, rfl⟩
            rw [hgl2] at C6 hgl HR6 ⊢
            clear eg hgl2
            obtain ⟨p, hp⟩ : ∃ p, gl.length = p := ⟨_, rfl⟩
            rw [hp] at C6 hgl ⊢
            have HP := Lib.hid hp
            clear hp
            go_wp2_with fail
            refine C6.out.mono ?_
            rintro e w7 ⟨G, cg, rfl, hr7, hb7, h7⟩
            have HR7 := Lib.hid hr7
            have H7 := Lib.hid h7
            have HR67 := Lib.hid (HR6.out.below hb7)
            clear hr7 h7 hb7 C6
            go_wp2_with fail
            refine (sgaps_same E G p ce cg gl w7 HP.out (by omega) HR67.out HR7.out).mono ?_
            rintro e w8 ⟨rfl, hb8⟩
            have HB8 := Lib.hid (bnext H7.out.below hb8)
            clear hb8
            go_wp2_with fail
            go_ret
            exact ⟨rfl, HB8.out⟩
theorem gapsTurns_walk (c y : Int) (A : Option Addr) (n cap : Nat) (zs : List Int) (W : World) (hc : (Lit.int .u32 c).wf = true) (hy : (Lit.int .u32 y).wf = true) (hr : IsRow .u32 W A n cap zs) :
    Calls Try.prog 5 #[.int .u32 c, .int .u32 y, .slice A n cap] W fun e w' => e = .returned (.bool true) ∧ Below W.heap.size W w' := by
  obtain ⟨c, rfl, hc2⟩ := nat32 hc
  obtain ⟨y, rfl, hy2⟩ := nat32 hy
  obtain ⟨l, hl, h1, h2, hm, hrow, _⟩ := isrow_nats 4294967296 (fun n hn => wf_u32 hn) hr
  exact gapsTurns_main c y A n cap l W hc2 hy2 hl h1 h2 hm hrow
end Go.Proofs.Ytkjepopmlpfnpaa
