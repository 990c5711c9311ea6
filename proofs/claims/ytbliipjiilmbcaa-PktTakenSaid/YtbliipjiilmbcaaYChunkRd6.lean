/-
  The reader of layer 5: address, as it reads a parameter's value.
-/
import Derived.Test.YtbliipjiilmbcaaYChunkRd5
import Derived.Test.YtbliipjiilmbcaaYP1c
namespace Go.Proofs.Ytbliipjiilmbcaa
open Go.RowKit Wire Tlv Chunk

/-- A reader with nothing but what is left to read, written out. -/
abbrev rl0 (A : Option Addr) (n cp : Nat) : Array Value := #[.slice A n cp, .int .u8 0, .int .u8 0, .int .u32 0, .int .u32 0, .int .u32 0, .int .u16 0, .int .u16 0, .int .u16 0, .int .u16 0, .int .u32 0, .slice none 0 0, .slice none 0 0, .slice none 0 0, .slice none 0 0, .slice none 0 0, .bool false]
theorem rl0_bk (W : World) (A : Option Addr) (n cp : Nat) : Bk (W.alloc (.cells (rl0 A n cp) 65)) W.heap.size (rv A n cp zero nol false) 65 := Bk.new W (rv A n cp zero nol false) 65
def putA (s : Ls) (A : Option Addr) (n c : Nat) : Ls := { s with aA := A, an := n, ac := c }
theorem rv_ad (A : Option Addr) (n cap : Nat) (c : Ck) (s : Ls) (bad : Bool) (l : List Nat) (A' : Option Addr) (n' c' : Nat) : (rv A n cap c s bad).setIfInBounds 12 (.slice A' n' c') = rv A n cap { c with ad := l } (putA s A' n' c') bad := by simp [rv, putA]
/-- What address leaves. -/
def AdOut (w W0 : World) (b : Nat) (r : Rt) (s : Ls) (A : Option Addr) (n cap : Nat) (l : List Int) (W : World) (e : Ending) (W' : World) : Prop := e = .returned (.tuple #[]) ∧ ∃ aA ac v, Rr w b ⟨r.l, { r.c with ad := r.c.ad ++ [v] }, r.bad || decide (l.length ≠ 4)⟩ (putA s aA (s.an + 1) ac) A n cap W' ∧ (v = (⟨l, zero, false⟩ : Rt).n4.1 ∧ (l.length = 4 → v = nu l)) ∧ v < 4294967296 ∧
  W'.ownsRow W0.heap.size 27 1 (.slice aA (s.an + 1) ac) (s.an + 1) (us (r.c.ad ++ [v])) ∧ Ot W0 W' b ∧ (∀ v n xs, W.ownsRow W0.heap.size 5 1 v n xs → W'.ownsRow W0.heap.size 5 1 v n xs) ∧ KeepsOthers W W'
theorem Ot.others {W W' : World} {b : Nat} {cs : Array Value} {t : TypeId} (h : Ot W W' b) (hb : Bk W b cs t) : KeepsOthers W W' :=
  KeepsOthers.of_grownBy h (fun j o e ho => by
    injection e with e
    subst e
    rw [show W.heap[b]? = _ from hb] at ho
    injection ho with ho
    rw [← ho]
    rfl)
set_option maxRecDepth 100000 in
set_option maxHeartbeats 4000000 in
theorem address_r (w W0 W : World) (b : Nat) (r : Rt) (s : Ls) (A : Option Addr) (n cap : Nat) (l : List Int) (A2 : Option Addr) (m c2 : Nat) (h : Rr w b r s A n cap W) (hot : Ot W0 W b) (hws : w.heap.size ≤ W0.heap.size) (hlt : b < W0.heap.size)
    (hou : W.ownsRow W0.heap.size 27 1 (.slice s.aA s.an s.ac) s.an (us r.c.ad)) (han : s.an ≤ 100000) (hl : l.length = m) (hm : m ≤ 65531) (hle : m ≤ c2) (hcm : c2 ≤ maxLen) (hb : Byt l) (hr : Row W A2 (bs l)) :
    Calls Try.prog 92 #[.pointer (some ⟨b, 0, none⟩), .slice A2 m c2] W (AdOut w W0 b r s A n cap l W) := by
  have hal : Below W.heap.size W (W.alloc (.cells (rl0 A2 m c2) 65)) := (Below.refl _ _).alloc (Nat.le_refl _) _
  have HA : Hid (Rr W W.heap.size ⟨l, zero, false⟩ nol A2 m c2 (W.alloc (.cells (rl0 A2 m c2) 65))) := Lib.hid ⟨rl0_bk _ _ _ _, Nat.le_refl _, hal, hr, hl, hle, hcm, hb, hm⟩
  have HB : Hid (Rr w b r s A n cap (W.alloc (.cells (rl0 A2 m c2) 65))) := Lib.hid (h.next hal)
  have HOA : Hid (Ot W0 (W.alloc (.cells (rl0 A2 m c2) 65)) b) := Lib.hid (hot.trans (Ot.below b hal))
  have HOU : Hid ((W.alloc (.cells (rl0 A2 m c2) 65)).ownsRow W0.heap.size 27 1 (.slice s.aA s.an s.ac) s.an (us r.c.ad)) := Lib.hid (own_below hou hal)
  have HKO : Hid (KeepsOthers W (W.alloc (.cells (rl0 A2 m c2) 65))) := Lib.hid (KeepsOthers.alloc W _)
  have HO8 : Hid (∀ v n xs, W.ownsRow W0.heap.size 5 1 v n xs → (W.alloc (.cells (rl0 A2 m c2) 65)).ownsRow W0.heap.size 5 1 v n xs) := Lib.hid fun _ _ _ h => own_below h hal
  have hWW := hot.size
  obtain ⟨ba, hba⟩ : ∃ ba, W.heap.size = ba := ⟨_, rfl⟩
  have hsz1 : (W.alloc (.cells (rl0 A2 m c2) 65)).heap.size = ba + 1 := by simp [hba]
  rw [hba] at HA hWW
  obtain ⟨i4, hi4, hy0, hy1, hy2⟩ := info_parts Try_info32
  have HJ := Lib.hid hi4
  have HY0 := Lib.hid hy0
  have HY1 := Lib.hid hy1
  have HY2 := Lib.hid hy2
  have HWS := Lib.hid hws
  have hy1lt := Rt.n4_lt (r := ⟨l, zero, false⟩) hb
  obtain ⟨e1, e1v⟩ := Rt.n4_eq ⟨l, zero, false⟩
  have HT4 := Lib.hid fun Wx A n cap h => four_r W Wx ba ⟨l, zero, false⟩ nol A n cap h
  obtain ⟨z9, hz9⟩ : ∃ z9, (⟨l, zero, false⟩ : Rt).n4.1 = z9 := ⟨_, rfl⟩
  have HZE := Lib.hid hz9
  generalize hz : (⟨l, zero, false⟩ : Rt).n4.1 = z0 at hz9 hy1lt e1v HT4
  subst hz9
  generalize hy : (⟨l, zero, false⟩ : Rt).n4.2 = y1 at e1 HT4
  have HE1 := Lib.hid e1
  have HZ := Lib.hid e1v
  have HLZ := Lib.hid hy1lt
  have HL := Lib.hid hl
  have HBA := Lib.hid hba
  clear h hot hou hal hr hl hle hcm hb hi4 hy0 hy1 hy2 hws e1 e1v hz hy hy1lt
  go_enter Try.func92, Try.ntmps92
  go_upto_region 1 with fail
  try rw [HBA.out]
  generalize World.alloc W _ = Wa at HA HB HOA HOU HO8 HKO hsz1 ⊢
  clear HBA hba
  have hrd := HA.out.drew
  have HBD := Lib.hid HB.out.drew
  have HOD := Lib.hid HOA.out.drew
  have g12 : Wa.drew.cell? ⟨b, 12, none⟩ = some (.slice s.aA s.an s.ac) := HBD.out.bk.r12
  have hne : ba ≠ b := by omega
  have HNU : Hid ((Value.slice s.aA s.an s.ac).ownBlock ≠ some b) := Lib.hid fun e => by have := (HOU.out.lt _ e).1; omega
  have HNA : Hid (∀ i, (Value.slice s.aA s.an s.ac).ownBlock = some i → W0.heap.size ≤ i) := Lib.hid fun i e => (HOU.out.lt i e).1
  have HKA : Hid ((Value.slice s.aA s.an s.ac).ownBlock ≠ some ba) := Lib.hid fun e => by
    rcases HOU.out.2 with ⟨h0, _⟩ | ⟨g, cp, cur, hv, _, hh, _⟩
    · rw [h0] at e; cases e
    · rw [hv] at e
      simp only [Value.ownBlock, Option.some.injEq] at e
      subst e
      rw [show Wa.heap[g]? = _ from HA.out.bk] at hh
      simp at hh
  first | go_region_law (first
    | (go_simp; go_at_call 88; (with_reducible refine (HT4.out _ _ _ _ hrd).mono ?_); rintro e wQ ⟨AQ, nQ, cQ, rfl, hrQ, hoQ⟩; have hbQ := HBD.out.gr hoQ (by simp; omega) (by intro j e; injection e with e; have := HWS.out; omega); have gQ : wQ.cell? ⟨b, 12, none⟩ = some (.slice s.aA s.an s.ac) := hbQ.bk.r12; have gQ2 : (wQ.alloc (.cells #[.int .u32 (z0 : Int)] 27)).cell? ⟨b, 12, none⟩ = some (.slice s.aA s.an s.ac) := (hbQ.next ((Below.refl _ _).alloc (Nat.le_refl _) _)).bk.r12; have HBQ := Lib.hid hbQ; have HRQ := Lib.hid hrQ; have HOQ := Lib.hid (HOD.out.gr hoQ (fun j e => by injection e with e; omega)); have HOUQ := Lib.hid ((own_below HOU.out (Below.refl _ _).drew).kept hoQ (.inr HKA.out)); have HO8Q : Hid (∀ v n xs, W.ownsRow W0.heap.size 5 1 v n xs → wQ.ownsRow W0.heap.size 5 1 v n xs) := Lib.hid fun v n xs h => (own_below (HO8.out v n xs h) (Below.refl _ _).drew).kept hoQ (.inr (Bk.not_own HA.out.bk (HO8.out v n xs h) (by decide)).symm); have HKQ : Hid (KeepsOthers W wQ) := Lib.hid (HKO.out.trans ⟨(Ot.others hoQ HA.out.bk.drew).size, (Ot.others hoQ HA.out.bk.drew).same⟩); clear hoQ)
    | (refine step_append_lies _ rfl (.tmp 12) (.tmp 14) 28 rfl W0.heap.size 27 i4 _ 1 4 Try.underlying28 HJ.out HY0.out HY1.out HY2.out rfl (by decide) _ s.an _ rfl (own_below HOUQ.out ((Below.refl _ _).alloc (Nat.le_refl _) _)) ⟨wQ.heap.size, 0, none⟩ 1 1 [.int .u32 (z0 : Int)] rfl rfl (bcells (Row.new wQ [.int .u32 (z0 : Int)] 27 (0, 0))) (by simp [Value.oneCell']) (by omega) (by unfold maxLen; omega) (by omega) (by rw [World.size_alloc]; have := HOQ.out.size; omega) _ rfl ?_; intro g9 cap9 w10 hown10 hgrow10 hat10 _; obtain ⟨hr10, ho10⟩ := came_put HBQ.out HOQ.out HWS.out hlt hgrow10 HNA.out; have HR10 := Lib.hid hr10; have HO10 := Lib.hid ho10; have g12' := hr10.bk.r12; have f12 := hr10.bk.frozen 12; have HOW := Lib.hid hown10; have HG10 := Lib.hid hgrow10; clear hr10 ho10 hown10 hgrow10 hat10)) | fail
  all_goals
    have hA10 : Bk w10 ba (rv AQ nQ cQ y1.c nol y1.bad) 65 := (HG10.out.block ba (HRQ.out.bk.alloc _).lt (fun e => HKA.out e.symm)).trans (HRQ.out.bk.alloc _)
    have HA11 := Lib.hid (hA10.other hne 12 (.slice (some ⟨g9, 0, none⟩) (s.an + 1) cap9))
    have HR11 := Lib.hid (HR10.out.put 12 (.slice (some ⟨g9, 0, none⟩) (s.an + 1) cap9) { r.c with ad := r.c.ad ++ [z0] } (rv_ad _ _ _ _ _ _ (r.c.ad ++ [z0]) _ _ _))
    have HO11 := Lib.hid (HO10.out.set 12 (.slice (some ⟨g9, 0, none⟩) (s.an + 1) cap9))
    have HW11 := Lib.hid (owns_set HOW.out HR10.out.bk (by decide) 12 (u := .slice (some ⟨g9, 0, none⟩) (s.an + 1) cap9))
    have HO8W : Hid (∀ v n xs, W.ownsRow W0.heap.size 5 1 v n xs → (w10.setCell ⟨b, 12, none⟩ (.slice (some ⟨g9, 0, none⟩) (s.an + 1) cap9)).ownsRow W0.heap.size 5 1 v n xs) := Lib.hid fun v n xs h =>
      owns_set ((own_below (HO8Q.out v n xs h) ((Below.refl _ _).alloc (Nat.le_refl _) (.cells #[.int .u32 (z0 : Int)] 27))).kept HG10.out (own_apart (own_below (HO8Q.out v n xs h) ((Below.refl _ _).alloc (Nat.le_refl _) (.cells #[.int .u32 (z0 : Int)] 27))) (own_below HOUQ.out ((Below.refl _ _).alloc (Nat.le_refl _) (.cells #[.int .u32 (z0 : Int)] 27))) (by decide))) HR10.out.bk (by decide) 12
    have HK11 : Hid (KeepsOthers W (w10.setCell ⟨b, 12, none⟩ (.slice (some ⟨g9, 0, none⟩) (s.an + 1) cap9))) := Lib.hid ((HKQ.out.trans ((KeepsOthers.alloc wQ (.cells #[.int .u32 (z0 : Int)] 27)).trans (KeepsOthers.of_grownBy HG10.out (row_cells (own_below HOUQ.out ((Below.refl _ _).alloc (Nat.le_refl _) (.cells #[.int .u32 (z0 : Int)] 27))))))).trans (KeepsOthers.setCell _ _ _))
    have hyb : y1.bad = decide (l.length < 4) := by rw [HE1.out]; simp
    have hyl : nQ = l.length - 4 := by have := HRQ.out.len; rw [HE1.out] at this; simpa using this.symm
    clear hA10
    go_upto_region 2 with fail
    generalize World.setCell w10 _ _ = W11 at HA11 HR11 HO11 HW11 HO8W HK11 ⊢
    have g16 := HR11.out.bk.r16
    have f16 := HR11.out.bk.frozen 16
    have ga := HA11.out.r16
    have ga0 := HA11.out.r0
    simp only at g16
    have HFIN : Hid (∀ v, v = (r.bad || decide (l.length ≠ 4)) → AdOut w W0 b r s A n cap l W (.returned (.tuple #[])) (W11.setCell ⟨b, 16, none⟩ (.bool v))) := Lib.hid fun v hv => by
      have hR := HR11.out.bad_ v
      refine ⟨rfl, _, _, z0, ?_, ⟨HZE.out.symm, fun h4 => ?_⟩, HLZ.out, owns_set (by have := HW11.out; rw [us_snoc]; exact this) HR11.out.bk (by decide) 16, HO11.out.set 16 _, fun v n xs h => owns_set (HO8W.out v n xs h) HR11.out.bk (by decide) 16, HK11.out.trans (KeepsOthers.setCell _ _ _)⟩
      · rw [← hv]; exact hR
      · rw [HZ.out (by show 4 ≤ l.length; omega), List.take_of_length_le (by show l.length ≤ 4; omega)]
    have HYB := Lib.hid hyb
    have HYL := Lib.hid hyl
    clear hyb hyl
    by_cases h1 : r.bad = true
    · rw [h1] at g16
      have HV := HFIN.out true (by rw [h1]; rfl)
      have HVV := Lib.hid HV
      clear HV HFIN h1
      go_wp2_with fail
      go_end0
      exact HVV.out
    · have h1f : r.bad = false := by simpa using h1
      rw [h1f] at g16
      by_cases h2 : y1.bad = true
      · rw [h2] at ga
        have HVV := Lib.hid (HFIN.out true (by have h3 := HYB.out; rw [h2] at h3; have h4 : l.length < 4 := by simpa using h3.symm
                                               rw [h1f]; simp; omega))
        clear HFIN h1 h1f h2
        go_wp2_with fail
        go_end0
        exact HVV.out
      · have h2f : y1.bad = false := by simpa using h2
        rw [h2f] at ga
        have h4 : ¬ l.length < 4 := by have h3 := HYB.out; rw [h2f] at h3; simpa using h3.symm
        have HVV := Lib.hid (HFIN.out (decide (0 < nQ)) (by
          have h5 := HYL.out
          rw [h1f, Bool.false_or, Bool.eq_iff_iff]
          simp only [decide_eq_true_eq]
          omega))
        clear HFIN h1 h1f h2 h2f h4
        go_wp2_with fail
        go_end0
        exact HVV.out
end Go.Proofs.Ytbliipjiilmbcaa
