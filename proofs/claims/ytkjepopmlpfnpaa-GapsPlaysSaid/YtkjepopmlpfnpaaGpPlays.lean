/-
  GapsPlays: the walk.
-/
import Derived.Test.YtkjepopmlpfnpaaGpDo
import Derived.Test.YtkjepopmlpfnpaaGpTurns
import Derived.Deep.CutBlock
import Derived.Deep.RegionHeld3
namespace Go.Proofs.Ytkjepopmlpfnpaa
open Go.RowKit Go.Maps
set_option linter.unusedVariables false

/-- A variable that holds a call. -/
def XA (b : Nat) (k : Int) (t : Nat) (w : World) (F : Nat → Prop) : Prop := Bk w b #[.int .i64 k, .int .u32 (t : Int)] 33 ∧ F b ∧ ∀ j, F j → j < w.heap.size
theorem XA_fr (b : Nat) (k : Int) (t : Nat) : Fr (XA b k t) := ⟨fun w w' F G ⟨h1, h2, h3⟩ hk hd => ⟨(hk.block b (h3 b h2) (hd b h2)).trans h1, h2, fun j hj => Nat.lt_of_lt_of_le (h3 j hj) hk.size⟩, fun w F ⟨h1, h2, h3⟩ => h3⟩
theorem dnew (c : Nat) (w : World) (hc : c < 4294967296) : DA w.heap.size ⟨c, [], []⟩ (w.alloc (.cells #[.int .u32 (c : Int), .slice none 0 0, .slice none 0 0] 31)) (fun k => k = w.heap.size) :=
  ⟨.slice none 0 0, .slice none 0 0, Bk.new w _ _, Ir.nil _ _ _, Ir.nil _ _ _, rfl, (fun g hg => by cases hg), (fun g hg => by cases hg), (fun k hk => by rw [hk]; simp), new_ok c hc⟩
theorem xnew (w : World) (k : Int) (t : Nat) : XA w.heap.size k t (w.alloc (.cells #[.int .i64 k, .int .u32 (t : Int)] 33)) (fun j => j = w.heap.size) :=
  ⟨Bk.new w _ _, rfl, fun k hk => by subst hk; simp⟩
theorem Now.xcell {W w : World} {R1 R2 : World → (Nat → Prop) → Prop} {b t : Nat} {k : Int} (h : Now W w (star R1 (star R2 (XA b k t)))) : w.cell? ⟨b, 0, none⟩ = some (.int .i64 k) ∧ w.cell? ⟨b, 1, none⟩ = some (.int .u32 (t : Int)) := by
  obtain ⟨F, ⟨h, _⟩, _⟩ := h.right.right
  exact ⟨(h.cell 0).trans rfl, (h.cell 1).trans rfl⟩
theorem Now.dcell {W w : World} {R1 R2 : World → (Nat → Prop) → Prop} {r : Nat} {st : St} (h : Now W w (star R1 (star (DA r st) R2))) : ∃ A c, w.cell? ⟨r, 0, none⟩ = some (.int .u32 (st.cum : Int)) ∧ w.cell? ⟨r, 1, none⟩ = some (.slice A st.ws.length c) := by
  obtain ⟨F, h, _⟩ := h.right.left
  obtain ⟨vw, v, ⟨c0, c1, _⟩, _, hw, _⟩ := h.cells
  obtain ⟨A, c, rfl, _⟩ := hw.form
  exact ⟨A, c, c0, c1⟩
set_option maxRecDepth 100000 in
set_option maxHeartbeats 8000000 in
theorem gapsPlays_main (c y : Nat) (A : Option Addr) (n cap : Nat) (qs : List Q2) (W : World) (hc : c < 4294967296) (hy : y < 4294967296) (hd : DosIn W A n cap qs) :
    Calls Try.prog 3 #[.int .u32 (c : Int), .slice A n cap, .int .u32 (y : Int)] W fun e w' => e = .returned (.bool true) ∧ Below W.heap.size W w' := by
  obtain ⟨hl, hcap, hcm, hr, hm⟩ := hd
  have HR := Lib.hid hr
  have HL := Lib.hid hl
  have HM := Lib.hid hm
  have HC := Lib.hid hc
  clear hr hl hm
  go_enter Try.func3, Try.ntmps3
  go_wp2_with fail
  refine (known_any W).mono ?_
  rintro e w1 ⟨rfl, hb1⟩
  have HB1 := Lib.hid hb1
  clear hb1
  by_cases hn : 400 < n
  · have hz : decide ((400 : Int) < (n : Int)) = true := decide_eq_true (by omega)
    clear hn hcap hcm hc hy
    go_wp2_with fail
    go_ret
    exact ⟨rfl, HB1.out⟩
  · have hz : decide ((400 : Int) < (n : Int)) = false := decide_eq_false (by omega)
    have hn3 : n ≤ 400 := by omega
    clear hn hcap hcm
    go_wp2_with fail
    refine (s_new c (Now.emp W w1 HB1.out) emp_fr hc).mono ?_
    rintro e w2 ⟨a, rfl, h2⟩
    have H2 := Lib.hid h2
    clear h2
    go_upto_region 6 with fail
    have H3 : Hid (Now W (w2.alloc (.cells #[.int .u32 (c : Int), .slice none 0 0, .slice none 0 0] 31)) (star (PA a ⟨c, [], []⟩) (DA w2.heap.size ⟨c, [], []⟩))) := Lib.hid
      (H2.out.more (star_fr (PA_fr a _) emp_fr) (bAlloc _ _) (dnew c w2 hc) (fun k hk => by rw [hk]; exact Nat.le_refl _) (fun k hk => by rw [hk]; simp)).drop2.comm
    generalize w2.alloc (.cells #[.int .u32 (c : Int), .slice none 0 0, .slice none 0 0] 31) = w3 at H3 ⊢
    generalize w2.heap.size = r at H3 ⊢
    clear H2 hc
    go_wp2_with fail
    go_loopw [7, 24] (fun v7 v24 wr => ∃ (k s : Nat) (st : St), v7 = .pointer (some ⟨s, 0, none⟩) ∧ v24 = .int .i64 k ∧ k ≤ n ∧ Hid st.Ok ∧ Hid (Now W wr (star (PA s st) (DA r st)))) (fun _ v24 _ => n - (iof v24).toNat)
    case atStart => exact ⟨0, a, ⟨c, [], []⟩, rfl, rfl, Nat.zero_le _, Lib.hid (new_ok c HC.out), H3⟩
    case round =>
      obtain ⟨k, s, st, rfl, rfl, hk, HOK, HN⟩ := hrel
      clear H3
      by_cases hlt : k < n
      · have hkl : k < qs.length := by rw [HL.out]; exact hlt
        obtain ⟨d, rfl, hd0, hd1⟩ := dos_at (HR.out.below HN.out.below) hkl
        obtain ⟨hwf, ht⟩ := HM.out _ (List.getElem_mem hkl)
        generalize qs[k] = q at hd0 hd1 hwf ht
        obtain ⟨kd, t⟩ := q
        simp only at hd0 hd1 hwf ht
        clear hkl
        go_upto_region 9 with fail
        have H4 : Hid (Now W (wr.alloc (.cells #[.int .i64 kd, .int .u32 (t : Int)] 33)) (star (PA s st) (star (DA r st) (XA wr.heap.size kd t)))) := Lib.hid
          (HN.out.more (F1 := fun k => k = wr.heap.size) (star_fr (PA_fr s _) (DA_fr r _)) (bAlloc _ _) (xnew wr kd t) (fun k hk => by rw [hk]; exact Nat.le_refl _) (fun k hk => by rw [hk]; simp)).rot
        have HRD := Lib.hid (HR.out.below HN.out.below)
        clear hd0 hd1
        generalize wr.alloc (.cells #[.int .i64 kd, .int .u32 (t : Int)] 33) = w4 at H4 ⊢
        generalize wr.heap.size = b at H4 ⊢
        have g0 := H4.out.xcell.1
        have g1 := H4.out.xcell.2
        go_upto_block 2 with fail
        clear g0
        go_cut [7] from 30 to 71 (fun v7 wx => ∃ (s2 : Nat) (st2 : St), v7 = .pointer (some ⟨s2, 0, none⟩) ∧ Hid (Now W wx (star (PA s2 st2) (star (DA r st2) (XA b kd t)))))
        case first =>
          by_cases hk0 : kd = 0
          · subst hk0
            obtain ⟨⟨st2, rc⟩, hp⟩ : ∃ p, st.add t = p := ⟨_, rfl⟩
            have C1 := Lib.hid (s_add t (H4.out.next (star_fr (PA_fr s _) (star_fr (DA_fr r _) (XA_fr b _ _))) ((Below.refl w4.heap.size w4).drew)) (star_fr (DA_fr r _) (XA_fr b _ _)) ht)
            have C2 : Hid (∀ w', Now W w' (star (PA s st2) (star (DA r st) (XA b 0 t))) → Calls Try.prog 9 #[.pointer (some ⟨r, 0, none⟩), .int .u32 (t : Int)] w' fun e w'' => e = .returned (.int .u8 (rc : Int)) ∧ Now W w'' (star (DA r st2) (star (XA b 0 t) (PA s st2)))) := Lib.hid fun w' h' => by
              have := s_radd t h'.rot (star_fr (XA_fr b _ _) (PA_fr s _)) ht
              rw [hp] at this
              exact this
            rw [hp] at C1
            simp only at C1
            clear hp
            have gd : w4.drew.cell? ⟨b, 1, none⟩ = some (.int .u32 (t : Int)) := g1
            go_upto_region 11 with fail
            first | go_region_held3 (fun W => W.cell? ⟨b, 1, none⟩ = some (.int .u32 (t : Int))) (first | exact gd | assumption) ((first
              | (go_at_call 8; (with_reducible refine C1.out.mono ?_); rintro e w5 ⟨rfl, h5⟩; have g5 := h5.xcell.2; have H5 := Lib.hid h5; clear h5)
              | (go_at_call 9; (with_reducible refine (C2.out _ H5.out).mono ?_); rintro e w6 ⟨rfl, h6⟩; have g6 := h6.rot.rot.xcell.2; have H6 := Lib.hid h6.rot.rot; clear h6))) | fail
            go_wp2_with fail
            go_meet
            case rel => exact ⟨s, st2, rfl, H6⟩
          · have e0 : (kd == 0) = false := by simpa using hk0
            by_cases hk1 : kd = 1
            · subst hk1
              clear e0 hk0
              have HDS := Lib.hid H4.out.ok.2.2.1
              have C1 := Lib.hid (s_dups H4.out (star_fr (DA_fr r _) (XA_fr b _ _)))
              obtain ⟨⟨cm, ws, ds⟩, hst⟩ : ∃ p, st = p := ⟨_, rfl⟩
              subst hst
              simp only at C1 HDS
              obtain ⟨m, hm⟩ : ∃ m, ds.length = m := ⟨_, rfl⟩
              rw [hm] at C1 HDS
              have HMD := Lib.hid hm
              have hm9 := HDS.out
              clear hm
              go_wp2_with fail
              refine C1.out.mono ?_
              rintro e w5 ⟨B, cb, rfl, h5⟩
              have C2 := Lib.hid (s_take h5.rot (star_fr (XA_fr b _ _) (RA_fr (PA_fr s _))))
              simp only at C2
              rw [HMD.out] at C2
              clear h5 C1
              go_wp2_with fail
              refine C2.out.mono ?_
              rintro e w6 ⟨D, cd, rfl, h6⟩
              have HRX : Hid (Row w6 B (ns .u32 ds)) := Lib.hid h6.rot.rot.row
              have HRY : Hid (Row w6 D (ns .u32 ds)) := Lib.hid h6.row
              have H6 : Hid (Now W w6 (star (PA s ⟨cm, ws, []⟩) (star (DA r ⟨cm, ws, []⟩) (XA b 1 t)))) := Lib.hid h6.rot.rot.unrow.rot.unrow.rot.rot
              clear h6 C2
              go_wp2_with fail
              refine (tsns_same B D m cb cd ds w6 HMD.out (by omega) HRX.out HRY.out).mono ?_
              rintro e w7 ⟨rfl, hb7⟩
              have H7 := Lib.hid (H6.out.next (star_fr (PA_fr s _) (star_fr (DA_fr r _) (XA_fr b _ _))) hb7)
              clear hb7
              go_wp2_with fail
              go_meet
              case rel => exact ⟨s, ⟨cm, ws, []⟩, rfl, H7⟩
            · have e1 : (kd == 1) = false := by simpa using hk1
              by_cases hk2 : kd = 2
              · subst hk2
                clear e0 e1 hk0 hk1
                have C1 := Lib.hid (s_copy H4.out (star_fr (DA_fr r _) (XA_fr b _ _)))
                go_wp2_with fail
                refine C1.out.mono ?_
                rintro e w5 ⟨s5, rfl, h5⟩
                have h5' := h5.rot
                have hR : Fr (star (star (DA r st) (XA b 2 t)) (PA s5 st)) := star_fr (star_fr (DA_fr r _) (XA_fr b _ _)) (PA_fr s5 _)
                have HF := Lib.hid hR
                clear hR
                obtain ⟨R0, hR0⟩ : ∃ R0, R0 = star (star (DA r st) (XA b 2 t)) (PA s5 st) := ⟨_, rfl⟩
                rw [← hR0] at h5' HF
                have HR0 := Lib.hid hR0
                have H5 := Lib.hid h5'
                clear hR0 h5 h5' C1
                obtain ⟨o, ho⟩ : ∃ o, o = st := ⟨_, rfl⟩
                rw [← ho] at H5
                clear ho
                have C2 := Lib.hid (s_cum H5.out)
                have hc5 := H5.out.ok.1
                obtain ⟨c5, hcc⟩ : ∃ c5, o.cum = c5 := ⟨_, rfl⟩
                rw [hcc] at C2 hc5
                clear hcc
                have hw5 : IntKind.u32.wrap ((c5 : Int) + 1) = ((up c5 1 : Nat) : Int) := wrap_add (a := c5) (b := 1)
                have hu5 := up_lt c5 1
                generalize up c5 1 = u5 at hw5 hu5
                go_wp2_with fail
                refine C2.out.mono ?_
                rintro e w ⟨rfl, rfl⟩
                have C3 := Lib.hid (s_add u5 H5.out HF.out hu5)
                obtain ⟨⟨o2, rc⟩, hp⟩ : ∃ p, o.add u5 = p := ⟨_, rfl⟩
                rw [hp] at C3
                simp only at C3
                clear hp C2
                go_wp2_with fail
                refine C3.out.mono ?_
                rintro e w6 ⟨rfl, h6⟩
                have H6 := Lib.hid h6
                clear h6 C3 hw5
                have C2 := Lib.hid (s_cum H6.out)
                have hc6 := H6.out.ok.1
                obtain ⟨c6, hcc⟩ : ∃ c6, o2.cum = c6 := ⟨_, rfl⟩
                rw [hcc] at C2 hc6
                clear hcc
                have hw6 : IntKind.u32.wrap ((c6 : Int) + 3) = ((up c6 3 : Nat) : Int) := wrap_add (a := c6) (b := 3)
                have hu6 := up_lt c6 3
                generalize up c6 3 = u6 at hw6 hu6
                go_wp2_with fail
                refine C2.out.mono ?_
                rintro e w ⟨rfl, rfl⟩
                have C3 := Lib.hid (s_add u6 H6.out HF.out hu6)
                obtain ⟨⟨o3, rc2⟩, hp⟩ : ∃ p, o2.add u6 = p := ⟨_, rfl⟩
                rw [hp] at C3
                simp only at C3
                clear hp C2
                go_wp2_with fail
                refine C3.out.mono ?_
                rintro e w7 ⟨rfl, h7⟩
                have H7 := Lib.hid h7
                clear h7 C3 hw6
                have C2 := Lib.hid (s_cum H7.out)
                have hc7 := H7.out.ok.1
                obtain ⟨c7, hcc⟩ : ∃ c7, o3.cum = c7 := ⟨_, rfl⟩
                rw [hcc] at C2 hc7
                clear hcc
                go_wp2_with fail
                refine C2.out.mono ?_
                rintro e w ⟨rfl, rfl⟩
                have C3 := Lib.hid (s_add c7 H7.out HF.out hc7)
                obtain ⟨⟨o4, rc3⟩, hp⟩ : ∃ p, o3.add c7 = p := ⟨_, rfl⟩
                rw [hp] at C3
                simp only at C3
                clear hp C2
                go_wp2_with fail
                refine C3.out.mono ?_
                rintro e w8 ⟨rfl, h8⟩
                have H8 := Lib.hid h8
                clear h8 C3
                have C2 := Lib.hid (s_dups H8.out HF.out)
                go_wp2_with fail
                refine C2.out.mono ?_
                rintro e w9 ⟨B, cb, rfl, h9⟩
                have h10 := h9.right
                rw [HR0.out] at h10
                have H9 := Lib.hid h10.comm
                clear h9 h10 C2
                go_wp2_with fail
                go_meet
                case rel => exact ⟨s5, st, rfl, H9⟩
              · have e2 : (kd == 2) = false := by simpa using hk2
                go_wp2_with fail
                go_meet
                case rel => exact ⟨s, st, rfl, H4⟩
        case rest =>
          obtain ⟨s2, st2, rfl, H5⟩ := hcut
          clear HN HOK HRD H4 g1 hwf
          have hfr : Fr (star (PA s2 st2) (star (DA r st2) (XA b kd t))) := star_fr (PA_fr s2 _) (star_fr (DA_fr r _) (XA_fr b _ _))
          have HNX : Hid (∀ w', Below wc.heap.size wc w' → Now W w' (star (PA s2 st2) (star (DA r st2) (XA b kd t)))) := Lib.hid fun w' hb' => H5.out.next hfr hb'
          have HOK := Lib.hid H5.out.ok
          have hcm := HOK.out.1
          obtain ⟨B, cb, k0, k1⟩ := H5.out.dcell
          have k2 := H5.out.xcell.2
          have hHS : ∀ w', Below wc.heap.size wc w' → (w'.cell? ⟨r, 0, none⟩ = some (.int .u32 (st2.cum : Int)) ∧ w'.cell? ⟨r, 1, none⟩ = some (.slice B st2.ws.length cb) ∧ w'.cell? ⟨b, 1, none⟩ = some (.int .u32 (t : Int))) := fun w' hb' =>
            ⟨(hb'.cell (block_lt_of_cell k0)).trans k0, (hb'.cell (block_lt_of_cell k1)).trans k1, (hb'.cell (block_lt_of_cell k2)).trans k2⟩
          have D1 : Hid (∀ w', Below wc.heap.size wc w' → Calls Try.prog 14 #[.pointer (some ⟨s2, 0, none⟩)] w' fun e w'' => e = .returned (.int .u32 (st2.cum : Int)) ∧ w' = w'') := Lib.hid fun w' hb' => s_cum (HNX.out w' hb')
          have D2 : Hid (∀ w', Below wc.heap.size wc w' → Calls Try.prog 16 #[.pointer (some ⟨s2, 0, none⟩)] w' fun e w'' => ∃ A c, e = .returned (.slice A st2.gaps.length c) ∧ Row w'' A (gs st2.gaps) ∧ Below w'.heap.size w' w'') := Lib.hid fun w' hb' => (s_gaps (HNX.out w' hb') (star_fr (DA_fr r _) (XA_fr b _ _))).mono fun e w'' ⟨A, c, h1, h2, h3, _⟩ => ⟨A, c, h1, h2, h3⟩
          have D3 : Hid (∀ w', Below wc.heap.size wc w' → Calls Try.prog 17 #[.pointer (some ⟨r, 0, none⟩)] w' fun e w'' => ∃ A c, e = .returned (.slice A st2.gaps.length c) ∧ Row w'' A (gs st2.gaps) ∧ Below w'.heap.size w' w'') := Lib.hid fun w' hb' => (s_rgaps (HNX.out w' hb').rot (star_fr (XA_fr b _ _) (PA_fr s2 _))).mono fun e w'' ⟨A, c, h1, h2, h3, _⟩ => ⟨A, c, h1, h2, h3⟩
          have D5 : Hid (∀ w', Below wc.heap.size wc w' → Calls Try.prog 18 #[.pointer (some ⟨s2, 0, none⟩)] w' fun e w'' => e = .returned (.int .i64 (st2.ws.length : Int)) ∧ w' = w'') := Lib.hid fun w' hb' => s_len (HNX.out w' hb')
          have D6 : Hid (∀ w', Below wc.heap.size wc w' → Calls Try.prog 19 #[.pointer (some ⟨s2, 0, none⟩), .int .u32 (t : Int)] w' fun e w'' => e = .returned (.bool (st2.has t)) ∧ Below w'.heap.size w' w'') := Lib.hid fun w' hb' => s_hasb t (HNX.out w' hb') ht
          have D7 : Hid (∀ w', Below wc.heap.size wc w' → Calls Try.prog 20 #[.pointer (some ⟨r, 0, none⟩), .int .u32 (t : Int)] w' fun e w'' => e = .returned (.bool (st2.has t)) ∧ w' = w'') := Lib.hid fun w' hb' => s_rhas t (HNX.out w' hb').rot ht
          have D8 : Hid (∀ w', Below wc.heap.size wc w' → Calls Try.prog 19 #[.pointer (some ⟨s2, 0, none⟩), .int .u32 (y : Int)] w' fun e w'' => e = .returned (.bool (st2.has y)) ∧ Below w'.heap.size w' w'') := Lib.hid fun w' hb' => s_hasb y (HNX.out w' hb') hy
          have D9 : Hid (∀ w', Below wc.heap.size wc w' → Calls Try.prog 20 #[.pointer (some ⟨r, 0, none⟩), .int .u32 (y : Int)] w' fun e w'' => e = .returned (.bool (st2.has y)) ∧ w' = w'') := Lib.hid fun w' hb' => s_rhas y (HNX.out w' hb').rot hy
          have D10 : Hid (∀ w', Below wc.heap.size wc w' → Calls Try.prog 21 #[.pointer (some ⟨s2, 0, none⟩), .int .u32 (y : Int)] w' fun e w'' => e = .returned (.bool ((y : Int) == ((up st2.cum 1 : Nat) : Int))) ∧ w' = w'') := Lib.hid fun w' hb' => s_next y (HNX.out w' hb') hy
          have hgl := gaps_len st2
          obtain ⟨gl, hgl2⟩ : ∃ gl, st2.gaps = gl := ⟨_, rfl⟩
          rw [hgl2] at D2 D3 hgl
          clear hgl2
          obtain ⟨p, hp⟩ : ∃ p, gl.length = p := ⟨_, rfl⟩
          rw [hp] at D2 D3 hgl
          have HP := Lib.hid hp
          clear hp
          have D4 : Hid (∀ (E G : Option Addr) (c d : Nat) (w' : World), Row w' E (gs gl) → Row w' G (gs gl) → Calls Try.prog 15 #[.slice E p c, .slice G p d] w' fun e w'' => e = .returned (.bool true) ∧ Below w'.heap.size w' w'') := Lib.hid fun E G c d w' h1 h2 => sgaps_same E G p c d gl w' HP.out (by omega) h1 h2
          obtain ⟨q1, hq1⟩ : ∃ q1, st2.has t = q1 := ⟨_, rfl⟩
          rw [hq1] at D6 D7
          clear hq1
          obtain ⟨q2, hq2⟩ : ∃ q2, st2.has y = q2 := ⟨_, rfl⟩
          rw [hq2] at D8 D9
          clear hq2
          obtain ⟨m, hm⟩ : ∃ m, st2.ws.length = m := ⟨_, rfl⟩
          have hm9 : m ≤ 65534 := by rw [← hm]; exact ris_len HOK.out.2.1
          rw [hm] at D5 hHS
          clear hm k0 k1 k2
          obtain ⟨cm, hcc⟩ : ∃ cm, st2.cum = cm := ⟨_, rfl⟩
          rw [hcc] at D1 D10 hHS hcm
          clear hcc
          have hw1 : IntKind.u32.wrap ((cm : Int) + 1) = ((up cm 1 : Nat) : Int) := wrap_add (a := cm) (b := 1)
          generalize up cm 1 = v at hw1 D10
          obtain ⟨z, hz9⟩ : ∃ z, ((y : Int) == (v : Int)) = z := ⟨_, rfl⟩
          rw [hz9] at D10
          have HS := Lib.hid hHS
          have hbd : Below wc.heap.size wc wc.drew := (Below.refl _ _).drew
          have hs := hHS _ hbd
          clear hHS HNX hfr
          go_upto_region 25 with fail
          go_cut [129] from 28 to 129 (fun v129 wx => v129 = .bool false ∧ Hid (Below wc.heap.size wc wx))
          case first =>
            first | go_region_held3 (fun W => W.cell? ⟨r, 0, none⟩ = some (.int .u32 (cm : Int)) ∧ W.cell? ⟨r, 1, none⟩ = some (.slice B m cb) ∧ W.cell? ⟨b, 1, none⟩ = some (.int .u32 (t : Int))) (first | exact hs | exact HS.out _ (by assumption)) ((first
              | (go_at_call 14; (with_reducible refine (D1.out _ ?_).mono ?_); assumption; rintro e w ⟨rfl, rfl⟩)
              | (go_at_call 16; (with_reducible refine (D2.out _ ?_).mono ?_); assumption; rintro e w5 ⟨E, ce, rfl, hr5, hb5⟩; have hd5 := bnext (w := wc) (by assumption) hb5; clear hb5)
              | (go_at_call 17; (with_reducible refine (D3.out _ ?_).mono ?_); assumption; rintro e w6 ⟨G, cg, rfl, hr6, hb6⟩; have hd6 := bnext (w := wc) (by assumption) hb6; have hr56 := hr5.below hb6; clear hb6)
              | (go_at_call 15; (with_reducible refine (D4.out _ _ _ _ _ hr56 hr6).mono ?_); rintro e w7 ⟨rfl, hb7⟩; have hd7 := bnext (w := wc) (by assumption) hb7; clear hb7)
              | (go_at_call 18; (with_reducible refine (D5.out _ ?_).mono ?_); assumption; rintro e w ⟨rfl, rfl⟩)
              | (go_at_call 19; (with_reducible refine (D6.out _ ?_).mono ?_); assumption; rintro e w8 ⟨rfl, hb8⟩; have hd8 := bnext (w := wc) (by assumption) hb8; clear hb8)
              | (go_at_call 20; (with_reducible refine (D7.out _ ?_).mono ?_); assumption; rintro e w ⟨rfl, rfl⟩)
              | (go_at_call 19; (with_reducible refine (D8.out _ ?_).mono ?_); assumption; rintro e w9 ⟨rfl, hb9⟩; have hd9 := bnext (w := wc) (by assumption) hb9; clear hb9)
              | (go_at_call 20; (with_reducible refine (D9.out _ ?_).mono ?_); assumption; rintro e w ⟨rfl, rfl⟩)
              | (go_at_call 21; (with_reducible refine (D10.out _ ?_).mono ?_); assumption; rintro e w ⟨rfl, rfl⟩))) | fail
            go_wp2_with fail
            go_meet
            case rel => exact ⟨by first | rfl | simp, hd9⟩
          case rest =>
            obtain ⟨rfl, HB9⟩ := hcut
            go_wp2_with fail
            have H9 := H5.out.rot.drop1.comm.next (star_fr (PA_fr s2 _) (DA_fr r _)) HB9.out
            go_roundw
            case rel => exact ⟨k + 1, s2, st2, rfl, by go_num, by omega, HOK, Lib.hid H9⟩
            case measure => simp [iof] <;> omega
      · have HDS := Lib.hid HOK.out.2.2.1
        have C1 := Lib.hid (s_dups HN.out (DA_fr r _))
        obtain ⟨⟨cm, ws, ds⟩, hst⟩ : ∃ p, st = p := ⟨_, rfl⟩
        subst hst
        simp only at C1 HDS
        obtain ⟨m, hm⟩ : ∃ m, ds.length = m := ⟨_, rfl⟩
        rw [hm] at C1 HDS
        have HMD := Lib.hid hm
        have hm9 := HDS.out
        clear hm
        go_wp2_with fail
        refine C1.out.mono ?_
        rintro e w5 ⟨B, cb, rfl, h5⟩
        have C2 := Lib.hid (s_take h5.comm (RA_fr (PA_fr s _)))
        simp only at C2
        rw [HMD.out] at C2
        clear h5 C1
        go_wp2_with fail
        refine C2.out.mono ?_
        rintro e w6 ⟨D, cd, rfl, h6⟩
        have HRX : Hid (Row w6 B (ns .u32 ds)) := Lib.hid h6.comm.row
        have HRY : Hid (Row w6 D (ns .u32 ds)) := Lib.hid h6.row
        have HB6 : Hid (Below W.heap.size W w6) := Lib.hid h6.below
        clear h6 C2
        go_wp2_with fail
        refine (tsns_same B D m cb cd ds w6 HMD.out (by omega) HRX.out HRY.out).mono ?_
        rintro e w7 ⟨rfl, hb7⟩
        have HB7 := Lib.hid (bnext HB6.out hb7)
        clear hb7
        go_wp2_with fail
        go_ret
        exact ⟨rfl, HB7.out⟩
theorem gapsPlays_walk (c : Int) (A : Option Addr) (n cap : Nat) (qs : List Q2) (y : Int) (W : World) (hc : (Lit.int .u32 c).wf = true) (hd : DosIn W A n cap qs) (hy : (Lit.int .u32 y).wf = true) :
    Calls Try.prog 3 #[.int .u32 c, .slice A n cap, .int .u32 y] W fun e w' => e = .returned (.bool true) ∧ Below W.heap.size W w' := by
  obtain ⟨c, rfl, hc2⟩ := nat32 hc
  obtain ⟨y, rfl, hy2⟩ := nat32 hy
  exact gapsPlays_main c y A n cap qs W hc2 hy2 hd
end Go.Proofs.Ytkjepopmlpfnpaa
