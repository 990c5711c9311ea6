/-
  GapsOrder: the walk.
-/
import Derived.Test.YtkjepopmlpfnpaaGpOrdM
import Derived.Deep.CutBlock
import Derived.Deep.CutRange
import Derived.Deep.RegionHeld3
namespace Go.Proofs.Ytkjepopmlpfnpaa
open Go.RowKit Go.Maps
set_option linter.unusedVariables false

theorem cell_set_some {w : World} {p q : Addr} {x v : Value} (h : w.cell? q = some v) : ∃ v', (w.setCell p x).cell? q = some v' := by
  by_cases e : p = q
  · subst e
    exact ⟨x, World.cell?_setCell_same w p x h⟩
  · exact ⟨v, (World.cell?_setCell_other w p q x e).trans h⟩
set_option maxRecDepth 100000 in
set_option maxHeartbeats 8000000 in
theorem gapsOrder_main (c : Nat) (A : Option Addr) (n cap : Nat) (l : List Nat) (B : Option Addr) (p capB : Nat) (tn : List Nat) (W : World) (hc : c < 4294967296) (hl : l.length = n) (hm : ∀ x ∈ l, x < 65536) (hr : Row W A (ns .u16 l)) (hz : A = none → n = 0 ∧ cap = 0)
    (tl : tn.length = p) (tm : ∀ x ∈ tn, x < 65536) (tr : Row W B (ns .u16 tn)) (hp : p ≤ maxLen) :
    Calls Try.prog 4 #[.int .u32 (c : Int), .slice A n cap, .slice B p capB] W fun e w' => e = .returned (.bool true) ∧ Below W.heap.size W w' := by
  have HR := Lib.hid hr
  have HL := Lib.hid hl
  have HM := Lib.hid hm
  have HC := Lib.hid hc
  have HZ := Lib.hid hz
  have TL := Lib.hid tl
  have TM := Lib.hid tm
  have TR := Lib.hid tr
  have HPM := Lib.hid hp
  clear hr hl hm hz tl tm tr hp
  go_enter Try.func4, Try.ntmps4
  go_wp2_with fail
  refine (known_any W).mono ?_
  rintro e w1 ⟨rfl, hb1⟩
  have HB1 := Lib.hid hb1
  clear hb1
  by_cases hn : 300 < n
  · have hz : decide ((300 : Int) < (n : Int)) = true := decide_eq_true (by omega)
    clear hn hc
    go_wp2_with fail
    go_ret
    exact ⟨rfl, HB1.out⟩
  · have hz : decide ((300 : Int) < (n : Int)) = false := decide_eq_false (by omega)
    have hn3 : n ≤ 300 := by omega
    clear hn
    go_wp2_with fail
    refine (s_new c (Now.emp W w1 HB1.out) emp_fr hc).mono ?_
    rintro e w2 ⟨a, rfl, h2⟩
    have H2 := Lib.hid h2
    clear h2
    go_wp2_with fail
    refine (s_new c H2.out (star_fr (PA_fr a _) emp_fr) hc).mono ?_
    rintro e w3 ⟨b, rfl, h3⟩
    have H3 : Hid (Now W w3 (star (PA b ⟨c, [], []⟩) (PA a ⟨c, [], []⟩))) := Lib.hid h3.drop2
    clear h3 H2 hc
    go_upto_region 7 with (at_builtin; refine o_app rfl _ _ rfl w3.heap.size (some ⟨w3.heap.size, 0, none⟩) 0 rfl (World.ownsRow_made w3 #[] 0 (Nat.le_refl _) (by decide) rfl) A n cap l rfl HL.out ((HR.out.below H3.out.below).alloc _) HZ.out (by omega) (by simp) ?_; intro A' c' w4 hir hlow hbl)
    have H4 : Hid (Now W w4 (star (OA (.slice A' n c') l) (star (PA b ⟨c, [], []⟩) (PA a ⟨c, [], []⟩)))) := Lib.hid
      (H3.out.more (F1 := fun k => (Value.slice A' n c').ownBlock = some k) (star_fr (PA_fr b _) (PA_fr a _)) ((Below.refl w3.heap.size w3).alloc (Nat.le_refl _) _ |>.trans hbl) (⟨hir, fun g hg => hg, fun k hk => hir.lt hk⟩ : OA _ _ _ _) hlow (fun k hk => hir.lt hk))
    clear hir hlow hbl H3
    go_wp2_with fail
    go_loopw [36] (fun v36 wr => ∃ (k : Nat) (ol : List Nat), v36 = .int .i64 k ∧ k ≤ p ∧ Hid (ol.length = n) ∧ Hid (∀ x, x ∈ ol ↔ x ∈ l) ∧ Hid (Now W wr (star (OA (.slice A' n c') ol) (star (PA b ⟨c, [], []⟩) (PA a ⟨c, [], []⟩))))) (fun v36 _ => p - (iof v36).toNat)
    case atStart => exact ⟨0, l, rfl, Nat.zero_le _, HL, Lib.hid (fun x => Iff.rfl), H4⟩
    case round =>
      obtain ⟨k, ol, rfl, hk, HOL, HOM, HN⟩ := hrel
      clear H4
      by_cases hlt : k < p
      · have hkl : k < tn.length := by rw [TL.out]; exact hlt
        have hw1 : wrap64 ((k : Int) + 1) = ((k + 1 : Nat) : Int) := by
          have := HPM.out
          unfold maxLen at this
          unfold wrap64
          omega
        obtain ⟨d, rfl, hd0⟩ := (TR.out.below HN.out.below) k _ (ns_get hkl)
        have ht := TM.out (tn.getD k 0) (by
          have e : tn.getD k 0 = tn[k] := by simp [List.getD, hkl]
          rw [e]; exact List.getElem_mem hkl)
        generalize tn.getD k 0 = t at hd0 ht
        clear hkl
        by_cases hkn : k < n
        · have hmod : (t : Int) % (n : Int) = ((t % n : Nat) : Int) := by omega
          have hmn : t % n < n := Nat.mod_lt _ (by omega)
          generalize t % n = m at hmod hmn
          obtain ⟨g, rfl⟩ : ∃ g, A' = some ⟨g, 0, none⟩ := by
            obtain ⟨F, h, _⟩ := HN.out.left
            rcases h.1.2 with ⟨h1, h2⟩ | ⟨g, cap, cur, h1, _⟩
            · have := HOL.out; omega
            · simp only [Value.slice.injEq] at h1
              exact ⟨g, h1.1⟩
          obtain ⟨F1, HO, hpart⟩ := HN.out.part (star_fr (PA_fr b _) (PA_fr a _))
          have HPT := Lib.hid hpart
          have HO1 : Hid (OA (.slice (some ⟨g, 0, none⟩) n c') ol wr F1) := HO
          clear hpart HO
          have hcc : ∀ j, j < n → wr.cell? ⟨g, j, none⟩ = some (.int .u16 ((ol.getD j 0 : Nat) : Int)) := fun j hj => by
            obtain ⟨b, hb, hc⟩ := HO1.out.1.row j _ (ns_get (by rw [HOL.out]; exact hj))
            injection hb with hb
            subst hb
            rw [addr0] at hc
            exact hc
          have hff : ∀ j, j < n → wr.frozen? ⟨g, j, none⟩ = false := fun j hj => by
            have h1 := HO1.out.1
            unfold Ir at h1
            rw [HOL.out] at h1
            exact World.ownsRow.frozenAt h1 j
          have c1 := hcc k hkn
          have c2 := hcc m hmn
          have f1 := hff k hkn
          have f2 := hff m hmn
          clear hcc hff
          obtain ⟨v', hy'⟩ := cell_set_some (w := wr) (p := ⟨g, k, none⟩) (x := .int .u16 ((ol.getD m 0 : Nat) : Int)) (q := ⟨g, m, none⟩) c2
          have HSW : Hid (∀ q q', Now W ((((wr.drewN q).setCell ⟨g, k, none⟩ (.int .u16 (ol.getD m 0 : Nat))).setCell ⟨g, m, none⟩ (.int .u16 (ol.getD k 0 : Nat))).drewN q') (star (OA (.slice (some ⟨g, 0, none⟩) n c') (swl ol k m)) (star (PA b ⟨c, [], []⟩) (PA a ⟨c, [], []⟩)))) := Lib.hid fun q q' => by
            have hs := oa_swap HO1.out k m q q'
            exact HPT.out _ _ _ hs.2 hs.1 hs.1.2.2
          have HL2 : Hid ((swl ol k m).length = n) := Lib.hid (by rw [swl_len]; exact HOL.out)
          have HM2 : Hid (∀ x, x ∈ swl ol k m ↔ x ∈ l) := Lib.hid fun x => (swl_mem (by rw [HOL.out]; exact hkn) (by rw [HOL.out]; exact hmn) x).trans (HOM.out x)
          generalize ol.getD m 0 = x1 at c2 hy' HSW
          generalize ol.getD k 0 = x2 at c1 HSW
          go_upto_region 12 with fail
          go_region
          go_wp2_with fail
          go_roundw
          case rel => exact ⟨k + 1, swl ol k m, by go_num, by omega, HL2, HM2, Lib.hid (HSW.out 0 1)⟩
          case measure => simp only [iof]; omega
        · go_wp2_with fail
          go_roundw
          case rel => exact ⟨k + 1, ol, by go_num, by omega, HOL, HOM, HN⟩
          case measure =>
            rw [hw1]
            simp only [iof, Int.toNat_natCast]
            omega
      · have H5 : Hid (Now W (wr.alloc (.map #[] 0)) (star (MA wr.heap.size (.map [])) (star (OA (.slice A' n c') ol) (star (PA b ⟨c, [], []⟩) (PA a ⟨c, [], []⟩))))) := Lib.hid
          (HN.out.more (star_fr (OA_fr _ _) (star_fr (PA_fr b _) (PA_fr a _))) (bAlloc _ _) (mnew wr) (fun k hk => by subst hk; exact Nat.le_refl _) (fun k hk => by subst hk; simp))
        have hmk := @run_makeMap Try.prog
        go_upto_region 15 with fail
        clear hmk HN
        generalize wr.alloc (.map #[] 0) = w5 at H5 ⊢
        generalize wr.heap.size = mb at H5 ⊢
        clear hlt hk
        go_wp2_with fail
        go_loopw [68] (fun v68 wr => ∃ (k : Nat) (sta stb : St) (D : DataW Unit) (m : Nat), v68 = .int .i64 k ∧ k ≤ n ∧ Hid (∀ x ∈ l.take k, 1 ≤ x ∧ x ≤ 30000) ∧ Hid (Came c sta m (fun x => x ∈ l.take k)) ∧ Hid (Maps.size D = m + sta.ws.length) ∧ Hid (stb = play c (ol.take k)) ∧ Hid (Count D c (l.take k)) ∧ Hid (Now W wr (star (MA mb D) (star (OA (.slice A' n c') ol) (star (PA b stb) (PA a sta)))))) (fun v68 _ => n - (iof v68).toNat)
        case atStart => exact ⟨0, ⟨c, [], []⟩, ⟨c, [], []⟩, .map [], 0, rfl, Nat.zero_le _, Lib.hid (by simp), Lib.hid (by simpa using came_start HC.out), Lib.hid rfl, Lib.hid (by rw [List.take_zero]; rfl), Lib.hid (by simpa using count_start c), H5⟩
        case round =>
          obtain ⟨j, sta, stb, D, m, rfl, hj, HIN, HCM, HSZ, HSB, HCT, HN⟩ := hrel
          clear H5
          by_cases hlt : j < n
          · have hjl : j < l.length := by rw [HL.out]; exact hlt
            obtain ⟨d, rfl, hd0⟩ := (HR.out.below HN.out.below) j _ (ns_get hjl)
            have hx := HM.out (l.getD j 0) (by
              have e : l.getD j 0 = l[j] := by simp [List.getD, hjl]
              rw [e]; exact List.getElem_mem hjl)
            have HTK : Hid (l.take (j + 1) = l.take j ++ [l.getD j 0]) := Lib.hid (take_snoc hjl)
            generalize l.getD j 0 = x at hd0 hx HTK
            by_cases hx1 : x < 1
            · have e1 : decide ((x : Int) < 1) = true := decide_eq_true (by omega)
              clear hx1
              go_wp2_with fail
              go_ret
              exact ⟨rfl, HN.out.below⟩
            · have e1 : decide ((x : Int) < 1) = false := decide_eq_false (by omega)
              by_cases hx2 : 30000 < x
              · have e2 : decide ((30000 : Int) < (x : Int)) = true := decide_eq_true (by omega)
                clear hx2 hx1
                go_wp2_with fail
                go_ret
                exact ⟨rfl, HN.out.below⟩
              · have e2 : decide ((30000 : Int) < (x : Int)) = false := decide_eq_false (by omega)
                have hx3 : 1 ≤ x ∧ x ≤ 30000 := by omega
                have HX3 := Lib.hid hx3
                clear hx1 hx2 hx3
                have hfr : Fr (star (OA (.slice A' n c') ol) (star (PA b stb) (PA a sta))) := star_fr (OA_fr _ _) (star_fr (PA_fr b _) (PA_fr a _))
                have HOKA : Hid sta.Ok := Lib.hid HN.out.toB.rot.ok
                obtain ⟨m', hcm, hrc, hcnt⟩ := came_add HCM.out HOKA.out HC.out HX3.out.1 HX3.out.2
                have hLK : ∀ (R : World → (Nat → Prop) → Prop) w', Now W w' (star (MA mb D) R) → (Instr.lookup 47 (.map (some mb)) (.int .u32 ((up c x : Nat) : Int)) false).run Try.prog w' = .ok (.int .i64 ((l.take j).count x : Nat)) w' := fun R w' h => look_now h HCT.out (by have := HX3.out; omega)
                have hc0 : (l.take j).count x = 0 ↔ x ∉ l.take j := List.count_eq_zero
                have hcl : (l.take j).count x ≤ 300 := Nat.le_trans List.count_le_length (by simp; omega)
                have hwf9 := wf32 (up_lt c x)
                have hkey9 := key32 (up_lt c x)
                have HT := Lib.hid (HN.out.mown.tidy law32)
                have HCP := Lib.hid (count_put HCT.out HT.out (w := x) (by have := HX3.out; omega))
                have HSP := Lib.hid (count_size HCT.out HT.out (w := x) (by have := HX3.out; omega) (.lit (.int .i64 (((l.take j).count x + 1 : Nat) : Int))))
                have C1 := Lib.hid (s_add (up c x) (HN.out.next (star_fr (MA_fr mb D) hfr) ((Below.refl wr.heap.size wr).drew)).toB.rot (star_fr (star_fr (MA_fr mb D) (OA_fr _ _)) (PA_fr b _)) (up_lt c x))
                obtain ⟨⟨st2, rc⟩, hp⟩ : ∃ p, sta.add (up c x) = p := ⟨_, rfl⟩
                rw [hp] at C1 hcm hrc hcnt
                simp only at C1 hcm hrc hcnt
                clear hp
                have hwx : IntKind.u32.wrap (x : Int) = (x : Int) := by rw [IntKind.wrap_u32]; omega
                have hwa : IntKind.u32.wrap ((c : Int) + (x : Int)) = ((up c x : Nat) : Int) := wrap_add
                have HCM2 : Hid (Came c st2 m' (fun y => y ∈ l.take (j + 1))) := Lib.hid (by rw [HTK.out]; exact hcm)
                have HCN : Hid (m' + st2.ws.length = m + sta.ws.length + (if x ∈ l.take j then 0 else 1)) := Lib.hid hcnt
                obtain ⟨cnt, hct⟩ : ∃ cnt, (l.take j).count x = cnt := ⟨_, rfl⟩
                rw [hct] at hLK hc0 hcl HCP HSP
                rw [← hrc] at hc0
                obtain ⟨z, e3, e4⟩ : ∃ z, ((rc : Int) == 0) = z ∧ ((cnt : Int) == 0) = z := ⟨_, rfl, by rw [Bool.eq_iff_iff]; simp only [beq_iff_eq]; omega⟩
                have HLK := Lib.hid hLK
                have hs := hLK _ _ (HN.out.next (star_fr (MA_fr mb D) hfr) ((Below.refl wr.heap.size wr).drew))
                have HKEY := Lib.hid hkey9
                clear hcm hcnt hrc hc0 hct hLK hwf9 hkey9
                have hu9 := up_lt c x
                generalize up c x = u at HLK hs HKEY C1 hwa HCP HSP hu9
                go_upto_region 21 with fail
                go_cut [91] from 73 to 91 (fun v91 wx => v91 = .bool false ∧ Hid (Now W wx (star (MA mb D) (star (OA (.slice A' n c') ol) (star (PA b stb) (PA a st2))))))
                case first =>
                  first | go_region_held3 (fun W => (Instr.lookup 47 (.map (some mb)) (.int .u32 (u : Int)) false).run Try.prog W = .ok (.int .i64 (cnt : Int)) W) (first | exact hs | assumption) ((go_at_call 8; (with_reducible refine C1.out.mono ?_); rintro e w6 ⟨rfl, h6⟩; have hs6 := HLK.out _ _ h6.rot.assoc; have H6 := Lib.hid h6.rot.assoc; clear h6)) | fail
                  all_goals
                    go_wp2_with fail
                    go_meet
                    case rel => exact ⟨by first | rfl | simp, H6⟩
                case rest =>
                  obtain ⟨rfl, H6⟩ := hcut
                  have hl6 := HLK.out _ _ H6.out
                  have hsz : Maps.size D ≤ 95534 := by
                    rw [HSZ.out]
                    have h1 := HCM.out.hm
                    have h2 := ris_len HOKA.out.2.1
                    omega
                  have HSZ9 := Lib.hid hsz
                  have hjo : j < ol.length := by rw [HOL.out]; exact hlt
                  have HYM := Lib.hid (HM.out (ol.getD j 0) ((HOM.out _).1 (by
                    have e : ol.getD j 0 = ol[j] := by simp [List.getD, hjo]
                    rw [e]; exact List.getElem_mem hjo)))
                  have HSB2 : Hid ((stb.add (up c (ol.getD j 0))).1 = play c (ol.take (j + 1))) := Lib.hid (by rw [play_take hjo, HSB.out])
                  have HYC : Hid (∀ R1 R2 w', Now W w' (star R1 (star (OA (.slice A' n c') ol) R2)) → ∃ d2, A' = some d2 ∧ w'.cell? (d2.add j) = some (.int .u16 ((ol.getD j 0 : Nat) : Int))) := Lib.hid fun R1 R2 w' h => h.orow.row j _ (ns_get hjo)
                  obtain ⟨d2, hd2, _⟩ := HYC.out _ _ _ H6.out
                  subst hd2
                  have HYD : Hid (∀ R1 R2 w', Now W w' (star R1 (star (OA (.slice (some d2) n c') ol) R2)) → w'.cell? (d2.add j) = some (.int .u16 ((ol.getD j 0 : Nat) : Int))) := Lib.hid fun R1 R2 w' h => by
                    obtain ⟨d3, h1, h2⟩ := HYC.out _ _ _ h
                    injection h1 with h1
                    rw [h1]; exact h2
                  clear hsz hjo HYC hs
                  generalize ol.getD j 0 = y at HYM HSB2 HYD
                  have hy6 := HYM.out
                  have hwy : IntKind.u32.wrap (y : Int) = (y : Int) := by rw [IntKind.wrap_u32]; omega
                  have hwb : IntKind.u32.wrap ((c : Int) + (y : Int)) = ((up c y : Nat) : Int) := wrap_add
                  have hv9 := up_lt c y
                  generalize up c y = v at hwb hv9 HSB2
                  obtain ⟨⟨sb2, rb⟩, hpb⟩ : ∃ p, stb.add v = p := ⟨_, rfl⟩
                  rw [hpb] at HSB2
                  simp only at HSB2
                  have HPB := Lib.hid hpb
                  clear hpb
                  have hec : ((cnt : Int) + 1) = ((cnt + 1 : Nat) : Int) := by omega
                  have HEC := Lib.hid hec
                  clear hec
                  go_upto_region 24 with (at_mapUpdate; refine wpList_mapUpdate_own _ rfl _ _ _ 47 rfl 22 3 law32 Try.underlying47 (plainElem Try.prog 3) mb _ D rfl H6.out.mown (by have := HSZ9.out; unfold maxLen; omega) _ _ (.int .u32 (u : Int)) rfl rfl HKEY.out (.lit (.int .i64 ((cnt : Int) + 1))) [] (plainElem_int Try.underlying3 (by simp [Lit.wf, IntKind.min, IntKind.max, IntKind.signed, IntKind.bits]; omega)) ?_; intro w7 hown7 hgr7)
                  rw [HEC.out] at hown7
                  have H7 := Lib.hid (ma_put (star_fr (OA_fr _ _) (star_fr (PA_fr b _) (PA_fr a _))) H6.out hown7 hgr7)
                  clear hown7 hgr7 hl6
                  have hy7 := HYD.out _ _ _ H7.out
                  have C2 := Lib.hid (s_add v H7.out.toB (star_fr (PA_fr a _) (star_fr (MA_fr mb _) (OA_fr _ _))) hv9)
                  rw [HPB.out] at C2
                  simp only at C2
                  go_wp2_with fail
                  refine C2.out.mono ?_
                  rintro e w8 ⟨rfl, h8⟩
                  have H8 := Lib.hid h8.rot.rot.assoc
                  clear h8 C2 hy7
                  go_wp2_with fail
                  go_roundw
                  case rel => exact ⟨j + 1, st2, sb2, _, m', by go_num, by omega, Lib.hid (by
                    rw [HTK.out]
                    intro q hq
                    rcases List.mem_append.1 hq with hq | hq
                    · exact HIN.out q hq
                    · have e := List.mem_singleton.1 hq
                      rw [e]; exact HX3.out), HCM2, Lib.hid (by rw [HSP.out, HSZ.out]; have := HCN.out; omega), HSB2, Lib.hid (by rw [HTK.out]; exact HCP.out), H8⟩
                  case measure => simp only [iof]; omega
          · have hjn : j = n := by omega
            subst hjn
            have HTA : Hid (l.take j = l) := Lib.hid (List.take_of_length_le (by rw [HL.out]; exact Nat.le_refl _))
            have HTO : Hid (ol.take j = ol) := Lib.hid (List.take_of_length_le (by rw [HOL.out]; exact Nat.le_refl _))
            rw [HTA.out] at HIN HCM HCT
            rw [HTO.out] at HSB
            have HIO : ∀ x ∈ ol, 1 ≤ x ∧ x ≤ 30000 := fun x hx => HIN.out x ((HOM.out x).1 hx)
            obtain ⟨m2, hcb⟩ := came_play HC.out ol HIO ol.length (Nat.le_refl _)
            rw [List.take_length, ← HSB.out] at hcb
            have hokb : stb.Ok := by rw [HSB.out]; exact play_ok HC.out _
            have HOKA : Hid sta.Ok := Lib.hid HN.out.toB.rot.ok
            obtain ⟨hs1, hs2⟩ := came_same HCM.out hcb HOKA.out hokb (fun x => (HOM.out x).symm)
            have hs3 : stb.gaps = sta.gaps := by unfold St.gaps; rw [hs2]
            have hfr : Fr (star (MA mb D) (star (OA (.slice A' j c') ol) (star (PA b stb) (PA a sta)))) := star_fr (MA_fr mb D) (star_fr (OA_fr _ _) (star_fr (PA_fr b _) (PA_fr a _)))
            have HNX : Hid (∀ w', Below wr.heap.size wr w' → Now W w' (star (MA mb D) (star (OA (.slice A' j c') ol) (star (PA b stb) (PA a sta))))) := Lib.hid fun w' hb' => HN.out.next hfr hb'
            have hfa : Fr (star (star (MA mb D) (OA (.slice A' j c') ol)) (PA b stb)) := star_fr (star_fr (MA_fr mb D) (OA_fr _ _)) (PA_fr b _)
            have hfb : Fr (star (PA a sta) (star (MA mb D) (OA (.slice A' j c') ol))) := star_fr (PA_fr a _) (star_fr (MA_fr mb D) (OA_fr _ _))
            have D1 : Hid (∀ w', Below wr.heap.size wr w' → Calls Try.prog 14 #[.pointer (some ⟨a, 0, none⟩)] w' fun e w'' => e = .returned (.int .u32 (sta.cum : Int)) ∧ w' = w'') := Lib.hid fun w' hb' => s_cum (HNX.out w' hb').toB.rot
            have E1 : Hid (∀ w', Below wr.heap.size wr w' → Calls Try.prog 14 #[.pointer (some ⟨b, 0, none⟩)] w' fun e w'' => e = .returned (.int .u32 (sta.cum : Int)) ∧ w' = w'') := Lib.hid fun w' hb' => by
              have := s_cum (HNX.out w' hb').toB
              rw [← hs1] at this
              exact this
            have D2 : Hid (∀ w', Below wr.heap.size wr w' → Calls Try.prog 16 #[.pointer (some ⟨a, 0, none⟩)] w' fun e w'' => ∃ A c, e = .returned (.slice A sta.gaps.length c) ∧ Row w'' A (gs sta.gaps) ∧ Below w'.heap.size w' w'') := Lib.hid fun w' hb' => (s_gaps (HNX.out w' hb').toB.rot hfa).mono fun e w'' ⟨A, c, h1, h2, h3, _⟩ => ⟨A, c, h1, h2, h3⟩
            have E2 : Hid (∀ w', Below wr.heap.size wr w' → Calls Try.prog 16 #[.pointer (some ⟨b, 0, none⟩)] w' fun e w'' => ∃ A c, e = .returned (.slice A sta.gaps.length c) ∧ Row w'' A (gs sta.gaps) ∧ Below w'.heap.size w' w'') := Lib.hid fun w' hb' => by
              have := s_gaps (HNX.out w' hb').toB hfb
              rw [hs3] at this
              exact this.mono fun e w'' ⟨A, c, h1, h2, h3, _⟩ => ⟨A, c, h1, h2, h3⟩
            have D5 : Hid (∀ w', Below wr.heap.size wr w' → Calls Try.prog 18 #[.pointer (some ⟨a, 0, none⟩)] w' fun e w'' => e = .returned (.int .i64 (sta.ws.length : Int)) ∧ w' = w'') := Lib.hid fun w' hb' => s_len (HNX.out w' hb').toB.rot
            have E5 : Hid (∀ w', Below wr.heap.size wr w' → Calls Try.prog 18 #[.pointer (some ⟨b, 0, none⟩)] w' fun e w'' => e = .returned (.int .i64 (sta.ws.length : Int)) ∧ w' = w'') := Lib.hid fun w' hb' => by
              have := s_len (HNX.out w' hb').toB
              rw [← hs2] at this
              exact this
            have hno : sta.has (up sta.cum 1) = false := by
              have h1 : wy sta.cum (up sta.cum 1) = 1 := wy_up HOKA.out.1 (by omega)
              unfold St.has psd
              rw [h1]
              simp only [Bool.or_eq_false_iff, decide_eq_false_iff_not]
              exact ⟨by omega, fun h => by have := (HOKA.out.2.1.2 1 h).1; omega⟩
            have D6 : Hid (∀ w', Below wr.heap.size wr w' → Calls Try.prog 19 #[.pointer (some ⟨a, 0, none⟩), .int .u32 ((up sta.cum 1 : Nat) : Int)] w' fun e w'' => e = .returned (.bool false) ∧ Below w'.heap.size w' w'') := Lib.hid fun w' hb' => by
              have := s_hasb (up sta.cum 1) (HNX.out w' hb').toB.rot (up_lt _ 1)
              rw [hno] at this
              exact this
            have D7 : Hid (∀ x, 1 ≤ x → x ≤ 30001 → ∀ w', Below wr.heap.size wr w' → Calls Try.prog 19 #[.pointer (some ⟨a, 0, none⟩), .int .u32 ((up c x : Nat) : Int)] w' fun e w'' => e = .returned (.bool (decide (x ∈ l))) ∧ Below w'.heap.size w' w'') := Lib.hid fun x h1 h2 w' hb' => by
              have := s_hasb (up c x) (HNX.out w' hb').toB.rot (up_lt _ x)
              rw [has_came HCM.out HC.out h1 h2] at this
              exact this
            have HLK : Hid (∀ x, x ≤ 30001 → ∀ w', Below wr.heap.size wr w' → (Instr.lookup 47 (.map (some mb)) (.int .u32 ((up c x : Nat) : Int)) false).run Try.prog w' = .ok (.int .i64 (l.count x : Nat)) w') := Lib.hid fun x h1 w' hb' => look_now (HNX.out w' hb') HCT.out h1
            have HMO : Hid (∀ w', Below wr.heap.size wr w' → w'.ownsMap Try.prog 22 (plainElem Try.prog 3) mb (Maps.size D) D) := Lib.hid fun w' hb' => (HNX.out w' hb').mown
            have HGA := Lib.hid (fun i (hi : i < sta.gaps.length) => gap_at HCM.out HOKA.out hi)
            have hgl := gaps_len sta
            have HWB : Hid (∀ w', Below wr.heap.size wr w' → Below W.heap.size W w') := Lib.hid fun w' hb' => bnext HN.out.below hb'
            have HCC : Hid (wy c sta.cum = m ∧ sta.cum < 4294967296) := Lib.hid ⟨by rw [HCM.out.cum]; exact wy_up HC.out (by have := HCM.out.hm; omega), HOKA.out.1⟩
            have HMM := Lib.hid HCM.out.hm
            have HQL := Lib.hid (ris_len HOKA.out.2.1)
            clear hno hs1 hs2 hs3 hcb hokb HIO hfr hfa hfb
            clear HNX HCM HIN HSB HCT HOM HOL HTA HTO HOKA HN
            generalize sta.gaps = gl at D2 E2 HGA hgl
            obtain ⟨q, hq⟩ : ∃ q, sta.ws.length = q := ⟨_, rfl⟩
            rw [hq] at D5 E5 HSZ HQL
            clear hq
            obtain ⟨cm, hcme⟩ : ∃ cm, sta.cum = cm := ⟨_, rfl⟩
            rw [hcme] at D1 E1 D6 HCC
            clear hcme
            obtain ⟨pp, hpp⟩ : ∃ pp, gl.length = pp := ⟨_, rfl⟩
            rw [hpp] at D2 E2 hgl
            have HPP := Lib.hid hpp
            clear hpp
            have hb0 : Hid (Below wr.heap.size wr wr) := Lib.hid (Below.refl _ _)
            have hwv : IntKind.u32.wrap ((cm : Int) + 1) = ((up cm 1 : Nat) : Int) := wrap_add (a := cm) (b := 1)
            generalize up cm 1 = v at D6 hwv
            go_wp2_with fail
            refine (D1.out _ hb0.out).mono ?_
            rintro e w ⟨rfl, rfl⟩
            go_wp2_with fail
            refine (E1.out _ hb0.out).mono ?_
            rintro e w ⟨rfl, rfl⟩
            go_wp2_with fail
            refine (D2.out _ hb0.out).mono ?_
            rintro e w6 ⟨E, ce, rfl, hr6, hb6⟩
            have HR6 := Lib.hid hr6
            have HB6 := Lib.hid hb6
            clear hr6 hb6
            go_wp2_with fail
            refine (E2.out _ HB6.out).mono ?_
            rintro e w7 ⟨G, cg, rfl, hr7, hb7⟩
            have HR7 := Lib.hid hr7
            have HR67 := Lib.hid (HR6.out.below hb7)
            have HB7 := Lib.hid (bnext HB6.out hb7)
            clear hr7 hb7 HR6
            go_wp2_with fail
            refine (sgaps_same E G pp ce cg gl w7 HPP.out (by omega) HR67.out HR7.out).mono ?_
            rintro e w8 ⟨rfl, hb8⟩
            have HB8 := Lib.hid (bnext HB7.out hb8)
            clear hb8 HR67 HR7
            go_wp2_with fail
            refine (D5.out _ HB8.out).mono ?_
            rintro e w ⟨rfl, rfl⟩
            go_wp2_with fail
            refine (E5.out _ HB8.out).mono ?_
            rintro e w ⟨rfl, rfl⟩
            go_wp2_with fail
            refine (D1.out _ HB8.out).mono ?_
            rintro e w ⟨rfl, rfl⟩
            go_wp2_with fail
            refine (D6.out _ HB8.out).mono ?_
            rintro e w9 ⟨rfl, hb9⟩
            have HB9 := Lib.hid (bnext HB8.out hb9)
            clear hb9 D6 hwv
            go_wp2_with fail
            refine (D2.out _ HB9.out).mono ?_
            rintro e w10 ⟨E, ce, rfl, hr10, hb10⟩
            have HR10 := Lib.hid hr10
            have HB10 := Lib.hid (bnext HB9.out hb10)
            clear hr10 hb10
            go_wp2_with fail
            obtain ⟨wo, hwo⟩ : ∃ wo, wo = wr := ⟨_, rfl⟩
            rw [← hwo] at D1 E1 D2 E2 D5 E5 D7 HLK HMO HWB HB10
            clear hwo
            go_loopw [17, 136] (fun v17 v136 wx => ∃ (i en : Nat), v136 = .int .i64 i ∧ i ≤ pp ∧ v17 = .int .u16 en ∧ Hid (en = if i = 0 then 0 else (gl.getD (i - 1) (0, 0)).2) ∧ en ≤ 30000 ∧ Hid (Row wx E (gs gl)) ∧ Hid (Below wo.heap.size wo wx)) (fun _ v136 _ => pp - (iof v136).toNat)
            case atStart => exact ⟨0, 0, rfl, Nat.zero_le _, rfl, Lib.hid rfl, by omega, HR10, HB10⟩
            case round =>
              obtain ⟨i, en, rfl, hi, rfl, HEN, hen, HRG, HBX⟩ := hrel
              clear HR10 HB10
              by_cases hig : i < pp
              · have hil : i < gl.length := by rw [HPP.out]; exact hig
                obtain ⟨d3, rfl, g0, g1⟩ := row_gap HRG.out hil
                have HG := Lib.hid (HGA.out i hil)
                have HGE : Hid ((gl.getD (i + 1 - 1) (0, 0)).2 = gl[i].2) := Lib.hid (by simp [List.getD, hil])
                generalize gl[i] = pr at g0 g1 HG HGE
                obtain ⟨x1, x2⟩ := pr
                have hg := HG.out
                rw [← HEN.out] at hg
                simp only at g0 g1 hg HGE
                have d1 : decide ((x2 : Int) < (x1 : Int)) = false := decide_eq_false (by omega)
                have d2 : decide ((x1 : Int) < (en : Int) + 2) = false := decide_eq_false (by omega)
                have d5 : decide (x2 < x1) = false := decide_eq_false (by omega)
                have d6 : decide (x1 < en + 2) = false := decide_eq_false (by omega)
                have d4 : decide ((x1 : Int) < 2) = false := decide_eq_false (by omega)
                have hwe : IntKind.u16.wrap ((en : Int) + 2) = (en : Int) + 2 := by
                  have := wrap16 (x := en + 2) (by omega)
                  simpa using this
                have hx2 := hg.2.2.1
                clear hg hil HG
                go_upto_region 32 with fail
                have kb0 : (wr.alloc (.cells #[.int .u16 (x1 : Int), .int .u16 (x2 : Int)] 49)).cell? ⟨wr.heap.size, 0, none⟩ = some (.int .u16 (x1 : Int)) := ((Bk.new wr _ _).cell 0).trans rfl
                have kb1 : (wr.alloc (.cells #[.int .u16 (x1 : Int), .int .u16 (x2 : Int)] 49)).cell? ⟨wr.heap.size, 1, none⟩ = some (.int .u16 (x2 : Int)) := ((Bk.new wr _ _).cell 1).trans rfl
                have HRG2 := Lib.hid (HRG.out.alloc (.cells #[.int .u16 (x1 : Int), .int .u16 (x2 : Int)] 49))
                have HBX2 := Lib.hid (HBX.out.alloc HBX.out.size (.cells #[.int .u16 (x1 : Int), .int .u16 (x2 : Int)] 49))
                generalize wr.alloc (.cells #[.int .u16 (x1 : Int), .int .u16 (x2 : Int)] 49) = w11 at kb0 kb1 HRG2 HBX2 ⊢
                generalize wr.heap.size = gb at kb0 kb1 ⊢
                clear g0 g1 HRG HBX
                go_wp2_with fail
                go_roundw
                case rel => exact ⟨i + 1, x2, by go_num, by omega, rfl, Lib.hid (by rw [if_neg (by omega)]; exact HGE.out.symm), hx2, HRG2, HBX2⟩
                case measure => simp only [iof]; omega
              · clear HRG HEN
                go_wp2_with fail
                go_loopw [20] (fun v20 wx => ∃ x : Nat, v20 = .int .u32 x ∧ 1 ≤ x ∧ x ≤ 30752 ∧ Hid (Below wo.heap.size wo wx)) (fun v20 _ => 30752 - (iof v20).toNat)
                case atStart => exact ⟨1, rfl, by omega, by omega, HBX⟩
                case round =>
                  obtain ⟨x, rfl, hx1, hx2, HBY⟩ := hrel
                  clear HBX
                  by_cases hxl : x ≤ 30001
                  · have e1 : decide ((x : Int) ≤ 30001) = true := decide_eq_true (by omega)
                    have hwa : IntKind.u32.wrap ((c : Int) + (x : Int)) = ((up c x : Nat) : Int) := wrap_add
                    have hbd : Below wo.heap.size wo wr.drew := HBY.out.drew
                    have C1 := Lib.hid (D7.out x hx1 hxl _ hbd)
                    have hs := HLK.out x hxl _ hbd
                    have HL2 : Hid (∀ w', Below wo.heap.size wo w' → (Instr.lookup 47 (.map (some mb)) (.int .u32 ((up c x : Nat) : Int)) false).run Try.prog w' = .ok (.int .i64 (l.count x : Nat)) w') := Lib.hid fun w' hb' => HLK.out x hxl w' hb'
                    have hc0 : 0 < l.count x ↔ x ∈ l := List.count_pos_iff
                    obtain ⟨cnt, hct⟩ : ∃ cnt, l.count x = cnt := ⟨_, rfl⟩
                    rw [hct] at hs HL2 hc0
                    obtain ⟨z, hz1, hz2, hz3⟩ : ∃ z, decide (x ∈ l) = z ∧ decide ((0 : Int) < (cnt : Int)) = z ∧ decide (0 < cnt) = z := ⟨_, rfl, by rw [decide_eq_decide, ← hc0]; omega, by rw [decide_eq_decide]; exact hc0⟩
                    rw [hz1] at C1
                    clear hz1 hc0 hct
                    generalize up c x = u at hwa C1 hs HL2
                    go_upto_region 39 with fail
                    go_cut [178] from 167 to 178 (fun v178 wx => v178 = .bool false ∧ Hid (Below wo.heap.size wo wx))
                    case first =>
                      first | go_region_held3 (fun W => (Instr.lookup 47 (.map (some mb)) (.int .u32 (u : Int)) false).run Try.prog W = .ok (.int .i64 (cnt : Int)) W) (first | exact hs | assumption) ((go_at_call 19; (with_reducible refine C1.out.mono ?_); rintro e w12 ⟨rfl, hb12⟩; have hb13 := bnext hbd hb12; have hs12 := HL2.out _ hb13)) | fail
                      all_goals
                        go_wp2_with fail
                        go_meet
                        case rel => exact ⟨by first | rfl | simp, hb13⟩
                    case rest =>
                      obtain ⟨rfl, HBZ⟩ := hcut
                      have hdiv : (x : Int) / 40 = ((x / 40 : Nat) : Int) := by omega
                      have hd2 : x / 40 ≤ 750 := by omega
                      generalize x / 40 = y at hdiv hd2
                      clear hs C1 HL2 hbd hwa hz2 hz3
                      have hw1 : IntKind.u32.wrap (1 + (y : Int)) = 1 + (y : Int) := by rw [IntKind.wrap_u32]; omega
                      have hw2 : IntKind.u32.wrap ((x : Int) + (1 + (y : Int))) = (x : Int) + (1 + (y : Int)) := by rw [IntKind.wrap_u32]; omega
                      go_wp2_with fail
                      go_roundw
                      case rel => exact ⟨x + (1 + y), by go_num, by omega, by omega, HBZ⟩
                      case measure => simp only [iof]; omega
                  · have e1 : decide ((x : Int) ≤ 30001) = false := decide_eq_false (by omega)
                    have hws : IntKind.u32.wrap ((cm : Int) - (c : Int)) = (m : Int) := by
                      rw [wrap_sub HC.out HCC.out.2, HCC.out.1]
                    have hm9 := HMM.out
                    have hq9 := HQL.out
                    have hmo := HMO.out _ HBY.out
                    have HSI : Hid ((Maps.size D : Nat) = m + q) := Lib.hid HSZ.out
                    have HW0 := Lib.hid hmo
                    clear hmo
                    go_wp2_with fail
                    refine (D1.out _ HBY.out).mono ?_
                    rintro e w ⟨rfl, rfl⟩
                    go_wp2_with fail
                    refine (D5.out _ HBY.out).mono ?_
                    rintro e w ⟨rfl, rfl⟩
                    go_wp2_with (at_len; refine wpList_len_own _ rfl _ 47 rfl 22 3 Try.underlying47 (plainElem Try.prog 3) mb _ D rfl HW0.out ?_; rw [HSI.out])
                    refine (D2.out _ HBY.out).mono ?_
                    rintro e w13 ⟨E, ce, rfl, hr13, hb13⟩
                    have HB13 := Lib.hid (HWB.out _ (bnext HBY.out hb13))
                    clear hr13 hb13
                    have hp64 : decide ((pp : Int) ≤ 64) = true := decide_eq_true (by omega)
                    go_wp2_with fail
                    go_ret
                    exact ⟨rfl, HB13.out⟩
theorem gapsOrder_walk (c : Int) (A : Option Addr) (n cap : Nat) (zs : List Int) (B : Option Addr) (p capB : Nat) (ys : List Int) (W : World) (hc : (Lit.int .u32 c).wf = true) (hr : IsRow .u16 W A n cap zs) (ht : IsRow .u16 W B p capB ys) :
    Calls Try.prog 4 #[.int .u32 c, .slice A n cap, .slice B p capB] W fun e w' => e = .returned (.bool true) ∧ Below W.heap.size W w' := by
  obtain ⟨c, rfl, hc2⟩ := nat32 hc
  obtain ⟨l, hl, h1, h2, hm, hrow, hz⟩ := isrow_nats 65536 (fun n hn => wf_u16 hn) hr
  obtain ⟨tn, tl, t1, t2, tm, trow, _⟩ := isrow_nats 65536 (fun n hn => wf_u16 hn) ht
  exact gapsOrder_main c A n cap l B p capB tn W hc2 hl hm hrow hz tl tm trow (Nat.le_trans t1 t2)
end Go.Proofs.Ytkjepopmlpfnpaa
