/-
  What the document's Same does, of chunks that are one.
-/
import Derived.Test.YtbliipjiilmbcaaYP1a
import Derived.IntWalk
namespace Go.Proofs.Ytbliipjiilmbcaa
open Go.RowKit Wire Tlv Chunk

theorem Un.drewN {w W : World} {cs z : Array Value} (h : Un w cs z W) (q : Nat) : Un w cs z (W.drewN q) := ⟨h.1.drewN q, h.2.1.drewN q, below_drewN h.2.2 q⟩
set_option maxRecDepth 100000 in
set_option maxHeartbeats 4000000 in
theorem ckSame_any (c : Ck) (s s' : Ls) (w : World) (h : Ch w c s) (h' : Ch w c s') :
    Calls Try.prog 14 #[.agg (cv c s), .agg (cv c s')] w fun e w' => e = .returned (.bool true) ∧ Below w.heap.size w w' := by
  have HU : Hid (Un w (cv c s) (cv c s') _) := Lib.hid (Un.new w (cv c s) (cv c s'))
  have ed : s'.dn = s.dn := by rw [← h.z.d, ← h'.z.d]
  have ea : s'.an = s.an := by rw [← h.z.a, ← h'.z.a]
  have eg : s'.gn = s.gn := by rw [← h.z.g, ← h'.z.g]
  have eu : s'.un = s.un := by rw [← h.z.u, ← h'.z.u]
  have ec : s'.cn = s.cn := by rw [← h.z.c, ← h'.z.c]
  have HAL := Lib.hid h.z.a
  have HGL := Lib.hid h.z.g
  have HUL := Lib.hid h.z.u
  have HCL := Lib.hid h.z.c
  have m1 := h.z.am
  have m2 := h.z.gm
  have m3 := h.z.um
  have m4 := h.z.cm
  have H := Lib.hid h
  have H' := Lib.hid h'
  have hc1 : ∀ W, Below w.heap.size w W → (convert 23 9 (.slice s.dA s.dn s.dc)).run Try.prog W = .ok (.string (strOf c.da)) W := fun W hb => by
    obtain ⟨A, n, cc, hv, hl, _, _, _, hr, _⟩ := h.dr.next hb
    injection hv with h1 h2 h3
    subst h1; subst h2; subst h3
    exact run_strOf (P := Try.prog) (src := 23) (dst := 9) Try.underlying23 Try.underlying5 Try.underlying9 hl hr
  have hc2 : ∀ W, Below w.heap.size w W → (convert 23 9 (.slice s'.dA s.dn s'.dc)).run Try.prog W = .ok (.string (strOf c.da)) W := fun W hb => by
    obtain ⟨A, n, cc, hv, hl, _, _, _, hr, _⟩ := h'.dr.next hb
    rw [ed] at hv
    injection hv with h1 h2 h3
    subst h1; subst h2; subst h3
    exact run_strOf (P := Try.prog) (src := 23) (dst := 9) Try.underlying23 Try.underlying5 Try.underlying9 hl hr
  have HC1 := Lib.hid hc1
  have HC2 := Lib.hid hc2
  have hst : ∀ (i : Nat) x v v', c.ca[i]? = some x → s.cq[i]? = some v → s'.cq[i]? = some v' → ∃ A n cc A' n' cc', v = .slice A n cc ∧ v' = .slice A' n' cc' ∧ ∀ W, Below w.heap.size w W → (convert 23 9 (.slice A n cc)).run Try.prog W = .ok (.string (strOf x.2)) W ∧ (convert 23 9 (.slice A' n' cc')).run Try.prog W = .ok (.string (strOf x.2)) W := fun i x v v' h1 h2 h3 => by
    obtain ⟨A, n, cc, rfl, hl, _, _, _, hr, _⟩ := h.cd i x v h1 h2
    obtain ⟨A', n', cc', rfl, hl', _, _, _, hr', _⟩ := h'.cd i x v' h1 h3
    exact ⟨A, n, cc, A', n', cc', rfl, rfl, fun W hb => ⟨run_strOf (P := Try.prog) (src := 23) (dst := 9) Try.underlying23 Try.underlying5 Try.underlying9 hl (hr.below hb), run_strOf (P := Try.prog) (src := 23) (dst := 9) Try.underlying23 Try.underlying5 Try.underlying9 hl' (hr'.below hb)⟩⟩
  have HST := Lib.hid hst
  have ED := Lib.hid ed
  have EA := Lib.hid ea
  have EG := Lib.hid eg
  have EU := Lib.hid eu
  have EC := Lib.hid ec
  clear h h' hc1 hc2 hst ed ea eg eu ec
  go_enter Try.func14, Try.ntmps14
  go_upto_region 1 with fail
  generalize World.alloc (World.alloc w _) _ = W1 at HU ⊢
  have g0 := HU.out.1.c0
  have k0 := HU.out.2.1.c0
  have g1 := HU.out.1.c1
  have k1 := HU.out.2.1.c1
  have g2 := HU.out.1.c2
  have k2 := HU.out.2.1.c2
  have g3 := HU.out.1.c3
  have k3 := HU.out.2.1.c3
  have g4 := HU.out.1.c4
  have k4 := HU.out.2.1.c4
  have g5 := HU.out.1.c5
  have k5 := HU.out.2.1.c5
  have g6 := HU.out.1.c6
  have k6 := HU.out.2.1.c6
  have g7 := HU.out.1.c7
  have k7 := HU.out.2.1.c7
  have g8 := HU.out.1.c8
  have k8 := HU.out.2.1.c8
  have g9 := HU.out.1.c9
  have k9 := HU.out.2.1.c9
  have g10 := HU.out.1.c10
  have k10 := HU.out.2.1.c10
  have g11 := HU.out.1.c11
  have k11 := HU.out.2.1.c11
  have g12 := HU.out.1.c12
  have k12 := HU.out.2.1.c12
  have g13 := HU.out.1.c13
  have k13 := HU.out.2.1.c13
  have g14 := HU.out.1.c14
  have k14 := HU.out.2.1.c14
  rw [ED.out] at k10
  rw [EA.out] at k11
  rw [EG.out] at k12
  rw [EU.out] at k13
  rw [EC.out] at k14
  have v1 := HC1.out W1 HU.out.2.2
  have v2 := HC2.out W1 HU.out.2.2
  generalize strOf c.da = str at v1 v2
  go_upto_region 5 with fail
  clear v1 v2 g0 k0 g1 k1 g2 k2 g3 k3 g4 k4 g5 k5 g6 k6 g7 k7 g8 k8 g9 k9 g10 k10 g11 k11 g12 k12 g13 k13 g14 k14
  have g11 := HU.out.1.c11
  have k11 := HU.out.2.1.c11
  rw [EA.out] at k11
  go_wp2_with fail
  clear g11 k11
  go_loopw [5] (fun i wr => ∃ k : Nat, k ≤ s.an ∧ i = .int .i64 (k : Int) ∧ Hid (Un w (cv c s) (cv c s') wr)) (fun i _ => s.an - (intOf i).toNat)
  case atStart => exact ⟨0, by omega, rfl, HU⟩
  case round =>
    obtain ⟨k20, hk, rfl, hu0⟩ := hrel
    have g11 := hu0.out.1.c11
    have k11 := hu0.out.2.1.c11
    rw [EA.out] at k11
    by_cases hlt : k20 < s.an
    · have hkl : k20 < c.ad.length := by rw [HAL.out]; exact hlt
      obtain ⟨a, hA, c0⟩ := num_at (H.out.ar.below hu0.out.2.2) hkl
      obtain ⟨a', hA', c0'⟩ := num_at (H'.out.ar.below hu0.out.2.2) hkl
      rw [hA] at g11
      rw [hA'] at k11
      generalize c.ad[k20] = y at c0 c0'
      clear hA hA' hkl
      go_wp2_with fail
      go_quiet (fail)
      go_wp2_with fail
      go_roundw
      case rel => exact ⟨k20 + 1, by omega, by go_num, Lib.hid (hu0.out.drewN _)⟩
      case measure => simp [intOf]; omega
    · go_upto_region 10 with fail
      clear g11 k11
      have g12 := hu0.out.1.c12
      have k12 := hu0.out.2.1.c12
      rw [EG.out] at k12
      go_wp2_with fail
      clear g12 k12
      go_loopw [6] (fun i wr => ∃ k : Nat, k ≤ s.gn ∧ i = .int .i64 (k : Int) ∧ Hid (Un w (cv c s) (cv c s') wr)) (fun i _ => s.gn - (intOf i).toNat)
      case atStart => exact ⟨0, by omega, rfl, hu0⟩
      case round =>
        obtain ⟨k21, hk, rfl, hu1⟩ := hrel
        have g12 := hu1.out.1.c12
        have k12 := hu1.out.2.1.c12
        rw [EG.out] at k12
        by_cases hlt : k21 < s.gn
        · have hkl : k21 < c.ga.length := by rw [HGL.out]; exact hlt
          obtain ⟨a, hA, c0, c1⟩ := gap_at (H.out.gr.below hu1.out.2.2) hkl
          obtain ⟨a', hA', c0', c1'⟩ := gap_at (H'.out.gr.below hu1.out.2.2) hkl
          rw [hA] at g12
          rw [hA'] at k12
          generalize (c.ga[k21]).1 = y at c0 c0'
          generalize (c.ga[k21]).2 = z at c1 c1'
          clear hA hA' hkl
          go_wp2_with fail
          go_quiet (fail)
          go_wp2_with fail
          go_roundw
          case rel => exact ⟨k21 + 1, by omega, by go_num, Lib.hid (hu1.out.drewN _)⟩
          case measure => simp [intOf]; omega
        · go_upto_region 15 with fail
          clear g12 k12
          have g13 := hu1.out.1.c13
          have k13 := hu1.out.2.1.c13
          rw [EU.out] at k13
          go_wp2_with fail
          clear g13 k13
          go_loopw [7] (fun i wr => ∃ k : Nat, k ≤ s.un ∧ i = .int .i64 (k : Int) ∧ Hid (Un w (cv c s) (cv c s') wr)) (fun i _ => s.un - (intOf i).toNat)
          case atStart => exact ⟨0, by omega, rfl, hu1⟩
          case round =>
            obtain ⟨k22, hk, rfl, hu2⟩ := hrel
            have g13 := hu2.out.1.c13
            have k13 := hu2.out.2.1.c13
            rw [EU.out] at k13
            by_cases hlt : k22 < s.un
            · have hkl : k22 < c.du.length := by rw [HUL.out]; exact hlt
              obtain ⟨a, hA, c0⟩ := num_at (H.out.ur.below hu2.out.2.2) hkl
              obtain ⟨a', hA', c0'⟩ := num_at (H'.out.ur.below hu2.out.2.2) hkl
              rw [hA] at g13
              rw [hA'] at k13
              generalize c.du[k22] = y at c0 c0'
              clear hA hA' hkl
              go_wp2_with fail
              go_quiet (fail)
              go_wp2_with fail
              go_roundw
              case rel => exact ⟨k22 + 1, by omega, by go_num, Lib.hid (hu2.out.drewN _)⟩
              case measure => simp [intOf]; omega
            · go_upto_region 20 with fail
              clear g13 k13
              have g14 := hu2.out.1.c14
              have k14 := hu2.out.2.1.c14
              rw [EC.out] at k14
              go_wp2_with fail
              clear g14 k14
              go_loopw [8] (fun i wr => ∃ k : Nat, k ≤ s.cn ∧ i = .int .i64 (k : Int) ∧ Hid (Un w (cv c s) (cv c s') wr)) (fun i _ => s.cn - (intOf i).toNat)
              case atStart => exact ⟨0, by omega, rfl, hu2⟩
              case round =>
                obtain ⟨k23, hk, rfl, hu3⟩ := hrel
                have g14 := hu3.out.1.c14
                have k14 := hu3.out.2.1.c14
                rw [EC.out] at k14
                by_cases hlt : k23 < s.cn
                · have hkl : k23 < c.ca.length := by rw [HCL.out]; exact hlt
                  have hkq : k23 < s.cq.length := by rw [H.out.cl]; exact hkl
                  have hkq' : k23 < s'.cq.length := by rw [H'.out.cl]; exact hkl
                  obtain ⟨a, hA, c0, c1⟩ := cause_at (H.out.cr.below hu3.out.2.2) hkl hkq
                  obtain ⟨a', hA', c0', c1'⟩ := cause_at (H'.out.cr.below hu3.out.2.2) hkl hkq'
                  rw [hA] at g14
                  rw [hA'] at k14
                  obtain ⟨A1, n1, cc1, A2, n2, cc2, e1, e2, hs2⟩ := HST.out _ _ _ _ (List.getElem?_eq_getElem hkl) (List.getElem?_eq_getElem hkq) (List.getElem?_eq_getElem hkq')
                  rw [e1] at c1
                  rw [e2] at c1'
                  generalize strOf (c.ca[k23]).2 = str at hs2
                  have v1 := (hs2 wr hu3.out.2.2).1
                  have v2 := (hs2 wr hu3.out.2.2).2
                  have v1' := fun q => (hs2 (wr.drewN q) (below_drewN hu3.out.2.2 q)).1
                  have v2' := fun q => (hs2 (wr.drewN q) (below_drewN hu3.out.2.2 q)).2
                  have v1'' := (hs2 wr.drew hu3.out.2.2.drew).1
                  have v2'' := (hs2 wr.drew hu3.out.2.2.drew).2
                  generalize (c.ca[k23]).1 = y at c0 c0'
                  clear hs2 e1 e2
                  clear hA hA' hkl
                  go_wp2_with fail
                  go_quiet (fail)
                  go_wp2_with fail
                  go_roundw
                  case rel => exact ⟨k23 + 1, by omega, by go_num, Lib.hid (hu3.out.drewN _)⟩
                  case measure => simp [intOf]; omega
                · go_wp2_with fail
                  go_ret
                  exact ⟨rfl, hu3.out.2.2⟩
end Go.Proofs.Ytbliipjiilmbcaa
