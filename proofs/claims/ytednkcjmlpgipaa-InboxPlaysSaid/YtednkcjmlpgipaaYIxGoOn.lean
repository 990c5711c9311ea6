/-
  Those whose turn it is, one behind the other: goOn.
-/
import Derived.Test.YtednkcjmlpgipaaYP1e
namespace Go.Proofs.Ytednkcjmlpgipaa
set_option maxRecDepth 4000
open Go.RowKit Go.Maps
namespace Ix
set_option linter.unusedVariables false
set_option linter.unusedSimpArgs false
open Fg (Pc Ms mv JA JA_fr)

/-- What goOn needs of an inbox. -/
structure Ib.Go (b : Ib) : Prop where
  ws : ∀ e ∈ b.ws, 1 ≤ e.1.d.length ∧ e.1.s < b.nx.length ∧ e.2 < 65536
  nx : b.nx.length < 65536
  nxs : ∀ n ∈ b.nx, n < 65536
  al : Alone wkey b.ws
  len : b.rd.length + b.ws.length ≤ 1100000
theorem Ib.Go.turn {b : Ib} (h : b.Go) {m : Ms} {e : Ms × Nat} (he : alook wkey b.ws (b.nk m) = some e) : ((b.turn m).less (b.nk m)).Go := by
  have hd := (adel_perm h.al he).length_eq
  refine ⟨fun y hy => ?_, by simpa [Ib.turn, Ib.less] using h.nx, fun n hn => ?_, alone_del h.al, ?_⟩
  · have := h.ws y (mem_del hy)
    simpa [Ib.turn, Ib.less] using this
  · rcases List.mem_or_eq_of_mem_set hn with h1 | h1
    · exact h.nxs n h1
    · omega
  · show (b.rd ++ [m]).length + (adel wkey b.ws (b.nk m)).length ≤ 1100000
    have := h.len
    simp only [List.length_append, List.length_cons, List.length_nil] at *
    omega
section
variable {W w : World} {x : Nat} {b : Ib} {wh : Nat} {L : List Me} {R : List As}
set_option maxHeartbeats 4000000 in
theorem goOn_any (h : IW W w x b wh L R) (hgo : b.Go) (me : Me) (hm : me ∈ L) (hms : me.1.s < b.nx.length) :
    Calls Try.prog 86 #[.pointer (some ⟨x, 0, none⟩), .agg #[.int .u16 (me.1.s : Int), .bool me.1.u, .int .u32 (me.1.p : Int), .slice me.2.1 me.2.2.1 me.2.2.2]] w fun e w' => e = .returned (.tuple #[]) ∧ IW W w' x (goOn (b.ws.length + 1) b me.1) wh L R := by
  have HI := Lib.hid h
  have HG := Lib.hid hgo
  have HM := Lib.hid hm
  have HS := Lib.hid hms
  clear h hgo hm hms
  obtain ⟨T, hT⟩ : ∃ T, goOn (b.ws.length + 1) b me.1 = T := ⟨_, rfl⟩
  rw [hT]
  have HT := Lib.hid hT
  clear hT
  go_enter Try.func86, Try.ntmps86
  go_upto_region 1 with fail
  have HI0 : Hid (IW W (w.alloc (.cells #[.int .u16 (me.1.s : Int), .bool me.1.u, .int .u32 (me.1.p : Int), .slice me.2.1 me.2.2.1 me.2.2.2] 39)) x b wh L (BkA w.heap.size (mv me.1.s me.1.u me.1.p me.2.1 me.2.2.1 me.2.2.2) 39 :: R)) := Lib.hid (by
    obtain ⟨i, hN, hf⟩ := HI.out
    exact ⟨i, (hN.box (mv me.1.s me.1.u me.1.p me.2.1 me.2.2.1 me.2.2.2) 39).perm (by unfold Iv.parts; exact List.perm_middle (l₁ := [_, _, _, _, _, _, _]).symm), hf⟩)
  clear HI
  generalize w.alloc (.cells #[.int .u16 (me.1.s : Int), .bool me.1.u, .int .u32 (me.1.p : Int), .slice me.2.1 me.2.2.1 me.2.2.2] 39) = w1 at HI0 ⊢
  generalize w.heap.size = g at HI0 ⊢
  go_wp2_with fail
  go_loopg [4] (b.ws.length + 1) (fun k v4 wr => ∃ (t : Bool) (b' : Ib) (e : Me), v4 = .bool t ∧ Hid (IW W wr x b' wh L (BkA g (mv e.1.s e.1.u e.1.p e.2.1 e.2.2.1 e.2.2.2) 39 :: R)) ∧ Hid (t = true → e ∈ L ∧ e.1.s < b'.nx.length ∧ b'.Go ∧ goOn k b' e.1 = T ∧ k = b'.ws.length + 1) ∧ Hid (t = false → b' = T))
  case atStart => exact ⟨true, b, me, rfl, HI0, Lib.hid fun _ => ⟨HM.out, HS.out, HG.out, HT.out, rfl⟩, Lib.hid fun h => by cases h⟩
  case round =>
    obtain ⟨t, b', e, rfl, HI1, H1, H2⟩ := hrel
    clear HI0 HG HM HS HT
    cases t with
    | false =>
      have hb := H2.out rfl
      go_wp2_with fail
      go_end0
      refine ⟨rfl, ?_⟩
      obtain ⟨i, hN, hf⟩ := HI1.out
      rw [← hb]
      exact ⟨i, (hN.perm (by unfold Iv.parts; exact List.perm_middle (l₁ := [_, _, _, _, _, _, _]))).drop, hf⟩
    | true =>
      obtain ⟨hL, hs, hgo, hT, hk⟩ := H1.out rfl
      obtain ⟨i, hN, hf⟩ := HI1.out
      have HGO := Lib.hid hgo
      have HL := Lib.hid hL
      have HS := Lib.hid hs
      have HT := Lib.hid hT
      have HK := Lib.hid hk
      clear HI1 H1 H2 hL hs hgo hT hk
      obtain ⟨⟨es, eu, ep, ed⟩, eA, ek, ec⟩ := e
      simp only at hN HS HT
      have HF := Lib.hid hf
      have HN := Lib.hid hN
      have hlr : i.rM.length = b'.rd.length := by rw [← hf.rd, List.length_map]
      have HLR : Hid (i.rM.length ≤ 2000000) := Lib.hid (by have := HGO.out.len; omega)
      clear hf hlr
      obtain ⟨ps, pj, pm, pvn, pv, wM, rM⟩ := i
      simp only at HLR
      have hbx := hN.bk (k := 0) rfl
      have hbg := hN.bk (k := 7) rfl
      have c6 : wr.drew.cell? ⟨x, 6, none⟩ = some pv := hbx.drew.cell 6
      have c6' : ∀ o, (wr.alloc o).cell? ⟨x, 6, none⟩ = some pv := fun o => (hbx.alloc o).cell 6
      have g0 : wr.drew.cell? ⟨g, 0, none⟩ = some (.int .u16 (es : Int)) := hbg.drew.cell 0
      have g1 : wr.drew.cell? ⟨g, 1, none⟩ = some (.bool eu) := hbg.drew.cell 1
      have g2 : wr.drew.cell? ⟨g, 2, none⟩ = some (.int .u32 (ep : Int)) := hbg.drew.cell 2
      have g3 : wr.drew.cell? ⟨g, 3, none⟩ = some (.slice eA ek ec) := hbg.drew.cell 3
      clear hbx hbg hN
      go_upto_region 3 with fail
      go_cut [4] from 7 to 16 (fun v4 wx => v4 = .bool true ∧ Hid (∃ v', Nw W wx ((⟨ps, pj, pm, pvn, v', wM, rM ++ [(⟨es, eu, ep, ed⟩, (eA, ek, ec))]⟩ : Iv).parts x { b' with rd := b'.rd ++ [⟨es, eu, ep, ed⟩] } wh L (BkA g (mv es eu ep eA ek ec) 39 :: R))))
      case first =>
        first | go_region_law (first | (refine qu_reg rfl (.tmp 11) (.tmp 13) rfl pv rM rfl (by obtain ⟨F, hq, _⟩ := (HN.out.next ((Below.refl _ _).alloc (Nat.le_refl _) _).drew).at (k := 5) rfl; exact hq.1) wr.heap.size 1 (⟨es, eu, ep, ed⟩, (eA, ek, ec)) rfl (Row.drew (Row.new wr _ _ _)) HLR.out ?_; intro A' c' w9 hq9 hg9 hat9; have HN9 := Lib.hid (Nw.quApp (HN.out.next ((Below.refl _ _).alloc (Nat.le_refl _) _).drew) (k := 5) rfl hq9 hg9 hat9); have hb9 := HN9.out.bk (k := 0) rfl; have x9 : w9.cell? ⟨x, 6, none⟩ = some pv := hb9.cell 6; have f9 := hb9.frozen 6; clear hq9 hg9 hat9 hb9)) | fail
        all_goals
          go_wp2_with fail
          go_meet
          case rel => exact ⟨rfl, Lib.hid ⟨_, HN9.out.store (k := 0) rfl 6 _⟩⟩
      case rest =>
        obtain ⟨rfl, HC⟩ := hcut
        obtain ⟨v', hN⟩ := HC.out
        clear HC HN c6 c6' g0 g1 g2 g3
        have hsn : es < b'.nx.length := HS.out
        obtain ⟨F, hir, _⟩ := hN.at (k := 3) rfl
        obtain ⟨gn, cn, hvn⟩ := ir_zero hir.1 (Nat.lt_of_le_of_lt (Nat.zero_le _) hsn)
        simp only at hvn
        subst hvn
        have hir2 := ir_get (l := b'.nx) hir.1 rfl hsn
        have hbx := hN.bk (k := 0) rfl
        have hbg := hN.bk (k := 7) rfl
        have c4 : wc.drew.cell? ⟨x, 4, none⟩ = some (.slice (some ⟨gn, 0, none⟩) b'.nx.length cn) := hbx.drew.cell 4
        have g0 : wc.drew.cell? ⟨g, 0, none⟩ = some (.int .u16 (es : Int)) := hbg.drew.cell 0
        have n0 : wc.drew.cell? ⟨gn, es, none⟩ = some (.int .u16 ((b'.nx.getD es 0 : Nat) : Int)) := hir2.1
        have nf : wc.drew.frozen? ⟨gn, es, none⟩ = false := hir2.2 es
        have HN := Lib.hid hN
        have hw : IntKind.u16.wrap (((b'.nx.getD es 0 : Nat) : Int) + 1) = (((b'.nx.getD es 0 + 1) % 65536 : Nat) : Int) := by
          simp [IntKind.wrap, IntKind.signed, IntKind.bits]
        have HNK : Hid ((⟨b'.room, b'.most, b'.st, b'.K, b'.nx, b'.ws, b'.rd⟩ : Ib).nk ⟨es, eu, ep, ed⟩ = es * 65536 + (b'.nx.getD es 0 + 1) % 65536) := Lib.hid rfl
        clear hN hir hir2 hbx hbg
        generalize hnn : (b'.nx.getD es 0 + 1) % 65536 = nn at hw HNK
        have hnl : nn < 65536 := by rw [← hnn]; exact Nat.mod_lt _ (by omega)
        have HNN := Lib.hid hnn
        clear hnn
        generalize b'.nx.getD es 0 = nv at n0 hw
        go_upto_region 4 with fail
        go_cut [4] from 17 to 26 (fun v4 wx => v4 = .bool true ∧ Hid (Nw W wx ((⟨ps, pj, pm, .slice (some ⟨gn, 0, none⟩) b'.nx.length cn, v', wM, rM ++ [(⟨es, eu, ep, ed⟩, (eA, ek, ec))]⟩ : Iv).parts x { b' with rd := b'.rd ++ [⟨es, eu, ep, ed⟩], nx := b'.nx.set es nn } wh L (BkA g (mv es eu ep eA ek ec) 39 :: R))))
        case first =>
          go_region
          all_goals
            go_wp2_with fail
            go_meet
            case rel => exact ⟨rfl, Lib.hid (by first | exact (HN.out.drew.irSet (k := 3) rfl es nn) | exact (HN.out.irSet (k := 3) rfl es nn).drew)⟩
        case rest =>
          obtain ⟨rfl, HC⟩ := hcut
          clear HN c4 g0 n0 nf hw
          have hN := HC.out
          obtain ⟨F, hir, _⟩ := hN.at (k := 3) rfl
          have hir2 := ir_get (l := b'.nx.set es nn) hir.1 (by simp) (by simpa using hsn)
          have hgd : (b'.nx.set es nn).getD es 0 = nn := by simp [List.getD, hsn]
          rw [hgd] at hir2
          have hbx := hN.bk (k := 0) rfl
          have hbg := hN.bk (k := 7) rfl
          have c4 : wc.drew.cell? ⟨x, 4, none⟩ = some (.slice (some ⟨gn, 0, none⟩) b'.nx.length cn) := hbx.drew.cell 4
          have g0 : wc.drew.cell? ⟨g, 0, none⟩ = some (.int .u16 (es : Int)) := hbg.drew.cell 0
          have n0 : wc.drew.cell? ⟨gn, es, none⟩ = some (.int .u16 (nn : Int)) := hir2.1
          have c4' : ∀ o, (wc.alloc o).cell? ⟨x, 4, none⟩ = some (.slice (some ⟨gn, 0, none⟩) b'.nx.length cn) := fun o => (hbx.alloc o).cell 4
          have g0' : ∀ o, (wc.alloc o).cell? ⟨g, 0, none⟩ = some (.int .u16 (es : Int)) := fun o => (hbg.alloc o).cell 0
          have n0' : ∀ o, (wc.alloc o).cell? ⟨gn, es, none⟩ = some (.int .u16 (nn : Int)) := fun o => by
            have h2 := World.cell?_alloc_old wc o ⟨gn, es, none⟩ (by have := block_lt_of_cell hir2.1; exact Nat.ne_of_lt this)
            exact h2.trans hir2.1
          have HN := Lib.hid hN
          clear hN hir hir2 hbx hbg hgd HC
          go_upto_region 5 with fail
          go_cut [4, 5] from 27 to 37 (fun v4 v5 wx => v4 = .bool true ∧ ∃ g2, v5 = .pointer (some ⟨g2, 0, none⟩) ∧ Hid (Nw W wx (BkA g2 #[.int .u16 (es : Int), .int .u16 (nn : Int)] 151 :: ((⟨ps, pj, pm, .slice (some ⟨gn, 0, none⟩) b'.nx.length cn, v', wM, rM ++ [(⟨es, eu, ep, ed⟩, (eA, ek, ec))]⟩ : Iv).parts x { b' with rd := b'.rd ++ [⟨es, eu, ep, ed⟩], nx := b'.nx.set es nn } wh L (BkA g (mv es eu ep eA ek ec) 39 :: R)))))
          case first =>
            go_region
            all_goals
              go_wp2_with fail
              go_meet
              case rel => exact ⟨rfl, _, rfl, Lib.hid (by first | exact HN.out.drew.box _ _ | exact (HN.out.box _ _).drew)⟩
          case rest =>
            obtain ⟨rfl, g2, rfl, HC⟩ := hcut
            clear HN c4 g0 n0 c4' g0' n0'
            have hN := HC.out
            have hbx := hN.bk (k := 1) rfl
            have hba := hN.bk (k := 0) rfl
            have hbg := hN.bk (k := 8) rfl
            obtain ⟨F, hp, _⟩ := hN.drew.at (k := 5) rfl
            have c5 : wc.drew.cell? ⟨x, 5, none⟩ = some (.map (some pm)) := hbx.drew.cell 5
            have a0 : wc.drew.cell? ⟨g2, 0, none⟩ = some (.int .u16 (es : Int)) := hba.drew.cell 0
            have a1 : wc.drew.cell? ⟨g2, 1, none⟩ = some (.int .u16 (nn : Int)) := hba.drew.cell 1
            have q0 : wc.drew.cell? ⟨g, 0, none⟩ = some (.int .u16 (es : Int)) := hbg.drew.cell 0
            have q1 : wc.drew.cell? ⟨g, 1, none⟩ = some (.bool eu) := hbg.drew.cell 1
            have q2 : wc.drew.cell? ⟨g, 2, none⟩ = some (.int .u32 (ep : Int)) := hbg.drew.cell 2
            have q3 : wc.drew.cell? ⟨g, 3, none⟩ = some (.slice eA ek ec) := hbg.drew.cell 3
            have q0' : wc.cell? ⟨g, 0, none⟩ = some (.int .u16 (es : Int)) := q0
            have q1' : wc.cell? ⟨g, 1, none⟩ = some (.bool eu) := q1
            have q2' : wc.cell? ⟨g, 2, none⟩ = some (.int .u32 (ep : Int)) := q2
            have q3' : wc.cell? ⟨g, 3, none⟩ = some (.slice eA ek ec) := q3
            have fg0 := hbg.frozen 0
            have fg1 := hbg.frozen 1
            have fg2 := hbg.frozen 2
            have fg3 := hbg.frozen 3
            have fg0' := hbg.drew.frozen 0
            have fg1' := hbg.drew.frozen 1
            have fg2' := hbg.drew.frozen 2
            have fg3' := hbg.drew.frozen 3
            have HN := Lib.hid hN
            have hkt : es * 65536 + nn < 4294967296 := by
              have := HGO.out.nx
              omega
            have hnk : b'.nk ⟨es, eu, ep, ed⟩ = es * 65536 + nn := HNK.out
            have htu : b'.turn ⟨es, eu, ep, ed⟩ = { b' with rd := b'.rd ++ [⟨es, eu, ep, ed⟩], nx := b'.nx.set es nn } := by
              rw [← HNN.out]
              rfl
            have HNK2 := Lib.hid hnk
            have HTU := Lib.hid htu
            cases hlk : alook wkey b'.ws (es * 65536 + nn) with
            | none =>
              have l1 : (Instr.lookup 99 (.map (some pm)) (.agg #[.int .u16 (es : Int), .int .u16 (nn : Int)]) true).run Try.prog wc.drew = .ok (.tuple #[.agg #[.int .u16 0, .bool false, .int .u32 0, .slice none 0 0], .bool false]) wc.drew := by
                rw [← kvT_at hnl]
                exact lk_none HF.out hp hkt hlk _ rfl
              have HLK := Lib.hid hlk
              clear hlk hp hkt hnk htu hN hbx hba hbg HC
              go_upto_region 6 with fail
              go_cut [4, 5] from 38 to 46 (fun v4 v5 wx => v4 = .bool false ∧ v5 = .pointer (some ⟨g2, 0, none⟩) ∧ Hid (Nw W wx (BkA g2 #[.int .u16 (es : Int), .int .u16 (nn : Int)] 151 :: ((⟨ps, pj, pm, .slice (some ⟨gn, 0, none⟩) b'.nx.length cn, v', wM, rM ++ [(⟨es, eu, ep, ed⟩, (eA, ek, ec))]⟩ : Iv).parts x { b' with rd := b'.rd ++ [⟨es, eu, ep, ed⟩], nx := b'.nx.set es nn } wh L (BkA g (mv 0 false 0 none 0 0) 39 :: R)))))
              case first =>
                go_region
                all_goals
                  go_wp2_with fail
                  go_meet
                  case rel => exact ⟨rfl, rfl, Lib.hid (by first | exact ((((HN.out.drew.store (k := 8) rfl 0 _).store (k := 8) rfl 1 _).store (k := 8) rfl 2 _).store (k := 8) rfl 3 _) | exact ((((HN.out.store (k := 8) rfl 0 _).store (k := 8) rfl 1 _).store (k := 8) rfl 2 _).store (k := 8) rfl 3 _).drew)⟩
              case rest =>
                obtain ⟨rfl, rfl, HC⟩ := hcut
                clear HN c5 a0 a1 fg0 fg1 fg2 fg3 fg0' fg1' fg2' fg3' q0 q1 q2 q3 q0' q1' q2' q3' l1
                have hN := HC.out
                have hbx := hN.bk (k := 1) rfl
                have hba := hN.bk (k := 0) rfl
                have c5 : wc.drew.cell? ⟨x, 5, none⟩ = some (.map (some pm)) := hbx.drew.cell 5
                have a0 : wc.drew.cell? ⟨g2, 0, none⟩ = some (.int .u16 (es : Int)) := hba.drew.cell 0
                have a1 : wc.drew.cell? ⟨g2, 1, none⟩ = some (.int .u16 (nn : Int)) := hba.drew.cell 1
                obtain ⟨w3, hd3, hN3, hg3⟩ := Nw.amDrop (M := MT) hN.drew (k := 5) rfl (t := es * 65536 + nn) (by show _ < 4294967296; have := HGO.out.nx; have := HS.out; omega) 0
                have hd4 : (Builtin.delete_ #[99, 151] 0 #[.map (some pm), .agg #[.int .u16 (es : Int), .int .u16 (nn : Int)]]).run Try.prog wc.drew = .ok (.tuple #[]) w3 := by rw [← kvT_at hnl]; exact hd3
                have HN3 := Lib.hid hN3
                clear hN hbx hba hd3 hN3 hg3 HC
                go_upto_region 7 with fail
                go_region
                go_wp2_with fail
                have hT2 : T = b'.turn ⟨es, eu, ep, ed⟩ := by
                  have h1 := HT.out
                  rw [HK.out, goOn_none (by rw [HNK2.out]; exact HLK.out)] at h1
                  exact h1.symm
                have hwM : adel ekey wM (es * 65536 + nn) = wM := adel_none (by
                  have h1 := HLK.out
                  rw [← HF.out.ws, alook_map (key := ekey) ekey_plain, Option.map_eq_none_iff] at h1
                  exact h1)
                have HFIN : Hid (IW W w3 x T wh L (BkA g (mv 0 false 0 none 0 0) 39 :: R)) := Lib.hid (by
                  have h1 := HN3.out.drop
                  refine ⟨⟨ps, pj, pm, .slice (some ⟨gn, 0, none⟩) b'.nx.length cn, v', wM, rM ++ [(⟨es, eu, ep, ed⟩, (eA, ek, ec))]⟩, ?_, ?_⟩
                  · rw [hT2, HTU.out]
                    have h2 : MT.key = ekey := rfl
                    rw [h2, hwM] at h1
                    exact h1
                  · rw [hT2, HTU.out]
                    refine ⟨HF.out.ws, ?_, HF.out.inw, fun e he => ?_, HF.out.dat⟩
                    · simp only [List.map_append, List.map_cons, List.map_nil]
                      rw [show rM.map (·.1) = b'.rd from HF.out.rd]
                    · rcases List.mem_append.1 he with h3 | h3
                      · exact HF.out.inr e h3
                      · simp only [List.mem_singleton] at h3
                        rw [h3]
                        exact HL.out)
                go_roundg 0
                case measure => have := HK.out; omega
                case rel => exact ⟨false, T, (⟨0, false, 0, []⟩, (none, 0, 0)), rfl, HFIN, Lib.hid (fun (h : false = true) => absurd h (by decide)), Lib.hid (fun _ => rfl)⟩
            | some y =>
              obtain ⟨em, hmem, hal, hep, hl1⟩ := lk_some HF.out hp hkt hlk
              obtain ⟨⟨⟨ns, nu, np, nd⟩, nA, nk, nc⟩, nn2⟩ := em
              have l1 : (Instr.lookup 99 (.map (some pm)) (.agg #[.int .u16 (es : Int), .int .u16 (nn : Int)]) true).run Try.prog wc.drew = .ok (.tuple #[.agg #[.int .u16 (ns : Int), .bool nu, .int .u32 (np : Int), .slice nA nk nc], .bool true]) wc.drew := by
                rw [← kvT_at hnl]
                exact hl1 _ rfl
              have HLK := Lib.hid hlk
              have HEP : Hid (y = (⟨ns, nu, np, nd⟩, nn2)) := Lib.hid hep.symm
              have HEM := Lib.hid (HF.out.inw _ hmem)
              clear hlk hp hkt hnk htu hN hbx hba hbg HC hmem hal hep hl1
              go_upto_region 6 with fail
              go_cut [4, 5] from 38 to 46 (fun v4 v5 wx => v4 = .bool true ∧ v5 = .pointer (some ⟨g2, 0, none⟩) ∧ Hid (Nw W wx (BkA g2 #[.int .u16 (es : Int), .int .u16 (nn : Int)] 151 :: ((⟨ps, pj, pm, .slice (some ⟨gn, 0, none⟩) b'.nx.length cn, v', wM, rM ++ [(⟨es, eu, ep, ed⟩, (eA, ek, ec))]⟩ : Iv).parts x { b' with rd := b'.rd ++ [⟨es, eu, ep, ed⟩], nx := b'.nx.set es nn } wh L (BkA g (mv ns nu np nA nk nc) 39 :: R)))))
              case first =>
                go_region
                all_goals
                  go_wp2_with fail
                  go_meet
                  case rel => exact ⟨rfl, rfl, Lib.hid (by first | exact ((((HN.out.drew.store (k := 8) rfl 0 _).store (k := 8) rfl 1 _).store (k := 8) rfl 2 _).store (k := 8) rfl 3 _) | exact ((((HN.out.store (k := 8) rfl 0 _).store (k := 8) rfl 1 _).store (k := 8) rfl 2 _).store (k := 8) rfl 3 _).drew)⟩
              case rest =>
                obtain ⟨rfl, rfl, HC⟩ := hcut
                clear HN c5 a0 a1 fg0 fg1 fg2 fg3 fg0' fg1' fg2' fg3' q0 q1 q2 q3 q0' q1' q2' q3' l1
                have hN := HC.out
                have hbx := hN.bk (k := 1) rfl
                have hba := hN.bk (k := 0) rfl
                have c5 : wc.drew.cell? ⟨x, 5, none⟩ = some (.map (some pm)) := hbx.drew.cell 5
                have a0 : wc.drew.cell? ⟨g2, 0, none⟩ = some (.int .u16 (es : Int)) := hba.drew.cell 0
                have a1 : wc.drew.cell? ⟨g2, 1, none⟩ = some (.int .u16 (nn : Int)) := hba.drew.cell 1
                obtain ⟨w3, hd3, hN3, hg3⟩ := Nw.amDrop (M := MT) hN.drew (k := 5) rfl (t := es * 65536 + nn) (by show _ < 4294967296; have := HGO.out.nx; have := HS.out; omega) 0
                have hd4 : (Builtin.delete_ #[99, 151] 0 #[.map (some pm), .agg #[.int .u16 (es : Int), .int .u16 (nn : Int)]]).run Try.prog wc.drew = .ok (.tuple #[]) w3 := by rw [← kvT_at hnl]; exact hd3
                have HN3 := Lib.hid hN3
                clear hN hbx hba hd3 hN3 hg3 HC
                go_upto_region 7 with fail
                go_region
                go_wp2_with fail
                have hy := (alook_some HLK.out).1
                have hws := HGO.out.ws y hy
                have hdl := (ws_del HGO.out.al HLK.out).2
                have hgo := HGO.out.turn (m := ⟨es, eu, ep, ed⟩) (e := y) (by rw [HNK2.out]; exact HLK.out)
                have hT2 : goOn b'.ws.length ((b'.turn ⟨es, eu, ep, ed⟩).less (b'.nk ⟨es, eu, ep, ed⟩)) y.1 = T := by
                  have h1 := HT.out
                  rw [HK.out, goOn_some (by rw [HNK2.out]; exact HLK.out)] at h1
                  exact h1
                rw [HEP.out] at hws hT2
                have HFIN : Hid (IW W w3 x ((b'.turn ⟨es, eu, ep, ed⟩).less (b'.nk ⟨es, eu, ep, ed⟩)) wh L (BkA g (mv ns nu np nA nk nc) 39 :: R)) := Lib.hid (by
                  have h1 := HN3.out.drop
                  refine ⟨⟨ps, pj, pm, .slice (some ⟨gn, 0, none⟩) b'.nx.length cn, v', adel ekey wM (es * 65536 + nn), rM ++ [(⟨es, eu, ep, ed⟩, (eA, ek, ec))]⟩, ?_, ?_⟩
                  · rw [HTU.out]
                    exact h1
                  · rw [HTU.out, HNK2.out]
                    refine ⟨?_, ?_, fun e he => HF.out.inw e (mem_del he), fun e he => ?_, HF.out.dat⟩
                    · show (adel ekey wM (es * 65536 + nn)).map eplain = adel wkey b'.ws (es * 65536 + nn)
                      rw [← HF.out.ws]
                      exact (adel_map (key := ekey) (key' := wkey) ekey_plain wM _).symm
                    · simp only [List.map_append, List.map_cons, List.map_nil]
                      rw [show rM.map (·.1) = b'.rd from HF.out.rd]
                      rfl
                    · rcases List.mem_append.1 he with h3 | h3
                      · exact HF.out.inr e h3
                      · simp only [List.mem_singleton] at h3
                        rw [h3]
                        exact HL.out)
                have hnl2 : ns < ((b'.turn ⟨es, eu, ep, ed⟩).less (b'.nk ⟨es, eu, ep, ed⟩)).nx.length := by
                  have := hws.2.1
                  simpa [Ib.turn, Ib.less] using this
                have hdl2 : ((b'.turn ⟨es, eu, ep, ed⟩).less (b'.nk ⟨es, eu, ep, ed⟩)).ws.length + 1 = b'.ws.length := by
                  rw [HNK2.out]
                  exact hdl
                go_roundg b'.ws.length
                case measure => have := HK.out; omega
                case rel => exact ⟨true, _, (⟨ns, nu, np, nd⟩, (nA, nk, nc)), rfl, HFIN, Lib.hid fun _ => ⟨HEM.out, hnl2, hgo, hT2, hdl2.symm⟩, Lib.hid fun h => by cases h⟩
end
end Ix
end Go.Proofs.Ytednkcjmlpgipaa
