/-
  The document's Put: the walk.
-/
import Derived.Test.YtednkcjmlpgipaaYP1f
import Derived.Deep.RegionHeld3
import Derived.Deep.RegionHeld
namespace Go.Proofs.Ytednkcjmlpgipaa
set_option maxRecDepth 4000
open Go.RowKit Go.Maps
namespace Fg
set_option linter.unusedVariables false
set_option linter.unusedSimpArgs false

/-- What is told. -/
def dtold (lo : Nat) (F' : Nat → Prop) (w' : World) (e : Ending) : Option (Ms × Nat) → Prop
  | none => e = .returned (.tuple #[.agg zmv, .int .u16 0, .bool false])
  | some (m, s) => ∃ A n c, e = .returned (.tuple #[.agg (mv m.s m.u m.p A n c), .int .u16 (s : Int), .bool true]) ∧ m.d.length = n ∧ w'.ownsRow lo 5 1 (.slice A n c) n (bs m.d) ∧ ∀ g, (Value.slice A n c).ownBlock = some g → ¬ F' g
/-- Rows of bytes that lie elsewhere. -/
def Dt (w : World) (F : Nat → Prop) (qs : List Pq) : Prop := ∀ q ∈ qs, Row w q.2.1 (bs q.1.d) ∧ q.1.d.length = q.2.2.1 ∧ (q.2.1 = none → q.2.2.1 = 0 ∧ q.2.2.2 = 0) ∧ ∀ a, q.2.1 = some a → ¬ F a.block
theorem Dt.move {w w' : World} {F F' : Nat → Prop} {qs : List Pq} (h : Dt w F qs) (hm : Mv w F w' F') (hb : ∀ q ∈ qs, ∀ a, q.2.1 = some a → a.block < w.heap.size) : Dt w' F' qs := fun q hq => by
  obtain ⟨h1, h2, h3, h4⟩ := h q hq
  refine ⟨Row.frame h1 hm.1 h4, h2, h3, fun a ha e => ?_⟩
  rcases hm.2 _ e with h5 | h5
  · exact h4 a ha h5
  · have := hb q hq a ha; omega
/-- What a call of Put comes to. -/
def DPost (W : World) (F : Nat → Prop) (j : Nat) (qs : List Pq) (x : Pq) (e : Ending) (w' : World) : Prop :=
  ∃ F' A' n' c' qs', Mv W F w' F' ∧ DO w' F' j A' n' c' qs' ∧ pcq qs' = (put (pcq qs) x.1).1 ∧ (∀ q ∈ qs', q ∈ qs ++ [x]) ∧ dtold W.heap.size F' w' e (put (pcq qs) x.1).2
set_option maxHeartbeats 40000000 in
theorem dput_any (W : World) (F : Nat → Prop) (j : Nat) (A : Option Addr) (n c : Nat) (qs : List Pq) (h : DO W F j A n c qs) (hn : n ≤ 900) (ha : Apart (pcq qs)) (hf : ∀ q ∈ qs, q.1.f < 256) (x : Pq) (hx : x.1.Ok) (hd : Dt W F (qs ++ [x])) (hdb : ∀ q ∈ qs ++ [x], ∀ a, q.2.1 = some a → a.block < W.heap.size) (hp1 : ∀ q ∈ qs ++ [x], 1 ≤ q.1.d.length) (ht : tot (qs ++ [x]) ≤ 1000000000) :
    Calls Try.prog 59 #[.pointer (some ⟨j, 0, none⟩), .agg #[.int .u32 (x.1.t : Int), .int .u8 (x.1.f : Int), .int .u16 (x.1.s : Int), .int .u16 (x.1.n : Int), .int .u32 (x.1.p : Int), .slice x.2.1 x.2.2.1 x.2.2.2]] W (DPost W F j qs x) := by
  have HU := Lib.hid (PU.start (x := x) h trivial)
  have HA := Lib.hid ha
  have HF := Lib.hid hf
  have HX := Lib.hid hx
  have HD := Lib.hid hd
  have HDB := Lib.hid hdb
  have HTT := Lib.hid ht
  have HP1 := Lib.hid hp1
  have HDO := Lib.hid h
  clear h ha hf hx hd hdb ht hp1
  go_enter Try.func59, Try.ntmps59
  go_upto_region 1 with fail
  generalize hW2 : World.alloc _ _ = W2 at HU ⊢
  generalize hs : W.heap.size = s at HU ⊢
  have HS := Lib.hid hs
  have p0 : W2.cell? ⟨s, 0, none⟩ = some (.int .u32 (x.1.t : Int)) := by have := HU.out.bp.cell 0; rw [hs] at this; exact this
  clear hs hW2
  go_wp2_with fail
  refine (dfind_any HU.out.jo.dj x.1.t).mono ?_
  rintro e w' ⟨⟨r, rfl, hat⟩, rfl⟩
  rcases hat with ⟨rfl, hno⟩ | ⟨i, hi, rfl, hit, hfst⟩
  · have HNO : Hid (∀ y ∈ pcq qs, y.t ≠ x.1.t) := Lib.hid fun y hy => by
      obtain ⟨q, hq, rfl⟩ := List.mem_map.1 hy
      exact hno q hq
    clear hno
    have m1 := HU.out.bp
    rw [HS.out] at m1
    have q1 : W2.cell? ⟨s, 1, none⟩ = some (.int .u8 (x.1.f : Int)) := m1.cell 1
    have q2 : W2.cell? ⟨s, 2, none⟩ = some (.int .u16 (x.1.s : Int)) := m1.cell 2
    have q3 : W2.cell? ⟨s, 3, none⟩ = some (.int .u16 (x.1.n : Int)) := m1.cell 3
    have q4 : W2.cell? ⟨s, 4, none⟩ = some (.int .u32 (x.1.p : Int)) := m1.cell 4
    have q5 : W2.cell? ⟨s, 5, none⟩ = some (.slice x.2.1 x.2.2.1 x.2.2.2) := m1.cell 5
    clear m1
    go_upto_region 3 with fail
    go_cut [] from 20 to 29 (fun wx => ∃ A' c' F', Hid (PU W F j x A' (n + 1) c' (qs ++ [x]) wx F'))
    case first =>
      have cj : W2.cell? ⟨j, 0, none⟩ = some (.slice A n c) := HU.out.jo.bk.cell 0
      have cja : ∀ o, (W2.alloc o).cell? ⟨j, 0, none⟩ = some (.slice A n c) := fun o => (HU.out.jo.bk.alloc o).cell 0
      have HO : Hid ((W2.alloc (.cells #[.int .u32 (x.1.t : Int), .int .u8 (x.1.f : Int), .int .u16 (x.1.s : Int), .int .u16 (x.1.n : Int), .int .u32 (x.1.p : Int), .slice x.2.1 x.2.2.1 x.2.2.2] 33)).drew.ownsRow 0 33 6 (.slice A n c) n (pf qs)) := Lib.hid (HU.out.jo.own.alloc _)
      have HRW : Hid (Row (W2.alloc (.cells #[.int .u32 (x.1.t : Int), .int .u8 (x.1.f : Int), .int .u16 (x.1.s : Int), .int .u16 (x.1.n : Int), .int .u32 (x.1.p : Int), .slice x.2.1 x.2.2.1 x.2.2.2] 33)).drew (some ⟨W2.heap.size, 0, none⟩) (pcl x)) := Lib.hid (Row.new W2.drew (pcl x) 33 (0, 0))
      first | go_region_law (first
        | (refine pl_reg rfl (.tmp 24) (.tmp 26) rfl A n c qs rfl HO.out W2.heap.size 1 x rfl HRW.out (by omega) _ rfl ?_; intro g9 c9 w9 hown9 hgr9 hat9; have hg9 : W2.grownBy w9 (Value.slice A n c).ownBlock := (World.grownBy_alloc W2 _ _).trans (grown_undrew hgr9); have z9 : w9.cell? ⟨j, 0, none⟩ = some (.slice A n c) := (HU.out.jo.bk.kept hg9 (fun e => own_off HU.out.jo.own HU.out.jo.bk (by decide) e.symm)).cell 0; have f9 : w9.frozen? ⟨j, 0, none⟩ = false := (HU.out.jo.bk.kept hg9 (fun e => own_off HU.out.jo.own HU.out.jo.bk (by decide) e.symm)).frozen 0; have HG9 := Lib.hid hg9; have HW9 := Lib.hid hown9; have HA9 := Lib.hid hat9; clear hown9 hgr9 hat9 hg9)) | fail
      all_goals
        go_wp2_with fail
        go_meet
        case rel =>
          obtain ⟨F', hp, _⟩ := HU.out.put HG9.out HW9.out (fun g e => by
            simp only [Value.ownBlock, Option.some.injEq] at e
            subst e
            rcases HA9.out with h1 | h1
            · exact .inl h1
            · exact .inr (by rw [h1]; simp)) (by rw [List.length_append, HDO.out.len]; rfl) (by omega)
          exact ⟨some ⟨g9, 0, none⟩, c9, F', Lib.hid hp⟩
    case rest =>
      obtain ⟨A', c', F', HP⟩ := hcut
      have HK : Hid (look (pcq qs) x.1.t = none) := Lib.hid (look_no HNO.out)
      have HAP : Hid (Apart (pcq (qs ++ [x]))) := Lib.hid (by rw [pcq_app]; exact apart_snoc HA.out HNO.out)
      have HFF : Hid (∀ q ∈ qs ++ [x], q.1.f < 256) := Lib.hid (fun q hq => by
        rcases List.mem_append.1 hq with h | h
        · exact HF.out q h
        · rw [List.mem_singleton] at h; rw [h]; exact HX.out.f)
      have HLQ : Hid ((pcq qs).length = n) := Lib.hid (by rw [pcq, List.length_map]; exact HDO.out.len)
      have htt := HX.out.t
      clear HNO p0 q1 q2 q3 q4 q5 HU HDO HF HA
      have HQE : Hid (pcq (qs ++ [x]) = pcq qs ++ [x.1]) := Lib.hid (by rw [pcq_app]; rfl)
      obtain ⟨Q, hQ⟩ : ∃ Q, qs ++ [x] = Q := ⟨_, rfl⟩
      rw [hQ] at HP HAP HFF HQE HD HDB HTT HP1
      have HQ := Lib.hid hQ
      clear hQ
      go_wp2_with fail
      go_loopw [7] (fun v7 wr => ∃ k : Nat, v7 = .int .i64 k ∧ 1 ≤ k ∧ k ≤ n + 2 ∧ Hid (PU W F j x A' (n + 1) c' Q wr F') ∧ Hid (∀ m back, 1 ≤ m → m < k → back < m → NoW (pcq Q) x.1.t m back)) (fun v7 _ => n + 2 - (intOf v7).toNat)
      case atStart => exact ⟨1, rfl, Nat.le_refl _, by omega, HP, Lib.hid (fun m back h1 h2 => by omega)⟩
      case round =>
        obtain ⟨k, rfl, hk1, hk, HU, HN⟩ := hrel
        clear HP
        have cj : wr.cell? ⟨j, 0, none⟩ = some (.slice A' (n + 1) c') := HU.out.jo.bk.cell 0
        by_cases hlt : k ≤ n + 1
        · have hlt2 : decide ((k : Int) ≤ (n : Int) + 1) = true := decide_eq_true (by omega)
          go_wp2_with fail
          go_loopw [8] (fun v8 wx => ∃ b : Nat, v8 = .int .i64 b ∧ b ≤ k ∧ Hid (PU W F j x A' (n + 1) c' Q wx F') ∧ Hid (∀ back, back < b → NoW (pcq Q) x.1.t k back)) (fun v8 _ => k - (intOf v8).toNat)
          case atStart => exact ⟨0, rfl, by omega, HU, Lib.hid (fun back h => by omega)⟩
          case round =>
            obtain ⟨b, rfl, hb, HU2, HN2⟩ := hrel
            clear HU cj
            by_cases hbk : b < k
            · have m1 := HU2.out.bp
              rw [HS.out] at m1
              have q0 : wr.cell? ⟨s, 0, none⟩ = some (.int .u32 (x.1.t : Int)) := m1.cell 0
              have e1 : IntKind.u32.wrap (b : Int) = (b : Int) := by rw [IntKind.wrap_u32]; omega
              have e2 : IntKind.u32.wrap ((x.1.t : Int) - (b : Int)) = ((bw x.1.t b : Nat) : Int) := by rw [IntKind.wrap_u32]; unfold bw; omega
              have hbw : bw x.1.t b < 4294967296 := by unfold bw; omega
              have CR := Lib.hid (drow_any HU2.out.jo.dj (bw x.1.t b) k hbw (by omega))
              obtain ⟨f, hf⟩ : ∃ f, bw x.1.t b = f := ⟨_, rfl⟩
              rw [hf] at e2 hbw CR
              have HFE := Lib.hid hf
              clear m1 hf
              go_wp2_with fail
              refine CR.out.mono ?_
              rintro e w3 ⟨hb3, hres⟩
              have HU3 := Lib.hid (HU2.out.next hb3)
              rcases hres with ⟨rfl, i, hi, hno⟩ | ⟨ps, B, cb, rfl, hpl, htr, how⟩
              · have HN3 : Hid (∀ back, back < b + 1 → NoW (pcq Q) x.1.t k back) := Lib.hid (fun back h => by
                  by_cases hbb : back = b
                  · subst hbb; exact now_none hi (by rw [HFE.out]; exact hno)
                  · exact HN2.out back (by omega))
                clear HU2 HN2 CR hb3 hno hi q0 e1 e2
                go_wp2_with fail
                go_roundw
                case rel => exact ⟨b + 1, by go_num, by omega, HU3, HN3⟩
                case measure => simp [intOf] <;> omega
              · have HTR := Lib.hid htr
                have HPL := Lib.hid hpl
                have HOW := Lib.hid how
                have HBX := Lib.hid hb3
                clear htr hpl how hb3 CR q0 e1 e2
                go_wp2_with fail
                refine (dwhole_any B k cb ps w3 f HPL.out (by omega) (own_row HOW.out) hbw (fun i hi => (HTR.out i hi).2) (fun i hi => HFF.out _ (HTR.out i hi).1)).mono ?_
                rintro e w4 ⟨hb4, hres⟩
                have HU4 := Lib.hid (HU3.out.next hb4)
                rcases hres with ⟨rfl, hwh⟩ | ⟨rfl, hwh⟩
                · have hk0 : 0 < ps.length := by rw [HPL.out]; omega
                  obtain ⟨P0, hP0⟩ : ∃ P0, ps[0] = P0 := ⟨_, rfl⟩
                  have hfl : P0.1.f < 256 := by rw [← hP0]; exact HFF.out _ (HTR.out 0 hk0).1
                  have HP0 := Lib.hid hP0
                  have HO4 := Lib.hid (own_below HOW.out hb4)
                  have HWH := Lib.hid hwh
                  obtain ⟨a, rfl, r0, r1, r2, r3, r4, r5⟩ := pf_at (own_row HO4.out) hk0
                  rw [add_zero, hP0] at r0 r1 r2 r3 r4 r5
                  have HPV : Hid (∀ w5, Below w4.heap.size w4 w5 → Bk w5 w4.heap.size #[.int .u16 (P0.1.s : Int), .bool (un P0.1.f), .int .u32 (P0.1.p : Int), .slice none 0 0] 39 → PV W F j x Q f ps (some a) k cb w4.heap.size P0.1.s (un P0.1.f) P0.1.p 0 0 A' (n + 1) c' none 0 0 w5 F') := Lib.hid (fun w5 h5 hm5 => by
                    have hz1 := HU4.out.bm.lt
                    have hz2 := HU2.out.jo.fb
                    have hz3 := HU2.out.bp.lt
                    have hz4 := HBX.out.size
                    have hz5 := hb4.size
                    exact ⟨HU4.out.next h5, hm5, World.ownsRow_nil _ _ _ _, own_base (own_below HO4.out h5) (by omega), hz1, fun e => by have := hz2 _ e; omega, (fun g e => by cases e), fun g e e2 => by have := hz2 _ e2; have := (World.ownsRow.lt HOW.out g e).1; omega⟩)
                  have CB := Lib.hid fun W => bit4_any P0.1.f W hfl
                  obtain ⟨u0, hu0⟩ : ∃ u0, un P0.1.f = u0 := ⟨_, rfl⟩
                  rw [hu0] at CB HPV
                  have HU0 := Lib.hid hu0
                  clear hu0
                  clear HU2 HU3 HN2 HN hwh hb4 hP0 r3 r5
                  go_upto_region 12 with fail
                  go_cut [11] from 62 to 75 (fun v11 wx => ∃ g11, v11 = .pointer (some ⟨g11, 0, none⟩) ∧ Hid (PV W F j x Q f ps (some a) k cb g11 P0.1.s u0 P0.1.p 0 0 A' (n + 1) c' none 0 0 wx F'))
                  case first =>
                    have hk00 : 0 < k := by omega
                    have hs4 : w4.cell? { block := a.block, off := a.off + 1 } = some (.int .u8 (P0.1.f : Int)) ∧ w4.cell? { block := a.block, off := a.off + 2 } = some (.int .u16 (P0.1.s : Int)) ∧ w4.cell? { block := a.block, off := a.off + 4 } = some (.int .u32 (P0.1.p : Int)) := ⟨r1, r2, r4⟩
                    have HKA : Hid (∀ o, (w4.alloc o).cell? { block := a.block, off := a.off + 1 } = some (.int .u8 (P0.1.f : Int)) ∧ (w4.alloc o).cell? { block := a.block, off := a.off + 2 } = some (.int .u16 (P0.1.s : Int)) ∧ (w4.alloc o).cell? { block := a.block, off := a.off + 4 } = some (.int .u32 (P0.1.p : Int))) := Lib.hid fun o => ⟨(World.cell?_alloc_some w4 _ o (by rw [r1]; rfl)).trans r1, (World.cell?_alloc_some w4 _ o (by rw [r2]; rfl)).trans r2, (World.cell?_alloc_some w4 _ o (by rw [r4]; rfl)).trans r4⟩
                    first | go_region_held3 (fun W => W.cell? { block := a.block, off := a.off + 1 } = some (.int .u8 (P0.1.f : Int)) ∧ W.cell? { block := a.block, off := a.off + 2 } = some (.int .u16 (P0.1.s : Int)) ∧ W.cell? { block := a.block, off := a.off + 4 } = some (.int .u32 (P0.1.p : Int))) (first | exact hs4 | exact HKA.out _) ((go_at_call 93; (with_reducible refine (CB.out _).mono ?_); rintro e w9 ⟨rfl, rfl⟩)) | fail
                    all_goals
                      go_wp2_with fail
                      go_meet
                      case rel => exact ⟨w4.heap.size, rfl, Lib.hid (HPV.out _ ((Below.refl _ _).alloc (Nat.le_refl _) _).drew (Bk.new _ _ _))⟩
                  case rest =>
                    obtain ⟨g11, rfl, HV⟩ := hcut
                    clear HPV CB r0 r1 r2 r4 HU4 HO4 HOW HBX hfl
                    go_wp2_with fail
                    go_loopw [12] (fun v12 wr => ∃ (i dn dc n2 c2 : Nat) (A2 D : Option Addr) (F2 : Nat → Prop), v12 = .int .i64 i ∧ i ≤ k ∧ Hid (dn ≤ lim i) ∧ Hid (PV W F j x Q f ps (some a) k cb g11 P0.1.s u0 P0.1.p i i A2 n2 c2 D dn dc wr F2)) (fun v12 _ => k - (intOf v12).toNat)
                    case atStart => exact ⟨0, 0, 0, n + 1, c', A', none, F', rfl, by omega, Lib.hid (Nat.zero_le _), HV⟩
                    case round =>
                      obtain ⟨i, dn, dc, n2, c2, A2, D, F2, rfl, hik, HLM, HV2⟩ := hrel
                      clear HV
                      by_cases hlt3 : i < k
                      · have hip : i < ps.length := by rw [HPL.out]; exact hlt3
                        have hlt3b : decide ((i : Int) < (k : Int)) = true := decide_eq_true (by omega)
                        obtain ⟨b9, hb9, r0, r1, r2, r3, r4, r5⟩ := pf_at (own_row HV2.out.po) hip
                        cases hb9
                        have htr := HTR.out i hip
                        have hpos := HP1.out _ htr.1
                        obtain ⟨hdr, hdl, hdz, hdf⟩ := HD.out _ htr.1
                        have hdr2 : Row wr ps[i].2.1 (bs ps[i].1.d) := Row.frame hdr HV2.out.pu.mv.1 hdf
                        have hmm := tot_mem htr.1
                        have HDA := Lib.hid (dat_at HAP.out HTR.out hip)
                        have HIN := Lib.hid (in_tq HTR.out hip (by rw [HPL.out]; omega))
                        have hti0 := htr.2
                        have HQI : Hid (ps[i].2.2.1 ≤ 1000000000) := Lib.hid (Nat.le_trans hmm HTT.out)
                        obtain ⟨q, hq⟩ : ∃ q, ps[i] = q := ⟨_, rfl⟩
                        rw [hq] at r0 r5 hpos hdl hdr2 HDA HIN hti0 HQI
                        have HTI := Lib.hid hti0
                        clear hti0
                        have HQQ := Lib.hid hq
                        have HDR := Lib.hid hdr2
                        have HDL := Lib.hid hdl
                        have hm0 : 0 < q.2.2.1 := by rw [← hdl]; exact hpos
                        have HBG : Hid (dn + q.2.2.1 ≤ 140737488355328) := Lib.hid (by have := HLM.out; have := lim_most (i := i) (by omega); have := HQI.out; omega)
                        have hms : wr.cell? ⟨g11, 3, none⟩ = some (.slice D dn dc) := HV2.out.ms.cell 3
                        clear r1 r2 r3 r4 htr hpos hdr hdz hdf hdr2 hmm hq hdl
                        go_upto_region 16 with fail
                        go_cut [] from 81 to 89 (fun wx => ∃ (D9 : Option Addr) (c9 : Nat), Hid (PV W F j x Q f ps (some a) k cb g11 P0.1.s u0 P0.1.p i (i + 1) A2 n2 c2 D9 (dn + q.2.2.1) c9 wx F2))
                        case first =>
                          first | go_region_law (first
                            | (refine al_reg rfl (.tmp 82) (.tmp 87) rfl W.heap.size D dn dc (tkD (pcq Q) f i) rfl HV2.out.dt q.2.1 q.2.2.1 q.2.2.2 q.1.d rfl HDL.out HDR.out hm0 HBG.out (Nat.le_trans HV2.out.pu.mv.1.size (Nat.le_refl _)) _ rfl ?_; intro g9 c9 w9 hown9 hgr9 hat9; have hg9 : wr.grownBy w9 (Value.slice D dn dc).ownBlock := grown_undrew hgr9; have hb9 : Bk w9 g11 _ 39 := HV2.out.ms.kept hg9 (fun e => own_off HV2.out.dt HV2.out.ms (by decide) e.symm); have z9 : w9.cell? ⟨g11, 3, none⟩ = some (.slice D dn dc) := hb9.cell 3; have f9 : w9.frozen? ⟨g11, 3, none⟩ = false := hb9.frozen 3; have HG9 := Lib.hid hg9; have HW9 := Lib.hid hown9; have HA9 := Lib.hid hat9; clear hown9 hgr9 hat9 hg9 hb9)) | fail
                          all_goals
                            go_wp2_with fail
                            go_meet
                            case rel => exact ⟨some ⟨g9, 0, none⟩, c9, Lib.hid (HV2.out.data HDA.out HW9.out HG9.out HA9.out)⟩
                        case rest =>
                          obtain ⟨D9, c9, HV3⟩ := hcut
                          clear HV2 hms r5 r0 HDR HBG
                          obtain ⟨b9, hb9, r0, _⟩ := pf_at (own_row HV3.out.po) hip
                          cases hb9
                          rw [HQQ.out] at r0
                          have CF := Lib.hid (dfind_any HV3.out.pu.jo.dj q.1.t)
                          go_wp2_with fail
                          refine CF.out.mono ?_
                          rintro e w6 ⟨⟨r, rfl, hat⟩, rfl⟩
                          clear CF r0
                          rcases hat with ⟨rfl, hno⟩ | ⟨at', hat, rfl, hit, hfst⟩
                          · exact (hno q HIN.out rfl).elim
                          · have han : at' < n2 := by rw [← HV3.out.pu.jo.len]; exact hat
                            have HTQ : Hid ([] ++ (tq Q f i).take at' ++ (tq Q f i).drop (at' + 1) = tq Q f (i + 1)) := Lib.hid (tq_next HAP.out hat hit HTI.out.symm)
                            have HNL : Hid ((tq Q f (i + 1)).length + 1 = n2) := Lib.hid (by rw [← HTQ.out, ← HV3.out.pu.jo.len]; simp; omega)
                            clear hit hfst
                            go_upto_region 18 with fail
                            have HL4 : Hid (dn + q.2.2.1 ≤ lim (i + 1)) := Lib.hid (by have := HLM.out; have := HQI.out; have := lim_step i; omega)
                            have HLN := Lib.hid HV3.out.pu.jo.len
                            have HMO := Lib.hid HV3.out.pu.jo.most
                            have HCP := Lib.hid (own_caps HV3.out.pu.jo.own)
                            have HC : Hid (∀ w2, Below wc.heap.size wc w2 → w2.cell? ⟨j, 0, none⟩ = some (.slice A2 n2 c2)) := Lib.hid fun w2 h2 => (HV3.out.pu.jo.bk.next h2).cell 0
                            have HFZ : Hid (∀ w2, Below wc.heap.size wc w2 → w2.frozen? ⟨j, 0, none⟩ = false) := Lib.hid fun w2 h2 => (HV3.out.pu.jo.bk.next h2).frozen 0
                            have cW : wc.cell? ⟨j, 0, none⟩ = some (.slice A2 n2 c2) := HC.out wc (Below.refl _ _)
                            have ca : ∀ o, (wc.alloc o).cell? ⟨j, 0, none⟩ = some (.slice A2 n2 c2) := fun o => HC.out _ ((Below.refl _ _).alloc (Nat.le_refl _) o)
                            have hac : at' ≤ c2 := by have := HCP.out.1; omega
                            have hk1 := fun W => run_cutS_h (P := Try.prog) (t := 66) (e := 33) (sz := 6) Try.underlying66 (by kernel_rfl) (k := .i64) A2 n2 c2 at' hac W
                            have hk2 : ∀ W, (Instr.slice 66 (.slice A2 n2 c2) (some (.int .i64 ((at' : Int) + 1))) none none).run Try.prog W = .ok (.slice (cutS A2 c2 (at' + 1) 6) (n2 - (at' + 1)) (c2 - (at' + 1))) W := fun W => by
                              have := run_cutS_l (P := Try.prog) (t := 66) (e := 33) (sz := 6) Try.underlying66 (by kernel_rfl) (k := .i64) A2 n2 c2 (at' + 1) (by omega) W
                              simpa using this
                            have HA1 : Hid (∀ w2, Below wc.heap.size wc w2 → Row w2 (cutS A2 c2 0 6) (pf ((tq Q f i).take at'))) := Lib.hid fun w2 h2 => cuts_front ((own_row HV3.out.pu.jo.own).below h2) HLN.out HCP.out.1 at' (by omega)
                            have HA2 : Hid (∀ w2, Below wc.heap.size wc w2 → Row w2 (cutS A2 c2 (at' + 1) 6) (pf ((tq Q f i).drop (at' + 1)))) := Lib.hid fun w2 h2 => cuts_row ((own_row HV3.out.pu.jo.own).below h2) HLN.out HCP.out.1 (at' + 1)
                            have HZ1 : Hid (cutS A2 c2 0 6 = none → at' = 0 ∧ c2 = 0) := Lib.hid fun e => by have := cutS_none HCP.out.2.2 (Nat.zero_le n2) e; omega
                            have HZ2 : Hid (cutS A2 c2 (at' + 1) 6 = none → n2 - (at' + 1) = 0 ∧ c2 - (at' + 1) = 0) := Lib.hid fun e => cutS_none HCP.out.2.2 (by omega) e
                            have HT1 : Hid (((tq Q f i).take at').length = at') := Lib.hid (by have := HLN.out; simp; omega)
                            have HT2 : Hid (((tq Q f i).drop (at' + 1)).length = n2 - (at' + 1)) := Lib.hid (by have := HLN.out; simp; omega)
                            have HM2 : Hid (at' + (n2 - (at' + 1)) = n2 - 1) := Lib.hid (by omega)
                            have HN3 : Hid ((tq Q f (i + 1)).length = n2 - 1) := Lib.hid (by have := HNL.out; omega)
                            have hn9 : n2 ≤ 1000 := HMO.out
                            have ha9 : at' ≤ 1000 := by omega
                            have HNM : Hid (n2 - 1 ≤ 1000) := Lib.hid (by omega)
                            generalize cutS A2 c2 0 6 = A1' at hk1 HA1 HZ1
                            generalize cutS A2 c2 (at' + 1) 6 = A2' at hk2 HA2 HZ2
                            generalize n2 - (at' + 1) = m2 at hk2 HZ2 HT2 HM2
                            generalize c2 - (at' + 1) = c2' at hk2 HZ2
                            generalize n2 - 1 = n3 at HM2 HN3 HNM
                            have HO1 : Hid ((wc.alloc (.cells #[] 33)).drew.ownsRow wc.heap.size 33 6 (.slice (some ⟨wc.heap.size, 0, none⟩) 0 0) 0 (pf [])) := Lib.hid (World.ownsRow_made wc.drew #[] 0 (Nat.le_refl _) (by decide) rfl)
                            have HB1 : Hid (Below wc.heap.size wc (wc.alloc (.cells #[] 33)).drew) := Lib.hid ((Below.refl _ _).drew.alloc (Nat.le_refl _) _)
                            have hw9 : IntKind.i64.wrap ((at' : Int) + 1) = (at' : Int) + 1 := by simp [IntKind.wrap, IntKind.signed, IntKind.bits]; omega
                            clear hac hat han
                            first | go_region_law (first
                              | (refine pm_reg rfl (.tmp 98) (.tmp 104) rfl wc.heap.size _ 0 0 [] rfl HO1.out A1' at' c2 ((tq Q f i).take at') rfl HT1.out (HA1.out _ HB1.out) HZ1.out at' (by omega) (by omega) HB1.out.size ?_; intro A9 c9' w9 hown9 hgr9; have hb9 : Below wc.heap.size wc w9 := HB1.out.grown hgr9 HB1.out.size (fun k hk => by simp [Value.ownBlock] at hk; omega); have c9a := HC.out w9 hb9; have HW9 := Lib.hid hown9; have HL9 := Lib.hid hb9; clear hown9 hb9 hgr9)
                              | (refine pm_reg rfl (.tmp 105) (.tmp 112) rfl wc.heap.size A9 at' c9' ([] ++ (tq Q f i).take at') rfl HW9.out A2' m2 c2' ((tq Q f i).drop (at' + 1)) rfl HT2.out (HA2.out _ HL9.out) HZ2.out n3 HM2.out (by have := HNM.out; omega) HL9.out.size ?_; intro A8 c8 w8 hown8 hgr8; have hb8 : Below wc.heap.size wc w8 := HL9.out.grown hgr8 HL9.out.size (fun k hk => (HW9.out.lt k hk).1); have c8a := HC.out w8 hb8; have z8a := HFZ.out w8 hb8; have HW8 := Lib.hid hown8; have HL8 := Lib.hid hb8; clear hown8 hb8 hgr8)) | fail
                            all_goals
                              go_wp2_with fail
                              have hw8 := HW8.out
                              rw [HTQ.out] at hw8
                              obtain ⟨F3, h1⟩ := HV3.out.del HL8.out hw8 HN3.out HNM.out
                              have HV4 := Lib.hid h1
                              clear h1 hw8
                              go_roundw
                              case rel => exact ⟨i + 1, dn + q.2.2.1, c9, n3, c8, A8, D9, F3, by go_num, by omega, HL4, HV4⟩
                              case measure => simp [intOf] <;> omega
                      · have hik2 : i = k := by omega
                        have hlt3b : decide ((i : Int) < (k : Int)) = false := decide_eq_false (by omega)
                        rw [hik2] at HV2
                        have HE : Hid (put (pcq qs) x.1 = (tkK (pcq Q) f k, some (tell (pcq Q) f k))) := Lib.hid (by
                          have h1 := dput_whole (K := pcq qs) (x := x.1) (n := k) (back := b) (l := pcq ps) htt HK.out (by rw [HLQ.out]; omega) (by omega) (by rw [HLQ.out]; omega) (by rw [← HQE.out, HFE.out]; exact tr_row HAP.out HPL.out HTR.out) HWH.out
                          rw [← HQE.out, HFE.out] at h1
                          exact h1)
                        have HTE : Hid (tell (pcq Q) f k = (⟨P0.1.s, u0, P0.1.p, tkD (pcq Q) f k⟩, P0.1.n)) := Lib.hid (by
                          have h1 := (tr_row HAP.out HPL.out HTR.out).2 0 (by unfold pcq; simpa using hk0)
                          have h2 : fw f 0 = f := by unfold fw; omega
                          rw [h2] at h1
                          have h3 : (pcq ps)[0]'(by unfold pcq; simpa using hk0) = P0.1 := by rw [← HP0.out]; simp [pcq]
                          rw [h3] at h1
                          unfold tell
                          rw [h1, ← HU0.out])
                        obtain ⟨b9, hb9, r0, r1, r2, r3, r4, r5⟩ := pf_at (own_row HV2.out.po) hk0
                        cases hb9
                        rw [add_zero, HP0.out] at r3
                        clear r0 r1 r2 r4 r5
                        have m1 := HV2.out.pu.bm
                        rw [HS.out] at m1
                        obtain ⟨b0, b1, b2, b3⟩ : wr.cell? ⟨s + 1, 0, none⟩ = some (.int .u16 0) ∧ wr.cell? ⟨s + 1, 1, none⟩ = some (.bool false) ∧ wr.cell? ⟨s + 1, 2, none⟩ = some (.int .u32 0) ∧ wr.cell? ⟨s + 1, 3, none⟩ = some (.slice none 0 0) := ⟨m1.cell 0, m1.cell 1, m1.cell 2, m1.cell 3⟩
                        have f0 := m1.frozen 0
                        have f1 := m1.frozen 1
                        have f2 := m1.frozen 2
                        have f3 := m1.frozen 3
                        obtain ⟨y0, y1, y2, y3⟩ : wr.cell? ⟨g11, 0, none⟩ = some (.int .u16 (P0.1.s : Int)) ∧ wr.cell? ⟨g11, 1, none⟩ = some (.bool u0) ∧ wr.cell? ⟨g11, 2, none⟩ = some (.int .u32 (P0.1.p : Int)) ∧ wr.cell? ⟨g11, 3, none⟩ = some (.slice D dn dc) := ⟨HV2.out.ms.cell 0, HV2.out.ms.cell 1, HV2.out.ms.cell 2, HV2.out.ms.cell 3⟩
                        have hk00 : 0 < k := by omega
                        have hab : ¬ a.block = s + 1 := fun e => own_off HV2.out.po HV2.out.pu.bm (by decide) (by show some a.block = _; rw [e, HS.out])
                        have hab2 : ¬ s + 1 = a.block := fun e => hab e.symm
                        clear m1 HLM HD HDB HTT HP1 hbw
                        go_upto_region 19 with fail
                        go_region
                        all_goals
                          go_wp2_with fail
                          generalize hW9 : World.setCell (World.setCell (World.setCell (World.setCell wr _ _) _ _) _ _) _ _ = W9
                          rw [← HS.out] at hW9
                          obtain ⟨g1, g2, ⟨z0, z1, z2, z3⟩, g4⟩ := HV2.out.pu.setm _ _ _ _ hW9
                          rw [HS.out] at z0 z1 z2 z3 g4
                          have hdt : W9.ownsRow W.heap.size 5 1 (.slice D dn dc) dn (bs (tkD (pcq Q) f k)) := own_keep HV2.out.dt (Kp.grown (F := fun b => b = s + 1) g4 (fun g e => by cases e; rfl)) (fun g e e2 => own_off HV2.out.dt HV2.out.pu.bm (by decide) (by rw [e, e2, HS.out]))
                          clear hW9 b0 b1 b2 b3 f0 f1 f2 f3 y0 y1 y2 y3
                          refine bodyPost_ret (v := .tuple #[.agg #[.int .u16 (P0.1.s : Int), .bool u0, .int .u32 (P0.1.p : Int), .slice D dn dc], .int .u16 (P0.1.n : Int), .bool true]) (by simp [results, Try.results59, go_sem, z0, z1, z2, z3]) rfl ?_
                          refine ⟨F2, A2, n2, c2, tq Q f k, ⟨g2.1.trans (F' := fun _ => False) (Kp.below (Below.refl _ _).drew) (fun _ e => e.elim), g2.2⟩, g1.next (Below.refl _ _).drew, by rw [HE.out, tq_pcq], fun q hq => by rw [HQ.out]; exact (tq_mem.1 hq).1, ?_⟩
                          rw [HE.out, HTE.out]
                          exact ⟨D, dn, dc, rfl, by have h1 := hdt.1; rw [bs_len, Nat.mul_one] at h1; exact h1, own_below hdt (Below.refl _ _).drew, HV2.out.nd⟩
                · have HN3 : Hid (∀ back, back < b + 1 → NoW (pcq Q) x.1.t k back) := Lib.hid (fun back h => by
                    by_cases hbb : back = b
                    · subst hbb; exact now_not HAP.out HPL.out (by rw [HFE.out]; exact HTR.out) hwh
                    · exact HN2.out back (by omega))
                  clear HU2 HU3 HN2 hwh hb4 HOW HBX HTR HPL
                  go_wp2_with fail
                  go_roundw
                  case rel => exact ⟨b + 1, by go_num, by omega, HU4, HN3⟩
                  case measure => simp [intOf] <;> omega
            · have HN3 : Hid (∀ m back, 1 ≤ m → m < k + 1 → back < m → NoW (pcq Q) x.1.t m back) := Lib.hid (fun m back h1 h2 h3 => by
                by_cases hmk : m = k
                · subst hmk; exact HN2.out back (by omega)
                · exact HN.out m back h1 (by omega) h3)
              clear HN HN2
              go_wp2_with fail
              go_roundw
              case rel => exact ⟨k + 1, by go_num, by omega, by omega, HU2, HN3⟩
              case measure => simp [intOf] <;> omega
        · have HE : Hid (put (pcq qs) x.1 = (pcq Q, none)) := Lib.hid (by
            rw [HQE.out]
            exact dput_not htt HK.out (by rw [← HQE.out]; exact HAP.out) (by rw [HLQ.out]; omega) (fun m back h1 h2 h3 => by rw [← HQE.out]; exact HN.out m back h1 (by rw [HLQ.out] at h2; omega) h3))
          have m1 := HU.out.bm
          rw [HS.out] at m1
          obtain ⟨b0, b1, b2, b3⟩ : wr.cell? ⟨s + 1, 0, none⟩ = some (.int .u16 0) ∧ wr.cell? ⟨s + 1, 1, none⟩ = some (.bool false) ∧ wr.cell? ⟨s + 1, 2, none⟩ = some (.int .u32 0) ∧ wr.cell? ⟨s + 1, 3, none⟩ = some (.slice none 0 0) := ⟨m1.cell 0, m1.cell 1, m1.cell 2, m1.cell 3⟩
          have f0 := m1.frozen 0
          have f1 := m1.frozen 1
          have f2 := m1.frozen 2
          have f3 := m1.frozen 3
          clear m1
          go_wp2_with fail
          generalize hW9 : World.setCell (World.setCell (World.setCell (World.setCell wr _ _) _ _) _ _) _ _ = W9
          rw [← HS.out] at hW9
          obtain ⟨g1, g2, ⟨z0, z1, z2, z3⟩, g4⟩ := HU.out.setm _ _ _ _ hW9
          rw [HS.out] at z0 z1 z2 z3
          clear hW9 b0 b1 b2 b3 f0 f1 f2 f3
          refine bodyPost_ret (v := .tuple #[.agg #[.int .u16 0, .bool false, .int .u32 0, .slice none 0 0], .int .u16 0, .bool false]) (by simp [results, Try.results59, go_sem, z0, z1, z2, z3]) rfl ?_
          refine ⟨F', A', n + 1, c', Q, g2, g1, by rw [HE.out], fun q hq => by rw [HQ.out]; exact hq, ?_⟩
          rw [HE.out]
          exact rfl
  · have HE : Hid (put (pcq qs) x.1 = (pcq qs, none)) := Lib.hid (dput_there ⟨qs[i].1, List.mem_map_of_mem (List.getElem_mem hi), hit⟩)
    have m1 := HU.out.bm
    rw [HS.out] at m1
    obtain ⟨b0, b1, b2, b3⟩ : W2.cell? ⟨s + 1, 0, none⟩ = some (.int .u16 0) ∧ W2.cell? ⟨s + 1, 1, none⟩ = some (.bool false) ∧ W2.cell? ⟨s + 1, 2, none⟩ = some (.int .u32 0) ∧ W2.cell? ⟨s + 1, 3, none⟩ = some (.slice none 0 0) := ⟨m1.cell 0, m1.cell 1, m1.cell 2, m1.cell 3⟩
    have f0 := m1.frozen 0
    have f1 := m1.frozen 1
    have f2 := m1.frozen 2
    have f3 := m1.frozen 3
    clear m1 hit hfst hi p0
    go_wp2_with fail
    generalize hW9 : World.setCell (World.setCell (World.setCell (World.setCell W2 _ _) _ _) _ _) _ _ = W9
    rw [← HS.out] at hW9
    obtain ⟨g1, g2, ⟨z0, z1, z2, z3⟩, g4⟩ := HU.out.setm _ _ _ _ hW9
    rw [HS.out] at z0 z1 z2 z3
    clear hW9 b0 b1 b2 b3 f0 f1 f2 f3
    refine bodyPost_ret (v := .tuple #[.agg #[.int .u16 0, .bool false, .int .u32 0, .slice none 0 0], .int .u16 0, .bool false]) (by simp [results, Try.results59, go_sem, z0, z1, z2, z3]) rfl ?_
    refine ⟨F, A, n, c, qs, g2, g1, by rw [HE.out], fun q hq => by simp [hq], ?_⟩
    rw [HE.out]
    exact rfl
end Fg
end Go.Proofs.Ytednkcjmlpgipaa
