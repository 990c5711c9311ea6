/-
  A piece comes.
-/
import Derived.Test.YtednkcjmlpgipaaYP1g
namespace Go.Proofs.Ytednkcjmlpgipaa
set_option maxRecDepth 4000
open Go.RowKit Go.Maps
namespace Ix
set_option linter.unusedVariables false
set_option linter.unusedSimpArgs false
open Fg (Pc Ms mv JA JA_fr)

section
variable {W w : World} {x : Nat} {b : Ib} {wh : Nat} {L : List Me} {R : List As}
theorem bal {W w2 : World} {o : Obj} (h : Below W.heap.size W w2) : Below W.heap.size W (w2.alloc o) := h.alloc h.size o
theorem Ib.Ok.len2 {b : Ib} (h : b.Ok) : b.rd.length + b.ws.length ≤ 1048576 := by
  have h2 := bsum_len (l := b.rd) h.rd
  have h3 := bsum_len (l := b.ws.map (·.1)) (fun m hm => by
    obtain ⟨e, he, rfl⟩ := List.mem_map.1 hm
    exact (h.ws e he).1)
  rw [List.length_map] at h3
  have h4 := h.len.2.2.2.2
  unfold Ib.whole at h4
  omega
theorem put_core {b : Ib} (h : b.Core) {x : Pc} (hx : x.Ok) (hd : 1 ≤ x.d.length) (hs : x.s < b.nx.length) (hlen : b.K.length < 1000000000) :
    (b.setK (Fg.put b.K x).1).Core ∧ ∀ m n, (Fg.put b.K x).2 = some (m, n) → 1 ≤ m.d.length ∧ m.s < b.nx.length ∧ n < 65536 ∧ m.d.length ≤ Fg.held b.K + x.d.length := by
  have hall : ∀ y ∈ b.K ++ [x], y.Ok ∧ 1 ≤ y.d.length ∧ y.s < b.nx.length := fun y hy => by
    rcases List.mem_append.1 hy with h1 | h1
    · exact h.K y h1
    · simp only [List.mem_singleton] at h1
      rw [h1]
      exact ⟨hx, hd, hs⟩
  refine ⟨⟨h.room, h.most, h.st, h.nx, h.nxs, fun y hy => hall y (put_sub y hy), put_apart h.ap, h.ws, h.al, h.rd⟩, fun m n e => ?_⟩
  obtain ⟨y, hy, h1, h2, _, _, h5⟩ := put_tells h.ap hx.t hlen e
  obtain ⟨k1, k2, k3⟩ := hall y hy
  refine ⟨by omega, by rw [h1]; exact k3, by rw [h2]; exact k1.n, ?_⟩
  rcases Fg.put_keeps x h.ap hx.t hlen with ⟨h3, _⟩ | ⟨h3, _⟩ | ⟨m', s, h3, _, h4⟩
  · rw [e] at h3; cases h3
  · rw [e] at h3; cases h3
  · rw [e] at h3
    simp only [Option.some.injEq, Prod.mk.injEq] at h3
    obtain ⟨rfl, _⟩ := h3
    omega
theorem join_none {b : Ib} {x : Pc} (h : (Fg.put b.K x).2 = none) : b.join x = b.setK (Fg.put b.K x).1 := by unfold Ib.join; rw [h]; rfl
theorem join_some {b : Ib} {x : Pc} {m : Ms} {n : Nat} (h : (Fg.put b.K x).2 = some (m, n)) : b.join x = (b.setK (Fg.put b.K x).1).deal m n := by unfold Ib.join; rw [h]; rfl
def Less (L L' : List Me) : Prop := ∀ e ∈ L, e ∈ L'
theorem Less.refl (L : List Me) : Less L L := fun _ h => h
theorem IW.rest (h : IW W w x b wh L R) : Nw W w R := by
  obtain ⟨i, h, _⟩ := h
  exact h.drop.drop.drop.drop.drop.drop.drop
set_option maxHeartbeats 4000000 in
theorem add_any (h : IX W w x b L R) (ok : b.Ok) (q : Pc) (A : Option Addr) (k c : Nat) (hq : q.Ok) (hl : q.d.length = k) (hk : k ≤ 4000000) (hr : ∀ w2, Nw W w2 R → Row w2 A (bs q.d)) :
    Calls Try.prog 11 #[.pointer (some ⟨x, 0, none⟩), .agg (Fg.pv q A k c)] w fun e w' => e = .returned (.int .i64 ((b.add q).2 : Nat)) ∧ ∃ L', IX W w' x (b.add q).1 L' R ∧ Less L L' := by
  have HAW := Lib.hid (add_ways b q)
  have HNI := Lib.hid (noted_is (b := b) ok.st hq.t)
  generalize b.add q = P at HAW ⊢
  obtain ⟨b', n⟩ := P
  simp only at HAW ⊢
  have HI := Lib.hid h
  have HOK := Lib.hid ok
  have HQ := Lib.hid hq
  have HL := Lib.hid hl
  have HK := Lib.hid hk
  have HR := Lib.hid hr
  have HT := Lib.hid hq.t
  have CF := Lib.hid fun w2 (hb : Below w.heap.size w w2) => fresh_any (h.next hb) ok.st.1 q.t hq.t
  have CT := Lib.hid fun w2 (hb : Below w.heap.size w w2) => fits_any (h.next hb) ok q A k c hq.t hl (by omega)
  clear h ok hq hl hk hr
  generalize hfr : b.fresh q.t = fr at CF HAW
  generalize hft : b.fits q = ft at CT HAW
  clear hfr hft
  obtain ⟨bn, hbn⟩ : ∃ bn, b.noted q.t = bn := ⟨_, rfl⟩
  rw [hbn] at HAW HNI
  have HBN := Lib.hid hbn
  clear hbn
  obtain ⟨t, f, si, ns, pp, d⟩ := q
  simp only at HT HL HAW CF CT HBN HR
  unfold Fg.pv at CT ⊢
  simp only at CT ⊢
  go_enter Try.func11, Try.ntmps11
  go_upto_region 1 with fail
  have HB1 := Lib.hid ((Below.refl w.heap.size w).alloc (Nat.le_refl _) (.cells #[.int .u32 (t : Int), .int .u8 (f : Int), .int .u16 (si : Int), .int .u16 (ns : Int), .int .u32 (pp : Int), .slice A k c] 33))
  have HI1 : Hid (IW W (w.alloc (.cells #[.int .u32 (t : Int), .int .u8 (f : Int), .int .u16 (si : Int), .int .u16 (ns : Int), .int .u32 (pp : Int), .slice A k c] 33)) x b b.whole L _) := Lib.hid (IW.boxed HI.out #[.int .u32 (t : Int), .int .u8 (f : Int), .int .u16 (si : Int), .int .u16 (ns : Int), .int .u32 (pp : Int), .slice A k c] 33)
  have CF1 := Lib.hid (CF.out _ HB1.out)
  have CT1 := Lib.hid fun w2 hb => CT.out w2 (bnext HB1.out hb)
  clear HI CF CT HB1
  generalize w.alloc (.cells #[.int .u32 (t : Int), .int .u8 (f : Int), .int .u16 (si : Int), .int .u16 (ns : Int), .int .u32 (pp : Int), .slice A k c] 33) = w1 at HI1 CF1 CT1 ⊢
  generalize w.heap.size = g at HI1 ⊢
  obtain ⟨wl, hwl⟩ : ∃ wl, b.whole = wl := ⟨_, rfl⟩
  have HWL := Lib.hid hwl
  rw [hwl] at HI1
  clear hwl
  have hbg := HI1.out.bk7
  have g0 : w1.cell? ⟨g, 0, none⟩ = some (.int .u32 (t : Int)) := hbg.cell 0
  have g5 : w1.cell? ⟨g, 5, none⟩ = some (.slice A k c) := hbg.cell 5
  clear hbg
  by_cases hk0 : k = 0
  · have hz : ((k : Int) == 0) = true := by simp; omega
    have HN : Hid (b' = b ∧ n = 2) := Lib.hid (by
      rcases HAW.out with ⟨h1, _⟩ | ⟨h1, _⟩ | ⟨h1, _⟩ | ⟨h1, _⟩ | ⟨h1, _⟩
      · simpa using h1
      all_goals exact absurd (HL.out.trans hk0) h1)
    clear hk0 HAW
    go_wp2_with fail
    go_ret
    obtain ⟨rfl, rfl⟩ := HN.out
    exact ⟨rfl, L, HI1.out.unbox.whx HWL.out.symm, Less.refl L⟩
  have hz : ((k : Int) == 0) = false := by rw [beq_eq_false_iff_ne]; omega
  have HD0 : Hid (d.length ≠ 0) := Lib.hid (by rw [HL.out]; exact hk0)
  clear hk0
  go_wp2_with fail
  refine CF1.out.mono ?_
  rintro e w2 ⟨rfl, hb2⟩
  have HI2 := Lib.hid (HI1.out.next hb2)
  have CT2 := Lib.hid (CT1.out w2 hb2)
  clear CF1 CT1 HI1 hb2 g0 g5 hz
  cases fr with
  | false =>
    have HN : Hid (b' = bn ∧ n = 4) := Lib.hid (by
      rcases HAW.out with ⟨_, h1⟩ | ⟨_, _, h1⟩ | ⟨_, h1, _⟩ | ⟨_, h1, _⟩ | ⟨_, h1, _⟩
      · exact absurd h1 HD0.out
      · simpa using h1
      all_goals cases h1)
    clear HAW CT2
    obtain ⟨i, hN, hf⟩ := HI2.out
    have HF := Lib.hid hf
    have hS : ∀ w3, Below w2.heap.size w2 w3 → w3.cell? ⟨x, 2, none⟩ = some (.pointer (some ⟨i.s, 0, none⟩)) ∧ w3.cell? ⟨g, 0, none⟩ = some (.int .u32 (t : Int)) := fun w3 hb => ⟨((hN.next hb).bk (k := 0) rfl).cell 2, ((hN.next hb).bk (k := 7) rfl).cell 0⟩
    have hwd : Below w2.heap.size w2 w2.drew := (Below.refl _ _).drew
    have hs := hS _ hwd
    have hC := came_any (hN.next hwd) t HT.out
    rw [HBN.out] at hC
    have C := Lib.hid hC
    clear hN hf hS hC HI2
    go_upto_region 6 with fail
    go_cut [4] from 22 to 28 (fun v4 wx => v4 = .int .i64 0 ∧ Hid (IW W wx x bn wl L (BkA g #[.int .u32 (t : Int), .int .u8 (f : Int), .int .u16 (si : Int), .int .u16 (ns : Int), .int .u32 (pp : Int), .slice A k c] 33 :: R)))
    case first =>
      first | go_region_held3 (fun W => W.cell? ⟨x, 2, none⟩ = some (.pointer (some ⟨i.s, 0, none⟩)) ∧ W.cell? ⟨g, 0, none⟩ = some (.int .u32 (t : Int))) (first | exact hs | assumption) ((go_at_call 52; (with_reducible refine C.out.mono ?_); rintro e w3 ⟨⟨nn, rfl⟩, h3⟩; have hs3 : w3.cell? ⟨x, 2, none⟩ = some (.pointer (some ⟨i.s, 0, none⟩)) ∧ w3.cell? ⟨g, 0, none⟩ = some (.int .u32 (t : Int)) := ⟨(h3.bk (k := 0) rfl).cell 2, (h3.bk (k := 7) rfl).cell 0⟩; have H3 := Lib.hid h3; clear h3)) | fail
      all_goals
        go_wp2_with fail
        go_meet
        case rel =>
          refine ⟨rfl, Lib.hid ⟨i, H3.out, ?_⟩⟩
          obtain ⟨s', _, e'⟩ := HNI.out
          rw [e']
          exact ⟨HF.out.ws, HF.out.rd, HF.out.inw, HF.out.inr, HF.out.dat⟩
    case rest =>
      obtain ⟨rfl, HC⟩ := hcut
      clear C hs HF
      clear hwd
      go_wp2_with fail
      go_ret
      have hwb : wl = bn.whole := by
        obtain ⟨s', _, e'⟩ := HNI.out
        rw [e', ← HWL.out]
        rfl
      obtain ⟨rfl, rfl⟩ := HN.out
      exact ⟨rfl, L, HC.out.unbox.whx hwb, Less.refl L⟩
  | true =>
    have hbg := HI2.out.bk7
    have g0 : w2.cell? ⟨g, 0, none⟩ = some (.int .u32 (t : Int)) := hbg.cell 0
    have g1 : w2.cell? ⟨g, 1, none⟩ = some (.int .u8 (f : Int)) := hbg.cell 1
    have g2 : w2.cell? ⟨g, 2, none⟩ = some (.int .u16 (si : Int)) := hbg.cell 2
    have g3 : w2.cell? ⟨g, 3, none⟩ = some (.int .u16 (ns : Int)) := hbg.cell 3
    have g4 : w2.cell? ⟨g, 4, none⟩ = some (.int .u32 (pp : Int)) := hbg.cell 4
    have g5 : w2.cell? ⟨g, 5, none⟩ = some (.slice A k c) := hbg.cell 5
    clear hbg
    go_wp2_with fail
    refine CT2.out.mono ?_
    rintro e w3 ⟨rfl, hb3⟩
    have HI3 := Lib.hid (HI2.out.next hb3)
    clear CT2 HI2 hb3 g0 g1 g2 g3 g4 g5
    cases ft with
    | false =>
      have HN : Hid (b' = b ∧ n = 7) := Lib.hid (by
        rcases HAW.out with ⟨_, h1⟩ | ⟨_, h1, _⟩ | ⟨_, _, _, h1⟩ | ⟨_, _, h1, _⟩ | ⟨_, _, h1, _⟩
        · exact absurd h1 HD0.out
        · cases h1
        · simpa using h1
        all_goals cases h1)
      clear HAW
      go_wp2_with fail
      go_ret
      obtain ⟨rfl, rfl⟩ := HN.out
      exact ⟨rfl, L, HI3.out.unbox.whx HWL.out.symm, Less.refl L⟩
    | true =>
      obtain ⟨i, hN, hf⟩ := HI3.out
      have HF := Lib.hid hf
      have hS : ∀ w5, Below w3.heap.size w3 w5 → w5.cell? ⟨x, 2, none⟩ = some (.pointer (some ⟨i.s, 0, none⟩)) ∧ w5.cell? ⟨g, 0, none⟩ = some (.int .u32 (t : Int)) := fun w5 hb => ⟨((hN.next hb).bk (k := 0) rfl).cell 2, ((hN.next hb).bk (k := 7) rfl).cell 0⟩
      have hwd : Below w3.heap.size w3 w3.drew := (Below.refl _ _).drew
      have hs := hS _ hwd
      have hC := came_any (hN.next hwd) t HT.out
      rw [HBN.out] at hC
      have C := Lib.hid hC
      clear hN hf hS hC HI3
      go_upto_region 10 with fail
      go_cut [4] from 34 to 40 (fun v4 wx => v4 = .int .i64 0 ∧ Hid (IW W wx x bn wl L (BkA g #[.int .u32 (t : Int), .int .u8 (f : Int), .int .u16 (si : Int), .int .u16 (ns : Int), .int .u32 (pp : Int), .slice A k c] 33 :: R)))
      case first =>
        first | go_region_held3 (fun W => W.cell? ⟨x, 2, none⟩ = some (.pointer (some ⟨i.s, 0, none⟩)) ∧ W.cell? ⟨g, 0, none⟩ = some (.int .u32 (t : Int))) (first | exact hs | assumption) ((go_at_call 52; (with_reducible refine C.out.mono ?_); rintro e w5 ⟨⟨nn, rfl⟩, h5⟩; have hs3 : w5.cell? ⟨x, 2, none⟩ = some (.pointer (some ⟨i.s, 0, none⟩)) ∧ w5.cell? ⟨g, 0, none⟩ = some (.int .u32 (t : Int)) := ⟨(h5.bk (k := 0) rfl).cell 2, (h5.bk (k := 7) rfl).cell 0⟩; have H3 := Lib.hid h5; clear h5)) | fail
        all_goals
          go_wp2_with fail
          go_meet
          case rel =>
            refine ⟨rfl, Lib.hid ⟨i, H3.out, ?_⟩⟩
            obtain ⟨s', _, e'⟩ := HNI.out
            rw [e']
            exact ⟨HF.out.ws, HF.out.rd, HF.out.inw, HF.out.inr, HF.out.dat⟩
      case rest =>
        obtain ⟨rfl, HC⟩ := hcut
        clear C hs HF
        clear hwd
        have HRW := Lib.hid (HR.out wc HC.out.rest.drop)
        obtain ⟨i4, hf4, hN4, hb4⟩ := HC.out.cells
        have hg4 := HC.out.bk7
        obtain ⟨F4, hir, _⟩ := hN4.at (k := 3) rfl
        obtain ⟨A4, c4, hv4, _⟩ := hir.1.form
        have hnl : bn.nx.length = b.nx.length := by
          obtain ⟨s', _, e'⟩ := HNI.out
          rw [e']
          rfl
        have x4 : wc.drew.cell? ⟨x, 4, none⟩ = some i4.vn := hb4.drew.cell 4
        have g2 : wc.drew.cell? ⟨g, 2, none⟩ = some (.int .u16 (si : Int)) := hg4.drew.cell 2
        rw [hv4, hnl] at x4
        have hsi : si < 65536 := HQ.out.s
        clear hf4 hN4 hb4 hg4 hir hv4
        by_cases hsn : b.nx.length ≤ si
        · have HN : Hid (b' = bn ∧ n = 100) := Lib.hid (by
            rcases HAW.out with ⟨_, h1⟩ | ⟨_, h1, _⟩ | ⟨_, _, h1, _⟩ | ⟨_, _, _, _, h1⟩ | ⟨_, _, _, h1, _⟩
            · exact absurd h1 HD0.out
            · cases h1
            · cases h1
            · simpa using h1
            · exact absurd hsn (Nat.not_le.2 h1))
          have hz : decide ((b.nx.length : Int) ≤ (si : Int)) = true := decide_eq_true (by omega)
          have hp1 : (b.nx.length : Int) ≤ (si : Int) := by omega
          have hp2 : ¬ ((si : Int) < (b.nx.length : Int)) := by omega
          have hp3 : decide ((si : Int) < (b.nx.length : Int)) = false := decide_eq_false hp2
          generalize b.nx.length = N at x4 hz hsn hp1 hp2 hp3
          clear HAW hnl
          go_upto_region 11 with fail
          go_region
          all_goals
            go_wp2_with fail
            go_ret
            have hwb : wl = bn.whole := by
              obtain ⟨s', _, e'⟩ := HNI.out
              rw [e', ← HWL.out]
              rfl
            obtain ⟨rfl, rfl⟩ := HN.out
            exact ⟨rfl, L, (HC.out.unbox.next (Below.refl _ _).drew).whx hwb, Less.refl L⟩
        · have HN : Hid (b' = bn.join ⟨t, f, si, ns, pp, d⟩ ∧ n = 0) := Lib.hid (by
            rcases HAW.out with ⟨_, h1⟩ | ⟨_, h1, _⟩ | ⟨_, _, h1, _⟩ | ⟨_, _, _, h1, _⟩ | ⟨_, _, _, _, h1⟩
            · exact absurd h1 HD0.out
            · cases h1
            · cases h1
            · exact absurd h1 hsn
            · simpa using h1)
          have hz : decide ((b.nx.length : Int) ≤ (si : Int)) = false := decide_eq_false (by omega)
          have HSN : Hid (si < b.nx.length) := Lib.hid (by omega)
          have hp1 : ¬ ((b.nx.length : Int) ≤ (si : Int)) := by omega
          have hp2 : ((si : Int) < (b.nx.length : Int)) := by omega
          have hp3 : decide ((si : Int) < (b.nx.length : Int)) = true := decide_eq_true hp2
          generalize hNN : b.nx.length = N at x4 hz hp1 hp2 hp3 hsn
          clear HAW hnl hNN
          go_upto_region 11 with fail
          go_region
          all_goals
            have HI6 := Lib.hid (HC.out.next (Below.refl _ _).drew)
            have HRW6 : Hid (Row wc.drew A (bs d)) := Lib.hid HRW.out.drew
            clear HC HRW x4 g2 hz hp1 hp2 hp3
            go_upto_region 13 with fail
            generalize wc.drew = w6 at HI6 HRW6 ⊢
            obtain ⟨i6, hN6, hf6⟩ := HI6.out
            have HF6 := Lib.hid hf6
            have hS : ∀ w7, Below w6.heap.size w6 w7 → w7.cell? ⟨x, 3, none⟩ = some (.pointer (some ⟨i6.j, 0, none⟩)) ∧ w7.cell? ⟨g, 0, none⟩ = some (.int .u32 (t : Int)) ∧ w7.cell? ⟨g, 1, none⟩ = some (.int .u8 (f : Int)) ∧ w7.cell? ⟨g, 2, none⟩ = some (.int .u16 (si : Int)) ∧ w7.cell? ⟨g, 3, none⟩ = some (.int .u16 (ns : Int)) ∧ w7.cell? ⟨g, 4, none⟩ = some (.int .u32 (pp : Int)) ∧ w7.cell? ⟨g, 5, none⟩ = some (.slice A k c) := fun w7 hb => ⟨((hN6.next hb).bk (k := 0) rfl).cell 3, ((hN6.next hb).bk (k := 7) rfl).cell 0, ((hN6.next hb).bk (k := 7) rfl).cell 1, ((hN6.next hb).bk (k := 7) rfl).cell 2, ((hN6.next hb).bk (k := 7) rfl).cell 3, ((hN6.next hb).bk (k := 7) rfl).cell 4, ((hN6.next hb).bk (k := 7) rfl).cell 5⟩
            have HS := Lib.hid hS
            have hwd : Below w6.heap.size w6 w6.drew := (Below.refl _ _).drew
            have hs := hS _ hwd
            have hbK : bn.K = b.K := by
              obtain ⟨s', _, e'⟩ := HNI.out
              rw [e']
              rfl
            have hJ : ∀ w7, Below w6.heap.size w6 w7 → Calls Try.prog 54 #[.pointer (some ⟨i6.j, 0, none⟩), .agg #[.int .u32 (t : Int), .int .u8 (f : Int), .int .u16 (si : Int), .int .u16 (ns : Int), .int .u32 (pp : Int), .slice A k c]] w7 fun e w' => _ := fun w7 hb => joined_any (hN6.next hb) ⟨t, f, si, ns, pp, d⟩ A k c HQ.out HL.out HK.out (HRW6.out.below hb) (by rw [hbK]; have := HOK.out.len.1; omega) (by rw [hbK]; have := HOK.out.len.2.2.2.1; omega)
            have hnb : Nw W (w6.drew.alloc (.cells #[.int .u16 0, .bool false, .int .u32 0, .slice none 0 0] 39)) (i6.parts x bn wl L (BkA w6.heap.size (mv 0 false 0 none 0 0) 39 :: BkA g #[.int .u32 (t : Int), .int .u8 (f : Int), .int .u16 (si : Int), .int .u16 (ns : Int), .int .u32 (pp : Int), .slice A k c] 33 :: R)) := (hN6.drew.box (mv 0 false 0 none 0 0) 39).perm (by unfold Iv.parts; exact List.perm_middle (l₁ := [_, _, _, _, _, _, _]).symm)
            have HJX := Lib.hid (joined_any hnb ⟨t, f, si, ns, pp, d⟩ A k c HQ.out HL.out HK.out (HRW6.out.below (bal hwd)) (by rw [hbK]; have := HOK.out.len.1; omega) (by rw [hbK]; have := HOK.out.len.2.2.2.1; omega))
            clear hnb
            have HJ := Lib.hid hJ
            clear hN6 hf6 hS hJ HI6 hbK
            have hcore : bn.Core := by
              obtain ⟨s', hs', e'⟩ := HNI.out
              rw [e']
              exact setSt_core HOK.out.toCore hs'
            have hnx : bn.nx.length = b.nx.length := by
              obtain ⟨s', _, e'⟩ := HNI.out
              rw [e']
              rfl
            have hwn : bn.whole = wl := by
              obtain ⟨s', _, e'⟩ := HNI.out
              rw [e', ← HWL.out]
              rfl
            have hws : bn.ws = b.ws ∧ bn.rd = b.rd ∧ bn.K = b.K := by
              obtain ⟨s', _, e'⟩ := HNI.out
              rw [e']
              exact ⟨rfl, rfl, rfl⟩
            have hpc := put_core hcore HQ.out (by show 1 ≤ d.length; have := HD0.out; omega) (by rw [hnx]; exact HSN.out) (by rw [hws.2.2]; have := HOK.out.len.1; omega)
            have HBJ := Lib.hid HN.out.1
            have HN0 := Lib.hid HN.out.2
            have HWN := Lib.hid hwn
            have HWS := Lib.hid hws
            have HNX := Lib.hid hnx
            clear hcore hnx hwn hws HN
            cases hpr : (Fg.put bn.K ⟨t, f, si, ns, pp, d⟩).2 with
            | none =>
              have hb' : b' = bn.setK (Fg.put bn.K ⟨t, f, si, ns, pp, d⟩).1 := by rw [HBJ.out, join_none hpr]
              have HJA : Hid (Calls Try.prog 54 #[.pointer (some ⟨i6.j, 0, none⟩), .agg #[.int .u32 (t : Int), .int .u8 (f : Int), .int .u16 (si : Int), .int .u16 (ns : Int), .int .u32 (pp : Int), .slice A k c]] w6.drew fun e w' => e = .returned (.tuple #[.agg #[.int .u16 0, .bool false, .int .u32 0, .slice none 0 0], .int .u16 0, .bool false]) ∧ Nw W w' (i6.parts x b' wl L (BkA g #[.int .u32 (t : Int), .int .u8 (f : Int), .int .u16 (si : Int), .int .u16 (ns : Int), .int .u32 (pp : Int), .slice A k c] 33 :: R))) := Lib.hid ((HJ.out _ hwd).mono fun e w' h => by
                rcases h with ⟨_, h2, h3⟩ | ⟨m, n, _, _, _, h2, _⟩
                · rw [hb']
                  exact ⟨h2, h3⟩
                · rw [hpr] at h2
                  cases h2)
              have HJB : Hid (Calls Try.prog 54 #[.pointer (some ⟨i6.j, 0, none⟩), .agg #[.int .u32 (t : Int), .int .u8 (f : Int), .int .u16 (si : Int), .int .u16 (ns : Int), .int .u32 (pp : Int), .slice A k c]] (w6.drew.alloc (.cells #[.int .u16 0, .bool false, .int .u32 0, .slice none 0 0] 39)) fun e w' => e = .returned (.tuple #[.agg #[.int .u16 0, .bool false, .int .u32 0, .slice none 0 0], .int .u16 0, .bool false]) ∧ Nw W w' (i6.parts x b' wl L (BkA w6.heap.size (mv 0 false 0 none 0 0) 39 :: BkA g #[.int .u32 (t : Int), .int .u8 (f : Int), .int .u16 (si : Int), .int .u16 (ns : Int), .int .u32 (pp : Int), .slice A k c] 33 :: R))) := Lib.hid ((HJX.out).mono fun e w' h => by
                rcases h with ⟨_, h2, h3⟩ | ⟨m, n, _, _, _, h2, _⟩
                · rw [hb']
                  exact ⟨h2, h3⟩
                · rw [hpr] at h2
                  cases h2)
              have HJC : Hid (Calls Try.prog 54 #[.pointer (some ⟨i6.j, 0, none⟩), .agg #[.int .u32 (t : Int), .int .u8 (f : Int), .int .u16 (si : Int), .int .u16 (ns : Int), .int .u32 (pp : Int), .slice A k c]] (w6.alloc (.cells #[.int .u16 0, .bool false, .int .u32 0, .slice none 0 0] 39)).drew fun e w' => e = .returned (.tuple #[.agg #[.int .u16 0, .bool false, .int .u32 0, .slice none 0 0], .int .u16 0, .bool false]) ∧ Nw W w' (i6.parts x b' wl L (BkA w6.heap.size (mv 0 false 0 none 0 0) 39 :: BkA g #[.int .u32 (t : Int), .int .u8 (f : Int), .int .u16 (si : Int), .int .u16 (ns : Int), .int .u32 (pp : Int), .slice A k c] 33 :: R))) := HJB
              have hwb : b'.whole = wl := by
                rw [hb', ← HWN.out]
                rfl
              have hff : i6.Fit b' L := by
                rw [hb']
                exact ⟨HF6.out.ws, HF6.out.rd, HF6.out.inw, HF6.out.inr, HF6.out.dat⟩
              have HWB := Lib.hid hwb
              have HFF := Lib.hid hff
              clear HJ HJX hpc hpr hb' hwb hff HBJ
              go_cut [4, 5, 6, 7] from 50 to 59 (fun v4 v5 v6 v7 wx => v4 = .int .i64 0 ∧ v7 = .bool false ∧ Hid (IW W wx x b' wl L (BkA g #[.int .u32 (t : Int), .int .u8 (f : Int), .int .u16 (si : Int), .int .u16 (ns : Int), .int .u32 (pp : Int), .slice A k c] 33 :: R)))
              case first =>
                first | go_region_held3 (fun W => W.cell? ⟨x, 3, none⟩ = some (.pointer (some ⟨i6.j, 0, none⟩)) ∧ W.cell? ⟨g, 0, none⟩ = some (.int .u32 (t : Int)) ∧ W.cell? ⟨g, 1, none⟩ = some (.int .u8 (f : Int)) ∧ W.cell? ⟨g, 2, none⟩ = some (.int .u16 (si : Int)) ∧ W.cell? ⟨g, 3, none⟩ = some (.int .u16 (ns : Int)) ∧ W.cell? ⟨g, 4, none⟩ = some (.int .u32 (pp : Int)) ∧ W.cell? ⟨g, 5, none⟩ = some (.slice A k c)) (first | exact hs | exact HS.out _ (by assumption) | exact HS.out _ (bal (by assumption)) | exact HS8.out _ (Below.refl _ _) | exact HS8.out _ (bal (Below.refl _ _)) | exact hs9 | exact HS8.out _ (by go_grown)) ((first | (go_at_call 54; (with_reducible refine HJA.out.mono ?_); rintro e w8 ⟨rfl, h8⟩; have HS8 : Hid (∀ w9, Below w8.heap.size w8 w9 → w9.cell? ⟨x, 3, none⟩ = some (.pointer (some ⟨i6.j, 0, none⟩)) ∧ w9.cell? ⟨g, 0, none⟩ = some (.int .u32 (t : Int)) ∧ w9.cell? ⟨g, 1, none⟩ = some (.int .u8 (f : Int)) ∧ w9.cell? ⟨g, 2, none⟩ = some (.int .u16 (si : Int)) ∧ w9.cell? ⟨g, 3, none⟩ = some (.int .u16 (ns : Int)) ∧ w9.cell? ⟨g, 4, none⟩ = some (.int .u32 (pp : Int)) ∧ w9.cell? ⟨g, 5, none⟩ = some (.slice A k c)) := Lib.hid fun w9 hb => ⟨((h8.next hb).bk (k := 0) rfl).cell 3, ((h8.next hb).bk (k := 7) rfl).cell 0, ((h8.next hb).bk (k := 7) rfl).cell 1, ((h8.next hb).bk (k := 7) rfl).cell 2, ((h8.next hb).bk (k := 7) rfl).cell 3, ((h8.next hb).bk (k := 7) rfl).cell 4, ((h8.next hb).bk (k := 7) rfl).cell 5⟩; have H8 := Lib.hid h8; clear h8) | (go_at_call 54; (first | (with_reducible refine HJB.out.mono ?_) | (with_reducible refine HJC.out.mono ?_)); rintro e w8 ⟨rfl, h8⟩; have HS8 : Hid (∀ w9, Below w8.heap.size w8 w9 → w9.cell? ⟨x, 3, none⟩ = some (.pointer (some ⟨i6.j, 0, none⟩)) ∧ w9.cell? ⟨g, 0, none⟩ = some (.int .u32 (t : Int)) ∧ w9.cell? ⟨g, 1, none⟩ = some (.int .u8 (f : Int)) ∧ w9.cell? ⟨g, 2, none⟩ = some (.int .u16 (si : Int)) ∧ w9.cell? ⟨g, 3, none⟩ = some (.int .u16 (ns : Int)) ∧ w9.cell? ⟨g, 4, none⟩ = some (.int .u32 (pp : Int)) ∧ w9.cell? ⟨g, 5, none⟩ = some (.slice A k c)) := Lib.hid fun w9 hb => ⟨((h8.next hb).bk (k := 0) rfl).cell 3, ((h8.next hb).bk (k := 8) rfl).cell 0, ((h8.next hb).bk (k := 8) rfl).cell 1, ((h8.next hb).bk (k := 8) rfl).cell 2, ((h8.next hb).bk (k := 8) rfl).cell 3, ((h8.next hb).bk (k := 8) rfl).cell 4, ((h8.next hb).bk (k := 8) rfl).cell 5⟩; have z0 : w8.cell? ⟨w6.heap.size, 0, none⟩ = some (.int .u16 0) := (h8.bk (k := 7) rfl).cell 0; have y0 := (h8.bk (k := 7) rfl).frozen 0 ; have z1 : w8.cell? ⟨w6.heap.size, 1, none⟩ = some (.bool false) := (h8.bk (k := 7) rfl).cell 1; have y1 := (h8.bk (k := 7) rfl).frozen 1 ; have z2 : w8.cell? ⟨w6.heap.size, 2, none⟩ = some (.int .u32 0) := (h8.bk (k := 7) rfl).cell 2; have y2 := (h8.bk (k := 7) rfl).frozen 2 ; have z3 : w8.cell? ⟨w6.heap.size, 3, none⟩ = some (.slice none 0 0) := (h8.bk (k := 7) rfl).cell 3; have y3 := (h8.bk (k := 7) rfl).frozen 3; have hst8 := ((((h8.store (k := 7) rfl 0 (.int .u16 0)).store (k := 7) rfl 1 (.bool false)).store (k := 7) rfl 2 (.int .u32 0)).store (k := 7) rfl 3 (.slice none 0 0)); have hs9 : ((((w8.setCell ⟨w6.heap.size, 0, none⟩ (.int .u16 0)).setCell ⟨w6.heap.size, 1, none⟩ (.bool false)).setCell ⟨w6.heap.size, 2, none⟩ (.int .u32 0)).setCell ⟨w6.heap.size, 3, none⟩ (.slice none 0 0)).cell? ⟨x, 3, none⟩ = some (.pointer (some ⟨i6.j, 0, none⟩)) ∧ ((((w8.setCell ⟨w6.heap.size, 0, none⟩ (.int .u16 0)).setCell ⟨w6.heap.size, 1, none⟩ (.bool false)).setCell ⟨w6.heap.size, 2, none⟩ (.int .u32 0)).setCell ⟨w6.heap.size, 3, none⟩ (.slice none 0 0)).cell? ⟨g, 0, none⟩ = some (.int .u32 (t : Int)) ∧ ((((w8.setCell ⟨w6.heap.size, 0, none⟩ (.int .u16 0)).setCell ⟨w6.heap.size, 1, none⟩ (.bool false)).setCell ⟨w6.heap.size, 2, none⟩ (.int .u32 0)).setCell ⟨w6.heap.size, 3, none⟩ (.slice none 0 0)).cell? ⟨g, 1, none⟩ = some (.int .u8 (f : Int)) ∧ ((((w8.setCell ⟨w6.heap.size, 0, none⟩ (.int .u16 0)).setCell ⟨w6.heap.size, 1, none⟩ (.bool false)).setCell ⟨w6.heap.size, 2, none⟩ (.int .u32 0)).setCell ⟨w6.heap.size, 3, none⟩ (.slice none 0 0)).cell? ⟨g, 2, none⟩ = some (.int .u16 (si : Int)) ∧ ((((w8.setCell ⟨w6.heap.size, 0, none⟩ (.int .u16 0)).setCell ⟨w6.heap.size, 1, none⟩ (.bool false)).setCell ⟨w6.heap.size, 2, none⟩ (.int .u32 0)).setCell ⟨w6.heap.size, 3, none⟩ (.slice none 0 0)).cell? ⟨g, 3, none⟩ = some (.int .u16 (ns : Int)) ∧ ((((w8.setCell ⟨w6.heap.size, 0, none⟩ (.int .u16 0)).setCell ⟨w6.heap.size, 1, none⟩ (.bool false)).setCell ⟨w6.heap.size, 2, none⟩ (.int .u32 0)).setCell ⟨w6.heap.size, 3, none⟩ (.slice none 0 0)).cell? ⟨g, 4, none⟩ = some (.int .u32 (pp : Int)) ∧ ((((w8.setCell ⟨w6.heap.size, 0, none⟩ (.int .u16 0)).setCell ⟨w6.heap.size, 1, none⟩ (.bool false)).setCell ⟨w6.heap.size, 2, none⟩ (.int .u32 0)).setCell ⟨w6.heap.size, 3, none⟩ (.slice none 0 0)).cell? ⟨g, 5, none⟩ = some (.slice A k c) := ⟨(hst8.bk (k := 0) rfl).cell 3, (hst8.bk (k := 8) rfl).cell 0, (hst8.bk (k := 8) rfl).cell 1, (hst8.bk (k := 8) rfl).cell 2, (hst8.bk (k := 8) rfl).cell 3, (hst8.bk (k := 8) rfl).cell 4, (hst8.bk (k := 8) rfl).cell 5⟩; clear hst8; have H9 := Lib.hid h8; clear h8))) | fail
                all_goals
                  go_wp2_with fail
                  go_meet
                  case rel => exact ⟨rfl, rfl, Lib.hid (by first | exact ⟨i6, H8.out.next (by go_grown), HFF.out⟩ | exact (IW.unbox ⟨i6, ((((H9.out.store (k := 7) rfl 0 _).store (k := 7) rfl 1 _).store (k := 7) rfl 2 _).store (k := 7) rfl 3 _), HFF.out⟩))⟩
              case rest =>
                obtain ⟨rfl, rfl, HC⟩ := hcut
                clear HJA HJB HJC hs HS hwd
                go_wp2_with fail
                go_ret
                have hn := HN0.out
                subst hn
                exact ⟨rfl, L, HC.out.unbox.whx HWB.out.symm, Less.refl L⟩
            | some mn =>
              obtain ⟨m, n'⟩ := mn
              obtain ⟨bk, hbk⟩ : ∃ bk, bn.setK (Fg.put bn.K ⟨t, f, si, ns, pp, d⟩).1 = bk := ⟨_, rfl⟩
              have hb' : b' = bk.deal m n' := by rw [HBJ.out, join_some hpr, hbk]
              have HJA : Hid (Calls Try.prog 54 #[.pointer (some ⟨i6.j, 0, none⟩), .agg #[.int .u32 (t : Int), .int .u8 (f : Int), .int .u16 (si : Int), .int .u16 (ns : Int), .int .u32 (pp : Int), .slice A k c]] w6.drew fun e w' => ∃ (A' : Option Addr) (k' c' : Nat), e = .returned (.tuple #[.agg #[.int .u16 (m.s : Int), .bool m.u, .int .u32 (m.p : Int), .slice A' k' c'], .int .u16 (n' : Int), .bool true]) ∧ m.d.length = k' ∧ Nw W w' (i6.parts x bk wl ((m, (A', k', c')) :: L) (BkA g #[.int .u32 (t : Int), .int .u8 (f : Int), .int .u16 (si : Int), .int .u16 (ns : Int), .int .u32 (pp : Int), .slice A k c] 33 :: R))) := Lib.hid ((HJ.out _ hwd).mono fun e w' h => by
                rcases h with ⟨h2, _⟩ | ⟨m2, n2, A', k', c', h2, h3, h4, h5⟩
                · rw [hpr] at h2
                  cases h2
                · rw [hpr] at h2
                  simp only [Option.some.injEq, Prod.mk.injEq] at h2
                  obtain ⟨rfl, rfl⟩ := h2
                  rw [hbk] at h5
                  exact ⟨A', k', c', h3, h4, h5⟩)
              have HJB : Hid (Calls Try.prog 54 #[.pointer (some ⟨i6.j, 0, none⟩), .agg #[.int .u32 (t : Int), .int .u8 (f : Int), .int .u16 (si : Int), .int .u16 (ns : Int), .int .u32 (pp : Int), .slice A k c]] (w6.drew.alloc (.cells #[.int .u16 0, .bool false, .int .u32 0, .slice none 0 0] 39)) fun e w' => ∃ (A' : Option Addr) (k' c' : Nat), e = .returned (.tuple #[.agg #[.int .u16 (m.s : Int), .bool m.u, .int .u32 (m.p : Int), .slice A' k' c'], .int .u16 (n' : Int), .bool true]) ∧ m.d.length = k' ∧ Nw W w' (i6.parts x bk wl ((m, (A', k', c')) :: L) (BkA w6.heap.size (mv 0 false 0 none 0 0) 39 :: BkA g #[.int .u32 (t : Int), .int .u8 (f : Int), .int .u16 (si : Int), .int .u16 (ns : Int), .int .u32 (pp : Int), .slice A k c] 33 :: R))) := Lib.hid ((HJX.out).mono fun e w' h => by
                rcases h with ⟨h2, _⟩ | ⟨m2, n2, A', k', c', h2, h3, h4, h5⟩
                · rw [hpr] at h2
                  cases h2
                · rw [hpr] at h2
                  simp only [Option.some.injEq, Prod.mk.injEq] at h2
                  obtain ⟨rfl, rfl⟩ := h2
                  rw [hbk] at h5
                  exact ⟨A', k', c', h3, h4, h5⟩)
              have HJC : Hid (Calls Try.prog 54 #[.pointer (some ⟨i6.j, 0, none⟩), .agg #[.int .u32 (t : Int), .int .u8 (f : Int), .int .u16 (si : Int), .int .u16 (ns : Int), .int .u32 (pp : Int), .slice A k c]] (w6.alloc (.cells #[.int .u16 0, .bool false, .int .u32 0, .slice none 0 0] 39)).drew fun e w' => ∃ (A' : Option Addr) (k' c' : Nat), e = .returned (.tuple #[.agg #[.int .u16 (m.s : Int), .bool m.u, .int .u32 (m.p : Int), .slice A' k' c'], .int .u16 (n' : Int), .bool true]) ∧ m.d.length = k' ∧ Nw W w' (i6.parts x bk wl ((m, (A', k', c')) :: L) (BkA w6.heap.size (mv 0 false 0 none 0 0) 39 :: BkA g #[.int .u32 (t : Int), .int .u8 (f : Int), .int .u16 (si : Int), .int .u16 (ns : Int), .int .u32 (pp : Int), .slice A k c] 33 :: R))) := HJB
              have hcr := hpc.1
              rw [hbk] at hcr
              have hpm := hpc.2 m n' hpr
              have hbw : bk.whole = wl := by
                rw [← hbk, ← HWN.out]
                rfl
              have hbl : bk.rd.length + bk.ws.length ≤ 1100000 := by
                rw [← hbk]
                show bn.rd.length + bn.ws.length ≤ 1100000
                rw [HWS.out.1, HWS.out.2.1]
                have := HOK.out.len2
                omega
              have hbx : bk.nx.length = bn.nx.length := by
                rw [← hbk]
                rfl
              have hff : ∀ (L2 : List Me), (∀ e ∈ L, e ∈ L2) → (∀ e ∈ L2, e.1.d.length = e.2.2.1) → i6.Fit bk L2 := fun L2 h1 h2 => by
                rw [← hbk]
                exact ⟨HF6.out.ws, HF6.out.rd, fun e he => h1 _ (HF6.out.inw e he), fun e he => h1 _ (HF6.out.inr e he), h2⟩
              have HCR := Lib.hid hcr
              have HPM : Hid (1 ≤ m.d.length ∧ m.s < bk.nx.length ∧ n' < 65536 ∧ m.d.length ≤ 10000000) := Lib.hid ⟨hpm.1, by rw [hbx]; exact hpm.2.1, hpm.2.2.1, by
                have h1 := hpm.2.2.2
                have h2 := HOK.out.len.2.2.2.1
                have h3 := HL.out
                have h4 := HK.out
                rw [HWS.out.2.2] at h1
                simp only at h1
                omega⟩
              have HBW := Lib.hid hbw
              have HBL := Lib.hid hbl
              have HFF := Lib.hid hff
              have HB' := Lib.hid hb'
              clear HJ HJX hpc hpr hb' hbw hbl hbx hff hcr hpm hbk HBJ
              go_cut [4, 5, 6, 7] from 50 to 59 (fun v4 v5 v6 v7 wx => v4 = .int .i64 0 ∧ v6 = .int .u16 (n' : Int) ∧ v7 = .bool true ∧ ∃ (gm : Nat) (A' : Option Addr) (k' c' : Nat), v5 = .pointer (some ⟨gm, 0, none⟩) ∧ Hid (IW W wx x bk wl ((m, (A', k', c')) :: L) (BkA gm (mv m.s m.u m.p A' k' c') 39 :: BkA g #[.int .u32 (t : Int), .int .u8 (f : Int), .int .u16 (si : Int), .int .u16 (ns : Int), .int .u32 (pp : Int), .slice A k c] 33 :: R)))
              case first =>
                first | go_region_held3 (fun W => W.cell? ⟨x, 3, none⟩ = some (.pointer (some ⟨i6.j, 0, none⟩)) ∧ W.cell? ⟨g, 0, none⟩ = some (.int .u32 (t : Int)) ∧ W.cell? ⟨g, 1, none⟩ = some (.int .u8 (f : Int)) ∧ W.cell? ⟨g, 2, none⟩ = some (.int .u16 (si : Int)) ∧ W.cell? ⟨g, 3, none⟩ = some (.int .u16 (ns : Int)) ∧ W.cell? ⟨g, 4, none⟩ = some (.int .u32 (pp : Int)) ∧ W.cell? ⟨g, 5, none⟩ = some (.slice A k c)) (first | exact hs | exact HS.out _ (by assumption) | exact HS.out _ (bal (by assumption)) | exact HS8.out _ (Below.refl _ _) | exact HS8.out _ (bal (Below.refl _ _)) | exact hs9 | exact HS8.out _ (by go_grown)) ((first | (go_at_call 54; (with_reducible refine HJA.out.mono ?_); rintro e w8 ⟨A', k', c', rfl, hlm, h8⟩; have HLM := Lib.hid hlm; clear hlm; have HS8 : Hid (∀ w9, Below w8.heap.size w8 w9 → w9.cell? ⟨x, 3, none⟩ = some (.pointer (some ⟨i6.j, 0, none⟩)) ∧ w9.cell? ⟨g, 0, none⟩ = some (.int .u32 (t : Int)) ∧ w9.cell? ⟨g, 1, none⟩ = some (.int .u8 (f : Int)) ∧ w9.cell? ⟨g, 2, none⟩ = some (.int .u16 (si : Int)) ∧ w9.cell? ⟨g, 3, none⟩ = some (.int .u16 (ns : Int)) ∧ w9.cell? ⟨g, 4, none⟩ = some (.int .u32 (pp : Int)) ∧ w9.cell? ⟨g, 5, none⟩ = some (.slice A k c)) := Lib.hid fun w9 hb => ⟨((h8.next hb).bk (k := 0) rfl).cell 3, ((h8.next hb).bk (k := 7) rfl).cell 0, ((h8.next hb).bk (k := 7) rfl).cell 1, ((h8.next hb).bk (k := 7) rfl).cell 2, ((h8.next hb).bk (k := 7) rfl).cell 3, ((h8.next hb).bk (k := 7) rfl).cell 4, ((h8.next hb).bk (k := 7) rfl).cell 5⟩; have H8 := Lib.hid h8; clear h8) | (go_at_call 54; (first | (with_reducible refine HJB.out.mono ?_) | (with_reducible refine HJC.out.mono ?_)); rintro e w8 ⟨A', k', c', rfl, hlm, h8⟩; have HLM := Lib.hid hlm; clear hlm; have HS8 : Hid (∀ w9, Below w8.heap.size w8 w9 → w9.cell? ⟨x, 3, none⟩ = some (.pointer (some ⟨i6.j, 0, none⟩)) ∧ w9.cell? ⟨g, 0, none⟩ = some (.int .u32 (t : Int)) ∧ w9.cell? ⟨g, 1, none⟩ = some (.int .u8 (f : Int)) ∧ w9.cell? ⟨g, 2, none⟩ = some (.int .u16 (si : Int)) ∧ w9.cell? ⟨g, 3, none⟩ = some (.int .u16 (ns : Int)) ∧ w9.cell? ⟨g, 4, none⟩ = some (.int .u32 (pp : Int)) ∧ w9.cell? ⟨g, 5, none⟩ = some (.slice A k c)) := Lib.hid fun w9 hb => ⟨((h8.next hb).bk (k := 0) rfl).cell 3, ((h8.next hb).bk (k := 8) rfl).cell 0, ((h8.next hb).bk (k := 8) rfl).cell 1, ((h8.next hb).bk (k := 8) rfl).cell 2, ((h8.next hb).bk (k := 8) rfl).cell 3, ((h8.next hb).bk (k := 8) rfl).cell 4, ((h8.next hb).bk (k := 8) rfl).cell 5⟩; have z0 : w8.cell? ⟨w6.heap.size, 0, none⟩ = some (.int .u16 0) := (h8.bk (k := 7) rfl).cell 0; have y0 := (h8.bk (k := 7) rfl).frozen 0 ; have z1 : w8.cell? ⟨w6.heap.size, 1, none⟩ = some (.bool false) := (h8.bk (k := 7) rfl).cell 1; have y1 := (h8.bk (k := 7) rfl).frozen 1 ; have z2 : w8.cell? ⟨w6.heap.size, 2, none⟩ = some (.int .u32 0) := (h8.bk (k := 7) rfl).cell 2; have y2 := (h8.bk (k := 7) rfl).frozen 2 ; have z3 : w8.cell? ⟨w6.heap.size, 3, none⟩ = some (.slice none 0 0) := (h8.bk (k := 7) rfl).cell 3; have y3 := (h8.bk (k := 7) rfl).frozen 3; have hst8 := ((((h8.store (k := 7) rfl 0 (.int .u16 (m.s : Int))).store (k := 7) rfl 1 (.bool m.u)).store (k := 7) rfl 2 (.int .u32 (m.p : Int))).store (k := 7) rfl 3 (.slice A' k' c')); have hs9 : ((((w8.setCell ⟨w6.heap.size, 0, none⟩ (.int .u16 (m.s : Int))).setCell ⟨w6.heap.size, 1, none⟩ (.bool m.u)).setCell ⟨w6.heap.size, 2, none⟩ (.int .u32 (m.p : Int))).setCell ⟨w6.heap.size, 3, none⟩ (.slice A' k' c')).cell? ⟨x, 3, none⟩ = some (.pointer (some ⟨i6.j, 0, none⟩)) ∧ ((((w8.setCell ⟨w6.heap.size, 0, none⟩ (.int .u16 (m.s : Int))).setCell ⟨w6.heap.size, 1, none⟩ (.bool m.u)).setCell ⟨w6.heap.size, 2, none⟩ (.int .u32 (m.p : Int))).setCell ⟨w6.heap.size, 3, none⟩ (.slice A' k' c')).cell? ⟨g, 0, none⟩ = some (.int .u32 (t : Int)) ∧ ((((w8.setCell ⟨w6.heap.size, 0, none⟩ (.int .u16 (m.s : Int))).setCell ⟨w6.heap.size, 1, none⟩ (.bool m.u)).setCell ⟨w6.heap.size, 2, none⟩ (.int .u32 (m.p : Int))).setCell ⟨w6.heap.size, 3, none⟩ (.slice A' k' c')).cell? ⟨g, 1, none⟩ = some (.int .u8 (f : Int)) ∧ ((((w8.setCell ⟨w6.heap.size, 0, none⟩ (.int .u16 (m.s : Int))).setCell ⟨w6.heap.size, 1, none⟩ (.bool m.u)).setCell ⟨w6.heap.size, 2, none⟩ (.int .u32 (m.p : Int))).setCell ⟨w6.heap.size, 3, none⟩ (.slice A' k' c')).cell? ⟨g, 2, none⟩ = some (.int .u16 (si : Int)) ∧ ((((w8.setCell ⟨w6.heap.size, 0, none⟩ (.int .u16 (m.s : Int))).setCell ⟨w6.heap.size, 1, none⟩ (.bool m.u)).setCell ⟨w6.heap.size, 2, none⟩ (.int .u32 (m.p : Int))).setCell ⟨w6.heap.size, 3, none⟩ (.slice A' k' c')).cell? ⟨g, 3, none⟩ = some (.int .u16 (ns : Int)) ∧ ((((w8.setCell ⟨w6.heap.size, 0, none⟩ (.int .u16 (m.s : Int))).setCell ⟨w6.heap.size, 1, none⟩ (.bool m.u)).setCell ⟨w6.heap.size, 2, none⟩ (.int .u32 (m.p : Int))).setCell ⟨w6.heap.size, 3, none⟩ (.slice A' k' c')).cell? ⟨g, 4, none⟩ = some (.int .u32 (pp : Int)) ∧ ((((w8.setCell ⟨w6.heap.size, 0, none⟩ (.int .u16 (m.s : Int))).setCell ⟨w6.heap.size, 1, none⟩ (.bool m.u)).setCell ⟨w6.heap.size, 2, none⟩ (.int .u32 (m.p : Int))).setCell ⟨w6.heap.size, 3, none⟩ (.slice A' k' c')).cell? ⟨g, 5, none⟩ = some (.slice A k c) := ⟨(hst8.bk (k := 0) rfl).cell 3, (hst8.bk (k := 8) rfl).cell 0, (hst8.bk (k := 8) rfl).cell 1, (hst8.bk (k := 8) rfl).cell 2, (hst8.bk (k := 8) rfl).cell 3, (hst8.bk (k := 8) rfl).cell 4, (hst8.bk (k := 8) rfl).cell 5⟩; clear hst8; have H9 := Lib.hid h8; clear h8))) | fail
                all_goals
                  go_wp2_with fail
                  go_meet
                  have hft := HFF.out ((m, (A', k', c')) :: L) (fun e he => List.mem_cons_of_mem _ he) (fun e he => by
                    rcases List.mem_cons.1 he with h1 | h1
                    · rw [h1]; exact HLM.out
                    · exact HF6.out.dat e h1)
                  case rel => exact ⟨rfl, rfl, rfl, _, A', k', c', rfl, Lib.hid (by first | exact ⟨i6, ((H8.out.box (mv m.s m.u m.p A' k' c') 39).perm (by unfold Iv.parts; exact List.perm_middle (l₁ := [_, _, _, _, _, _, _]).symm)), hft⟩ | exact ⟨i6, ((show Nw W _ (BkA w8.heap.size (mv m.s m.u m.p A' k' c') 39 :: i6.parts x bk wl ((m, (A', k', c')) :: L) (BkA g #[.int .u32 (t : Int), .int .u8 (f : Int), .int .u16 (si : Int), .int .u16 (ns : Int), .int .u32 (pp : Int), .slice A k c] 33 :: R)) from (((((H8.out.box (mv 0 false 0 none 0 0) 39).store (k := 0) rfl 0 (.int .u16 (m.s : Int))).store (k := 0) rfl 1 (.bool m.u)).store (k := 0) rfl 2 (.int .u32 (m.p : Int))).store (k := 0) rfl 3 (.slice A' k' c'))).perm (by unfold Iv.parts; exact List.perm_middle (l₁ := [_, _, _, _, _, _, _]).symm)), hft⟩ | exact ⟨i6, ((((H9.out.store (k := 7) rfl 0 _).store (k := 7) rfl 1 _).store (k := 7) rfl 2 _).store (k := 7) rfl 3 _), hft⟩)⟩
              case rest =>
                obtain ⟨rfl, rfl, rfl, gm, A', k', c', rfl, HC⟩ := hcut
                clear HJA HJB HJC hs HS hwd
                have hbm := HC.out.bk7
                have z0 : wc.cell? ⟨gm, 0, none⟩ = some (.int .u16 (m.s : Int)) := hbm.cell 0
                have z1 : wc.cell? ⟨gm, 1, none⟩ = some (.bool m.u) := hbm.cell 1
                have z2 : wc.cell? ⟨gm, 2, none⟩ = some (.int .u32 (m.p : Int)) := hbm.cell 2
                have z3 : wc.cell? ⟨gm, 3, none⟩ = some (.slice A' k' c') := hbm.cell 3
                have CD := Lib.hid (deal_any (HC.out.whx HBW.out.symm) HCR.out HBL.out (by rw [HBW.out, ← HWL.out]; have := HOK.out.len.2.2.2.2; omega) (m, (A', k', c')) (List.mem_cons_self ..) HPM.out.1 HPM.out.2.2.2 HPM.out.2.1 n' HPM.out.2.2.1)
                clear hbm HC
                go_wp2_with fail
                refine CD.out.mono ?_
                rintro e w10 ⟨rfl, h10⟩
                rw [← HB'.out] at h10
                have H10 := Lib.hid h10
                clear h10 CD z0 z1 z2 z3
                go_wp2_with fail
                go_ret
                have hn := HN0.out
                subst hn
                exact ⟨rfl, _, (IW.unbox (IW.unbox H10.out)).whx rfl, fun e he => List.mem_cons_of_mem _ he⟩
end
end Ix
end Go.Proofs.Ytednkcjmlpgipaa
