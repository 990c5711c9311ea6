/-
  The document's inbox: a message that is whole, whose turn it is.
-/
import Derived.Test.YtednkcjmlpgipaaYP1h
namespace Go.Proofs.Ytednkcjmlpgipaa
set_option maxRecDepth 4000
open Go.RowKit Go.Maps
namespace Ix
set_option linter.unusedVariables false
set_option linter.unusedSimpArgs false
open Fg (Pc Ms mv Pq)

theorem wat_pos {wl : List Wq} {ws : List (Ms × Nat)} {s n i : Nat} (hw : wl.map eplain = ws) (h : WAt wl s n (i : Int)) : ∃ hi : i < wl.length, wl[i].1.1.s = s ∧ wl[i].2 = n ∧ wkey (eplain wl[i]) = s * 65536 + n := by
  rcases h with ⟨h1, _⟩ | ⟨j, hj, h1, h2, _⟩
  · omega
  · have e : i = j := by omega
    subst e
    refine ⟨hj, h2.1, h2.2, ?_⟩
    show wl[i].1.1.s * 65536 + wl[i].2 = _
    rw [h2.1, h2.2]
section
variable {W w : World} {x : Nat} {b : Ib} {L : List Me} {R : List As}
/-- What waits is another row, made since. -/
theorem DB.wput {g : Nat} {me : Me} (h : DB W w x g me b L R) {wl : List Wq} {A : Option Addr} {c : Nat} (hst : ∀ (w2 w9 : World) (wl' : List Wq) (v' : Value), Below w.heap.size w w2 → (∀ q ∈ wl', q.1 ∈ L) → w9.ownsRow 0 115 5 v' wl'.length (wfl wl') → w2.grownBy w9 (Value.slice A wl.length c).ownBlock → (∀ k, v'.ownBlock = some k → (Value.slice A wl.length c).ownBlock = some k ∨ w2.heap.size ≤ k) → (w9.cell? ⟨x, 65541, none⟩ = some (.slice A wl.length c) ∧ w9.frozen? ⟨x, 65541, none⟩ = false) ∧ DB W (w9.setCell ⟨x, 65541, none⟩ v') x g me { b with ws := wl'.map eplain } L R)
    {w9 : World} {wl' : List Wq} {A' : Option Addr} {n' c' : Nat} (hb : Below w.heap.size w w9) (hm : ∀ q ∈ wl', q.1 ∈ L) (ho : w9.ownsRow w.heap.size 115 5 (.slice A' n' c') n' (wfl wl')) (hl : wl'.length = n') :
    (w9.cell? ⟨x, 65541, none⟩ = some (.slice A wl.length c) ∧ w9.frozen? ⟨x, 65541, none⟩ = false) ∧ DB W (w9.setCell ⟨x, 65541, none⟩ (.slice A' n' c')) x g me { b with ws := wl'.map eplain } L R := by
  subst hl
  exact hst w w9 wl' _ (Below.refl _ _) hm (World.ownsRow.mono ho (Nat.zero_le _)) ⟨hb.os, hb.tape, hb.output, hb.size, fun k hk _ => hb.block k hk⟩ (fun k hk => .inr (World.ownsRow.lt ho k hk).1)
set_option maxHeartbeats 4000000 in
theorem dwh_turn (h : DX W w x b L R) (ok : b.Core) (hlen : b.rd.length + b.ws.length ≤ 1048576) (me : Me) (hm : me ∈ L) (hu : me.1.u = false) (hms : me.1.s < b.nx.length) (ssn : Nat) (hss : ssn < 65536) (hne : b.nxt me.1.s = ssn) (b' : Ib) (hb' : goOn (b.ws.length + 1) b me.1 = b') :
    Calls Try.prog 60 #[.pointer (some ⟨x, 0, none⟩), .agg #[.int .u16 (me.1.s : Int), .bool me.1.u, .int .u32 (me.1.p : Int), .slice me.2.1 me.2.2.1 me.2.2.2], .int .u16 (ssn : Int)] w fun e w' => e = .returned (.tuple #[]) ∧ DX W w' x b' L R := by
  have HB := Lib.hid (h.boxed me)
  have HOK := Lib.hid ok
  have HBP := Lib.hid hb'
  clear hb'
  have hnl := ok.nx
  clear h ok
  go_enter Try.func60, Try.ntmps60
  rw [hu]
  rw [hu] at HB
  go_upto_region 1 with fail
  generalize w.alloc (.cells #[.int .u16 (me.1.s : Int), .bool false, .int .u32 (me.1.p : Int), .slice me.2.1 me.2.2.1 me.2.2.2] 39) = w1 at HB ⊢
  generalize w.heap.size = g at HB ⊢
  obtain ⟨r0, r1, r2, r3⟩ := HB.out.cells
  rw [hu] at r1
  have hnum := (HB.out.num hms hnl w1 (Below.refl _ _)).1.1
  have hs64 : me.1.s < 65536 := by omega
  rw [hne] at hnum
  go_upto_region 4 with (go_quiet (fail))
  have hq2 : Below w1.heap.size w1 (w1.drewN nq) := ⟨rfl, rfl, rfl, Nat.le_refl _, fun _ _ => rfl⟩
  have HB2 := Lib.hid (HB.out.next hq2)
  clear r0 r1 r2 r3 hnum HB hq2
  generalize w1.drewN nq = w2 at HB2 ⊢
  obtain ⟨r0, r1, r2, r3⟩ := HB2.out.cells
  rw [hu] at r1
  go_upto_region 7 with fail
  go_cut [] from 53 to 62 (fun wx => Hid (DB W wx x g me { b with rd := b.rd ++ [me.1] } L R))
  case first =>
    obtain ⟨A, c, rM, hrm, hld, hst⟩ := HB2.out.ready
    have HST := Lib.hid hst
    have HLD := Lib.hid hld
    have hrl : rM.length = b.rd.length := by rw [← hrm, List.length_map]
    have hn9 : rM.length ≤ 1100000 := by omega
    have cj : w2.cell? ⟨x, 65542, none⟩ = some (.slice A rM.length c) := (HLD.out w2 (Below.refl _ _)).1
    have cja : ∀ o, (w2.alloc o).cell? ⟨x, 65542, none⟩ = some (.slice A rM.length c) := fun o => (HLD.out _ ((Below.refl _ _).alloc (Nat.le_refl _) o)).1
    have HRW : Hid (Row (w2.alloc (.cells #[.int .u16 (me.1.s : Int), .bool false, .int .u32 (me.1.p : Int), .slice me.2.1 me.2.2.1 me.2.2.2] 39)).drew (some ⟨w2.heap.size, 0, none⟩) (mcl me)) := Lib.hid (by
      have := Row.new w2.drew (mcl me) 39 (0, 0)
      unfold mcl at this ⊢
      rw [hu] at this ⊢
      exact this)
    have HB3 : Hid (Below w2.heap.size w2 (w2.alloc (.cells #[.int .u16 (me.1.s : Int), .bool false, .int .u32 (me.1.p : Int), .slice me.2.1 me.2.2.1 me.2.2.2] 39)).drew) := Lib.hid ((Below.refl _ _).drew.alloc (Nat.le_refl _) _)
    clear hst hld hrm hrl
    first | go_region_law (first
      | (refine qu_reg rfl (.tmp 57) (.tmp 59) rfl (.slice A rM.length c) rM rfl (HLD.out _ HB3.out).2.2 w2.heap.size 1 me rfl HRW.out (by omega) ?_; intro A9 c9 w9 hq9 hgr9 hat9; have hz9 := HST.out _ w9 me (.slice A9 (rM.length + 1) c9) HB3.out hm hq9 hgr9 hat9; have z9 := hz9.1.1; have f9 := hz9.1.2; have HD9 := Lib.hid hz9.2; clear hq9 hgr9 hat9 hz9)) | fail
    all_goals
      go_wp2_with fail
      go_meet
      case rel => exact Lib.hid (HD9.out.next (by first | exact (Below.refl _ _).drew | exact Below.refl _ _))
  case rest =>
    have HB4 := hcut
    clear HB2 r0 r1 r2 r3 hcut
    go_upto_region 8 with fail
    go_cut [] from 63 to 73 (fun wx => Hid (DB W wx x g me (b.turn me.1) L R))
    case first =>
      obtain ⟨r0, r1, r2, r3⟩ := HB4.out.cells
      have hn := HB4.out.num hms hnl wc (Below.refl _ _)
      have hnum := hn.1.1
      have hfz := hn.1.2
      have e0 : ({ b with rd := b.rd ++ [me.1] } : Ib).nxt me.1.s = ssn := hne
      rw [e0] at hnum
      have e1 : IntKind.u16.wrap ((ssn : Int) + 1) = (((ssn + 1) % 65536 : Nat) : Int) := by rw [IntKind.wrap_u16]; omega
      have HN := Lib.hid (hn.2 ((ssn + 1) % 65536))
      have HT : Hid (({ { b with rd := b.rd ++ [me.1] } with nx := b.nx.set me.1.s ((ssn + 1) % 65536) } : Ib) = b.turn me.1) := Lib.hid (by unfold Ib.turn; rw [hne])
      generalize (ssn + 1) % 65536 = y at e1 HN HT
      clear hn
      go_region
      all_goals
        go_wp2_with fail
        go_meet
        case rel =>
          have h9 := HN.out
          have h8 := HT.out
          exact Lib.hid (by rw [← h8]; exact h9.next (by first | exact (Below.refl _ _).drew | exact Below.refl _ _))
    case rest =>
      have HB5 := hcut
      clear HB4 hcut
      generalize hbt : b.turn me.1 = bt at HB5
      have hbn : bt.nx.length = b.nx.length := by rw [← hbt]; simp [Ib.turn]
      have hms5 : me.1.s < bt.nx.length := by rw [hbn]; exact hms
      obtain ⟨r0, r1, r2, r3⟩ := HB5.out.cells
      have hnum := (HB5.out.num hms5 (by rw [hbn]; exact hnl) wc (Below.refl _ _)).1.1
      obtain ⟨A, c, wl, hwl, hwL, hld, hst⟩ := HB5.out.waits
      have hwb : bt.ws = b.ws := by rw [← hbt]; rfl
      have hwll : wl.length ≤ 1048576 := by
        have h1 := congrArg List.length hwl
        rw [List.length_map, hwb] at h1
        omega
      obtain ⟨nn, hnx⟩ : ∃ nn, bt.nxt me.1.s = nn := ⟨_, rfl⟩
      rw [hnx] at hnum
      obtain ⟨r, hr⟩ := wat_ex wl me.1.s nn
      have HLD := Lib.hid hld
      have HST := Lib.hid hst
      have HWR := Lib.hid hr
      have CF := Lib.hid fun q : Nat => (by
        have h1 := hld (wc.drewN q) ⟨rfl, rfl, rfl, Nat.le_refl _, fun _ _ => rfl⟩
        exact dwfind_fix h1.1 rfl (by omega) (Fg.own_caps h1.2.2).1 (Fg.own_caps h1.2.2).2.1 (Fg.own_row h1.2.2) me.1.s nn hr : Calls Try.prog 95 #[.pointer (some ⟨x, 0, none⟩), .int .u16 (me.1.s : Int), .int .u16 (nn : Int)] (wc.drewN q) fun e w' => e = .returned (.int .i64 r) ∧ (wc.drewN q) = w')
      clear hld hst hr
      go_upto_region 9 with fail
      go_quiet ((go_at_call 95; exact Calls.quiet_of_same ((CF.out _).mono fun _ _ ⟨h1, h2⟩ => ⟨h1, h2.symm⟩)))
      have HTW : Hid (Tw b me.1 bt me.1.s b.ws.length r b') := Lib.hid ⟨hbt, rfl, rfl, hms, fun e he => (HOK.out.ws e he).2.2, HOK.out.al, hnl, by rw [← hbt]; show (b.rd ++ [me.1]).length + _ ≤ _; simp only [List.length_append, List.length_cons, List.length_nil]; omega, fun wl' hw' => by rw [hnx]; exact wat_same (by rw [hwl, hw', hwb]) HWR.out, HBP.out⟩
      have HB6 := Lib.hid (HB5.out.next (w' := wc.drewN nq) ⟨rfl, rfl, rfl, Nat.le_refl _, fun _ _ => rfl⟩)
      clear HB5 r0 r1 r2 r3 hnum HLD HST HWR CF hwl hwL hnx hbt
      generalize wc.drewN nq = w6 at HB6 ⊢
      go_wp2_with fail
      clear HBP
      go_loopg [7] b.ws.length (fun gq v7 wr => ∃ (b0 : Ib) (m0 : Ms) (bb : Ib) (r : Int), v7 = .int .i64 r ∧ Hid (Tw b0 m0 bb me.1.s gq r b') ∧ Hid (DB W wr x g me bb L R))
      case atStart => exact ⟨b, me.1, bt, r, rfl, HTW, HB6⟩
      case round =>
        obtain ⟨b0, m0, bb, r, rfl, HT, HDB⟩ := hrel
        clear HB6 HTW hwll hbn hms5 hwb hne hlen
        have hnn : bb.nxt me.1.s < 65536 := by rw [HT.out.nxt]; omega
        have hbnx : bb.nx.length < 65536 := by rw [HT.out.bnx]; exact HT.out.nxl
        have hbs : me.1.s < bb.nx.length := by rw [HT.out.bnx]; exact HT.out.lt
        have hroom := HT.out.room
        obtain ⟨A, c, wl, hwl, hwL, hldw, hstw⟩ := HDB.out.waits
        have hwl2 : wl.map eplain = b0.ws := by rw [hwl, HT.out.bws]
        have hwn : wl.length = b0.ws.length := by rw [← hwl2, List.length_map]
        have hat := HT.out.wat wl hwl2
        rcases wat_look hwl2 HT.out.ws hnn hat with ⟨rfl, hno⟩ | ⟨i, hi, rfl, hsome⟩
        · have HE : Hid (bb = b') := Lib.hid (HT.out.fin hno)
          clear hstw hldw
          go_wp2_with fail
          go_end0
          refine ⟨rfl, ?_⟩
          rw [← HE.out]
          exact HDB.out.unbox
        · obtain ⟨hi', hq1, hq2, hq3⟩ := wat_pos hwl2 hat
          have hmem : wl[i].1 ∈ L := hwL _ (List.getElem_mem hi)
          have hrow := hldw wr (Below.refl _ _)
          obtain ⟨a, rfl, k0, k1, k2, k3⟩ := wfl_at4 (Fg.own_row hrow.2.2) hi
          have hwat := fun wl' => HT.out.wat wl'
          obtain ⟨⟨e1, n1⟩, hq⟩ : ∃ q, wl[i] = q := ⟨_, rfl⟩
          rw [hq] at k0 k1 k2 k3 hsome hmem hq1 hq2 hq3
          simp only at k0 k1 k2 k3 hmem hq1 hq2
          have HSO : Hid (alook wkey b0.ws (me.1.s * 65536 + bb.nxt me.1.s) = some (e1.1, n1)) := Lib.hid hsome
          have HE1 : Hid (e1.1.s = me.1.s) := Lib.hid hq1
          have hnw : wl.length ≤ 1048577 := by omega
          clear hsome hq3 hq2 hq1 hq hstw hwL hat hwl2 hi'
          go_upto_region 12 with fail
          go_cut [] from 98 to 114 (fun wx => Hid (DB W wx x g me { bb with rd := bb.rd ++ [e1.1] } L R))
          case first =>
            obtain ⟨A3, c3, rM, hrm, hldr, hstr⟩ := HDB.out.ready
            have HST := Lib.hid hstr
            have HLD := Lib.hid hldr
            have hrl : rM.length = bb.rd.length := by rw [← hrm, List.length_map]
            have hn9 : rM.length ≤ 1100000 := by omega
            have cw : wr.cell? ⟨x, 65541, none⟩ = some (.slice (some a) wl.length c) := hrow.1
            have cj : wr.cell? ⟨x, 65542, none⟩ = some (.slice A3 rM.length c3) := (HLD.out wr (Below.refl _ _)).1
            have cja : ∀ o, (wr.alloc o).cell? ⟨x, 65542, none⟩ = some (.slice A3 rM.length c3) := fun o => (HLD.out _ ((Below.refl _ _).alloc (Nat.le_refl _) o)).1
            have HRW : Hid (Row (wr.alloc (.cells #[.int .u16 (e1.1.s : Int), .bool e1.1.u, .int .u32 (e1.1.p : Int), .slice e1.2.1 e1.2.2.1 e1.2.2.2] 39)).drew (some ⟨wr.heap.size, 0, none⟩) (mcl e1)) := Lib.hid (Row.new wr.drew (mcl e1) 39 (0, 0))
            have HB3 : Hid (Below wr.heap.size wr (wr.alloc (.cells #[.int .u16 (e1.1.s : Int), .bool e1.1.u, .int .u32 (e1.1.p : Int), .slice e1.2.1 e1.2.2.1 e1.2.2.2] 39)).drew) := Lib.hid ((Below.refl _ _).drew.alloc (Nat.le_refl _) _)
            have HMM := Lib.hid hmem
            clear hstr hldr hrm hrl hrow hmem hnw hwn hroom hwl
            first | go_region_law (first
              | (refine qu_reg rfl (.tmp 102) (.tmp 111) rfl (.slice A3 rM.length c3) rM rfl (HLD.out _ HB3.out).2.2 wr.heap.size 1 e1 rfl HRW.out (by omega) ?_; intro A9 c9 w9 hq9 hgr9 hat9; have hz9 := HST.out _ w9 e1 (.slice A9 (rM.length + 1) c9) HB3.out HMM.out hq9 hgr9 hat9; have z9 := hz9.1.1; have f9 := hz9.1.2; have HD9 := Lib.hid hz9.2; clear hq9 hgr9 hat9 hz9)) | fail
            all_goals
              go_wp2_with fail
              go_meet
              case rel => exact Lib.hid (HD9.out.next (by first | exact (Below.refl _ _).drew | exact Below.refl _ _))
          case rest =>
            have HB4 := hcut
            clear HDB k0 k1 k2 k3 hrow hmem hcut hwl hwn hi
            go_upto_region 13 with fail
            go_cut [] from 115 to 133 (fun wx => Hid (DB W wx x g me { bb.less (me.1.s * 65536 + bb.nxt me.1.s) with rd := bb.rd ++ [e1.1] } L R))
            case first =>
              obtain ⟨A2, c2, wl2, hwl2, hwL2, hldw, hstw⟩ := HB4.out.waits
              have hwlb : wl2.map eplain = b0.ws := by
                have h1 : wl2.map eplain = bb.ws := hwl2
                rw [h1, HT.out.bws]
              obtain ⟨hi, _, _, hkey⟩ := wat_pos hwlb (HT.out.wat wl2 hwlb)
              have HOUT : Hid ((wl2.take i ++ wl2.drop (i + 1)).map eplain = adel wkey bb.ws (me.1.s * 65536 + bb.nxt me.1.s)) := Lib.hid (by
                rw [out_key hi hkey (by rw [hwlb]; exact HT.out.al), hwlb, HT.out.bws])
              have HMEM : Hid (∀ q ∈ wl2.take i ++ wl2.drop (i + 1), q.1 ∈ L) := Lib.hid (fun q hq => by
                rcases List.mem_append.1 hq with h1 | h1
                · exact hwL2 q (List.mem_of_mem_take h1)
                · exact hwL2 q (List.mem_of_mem_drop h1))
              have HLEN : Hid ((wl2.take i ++ wl2.drop (i + 1)).length = wl2.length - 1) := Lib.hid (by simp; omega)
              have hnl2 : wl2.length ≤ 1048577 := by
                have h1 := congrArg List.length hwlb
                rw [List.length_map] at h1
                omega
              obtain ⟨n2, hn2⟩ : ∃ n2, wl2.length = n2 := ⟨_, rfl⟩
              have HST := Lib.hid hstw
              have HLD := Lib.hid hldw
              have hcp := Fg.own_caps (hldw wc (Below.refl _ _)).2.2
              rw [hn2] at hcp hnl2 hi HLEN
              have HLN := Lib.hid hn2
              have HC : Hid (∀ w2, Below wc.heap.size wc w2 → w2.cell? ⟨x, 65541, none⟩ = some (.slice A2 n2 c2)) := Lib.hid fun w2 h2 => by rw [← HLN.out]; exact (HLD.out w2 h2).1
              have HFZ : Hid (∀ w2, Below wc.heap.size wc w2 → w2.frozen? ⟨x, 65541, none⟩ = false) := Lib.hid fun w2 h2 => (HLD.out w2 h2).2.1
              have cW : wc.cell? ⟨x, 65541, none⟩ = some (.slice A2 n2 c2) := HC.out wc (Below.refl _ _)
              have ca : ∀ o, (wc.alloc o).cell? ⟨x, 65541, none⟩ = some (.slice A2 n2 c2) := fun o => HC.out _ ((Below.refl _ _).alloc (Nat.le_refl _) o)
              have hac : i ≤ c2 := by have := hcp.1; omega
              have hk1 := fun W => run_cutS_h (P := Try.prog) (t := 58) (e := 115) (sz := 5) Try.underlying58 (by kernel_rfl) (k := .i64) A2 n2 c2 i hac W
              have hk2 : ∀ W, (Instr.slice 58 (.slice A2 n2 c2) (some (.int .i64 ((i : Int) + 1))) none none).run Try.prog W = .ok (.slice (cutS A2 c2 (i + 1) 5) (n2 - (i + 1)) (c2 - (i + 1))) W := fun W => by
                have := run_cutS_l (P := Try.prog) (t := 58) (e := 115) (sz := 5) Try.underlying58 (by kernel_rfl) (k := .i64) A2 n2 c2 (i + 1) (by omega) W
                simpa using this
              have HRO : Hid (∀ w2, Below wc.heap.size wc w2 → Row w2 A2 (wfl wl2)) := Lib.hid fun w2 h2 => Fg.own_row (HLD.out w2 h2).2.2
              have HA1 : Hid (∀ w2, Below wc.heap.size wc w2 → Row w2 (cutS A2 c2 0 5) (wfl (wl2.take i))) := Lib.hid fun w2 h2 => wcut_front (HRO.out w2 h2) HLN.out hcp.1 i (by omega)
              have HA2 : Hid (∀ w2, Below wc.heap.size wc w2 → Row w2 (cutS A2 c2 (i + 1) 5) (wfl (wl2.drop (i + 1)))) := Lib.hid fun w2 h2 => wcut_row (HRO.out w2 h2) HLN.out hcp.1 (i + 1)
              have HZ1 : Hid (cutS A2 c2 0 5 = none → i = 0 ∧ c2 = 0) := Lib.hid fun e => by have := cutS_none hcp.2.2 (Nat.zero_le n2) e; omega
              have HZ2 : Hid (cutS A2 c2 (i + 1) 5 = none → n2 - (i + 1) = 0 ∧ c2 - (i + 1) = 0) := Lib.hid fun e => cutS_none hcp.2.2 (by omega) e
              have HT1 : Hid ((wl2.take i).length = i) := Lib.hid (by have := HLN.out; simp; omega)
              have HT2 : Hid ((wl2.drop (i + 1)).length = n2 - (i + 1)) := Lib.hid (by have := HLN.out; simp; omega)
              have HM2 : Hid (i + (n2 - (i + 1)) = n2 - 1) := Lib.hid (by omega)
              have ha9 : i ≤ 1048577 := by omega
              have HNM : Hid (n2 - 1 ≤ 1048577) := Lib.hid (by omega)
              generalize cutS A2 c2 0 5 = A1' at hk1 HA1 HZ1
              generalize cutS A2 c2 (i + 1) 5 = A2' at hk2 HA2 HZ2
              generalize n2 - (i + 1) = m2 at hk2 HZ2 HT2 HM2
              generalize c2 - (i + 1) = c2' at hk2 HZ2
              generalize n2 - 1 = n3 at HM2 HLEN HNM
              have HO1 : Hid ((wc.alloc (.cells #[] 115)).drew.ownsRow wc.heap.size 115 5 (.slice (some ⟨wc.heap.size, 0, none⟩) 0 0) 0 (wfl [])) := Lib.hid (World.ownsRow_made wc.drew #[] 0 (Nat.le_refl _) (by decide) rfl)
              have HB1 : Hid (Below wc.heap.size wc (wc.alloc (.cells #[] 115)).drew) := Lib.hid ((Below.refl _ _).drew.alloc (Nat.le_refl _) _)
              have hw9 : IntKind.i64.wrap ((i : Int) + 1) = (i : Int) + 1 := by simp [IntKind.wrap, IntKind.signed, IntKind.bits]; omega
              have HPUT : Hid (∀ w9 A' c', Below wc.heap.size wc w9 → w9.ownsRow wc.heap.size 115 5 (.slice A' n3 c') n3 (wfl (wl2.take i ++ wl2.drop (i + 1))) → DB W (w9.setCell ⟨x, 65541, none⟩ (.slice A' n3 c')) x g me { bb.less (me.1.s * 65536 + bb.nxt me.1.s) with rd := bb.rd ++ [e1.1] } L R) := Lib.hid fun w9 A' c' hb ho => by
                have h1 := (HB4.out.wput HST.out hb HMEM.out ho HLEN.out).2
                rw [HOUT.out] at h1
                exact h1
              clear hac hstw hldw hwl2 hwL2 hwlb hkey hn2 HST HLD HRO HOUT HMEM HLEN hcp hwat HT HSO HE1 hroom hnw hbs hbnx hnn hi hnl2 HLN
              first | go_region_law (first
                | (refine wm_reg rfl (.tmp 116) (.tmp 122) rfl wc.heap.size _ 0 0 [] rfl HO1.out A1' i c2 (wl2.take i) rfl HT1.out (HA1.out _ HB1.out) HZ1.out i (by omega) (by omega) HB1.out.size ?_; intro A9 c9' w9 hown9 hgr9; have hb9 : Below wc.heap.size wc w9 := HB1.out.grown hgr9 HB1.out.size (fun k hk => by simp [Value.ownBlock] at hk; omega); have c9a := HC.out w9 hb9; have HW9 := Lib.hid hown9; have HL9 := Lib.hid hb9; clear hown9 hb9 hgr9)
                | (refine wm_reg rfl (.tmp 123) (.tmp 130) rfl wc.heap.size A9 i c9' ([] ++ wl2.take i) rfl HW9.out A2' m2 c2' (wl2.drop (i + 1)) rfl HT2.out (HA2.out _ HL9.out) HZ2.out n3 HM2.out (by have := HNM.out; omega) HL9.out.size ?_; intro A8 c8 w8 hown8 hgr8; have hb8 : Below wc.heap.size wc w8 := HL9.out.grown hgr8 HL9.out.size (fun k hk => (HW9.out.lt k hk).1); have c8a := HC.out w8 hb8; have z8a := HFZ.out w8 hb8; have HD9 := Lib.hid (HPUT.out w8 A8 c8 hb8 hown8); clear hown8 hb8 hgr8)) | fail
              all_goals
                go_wp2_with fail
                go_meet
                case rel => exact Lib.hid (HD9.out.next (by first | exact (Below.refl _ _).drew | exact Below.refl _ _))
            case rest =>
              have HB5 := hcut
              clear HB4 hcut
              go_upto_region 14 with fail
              obtain ⟨bl, hbl⟩ : ∃ bl, bb.less (me.1.s * 65536 + bb.nxt me.1.s) = bl := ⟨_, rfl⟩
              have hrd : bb.rd = bl.rd := by rw [← hbl]; rfl
              rw [hbl, hrd] at HB5
              have hlnx : bl.nx = bb.nx := by rw [← hbl]; rfl
              have hlnt : bl.nxt me.1.s = bb.nxt me.1.s := by rw [← hbl]; rfl
              obtain ⟨r0, r1, r2, r3⟩ := HB5.out.cells
              have hn := HB5.out.num (s := me.1.s) (by rw [show ({ bl with rd := bl.rd ++ [e1.1] } : Ib).nx = bb.nx from hlnx]; exact hbs) (by rw [show ({ bl with rd := bl.rd ++ [e1.1] } : Ib).nx = bb.nx from hlnx]; exact hbnx) wc (Below.refl _ _)
              have hnum := hn.1.1
              have hfz := hn.1.2
              have e0 : ({ bl with rd := bl.rd ++ [e1.1] } : Ib).nxt me.1.s = bb.nxt me.1.s := hlnt
              rw [e0] at hnum
              obtain ⟨vv, hvv⟩ : ∃ vv, bb.nxt me.1.s = vv := ⟨_, rfl⟩
              rw [hvv] at hnum hnn
              have ew : IntKind.u16.wrap ((vv : Int) + 1) = (((vv + 1) % 65536 : Nat) : Int) := by rw [IntKind.wrap_u16]; omega
              have HN := Lib.hid (hn.2 ((vv + 1) % 65536))
              have HTT : Hid (({ { bl with rd := bl.rd ++ [e1.1] } with nx := bl.nx.set me.1.s ((vv + 1) % 65536) } : Ib) = bl.turn e1.1) := Lib.hid (by unfold Ib.turn; rw [HE1.out, hlnt, hvv])
              generalize (vv + 1) % 65536 = y at ew HN HTT
              have HB6' : Hid (DB W ((wc.setCell ⟨x, 5 + me.1.s, none⟩ (.int .u16 (y : Int))).drew) x g me (bl.turn e1.1) L R) := Lib.hid (by rw [← HTT.out]; exact HN.out.next (Below.refl _ _).drew)
              clear hn HTT HN
              go_region
              have HB6 := HB6'
              clear HB6' HB5 r0 r1 r2 r3 hnum hfz ew e0
              generalize World.drew (World.setCell wc _ _) = wz at HB6 ⊢
              have hbl5 : (bl.turn e1.1).nx.length = bb.nx.length := by rw [← hlnx]; simp [Ib.turn]
              have HWS2 : Hid ((bl.turn e1.1).ws = adel wkey b0.ws (me.1.s * 65536 + bb.nxt me.1.s)) := Lib.hid (by
                show bl.ws = _
                rw [← hbl]
                show adel wkey bb.ws _ = _
                rw [HT.out.bws])
              obtain ⟨bn, hbn⟩ : ∃ bn, bl.turn e1.1 = bn := ⟨_, rfl⟩
              rw [hbn] at HB6 hbl5 HWS2
              obtain ⟨r0, r1, r2, r3⟩ := HB6.out.cells
              have hnum := (HB6.out.num (s := me.1.s) (by rw [hbl5]; exact hbs) (by rw [hbl5]; exact hbnx) wz (Below.refl _ _)).1.1
              obtain ⟨A7, c7, wl7, hwl7, hwL7, hld7, hst7⟩ := HB6.out.waits
              have hw7 : wl7.map eplain = adel wkey b0.ws (me.1.s * 65536 + bb.nxt me.1.s) := by rw [hwl7, HWS2.out]
              have hwll7 : wl7.length ≤ 1048577 := by
                have h1 := congrArg List.length hw7
                rw [List.length_map] at h1
                have h2 : (adel wkey b0.ws (me.1.s * 65536 + bb.nxt me.1.s)).length ≤ b0.ws.length := List.length_filter_le _ _
                omega
              obtain ⟨nn7, hnx7⟩ : ∃ nn, bn.nxt me.1.s = nn := ⟨_, rfl⟩
              rw [hnx7] at hnum
              obtain ⟨r7, hr7⟩ := wat_ex wl7 me.1.s nn7
              have HNXT : Hid (∃ gn, gn < gk ∧ Tw bl e1.1 bn me.1.s gn r7 b') := Lib.hid (by
                have h1 := HT.out.more HSO.out HE1.out (wl := wl7) (r' := r7) hw7 (by rw [hbl, hbn, hnx7]; exact hr7)
                rw [hbl, hbn] at h1
                exact h1)
              have CF := Lib.hid fun q : Nat => (by
                have h1 := hld7 (wz.drewN q) ⟨rfl, rfl, rfl, Nat.le_refl _, fun _ _ => rfl⟩
                exact dwfind_fix h1.1 rfl (by omega) (Fg.own_caps h1.2.2).1 (Fg.own_caps h1.2.2).2.1 (Fg.own_row h1.2.2) me.1.s nn7 hr7 : Calls Try.prog 95 #[.pointer (some ⟨x, 0, none⟩), .int .u16 (me.1.s : Int), .int .u16 (nn7 : Int)] (wz.drewN q) fun e w' => e = .returned (.int .i64 r7) ∧ (wz.drewN q) = w')
              clear hld7 hst7 hr7 hwl7 hwL7 hw7 hwll7 hbl hrd hlnx hlnt HWS2 hbn hnx7 hbl5 hwat HT HSO hbs hbnx hnn hroom hnw HE1
              go_upto_region 11 with fail
              go_quiet ((go_at_call 95; exact Calls.quiet_of_same ((CF.out _).mono fun _ _ ⟨h1, h2⟩ => ⟨h1, h2.symm⟩)))
              have HB7 := Lib.hid (HB6.out.next (w' := wz.drewN nq) ⟨rfl, rfl, rfl, Nat.le_refl _, fun _ _ => rfl⟩)
              clear HB6 r0 r1 r2 r3 hnum CF
              generalize wz.drewN nq = w7 at HB7 ⊢
              obtain ⟨gn, hgn, hTn⟩ := HNXT.out
              have HTn := Lib.hid hTn
              clear hTn HNXT
              go_wp2_with fail
              go_roundg gn
              case rel => exact ⟨bl, e1.1, bn, r7, rfl, HTn, HB7⟩
              case measure => exact hgn
end
end Ix
end Go.Proofs.Ytednkcjmlpgipaa
