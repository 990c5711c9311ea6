/-
  A TSN comes to the document's set: it is fresh.
-/
import Derived.Test.YtednkcjmlpgipaaYP1c
namespace Go.Proofs.Ytednkcjmlpgipaa
set_option maxRecDepth 4000
open Go.RowKit Go.Maps
namespace Gp
set_option linter.unusedVariables false

theorem belowAlloc {B : Nat} {W w2 : World} {o : Obj} (h : Below B W w2) (hB : B ≤ w2.heap.size) : Below B W (w2.alloc o) := h.alloc hB o
/-- The sorted place is met. -/
theorem ins_met {w k n : Nat} {l : List Nat} (hn : n = l.length) (hk : k ≤ n) (h1 : ∀ i, i < k → l.getD i 0 < w) (h2 : k < n → ¬ l.getD k 0 < w) : (l.take k ++ [w]) ++ l.drop k = ins w l := by
  subst hn
  rw [ins_at w l k hk h1 h2, List.append_assoc, List.singleton_append]
theorem less_take {l : List Nat} {i : Nat} (h : i < l.length) : ((l.take (i + 1)).drop 1).map (· - 1) = if i = 0 then [] else ((l.take i).drop 1).map (· - 1) ++ [l.getD i 0 - 1] := by
  rcases i with _ | i
  · cases l with
    | nil => simp at h
    | cons x l => simp
  · rw [if_neg (by omega), take_snoc h, List.drop_append_of_le_length (by simp; omega), List.map_append]
    rfl
/-- The ways are put anew: a row that lies in new blocks. -/
theorem put_ways {W w : World} {F : Nat → Prop} {s : Nat} {st : St} (h0 : DS0 W F s st) (hb : Below W.heap.size W w) {v' : Value} {l : List Nat}
    (hir : Ir .i64 2 w v' l) (hlow : ∀ g, v'.ownBlock = some g → W.heap.size ≤ g) :
    ∃ F', DS0 (w.setCell ⟨s, 1, none⟩ v') F' s { st with ws := l } ∧ Mv W F (w.setCell ⟨s, 1, none⟩ v') F' := by
  obtain ⟨vw, v, hbk, hw, hv, f1, f2, f3, f4⟩ := h0
  have hs := f4 s f1
  have hb1 : Bk w s _ _ := (hb.block s hs).trans hbk
  have hg := setc_grown w s 1 v'
  have hv1 : Ir .u32 23 w v st.ds := hv.frame (F := fun _ => False) (Kp.below hb) (fun _ _ e => e)
  refine ⟨fun k => F k ∨ (W.heap.size ≤ k ∧ k < w.heap.size), ⟨_, v, hb1.set 1 _, hir.kept hg (.inr (hir.off hb1 (by decide))), hv1.kept hg (.inr (hv1.off hb1 (by decide))), .inl f1, fun g hg => .inr ⟨hlow g hg, hir.lt hg⟩, fun g hg => .inl (f3 g hg), fun k hk => ?_⟩, ?_, ?_⟩
  · rcases hk with hk | hk
    · exact Nat.lt_of_lt_of_le (f4 k hk) (Nat.le_trans hb.size hg.size)
    · exact Nat.lt_of_lt_of_le hk.2 hg.size
  · exact (Kp.below (F := F) hb).trans (F' := F) (Kp.grown hg (fun g hg => by injection hg with e; rw [← e]; exact f1)) (fun b hb => .inl hb)
  · rintro k (hk | hk)
    · exact .inl hk
    · exact .inr hk.1
/-- The cumulative TSN is put anew. -/
theorem put_cum {W : World} {F : Nat → Prop} {s : Nat} {st : St} (h0 : DS0 W F s st) (c : Nat) :
    DS0 (W.setCell ⟨s, 0, none⟩ (.int .u32 (c : Int))) F s { st with cum := c } ∧ Mv W F (W.setCell ⟨s, 0, none⟩ (.int .u32 (c : Int))) F := by
  obtain ⟨vw, v, hbk, hw, hv, f1, f2, f3, f4⟩ := h0
  have hg := setc_grown W s 0 (.int .u32 (c : Int))
  exact ⟨⟨vw, v, hbk.set 0 _, hw.kept hg (.inr (hw.off hbk (by decide))), hv.kept hg (.inr (hv.off hbk (by decide))), f1, f2, f3, fun k hk => Nat.lt_of_lt_of_le (f4 k hk) hg.size⟩, Kp.grown hg (fun g hg => by injection hg with e; rw [← e]; exact f1), fun k hk => .inl hk⟩
theorem row_of_bk {w : World} {b y : Nat} {t : TypeId} (h : Bk w b #[.int .i64 (y : Int)] t) : Row w (some ⟨b, 0, none⟩) (ns .i64 [y]) := fun i v hv => by
  refine ⟨_, rfl, ?_⟩
  rw [addr0, h.cell]
  simpa [ns] using hv
set_option maxHeartbeats 4000000 in
theorem radd_fresh (W : World) (F : Nat → Prop) (s t : Nat) (st : St) (h : DSet W F s st) (ht : t < 4294967296) (hh : st.has t = false) (hw : wy st.cum t ≤ 65535) :
    Calls Try.prog 58 #[.pointer (some ⟨s, 0, none⟩), .int .u32 (t : Int)] W fun e w' =>
      ∃ F', e = .returned (.int .u8 ((st.add t).2 : Nat)) ∧ DSet w' F' s (st.add t).1 ∧ Mv W F w' F' := by
  have HH := Lib.hid (rhas_any W F s t st h ht)
  have HWY := Lib.hid (rw_any W F s t st h ht)
  have HR : Hid (st.add t = ({ cum := (norm st.cum (ins (wy st.cum t) st.ws)).1, ws := (norm st.cum (ins (wy st.cum t) st.ws)).2, ds := st.ds }, 0)) := Lib.hid (by unfold St.add; rw [if_neg (by rw [hh]; simp), if_neg (by omega)])
  obtain ⟨vw, v, hb, hwr, hv, f1, f2, f3, f4, ok⟩ := id h
  have HOK : Hid ((st.add t).1.Ok) := Lib.hid (add_ok ok ht)
  have HRIS := Lib.hid (ins_ok ok hh hw)
  have HCUM := Lib.hid ok.1
  rw [hh] at HH
  have HLEN : Hid (st.ws.length ≤ 65534) := Lib.hid (ris_len ok.2.1)
  generalize wy st.cum t = y at hw HWY HR HRIS
  have hwz : decide ((65535 : Int) < (y : Int)) = false := decide_eq_false (by omega)
  obtain ⟨A, c, rfl, hlc, hcm, hA⟩ := hwr.form
  have HZ : Hid (A = none → st.ws.length = 0 ∧ c = 0) := Lib.hid fun e => by
    rcases hwr.2 with ⟨h1, h2⟩ | ⟨g, cap, cur, h1, _⟩
    · simp only [Value.slice.injEq] at h1; omega
    · simp only [Value.slice.injEq] at h1; rw [e] at h1; cases h1.1
  have HC : Hid (∀ w2, Below W.heap.size W w2 → w2.cell? ⟨s, 1, none⟩ = some (.slice A st.ws.length c)) := Lib.hid fun w2 hw2 => by
    have hb2 : Bk w2 s _ _ := (hw2.block s hb.lt).trans hb
    exact (hb2.cell 1).trans rfl
  have HFZ : Hid (∀ w2, Below W.heap.size W w2 → w2.frozen? ⟨s, 1, none⟩ = false) := Lib.hid fun w2 hw2 => by
    have hb2 : Bk w2 s _ _ := (hw2.block s hb.lt).trans hb
    exact hb2.frozen 1
  have HRW : Hid (∀ w2, Below W.heap.size W w2 → Row w2 A (ns .i64 st.ws)) := Lib.hid fun w2 hw2 => hwr.row.below hw2
  have H0 := Lib.hid h.low
  have HBK := Lib.hid hb
  have HV := Lib.hid hv
  have HF1 := Lib.hid f1
  have HF3 := Lib.hid f3
  have HF4 := Lib.hid f4
  clear h hh hb hwr hv f1 f2 f3 f4 ok hA hcm
  obtain ⟨ws, hws⟩ : ∃ ws, ws = st.ws := ⟨_, rfl⟩
  rw [← hws] at hlc HZ HC HRW HLEN HR HRIS
  have HWS := Lib.hid hws
  clear hws
  obtain ⟨n, hn⟩ : ∃ n, n = ws.length := ⟨_, rfl⟩
  rw [← hn] at hlc HZ HC HLEN
  have HN := Lib.hid hn
  have hn9 := HLEN.out
  clear hn
  have cW := HC.out W (Below.refl _ _)
  go_enter Try.func58, Try.ntmps58
  go_wp2_with fail
  refine HH.out.mono ?_
  rintro e w' ⟨rfl, rfl⟩
  go_wp2_with fail
  refine HWY.out.mono ?_
  rintro e w' ⟨rfl, rfl⟩
  go_wp2_with fail
  go_loop [6] (fun i => ∃ k : Nat, k ≤ n ∧ i = .int .i64 k ∧ Hid (∀ i, i < k → ws.getD i 0 < y)) (fun i => n - (iof i).toNat)
  case atStart => exact ⟨0, Nat.zero_le _, rfl, Lib.hid (fun i hi => by omega)⟩
  case round =>
    obtain ⟨k, hk, rfl, HK⟩ := hrel
    go_upto_region 9 with fail
    go_cut [50] from 33 to 50 (fun v50 wx => v50 = .bool (decide (k < n ∧ ws.getD k 0 < y)) ∧ W = wx)
    case first =>
      by_cases hlt : k < n
      · have hkl : k < ws.length := by rw [← HN.out]; exact hlt
        obtain ⟨a, rfl, hc⟩ := (HRW.out W (Below.refl _ _)) k _ (ns_get hkl)
        obtain ⟨x, hx⟩ : ∃ x, x = ws.getD k 0 := ⟨_, rfl⟩
        have HD : Hid (decide (k < n ∧ ws.getD k 0 < y) = decide (x < y)) := Lib.hid (by rw [hx]; simp [hlt])
        rw [← hx] at hc
        clear hkl hx
        go_wp2_with fail
        go_meet
        case rel => exact ⟨by rw [HD.out], rfl⟩
      · have HD : Hid (decide (k < n ∧ ws.getD k 0 < y) = false) := Lib.hid (by simp [hlt])
        have hkn : k = n := by omega
        subst hkn
        go_wp2_with fail
        go_meet
        case rel => exact ⟨by rw [HD.out], rfl⟩
    case rest =>
      obtain ⟨rfl, rfl⟩ := hcut
      by_cases hgo : k < n ∧ ws.getD k 0 < y
      · have hgd : decide (k < n ∧ ws.getD k 0 < y) = true := decide_eq_true hgo
        have HK2 : Hid (∀ i, i < k + 1 → ws.getD i 0 < y) := Lib.hid fun i hi => by
          rcases Nat.lt_or_ge i k with h | h
          · exact HK.out i h
          · obtain rfl : i = k := by omega
            exact hgo.2
        have hk1 := hgo.1
        rw [hgd]
        clear hgo hgd
        go_wp2_with fail
        go_round
        case rel => exact ⟨k + 1, by omega, by go_num, HK2⟩
        case measure => simp [iof] <;> omega
      · have hgd : decide (k < n ∧ ws.getD k 0 < y) = false := decide_eq_false hgo
        have HINS : Hid ((ws.take k ++ [y]) ++ ws.drop k = ins y ws) := Lib.hid (ins_met HN.out hk HK.out (fun hl hx => hgo ⟨hl, hx⟩))
        rw [hgd]
        clear hgo hgd HK
        have HK1 : Hid (k ≤ n) := Lib.hid hk
        have HLC : Hid (n ≤ c) := Lib.hid hlc
        go_upto_region 11 with fail
        go_cut [] from 53 to 73 (fun wx => ∃ F', Hid (DS0 wx F' s ⟨st.cum, ins y ws, st.ds⟩) ∧ Hid (Mv W F wx F'))
        case first =>
          have hb0 : Below W.heap.size W W.drew := (Below.refl _ _).drew
          have ca : ∀ o, (W.alloc o).cell? ⟨s, 1, none⟩ = some (.slice A n c) := fun o => HC.out _ ((Below.refl _ _).alloc (Nat.le_refl _) o)
          have caa : ∀ o o', ((W.alloc o).alloc o').cell? ⟨s, 1, none⟩ = some (.slice A n c) := fun o o' => HC.out _ (((Below.refl _ _).alloc (Nat.le_refl _) o).alloc (by simp) o')
          have hk1 := fun W => run_cut_h (P := Try.prog) (t := 52) (e := 2) Try.underlying52 (by kernel_rfl) (k := .i64) A n c k (by omega) W
          have hk2 := fun W => run_cut_l (P := Try.prog) (t := 52) (e := 2) Try.underlying52 (by kernel_rfl) (k := .i64) A n c k (by omega) W
          have HA1 : Hid (∀ w2, Below W.heap.size W w2 → Row w2 (cutA A c 0) (ns .i64 (ws.take k))) := Lib.hid fun w2 h2 => cut_front (HRW.out w2 h2) HN.out.symm HLC.out k HK1.out
          have HA2 : Hid (∀ w2, Below W.heap.size W w2 → Row w2 (cutA A c k) (ns .i64 (ws.drop k))) := Lib.hid fun w2 h2 => cut_row (HRW.out w2 h2) HN.out.symm HLC.out k HK1.out
          have HZ1 : Hid (cutA A c 0 = none → k = 0 ∧ c = 0) := Lib.hid fun e => by have := cut_none HZ.out (Nat.zero_le n) e; have := HK1.out; omega
          have HZ2 : Hid (cutA A c k = none → n - k = 0 ∧ c - k = 0) := Lib.hid fun e => cut_none HZ.out HK1.out e
          have HT1 : Hid ((ws.take k).length = k) := Lib.hid (by have := HK1.out; have := HN.out; simp; omega)
          have HT2 : Hid ((ws.drop k).length = n - k) := Lib.hid (by have := HN.out; simp; omega)
          have HM2 : Hid (k + 1 + (n - k) = n + 1) := Lib.hid (by have := HK1.out; omega)
          have hk9 : k ≤ 65534 := by omega
          generalize cutA A c 0 = A1 at hk1 HA1 HZ1
          generalize cutA A c k = A2 at hk2 HA2 HZ2
          generalize n - k = m2 at hk2 HZ2 HT2 HM2
          generalize c - k = c2 at hk2 HZ2
          have o1 : (W.alloc (.cells #[] 2)).drew.ownsRow W.heap.size 2 1 (.slice (some ⟨W.heap.size, 0, none⟩) 0 0) 0 (ns .i64 []) := World.ownsRow_made W.drew #[] 0 (Nat.le_refl _) (by decide) rfl
          have o2 : ((W.alloc (.cells #[] 2)).alloc (.cells #[.int .i64 (y : Int)] 2)).drew.ownsRow W.heap.size 2 1 (.slice (some ⟨W.heap.size, 0, none⟩) 0 0) 0 (ns .i64 []) := (World.ownsRow_made W.drew #[] 0 (Nat.le_refl _) (by decide) rfl).alloc _
          have o3 : ((W.alloc (.cells #[.int .i64 (y : Int)] 2)).alloc (.cells #[] 2)).drew.ownsRow W.heap.size 2 1 (.slice (some ⟨W.heap.size + 1, 0, none⟩) 0 0) 0 (ns .i64 []) := by
            have := World.ownsRow_made (base := W.heap.size) (e := 2) (size := 1) (W.drew.alloc (.cells #[.int .i64 (y : Int)] 2)) #[] 0 (by simp) (by decide) rfl
            rw [show (W.drew.alloc (.cells #[.int .i64 (y : Int)] 2)).heap.size = W.heap.size + 1 by simp] at this
            exact this
          have HO1 := Lib.hid o1
          have HO2 := Lib.hid o2
          have HO3 := Lib.hid o3
          clear o1 o2 o3
          clear hk hlc
          have HB1 : Hid (Below W.heap.size W (W.alloc (.cells #[] 2)).drew) := Lib.hid ((Below.refl _ _).drew.alloc (Nat.le_refl _) _)
          have HB2 : Hid (Below W.heap.size W ((W.alloc (.cells #[] 2)).alloc (.cells #[.int .i64 (y : Int)] 2)).drew) := Lib.hid (((Below.refl _ _).drew.alloc (Nat.le_refl _) _).alloc (by simp) _)
          have HB3 : Hid (Below W.heap.size W ((W.alloc (.cells #[.int .i64 (y : Int)] 2)).alloc (.cells #[] 2)).drew) := Lib.hid (((Below.refl _ _).drew.alloc (Nat.le_refl _) _).alloc (by simp) _)
          have HY2 : Hid (Bk ((W.alloc (.cells #[] 2)).alloc (.cells #[.int .i64 (y : Int)] 2)).drew (W.heap.size + 1) #[.int .i64 (y : Int)] 2) := Lib.hid (by
            have := Bk.new (W.drew.alloc (.cells #[] 2)) #[.int .i64 (y : Int)] 2
            rw [show (W.drew.alloc (.cells #[] 2)).heap.size = W.heap.size + 1 by simp] at this
            exact this)
          have HY3 : Hid (Bk ((W.alloc (.cells #[.int .i64 (y : Int)] 2)).alloc (.cells #[] 2)).drew W.heap.size #[.int .i64 (y : Int)] 2) := Lib.hid
            ((Bk.new W.drew #[.int .i64 (y : Int)] 2).kept (World.grownBy_alloc _ _ none) (by simp))
          first | go_region_law (first
            | (refine ir64_step rfl (.tmp 54) (.tmp 60) rfl W.heap.size _ 0 0 [] rfl HO1.out A1 k c (ws.take k) rfl HT1.out (HA1.out _ HB1.out) HZ1.out k (by omega) (by omega) HB1.out.size ?_; intro A9 c9 w9 hown9 hgr9; have hb9 : Below W.heap.size W w9 := HB1.out.grown hgr9 HB1.out.size (fun k hk => by simp [Value.ownBlock] at hk; omega); have c9a := HC.out w9 hb9; have c9b : ∀ o, (w9.alloc o).cell? ⟨s, 1, none⟩ = some (.slice A n c) := fun o => HC.out _ (hb9.alloc hb9.size o); have HW9 := Lib.hid hown9; have HL9 := Lib.hid hb9; clear hown9 hb9 hgr9)
            | (refine ir64_step rfl (.tmp 54) (.tmp 60) rfl W.heap.size _ 0 0 [] rfl HO2.out A1 k c (ws.take k) rfl HT1.out (HA1.out _ HB2.out) HZ1.out k (by omega) (by omega) HB2.out.size ?_; intro A9 c9 w9 hown9 hgr9; have hb9 : Below W.heap.size W w9 := HB2.out.grown hgr9 HB2.out.size (fun k hk => by simp [Value.ownBlock] at hk; omega); have c9a := HC.out w9 hb9; have HY9 : Hid (Bk w9 (W.heap.size + 1) #[.int .i64 (y : Int)] 2) := Lib.hid (HY2.out.kept hgr9 (by simp [Value.ownBlock])); have HW9 := Lib.hid hown9; have HL9 := Lib.hid hb9; clear hown9 hb9 hgr9)
            | (refine ir64_step rfl (.tmp 54) (.tmp 60) rfl W.heap.size _ 0 0 [] rfl HO3.out A1 k c (ws.take k) rfl HT1.out (HA1.out _ HB3.out) HZ1.out k (by omega) (by omega) HB3.out.size ?_; intro A9 c9 w9 hown9 hgr9; have hb9 : Below W.heap.size W w9 := HB3.out.grown hgr9 HB3.out.size (fun k hk => by simp [Value.ownBlock] at hk; omega); have c9a := HC.out w9 hb9; have HY9 : Hid (Bk w9 W.heap.size #[.int .i64 (y : Int)] 2) := Lib.hid (HY3.out.kept hgr9 (by simp [Value.ownBlock])); have HW9 := Lib.hid hown9; have HL9 := Lib.hid hb9; clear hown9 hb9 hgr9)
            | (refine ir64_step rfl (.tmp 61) (.tmp 63) rfl W.heap.size A9 k c9 ([] ++ ws.take k) rfl HW9.out (some _) 1 1 [y] rfl rfl (row_of_bk HY9.out) (fun e => by cases e) (k + 1) rfl (by omega) HL9.out.size ?_; intro A8 c8 w8 hown8 hgr8; have hb8 : Below W.heap.size W w8 := HL9.out.grown hgr8 HL9.out.size (fun k hk => (HW9.out.lt k hk).1); have c8a := HC.out w8 hb8; have HW8 := Lib.hid hown8; have HL8 := Lib.hid hb8; clear hown8 hb8 hgr8)
            | (refine ir64_step rfl (.tmp 61) (.tmp 63) rfl W.heap.size A9 k c9 ([] ++ ws.take k) rfl (HW9.out.alloc _) (some _) 1 1 [y] rfl rfl (row_of_bk (Bk.new w9 _ _)) (fun e => by cases e) (k + 1) rfl (by omega) (HL9.out.alloc HL9.out.size _).size ?_; intro A8 c8 w8 hown8 hgr8; have hb8 : Below W.heap.size W w8 := (HL9.out.alloc HL9.out.size _).grown hgr8 (HL9.out.alloc HL9.out.size _).size (fun k hk => (HW9.out.lt k hk).1); have c8a := HC.out w8 hb8; have HW8 := Lib.hid hown8; have HL8 := Lib.hid hb8; clear hown8 hb8 hgr8)
            | (refine ir64_step rfl (.tmp 64) (.tmp 70) rfl W.heap.size A8 (k + 1) c8 _ rfl HW8.out A2 m2 c2 (ws.drop k) rfl HT2.out (HA2.out _ HL8.out) HZ2.out (n + 1) HM2.out (by omega) HL8.out.size ?_; intro A7 c7 w7 hown7 hgr7; have hb7 : Below W.heap.size W w7 := HL8.out.grown hgr7 HL8.out.size (fun k hk => (HW8.out.lt k hk).1); have c7a := HC.out w7 hb7; have z7a := HFZ.out w7 hb7; have HW7 := Lib.hid hown7; have HL7 := Lib.hid hb7; clear hown7 hb7 hgr7)) | fail
          all_goals
            go_wp2_with fail
            go_meet
            case rel =>
              obtain ⟨F', h1, h2⟩ := put_ways H0.out HL7.out (ir_of_own HW7.out (by have := HT2.out; have := HT1.out; have := HM2.out; simp at *; omega)) (fun g hg => (HW7.out.lt g hg).1)
              rw [List.nil_append, HINS.out] at h1
              exact ⟨F', h1, h2⟩
        case rest =>
          obtain ⟨F1, HD1, HM1⟩ := hcut
          have HN1 : Hid (norm st.cum (ins y ws) = norm st.cum (ins y ws)) := Lib.hid rfl
          have HL1 : Hid ((ins y ws).length ≤ 65535) := Lib.hid (by rw [len_ins, ← HN.out]; omega)
          clear HC HFZ HRW HZ HBK HV HH HWY HF1 HF3 HF4 HINS HK1 HLC cW hlc hk
          generalize ins y ws = zs at HN1 HL1 HD1 HRIS HR
          clear HWS HN H0 HLEN hn9
          go_wp2_with fail
          go_loopg [7, 8] zs.length (fun g _ _ wr => ∃ cc l F', Hid (l.length = g) ∧ Hid (l.length ≤ 65535) ∧ Hid (cc < 4294967296) ∧ Hid (Ris 1 65535 l) ∧ Hid (norm st.cum zs = norm cc l) ∧ Hid (DS0 wr F' s ⟨cc, l, st.ds⟩) ∧ Hid (Mv W F wr F'))
          case atStart => exact ⟨st.cum, zs, F1, rfl, HL1, HCUM, HRIS, rfl, HD1, HM1⟩
          case round =>
            obtain ⟨cc, l, F', HG, HLN, HCC, HRS, HNM, HDS, HMV⟩ := hrel
            clear HD1 HM1 HRIS HL1 HN1
            obtain ⟨vw, v2, hb, hw2, hv2, f1, f2, f3, f4⟩ := HDS.out
            obtain ⟨B, cb, rfl, hlc, hcm, hB⟩ := hw2.form
            have HROW := Lib.hid hw2.row
            have HBK := Lib.hid hb
            rcases l with _ | ⟨x, r⟩
            · have c1 : wr.cell? ⟨s, 1, none⟩ = some (.slice B 0 cb) := (hb.cell 1).trans rfl
              have HRX : Hid (st.add t = (⟨cc, [], st.ds⟩, 0)) := Lib.hid (by rw [HR.out, HNM.out, norm_stop (by simp)])
              clear hb hw2 hv2 f1 f2 f3 f4 hB hlc hcm
              go_wp2_with fail
              go_ret
              exact ⟨by rw [HRX.out]; rfl, F', by have := HOK.out; rw [HRX.out] at this ⊢; exact HDS.out.ok this, HMV.out⟩
            · obtain ⟨m, hm⟩ : ∃ m, m = r.length := ⟨_, rfl⟩
              have c1 : wr.cell? ⟨s, 1, none⟩ = some (.slice B (m + 1) cb) := (hb.cell 1).trans (by rw [hm]; rfl)
              have hm9 : m + 1 ≤ 65535 := by have := HLN.out; simp at this; omega
              obtain ⟨a, rfl, ca0⟩ := hw2.row 0 (.int .i64 (x : Int)) (by simp [ns])
              have ca : wr.cell? a = some (.int .i64 (x : Int)) := by simpa [Addr.add] using ca0
              have HM := Lib.hid hm
              clear hb hw2 hv2 f1 f2 f3 f4 hB hlc hcm ca0 hm
              by_cases hx : x = 1
              · subst hx
                have c0 : wr.cell? ⟨s, 0, none⟩ = some (.int .u32 (cc : Int)) := (HBK.out.cell 0).trans rfl
                have z0 := HBK.out.frozen 0
                have hw2 : IntKind.u32.wrap ((cc : Int) + 1) = ((up cc 1 : Nat) : Int) := wrap_add (a := cc) (b := 1)
                obtain ⟨hp1, hp2⟩ := put_cum HDS.out (up cc 1)
                have HP1 := Lib.hid hp1
                have HP2 := Lib.hid (HMV.out.trans hp2)
                clear hp1 hp2
                go_upto_region 14 with fail
                clear c0 z0 hw2 c1 ca HBK HROW HDS HMV
                generalize wr.setCell ⟨s, 0, none⟩ (.int .u32 ((up cc 1 : Nat) : Int)) = w2 at HP1 HP2 ⊢
                obtain ⟨vw, v3, hb, hwr, hv3, f1, f2, f3, f4⟩ := id HP1.out
                obtain ⟨B2, cb2, rfl, hlc, hcm, hB⟩ := hwr.form
                have HC : Hid (∀ w3, Below w2.heap.size w2 w3 → w3.cell? ⟨s, 1, none⟩ = some (.slice B2 (m + 1) cb2)) := Lib.hid fun w3 hw3 => by
                  have hb2 : Bk w3 s _ _ := (hw3.block s hb.lt).trans hb
                  exact (hb2.cell 1).trans (by rw [HM.out]; rfl)
                have HFZ : Hid (∀ w3, Below w2.heap.size w2 w3 → w3.frozen? ⟨s, 1, none⟩ = false) := Lib.hid fun w3 hw3 => by
                  have hb2 : Bk w3 s _ _ := (hw3.block s hb.lt).trans hb
                  exact hb2.frozen 1
                have HROW : Hid (∀ w3, Below w2.heap.size w2 w3 → Row w3 B2 (ns .i64 (1 :: r))) := Lib.hid fun w3 hw3 => hwr.row.below hw3
                have HLEN : Hid ((1 :: r).length = m + 1) := Lib.hid (by rw [HM.out]; rfl)
                clear hb hwr hv3 f1 f2 f3 f4 hB hlc hcm
                go_wp2_with fail
                go_loopw [7, 8] (fun v7 v8 wx => ∃ (k : Nat) (B : Option Addr) (q cq : Nat) (l : List Nat), v8 = .int .i64 k ∧ k ≤ m + 1 ∧ 1 ≤ k ∧ v7 = .slice B q cq ∧ q + 1 = k ∧ Hid (l = (((1 :: r).take k).drop 1).map (· - 1)) ∧ Hid (q = l.length) ∧ Hid (Ir .i64 2 wx (.slice B q cq) l) ∧ Hid (∀ g, (Value.slice B q cq).ownBlock = some g → w2.heap.size ≤ g) ∧ Hid (Below w2.heap.size w2 wx)) (fun _ v8 _ => m + 1 - (iof v8).toNat)
                case atStart => exact ⟨1, none, 0, 0, [], rfl, by omega, by omega, rfl, rfl, Lib.hid (by simp), rfl, Lib.hid (Ir.nil _ _ _), Lib.hid (fun g hg => by cases hg), Lib.hid (Below.refl _ _)⟩
                case round =>
                  obtain ⟨k, B, q, cq, l, rfl, hk, hk1, rfl, hq, HL, HQ, HI, HLO, HBL⟩ := hrel
                  have d1 := HC.out _ HBL.out
                  have dz := HFZ.out _ HBL.out
                  by_cases hlt : k < m + 1
                  · have hkl : k < (1 :: r).length := by rw [HLEN.out]; exact hlt
                    obtain ⟨b, rfl, hcx⟩ := HROW.out _ HBL.out k _ (ns_get hkl)
                    have hx1 := (ris_at HRS.out hkl).1
                    have hx2 := (ris_at HRS.out hkl).2
                    have HL2 : Hid ((((1 :: r).take (k + 1)).drop 1).map (· - 1) = l ++ [(1 :: r).getD k 0 - 1]) := Lib.hid (by rw [less_take hkl, if_neg (by omega), HL.out])
                    obtain ⟨z, hz⟩ : ∃ z, (1 :: r).getD k 0 = z + 1 := ⟨(1 :: r).getD k 0 - 1, by omega⟩
                    rw [hz] at hcx HL2
                    rw [show z + 1 - 1 = z by omega] at HL2
                    have e1 : ((z + 1 : Nat) : Int) - 1 = z := by omega
                    have hz9 : z ≤ 65534 := by omega
                    clear hz hx1 hx2 hkl
                    go_wp2_with (at_builtin; refine ir_app (k := .i64) (E := 2) (S := 52) Try.underlying52 info64 (by omega) rfl _ _ rfl (.slice B q cq) l rfl (HI.out.kept (World.grownBy_alloc wr _ none) (by cases hv : (Value.slice B q cq).ownBlock <;> simp)) z wr.heap.size 1 2 rfl (Bk.new wr _ _) (by have := HQ.out; omega) ?_; intro g c' w4 hown hgr hat)
                    go_roundw
                    case rel => exact ⟨k + 1, some ⟨g, 0, none⟩, l.length + 1, c', l ++ [z], by go_num, by omega, by omega, rfl, by have := HQ.out; omega, Lib.hid HL2.out.symm, Lib.hid (by simp), Lib.hid hown, Lib.hid (fun g2 hg2 => by
                      obtain rfl : g = g2 := by simpa [Value.ownBlock] using hg2
                      rcases hat with h | h
                      · exact HLO.out _ h
                      · rw [h]; have := HBL.out.size; simp; omega), Lib.hid ((HBL.out.alloc HBL.out.size _).grown hgr (HBL.out.alloc HBL.out.size _).size (fun g hg => HLO.out g hg))⟩
                    case measure => simp [iof] <;> omega
                  · have hke : k = m + 1 := by omega
                    have HLE : Hid (l = r.map (· - 1)) := Lib.hid (by rw [HL.out, hke, ← HLEN.out, List.take_length]; rfl)
                    clear hke
                    go_wp2_with fail
                    obtain ⟨F2, hd2, hm2⟩ := put_ways HP1.out HBL.out HI.out HLO.out
                    go_roundg r.length
                    case measure => have := HG.out; simp at this; omega
                    case rel => exact ⟨up cc 1, r.map (· - 1), F2, Lib.hid (by simp), Lib.hid (by have := HLN.out; simp at this ⊢; omega), Lib.hid (up_lt cc 1), Lib.hid (ris_less HRS.out), Lib.hid (by rw [HNM.out, norm_go]), Lib.hid (by rw [← HLE.out]; exact hd2), Lib.hid (HP2.out.trans hm2)⟩
              · have hxe : ((x : Int) == 1) = false := by simp only [beq_eq_false_iff_ne, ne_eq]; omega
                have HRX : Hid (st.add t = (⟨cc, x :: r, st.ds⟩, 0)) := Lib.hid (by rw [HR.out, HNM.out, norm_stop (by simpa using hx)])
                clear hx
                go_wp2_with fail
                go_ret
                exact ⟨by rw [HRX.out]; rfl, F', by have := HOK.out; rw [HRX.out] at this ⊢; exact HDS.out.ok this, HMV.out⟩
theorem radd_any (W : World) (F : Nat → Prop) (s t : Nat) (st : St) (h : DSet W F s st) (ht : t < 4294967296) :
    Calls Try.prog 58 #[.pointer (some ⟨s, 0, none⟩), .int .u32 (t : Int)] W fun e w' =>
      ∃ F', e = .returned (.int .u8 ((st.add t).2 : Nat)) ∧ DSet w' F' s (st.add t).1 ∧ Mv W F w' F' := by
  by_cases hh : st.has t = true
  · exact radd_there W F s t st h ht hh
  · have hh' : st.has t = false := by simpa using hh
    by_cases hw : 65535 < wy st.cum t
    · exact radd_far W F s t st h ht hh' hw
    · exact radd_fresh W F s t st h ht hh' (by omega)
end Gp
end Go.Proofs.Ytednkcjmlpgipaa
