/-
  The ways of a set's TSNs, rising: what a range over the map collects, whatever its order, sorted by the library.
-/
import Derived.Test.YtednkcjmlpgipaaYP1a
import Derived.Test.YtednkcjmlpgipaaYSoPdq
import Derived.OwnWalk
import Derived.Laws.OwnMore
import Derived.Deep.LoopGhost
import Derived.Deep.RegionLaw
import Derived.Deep.CutBlock
import Derived.RegionTactic
namespace Go.Proofs.Ytednkcjmlpgipaa
open Go.RowKit Go.Maps
namespace Gp
set_option linter.unusedVariables false

theorem info16 : (Try.prog.info? 22).map (fun i => (i.zero, i.size, i.bytes)) = some (some (.int .u16 0), 1, 2) := by kernel_rfl
def ia (l : List Nat) : Array Int := (l.map fun (x : Nat) => (x : Int)).toArray
theorem ia_size (l : List Nat) : (ia l).size = l.length := by simp [ia]
theorem ia_get {l : List Nat} {i : Nat} (h : i < l.length) : (ia l)[i]! = ((l.getD i 0 : Nat) : Int) := by
  simp [ia, h, List.getD]
/-- A sorted permutation of what has the same members, none twice, is that. -/
theorem sorted_is {l ws : List Nat} {d : Array Int} (hl : l.Nodup) (hw : ws.Pairwise (· < ·)) (hm : ∀ x, x ∈ l ↔ x ∈ ws) (hp : Sort.PermIn 0 (ia l).size (ia l) d) (hs : Sort.SortedIn Sort.ltInt 0 (ia l).size d) : d.toList = ws.map fun (x : Nat) => (x : Int) := by
  obtain ⟨hsz, _, hperm⟩ := hp
  have e1 : d.extract 0 (ia l).size = d := by rw [← hsz]; exact Array.extract_size
  rw [e1, Array.extract_size] at hperm
  have hnw : ws.Nodup := hw.imp (fun h => by omega)
  have hpw : l.Perm ws := (List.perm_ext_iff_of_nodup hl hnw).2 hm
  have hp2 : d.toList.Perm (ws.map fun (x : Nat) => (x : Int)) := hperm.trans (by
    have : (ia l).toList = l.map fun (x : Nat) => (x : Int) := by simp [ia]
    rw [this]
    exact hpw.map _)
  refine List.Perm.eq_of_pairwise (le := fun a b : Int => a ≤ b) ?_ ?_ ?_ hp2
  · intro a b _ _ h1 h2
    omega
  · rw [List.pairwise_iff_getElem]
    intro i j hi hj hij
    have h := hs i j (Nat.zero_le _) hij (by rw [← hsz]; simpa using hj)
    simp only [Sort.ltInt, decide_eq_false_iff_not] at h
    have hi' : i < d.size := by simpa using hi
    have hj' : j < d.size := by simpa using hj
    simp only [hi', hj', getElem!_pos] at h
    simpa using h
  · rw [List.pairwise_map]
    exact hw.imp (fun h => by omega)
/-- What the range has met so far. -/
def Met (c : Nat) (ws : List Nat) (left : Lit → Bool) (l : List Nat) : Prop := l.Nodup ∧ ∀ x, x ∈ l ↔ x ∈ ws ∧ left (.int .u32 ((up c x : Nat) : Int)) = false
theorem met_start {c : Nat} {ws : List Nat} {D : DataW Unit} (hc : c < 4294967296) (hw : ∀ x ∈ ws, x ≤ 65535) (h : MapOk D c ws) : Met c ws (Maps.has D) [] := by
  refine ⟨List.nodup_nil, fun x => ⟨fun hm => by simp at hm, fun ⟨h1, h2⟩ => ?_⟩⟩
  rw [h.1 _ (up_lt c x), wy_up hc (by have := hw x h1; omega)] at h2
  simp [h1] at h2
theorem sameKey_u32 (a b : Nat) : (Lit.int .u32 (a : Int)).sameKey (.int .u32 (b : Int)) = decide (a = b) := by
  by_cases e : a = b
  · subst e
    rw [decide_eq_true rfl]
    exact WideAt.sameKey_self (by simp [WideAt.IsKeyLit])
  · rw [decide_eq_false e]
    exact sameKey_ne (fun e2 => by injection e2 with _ e3; exact e (by exact_mod_cast e3))
theorem met_step {c t : Nat} {ws l : List Nat} {left : Lit → Bool} (hc : c < 4294967296) (ht : t < 4294967296) (hw : ∀ x ∈ ws, x ≤ 65535) (h : Met c ws left l) (hl : left (.int .u32 (t : Int)) = true) (hm : wy c t ∈ ws) :
    Met c ws (fun z => left z && !z.sameKey (.int .u32 (t : Int))) (l ++ [wy c t]) := by
  have hn : wy c t ∉ l := fun hx => by
    have := ((h.2 _).1 hx).2
    rw [up_wy hc ht, hl] at this
    cases this
  refine ⟨List.nodup_append.2 ⟨h.1, by simp, fun a ha b hb e => by simp at hb; subst hb; subst e; exact hn ha⟩, fun x => ?_⟩
  rw [List.mem_append, h.2 x]
  simp only [List.mem_singleton, sameKey_u32]
  constructor
  · rintro (⟨h1, h2⟩ | rfl)
    · exact ⟨h1, by rw [h2, Bool.false_and]⟩
    · exact ⟨hm, by rw [up_wy hc ht]; simp⟩
  · rintro ⟨h1, h2⟩
    by_cases e : up c x = t
    · right
      rw [← e, wy_up hc (by have := hw x h1; omega)]
    · left
      refine ⟨h1, ?_⟩
      simpa [e] using h2
theorem wrap16 {x : Nat} (h : x ≤ 65535) : IntKind.u16.wrap (x : Int) = (x : Int) := by
  rw [IntKind.wrap_u16]; omega
theorem holds_ir {W : World} {g c : Nat} {l : List Nat} (h : Ir .u16 22 W (.slice (some ⟨g, 0, none⟩) l.length c) l) : Sort.Holds u16 W g 0 (ia l) := fun j hj => by
  rw [ia_size] at hj
  rcases h.2 with ⟨h1, h2⟩ | ⟨g2, cap, cur, h1, _, hg, _⟩
  · simp at h1
  · simp only [Value.slice.injEq, Option.some.injEq, Addr.mk.injEq] at h1
    obtain ⟨⟨rfl, _⟩, _, _⟩ := h1
    have hb : Bk W g cur 22 := hg
    have hc := h.row j _ (ns_get hj)
    obtain ⟨a, ha, hc⟩ := hc
    injection ha with ha
    subst ha
    rw [addr0] at hc
    rw [Nat.zero_add]
    exact ⟨by rw [hc, ia_get hj]; rfl, hb.frozen j⟩
set_option maxHeartbeats 1000000 in
theorem ways_any (W : World) (F : Nat → Prop) (s : Nat) (st : St) (h : PSet W F s st) :
    Calls Try.prog 96 #[.pointer (some ⟨s, 0, none⟩)] W fun e w' => ∃ g c, e = .returned (.slice (some ⟨g, 0, none⟩) st.ws.length c) ∧ Row w' (some ⟨g, 0, none⟩) (ns .u16 st.ws) ∧ Below W.heap.size W w' := by
  obtain ⟨⟨m, v, D, hb, hm, hM, hv, f1, f2, f3, f4⟩, ok⟩ := h
  have HC : Hid (∀ w2, Below W.heap.size W w2 → (w2.cell? ⟨s, 0, none⟩ = some (.int .u32 (st.cum : Int)) ∧ w2.cell? ⟨s, 1, none⟩ = some (.map (some m)))) := Lib.hid fun w2 hw => by
    have hb2 : Bk w2 s _ _ := (hw.block s hb.lt).trans hb
    exact ⟨(hb2.cell 0).trans rfl, (hb2.cell 1).trans rfl⟩
  have HLEN := Lib.hid (ris_len ok.2.1)
  have HM := Lib.hid hM
  have HO := Lib.hid hm
  have HOK := Lib.hid ok
  have hcs := HC.out W (Below.refl _ _)
  obtain ⟨c0, c1⟩ := hcs
  obtain ⟨i0, hi0, hz0, hz1, hz2⟩ := info_parts info16
  have HI := Lib.hid hi0
  have HZ0 := Lib.hid hz0
  have HZ1 := Lib.hid hz1
  have HZ2 := Lib.hid hz2
  have hsz : Hid (Maps.size D = st.ws.length) := Lib.hid hM.2
  clear hb hm hM hv ok hi0 hz0 hz1 hz2
  obtain ⟨w1, hrun, hown1, hg1⟩ := run_make_own (P := Try.prog) W 0 65 22 i0 (.int .u16 0) 1 Try.underlying65 HI.out HZ0.out HZ1.out .i64 .i64 st.ws.length (by rw [HZ2.out]; have := HLEN.out; omega) (by have := HLEN.out; unfold maxLen; omega) (Nat.zero_le _)
  have HI1 : Hid (Ir .u16 22 w1 (.slice (some ⟨W.heap.size, 0, none⟩) 0 st.ws.length) []) := Lib.hid hown1
  have HB1 : Hid (Below W.heap.size W w1) := Lib.hid ((Below.refl _ W).grown hg1 (Nat.le_refl _) (fun k hk => by cases hk))
  obtain ⟨c10, c11⟩ := HC.out w1 HB1.out
  have HO1 := Lib.hid (HO.out.kept hg1 (by simp))
  have hlt1 : W.heap.size < w1.heap.size := Ir.lt HI1.out rfl
  have HLT1 := Lib.hid hlt1
  clear hown1 hg1 hlt1
  go_enter Try.func96, Try.ntmps96
  go_wp2_with (first
    | (at_len; refine wpList_len_own _ rfl _ _ rfl 23 144 Try.underlying136 (unitElem (H := Unit)) m _ D rfl HO.out ?_; rw [hsz.out])
    | (at_range; refine wpList_range_own _ rfl _ 136 rfl 23 144 law32 Try.underlying136 (unitElem (H := Unit)) m _ D rfl HO1.out ?_; intro w2 hrg2 hg2 hs2))
  go_frame
  have HB2 : Hid (Below W.heap.size W w2) := Lib.hid (HB1.out.grown hg2 HB1.out.size (fun k hk => by cases hk))
  have HI2 : Hid (Ir .u16 22 w2 (.slice (some ⟨W.heap.size, 0, none⟩) 0 st.ws.length) []) := Lib.hid (HI1.out.kept hg2 (.inr (by simp [Value.ownBlock])))
  have HMET : Hid (Met st.cum st.ws (Maps.has D) []) := Lib.hid (met_start HOK.out.1 (fun x hx => (HOK.out.2.1.2 x hx).2) HM.out)
  obtain ⟨r, hr⟩ : ∃ r, r = w1.heap.size := ⟨_, rfl⟩
  rw [← hr] at hrg2 ⊢
  have hgr : W.heap.size < r := by rw [hr]; exact HLT1.out
  have HR2 := Lib.hid hrg2
  have HGR := Lib.hid hgr
  clear hr hrg2 hg2 hs2 HO1 HI1 HB1 HO c0 c1 c10 c11 hrun HLT1 hgr HI HZ0 HZ1 HZ2
  go_loopw [3, 4] (fun v3 _ wr => ∃ (left : Lit → Bool) (cnt : Nat) (l : List Nat) (g c n : Nat), v3 = .slice (some ⟨g, 0, none⟩) n c ∧ Hid (n = l.length) ∧ n ≤ 65535 ∧ Hid (n + cnt ≤ Maps.size D) ∧ Hid (Ir .u16 22 wr (.slice (some ⟨g, 0, none⟩) n c) l) ∧ Hid (W.heap.size ≤ g ∧ g ≠ r) ∧
      Hid (wr.ranges Try.prog 23 (unitElem (H := Unit)) m r st.ws.length D left cnt) ∧ Hid (Met st.cum st.ws left l) ∧ Hid (Below W.heap.size W wr)) (fun _ _ wr => wr.rangeLeft m r)
  case atStart => exact ⟨_, _, [], W.heap.size, st.ws.length, 0, rfl, rfl, by omega, Lib.hid (by simp), HI2, Lib.hid ⟨Nat.le_refl _, by have := HGR.out; omega⟩, HR2, HMET, HB2⟩
  case round =>
    obtain ⟨left, cnt, l, g, c, n, rfl, hnl, hn, hcnt, HI, HG, HR, HMT, HB⟩ := hrel
    clear HR2 HMET HI2 HB2
    have hcs := HC.out wr HB.out
    go_wp2_with (at_next; refine wpList_next_ranges _ rfl _ rfl 23 law32 (unitElem (H := Unit)) (fun x : Int => Value.int .u32 x) (fun _ : Unit => Value.agg #[]) (fun key kl hk => by obtain ⟨x, rfl, _⟩ := Maps.keyOf_int_inv Try.underlying23 hk; exact ⟨x, rfl⟩) (fun v y hv => by obtain ⟨rfl, _⟩ := unitElem_inv hv; exact ⟨(), rfl⟩) m r st.ws.length D left cnt rfl HR.out ?_ ?_)
    · intro _ hl0
      have hm : ∀ x, x ∈ l ↔ x ∈ st.ws := fun x => by rw [HMT.out.2 x, hl0]; simp
      have HMM := Lib.hid hm
      have hlen : l.length = st.ws.length := ((List.perm_ext_iff_of_nodup HMT.out.1 (HOK.out.2.1.1.imp (fun h => by omega))).2 hm).length_eq
      have hnw : n = st.ws.length := by rw [hnl.out, hlen]
      have HIR : Hid (Ir .u16 22 wr (.slice (some ⟨g, 0, none⟩) l.length c) l) := Lib.hid (by rw [← hnl.out]; exact HI.out)
      have hS := sort_any g 0 c (ia l) wr (holds_ir HIR.out) (Ir.lt HIR.out rfl) (by rw [ia_size, hlen]; have := HLEN.out; omega)
      rw [ia_size, hlen, ← hnw] at hS
      have HSRT := Lib.hid hS
      have HNW := Lib.hid hnw
      have HLL := Lib.hid hlen
      clear hl0 hm hlen hnw hS hcs
      go_wp2_with fail
      refine HSRT.out.mono ?_
      rintro e w3 ⟨d', rfl, hp, hso, hw⟩
      have hd : d'.toList = st.ws.map fun (x : Nat) => (x : Int) := sorted_is HMT.out.1 HOK.out.2.1.1 HMM.out (by rw [ia_size, HLL.out, ← HNW.out]; exact hp) (by rw [ia_size, HLL.out, ← HNW.out]; exact hso)
      have HD := Lib.hid hd
      have HW := Lib.hid hw
      clear hd hp hso hw
      go_wp2_with fail
      go_ret
      refine ⟨g, c, by rw [← HNW.out]; rfl, fun i v hv => ⟨_, rfl, ?_⟩, HB.out.grown HW.out.2 HB.out.size (fun k hk => by injection hk with e; rw [← e]; exact HG.out.1)⟩
      have hi : i < st.ws.length := by
        have := (List.getElem?_eq_some_iff.1 hv).1
        rwa [ns_len] at this
      have hds : d'.size = st.ws.length := by
        have := congrArg List.length HD.out
        simpa using this
      rw [ns_get hi] at hv
      injection hv with hv
      rw [← hv, addr0]
      have h1 := (HW.out.1 i (by omega)).1
      rw [Nat.zero_add] at h1
      rw [h1]
      have h2 : d'[i]! = ((st.ws.getD i 0 : Nat) : Int) := by
        have hi2 : i < d'.size := by rw [hds]; exact hi
        have hi3 : i < d'.toList.length := by simpa using hi2
        rw [getElem!_pos d' i hi2, show d'[i] = d'.toList[i] from rfl]
        simp [HD.out, List.getD, hi]
      rw [h2]
      rfl
    · intro x kl yd yp w1 cnt1 hkey hlk hy hat hrg1 hlt1 hgr1 hsz1 hen
      obtain ⟨x', ex, rfl, hwx⟩ := Maps.keyOf_int_inv Try.underlying23 hkey
      obtain rfl : x = x' := by injection ex
      obtain ⟨t, rfl⟩ : ∃ t : Nat, x = t := ⟨x.toNat, by have := wf_u32 hwx; omega⟩
      have ht : t < 4294967296 := by have := wf_u32 hwx; omega
      have hin : wy st.cum t ∈ st.ws := by
        have h1 := has_true_of_atKey hat
        rw [HM.out.1 t ht] at h1
        simpa using h1
      have HMET := Lib.hid (met_step HOK.out.1 ht (fun x hx => (HOK.out.2.1.2 x hx).2) HMT.out hlk hin)
      have hle := (HOK.out.2.1.2 _ hin).2
      have HSP := Lib.hid (span_any st.cum t w1 HOK.out.1 ht)
      have hwb : Below W.heap.size W w1 := HB.out.grown hgr1 HB.out.size (fun k hk => by injection hk with e; rw [← e]; have := HGR.out; omega)
      have HIR : Hid (Ir .u16 22 w1 (.slice (some ⟨g, 0, none⟩) n c) l) := Lib.hid (HI.out.kept hgr1 (.inr (by simpa [Value.ownBlock] using HG.out.2)))
      have HB1 := Lib.hid hwb
      have HRG1 := Lib.hid hrg1
      have HLT1 := Lib.hid hlt1
      have HEN := Lib.hid hen
      have hcs1 := HC.out w1 hwb
      obtain ⟨c10, c11⟩ := hcs1
      clear hcs hkey ex hwx hlk hy hat hin hwb hrg1 hlt1 hgr1 hsz1 HI HB
      generalize wy st.cum t = y at HMET hle HSP
      have hwr := wrap16 hle
      go_wp2_with (first | (go_at_call 77; refine HSP.out.mono ?_; rintro e w' ⟨rfl, rfl⟩) | (at_builtin; refine ir_app (k := .u16) (E := 22) (S := 65) Try.underlying65 info16 (by omega) rfl _ _ rfl (.slice (some ⟨g, 0, none⟩) n c) l rfl (HIR.out.kept (World.grownBy_alloc w1 _ none) (.inr (by simp [Value.ownBlock]))) y w1.heap.size 1 22 rfl (Bk.new w1 _ _) (by have := hnl.out; omega) ?_; intro g' c' w2 hown2 hgr2 hat2))
      have hgg : W.heap.size ≤ g' ∧ g' ≠ r := by
        rcases hat2 with h | h
        · obtain rfl : g = g' := by simpa [Value.ownBlock] using h
          exact HG.out
        · have h2 : g' = w1.heap.size + 1 := by simpa using h
          have := HB1.out.size
          have := HRG1.out.lt
          omega
      have hrk : w2.ranges Try.prog 23 (unitElem (H := Unit)) m r st.ws.length D _ cnt1 := (HRG1.out.alloc _).kept hgr2 (by
        simp only [Value.ownBlock, ne_eq, Option.some.injEq]
        have := f4 m f2
        have := HG.out.1
        omega) (by
        simp only [Value.ownBlock, ne_eq, Option.some.injEq]
        exact HG.out.2.symm)
      go_roundw
      case rel => exact ⟨_, cnt1, l ++ [y], g', c', l.length + 1, rfl, Lib.hid (by simp), by have := hcnt.out; have := hsz.out; have := HLEN.out; have := HLT1.out; have := hnl.out; omega, Lib.hid (by have := hcnt.out; have := HLT1.out; have := hnl.out; omega), Lib.hid hown2, Lib.hid hgg, Lib.hid hrk, HMET, Lib.hid (((HB1.out.alloc HB1.out.size _)).grown hgr2 (by have := HB1.out.size; simp; omega) (fun k hk => by
        have : g = k := by simpa [Value.ownBlock] using hk
        rw [← this]; exact HG.out.1))⟩
      case measure => rw [hrk.left_eq, HR.out.left_eq]; exact HLT1.out
end Gp
end Go.Proofs.Ytednkcjmlpgipaa
/-
  Rows of gaps of the call's own.
-/
namespace Go.Proofs.Ytednkcjmlpgipaa
open Go.RowKit Go.Maps
namespace Gp
set_option linter.unusedVariables false

/-- Gaps as cells: two each. -/
def gs (l : List (Nat × Nat)) : List Value := l.flatMap fun p => [Value.int .u16 (p.1 : Int), Value.int .u16 (p.2 : Int)]
theorem gs_len (l : List (Nat × Nat)) : (gs l).length = l.length * 2 := by
  induction l with
  | nil => rfl
  | cons p l ih => simp [gs] at ih ⊢; omega
theorem gs_app (l m : List (Nat × Nat)) : gs l ++ gs m = gs (l ++ m) := by simp [gs]
theorem gs_get : ∀ {l : List (Nat × Nat)} {i : Nat} (h : i < l.length), (gs l)[i * 2]? = some (.int .u16 ((l[i].1 : Nat) : Int)) ∧ (gs l)[i * 2 + 1]? = some (.int .u16 ((l[i].2 : Nat) : Int))
  | p :: l, 0, _ => by simp [gs]
  | p :: l, i + 1, h => by
    have e : gs (p :: l) = [Value.int .u16 (p.1 : Int), Value.int .u16 (p.2 : Int)] ++ gs l := by simp [gs]
    have ih := gs_get (l := l) (i := i) (by simpa using h)
    rw [e, List.getElem?_append_right (by simp; omega), List.getElem?_append_right (by simp; omega)]
    simp only [List.length_cons, List.length_nil, List.getElem_cons_succ]
    rw [show (i + 1) * 2 - (0 + 1 + 1) = i * 2 by omega, show (i + 1) * 2 + 1 - (0 + 1 + 1) = i * 2 + 1 by omega]
    exact ih
theorem gs_one (l : List (Nat × Nat)) : ∀ u ∈ gs l, u.oneCell' = true := fun u hu => by
  simp only [gs, List.mem_flatMap] at hu
  obtain ⟨p, _, hp⟩ := hu
  simp at hp
  rcases hp with rfl | rfl <;> rfl
theorem gs_last (l : List (Nat × Nat)) (p : Nat × Nat) (w : Nat) : (gs (l ++ [p])).set (l.length * 2 + 1) (.int .u16 (w : Int)) = gs (l ++ [(p.1, w)]) := by
  rw [← gs_app, ← gs_app, List.set_append_right _ _ (by rw [gs_len]; omega), gs_len, show l.length * 2 + 1 - l.length * 2 = 1 by omega]
  rfl
def Gr (W : World) (v : Value) (l : List (Nat × Nat)) : Prop := W.ownsRow 0 113 2 v l.length (gs l)
theorem Gr.nil (W : World) : Gr W (.slice none 0 0) [] := World.ownsRow_nil _ _ _ _
theorem Gr.kept {W W' : World} {v : Value} {l : List (Nat × Nat)} {row : Option Nat} (h : Gr W v l) (hg : W.grownBy W' row) (hne : v.ownBlock = none ∨ v.ownBlock ≠ row) : Gr W' v l := World.ownsRow.kept h hg hne
theorem Gr.row {W : World} {A : Option Addr} {n c : Nat} {l : List (Nat × Nat)} (h : Gr W (.slice A n c) l) : Row W A (gs l) := fun i v hv => by
  rcases id h.2 with ⟨_, h0⟩ | ⟨g, cap, cur, hv2, _⟩
  · have := h.1
    have h1 := (List.getElem?_eq_some_iff.1 hv).1
    omega
  · simp only [Value.slice.injEq] at hv2
    obtain ⟨rfl, _, _⟩ := hv2
    exact ⟨_, rfl, h.cells (g := g) rfl i v hv⟩
theorem infoG : (Try.prog.info? 113).map (fun i => (i.zero, i.size, i.bytes)) = some (some (.agg #[.int .u16 0, .int .u16 0]), 2, 4) := by kernel_rfl
/-- An append of one gap. -/
theorem gr_app {w : World} {ops : Array Oper} {rest : List Oper} {o : Oper} {a : Act} {Q : Exit → Act → World → Prop} (hgd : o.guard = none) (s x : Operand)
    (ho : o.op = .call { callee := .builtin .append, args := #[s, x], argTypes := #[44, 44] }) (v : Value) (l : List (Nat × Nat)) (hs : a.eval s = v) (hown : Gr w v l) (y1 y2 : Nat)
    (B cap : Nat) (t : TypeId) (hx : a.eval x = .slice (some ⟨B, 0, none⟩) 1 cap) (hB : Bk w B #[.int .u16 (y1 : Int), .int .u16 (y2 : Int)] t) (hlen : l.length ≤ 100000)
    (h : ∀ g c w', Gr w' (.slice (some ⟨g, 0, none⟩) (l.length + 1) c) (l ++ [(y1, y2)]) → w.grownBy w' v.ownBlock → (v.ownBlock = some g ∨ g = w.heap.size) → wpList Try.prog ops Q rest (a.put o.dst (.slice (some ⟨g, 0, none⟩) (l.length + 1) c)) w') :
    wpList Try.prog ops Q (o :: rest) a w := by
  obtain ⟨i0, hi0, hz0, hz1, hz2⟩ := info_parts infoG
  refine wpList_append_lies w hgd s x 44 ho 0 113 i0 (.agg #[.int .u16 0, .int .u16 0]) 2 4 Try.underlying44 hi0 hz0 hz1 hz2 rfl (by omega) v l.length (gs l) hs hown ⟨B, 0, none⟩ 1 cap (gs [(y1, y2)]) hx rfl ?_ (gs_one _) (by omega) (by unfold maxLen; omega) (by omega) (Nat.zero_le _) _ rfl ?_
  · intro j u hj
    have := World.news_of_block (w := w) hB j u
    simpa [gs] using this (by simpa [gs] using hj)
  · intro g c w' ho2 hg2 hat hlt
    refine h g c w' ?_ hg2 hat
    show w'.ownsRow 0 _ 2 _ (l ++ [(y1, y2)]).length (gs (l ++ [(y1, y2)]))
    rw [← gs_app, List.length_append]
    exact ho2
/-- The last gap ends later. -/
theorem Gr.last {W : World} {g n c : Nat} {l : List (Nat × Nat)} {p : Nat × Nat} (h : Gr W (.slice (some ⟨g, 0, none⟩) n c) (l ++ [p])) (w : Nat) :
    Gr (W.setCell ⟨g, l.length * 2 + 1, none⟩ (.int .u16 (w : Int))) (.slice (some ⟨g, 0, none⟩) n c) (l ++ [(p.1, w)]) := by
  have hn : n = (l ++ [p]).length := by
    rcases h.2 with ⟨h1, h2⟩ | ⟨g2, cap, cur, h1, _⟩
    · simp at h1
    · simp only [Value.slice.injEq] at h1; exact h1.2.1
  subst hn
  have := (World.ownsRow.stored h (l.length * 2 + 1) (.int .u16 (w : Int))).1
  rw [gs_last] at this
  have e : (l ++ [(p.1, w)]).length = (l ++ [p]).length := by simp
  show World.ownsRow _ 0 _ 2 _ (l ++ [(p.1, w)]).length _
  rw [e]
  exact this
theorem row_far {W W' : World} {g : Nat} {l : List Value} {row : Option Nat} (h : Row W (some ⟨g, 0, none⟩) l) (hg : W.grownBy W' row) (hne : some g ≠ row) : Row W' (some ⟨g, 0, none⟩) l := fun i v hv => by
  obtain ⟨a, ha, hc⟩ := h i v hv
  injection ha with ha
  subst ha
  refine ⟨_, rfl, ?_⟩
  rw [addr0] at hc ⊢
  exact hg.cell hc hne
/-- Where a row of gaps lies, behind an append. -/
theorem lies_new {W wr w2 : World} {gw g' n c : Nat} {A : Option Addr} {o : Obj} (hA : ∀ a, A = some a → W.heap.size ≤ a.block ∧ a.block ≠ gw) (hb : Below W.heap.size W wr) (hgw : gw < wr.heap.size)
    (hat : (Value.slice A n c).ownBlock = some g' ∨ g' = (wr.alloc o).heap.size) : ∀ a, some (⟨g', 0, none⟩ : Addr) = some a → W.heap.size ≤ a.block ∧ a.block ≠ gw := fun a ha => by
  injection ha with ha
  subst ha
  rcases hat with h | h
  · cases A with
    | none => cases h
    | some a =>
      obtain rfl : a.block = g' := by simpa [Value.ownBlock] using h
      exact hA a rfl
  · have h2 : g' = wr.heap.size + 1 := by simpa using h
    have := hb.size
    exact ⟨by show W.heap.size ≤ g'; omega, by show g' ≠ gw; omega⟩
theorem own_far {W : World} {gw n c : Nat} {A : Option Addr} (hA : ∀ a, A = some a → W.heap.size ≤ a.block ∧ a.block ≠ gw) : some gw ≠ (Value.slice A n c).ownBlock ∧ ∀ k, (Value.slice A n c).ownBlock = some k → W.heap.size ≤ k := by
  cases A with
  | none => exact ⟨by simp [Value.ownBlock], fun k hk => by cases hk⟩
  | some a =>
    obtain ⟨h1, h2⟩ := hA a rfl
    exact ⟨by simp [Value.ownBlock]; exact fun e => h2 e.symm, fun k hk => by
      have : a.block = k := by simpa [Value.ownBlock] using hk
      rw [← this]; exact h1⟩
end Gp
end Go.Proofs.Ytednkcjmlpgipaa
/-
  The document's set: way, Has, Take; rows that are held against each other.
-/
namespace Go.Proofs.Ytednkcjmlpgipaa
open Go.RowKit Go.Maps
namespace Gp
set_option linter.unusedVariables false

theorem DSet.cells {W : World} {F : Nat → Prop} {s : Nat} {st : St} (h : DSet W F s st) :
    ∃ vw v, (W.cell? ⟨s, 0, none⟩ = some (.int .u32 (st.cum : Int)) ∧ W.cell? ⟨s, 1, none⟩ = some vw ∧ W.cell? ⟨s, 2, none⟩ = some v) ∧ (W.frozen? ⟨s, 0, none⟩ = false ∧ W.frozen? ⟨s, 1, none⟩ = false ∧ W.frozen? ⟨s, 2, none⟩ = false) ∧
      Ir .i64 2 W vw st.ws ∧ Ir .u32 23 W v st.ds ∧ st.Ok := by
  obtain ⟨vw, v, hb, hw, hv, f1, f2, f3, f4, ok⟩ := h
  exact ⟨vw, v, ⟨(hb.cell 0).trans rfl, (hb.cell 1).trans rfl, (hb.cell 2).trans rfl⟩, ⟨hb.frozen 0, hb.frozen 1, hb.frozen 2⟩, hw, hv, ok⟩
theorem rw_any (W : World) (F : Nat → Prop) (s t : Nat) (st : St) (h : DSet W F s st) (ht : t < 4294967296) :
    Calls Try.prog 88 #[.pointer (some ⟨s, 0, none⟩), .int .u32 (t : Int)] W fun e w' => e = .returned (.int .i64 (wy st.cum t : Nat)) ∧ W = w' := by
  obtain ⟨vw, v, ⟨c0, _, _⟩, _, _, _, ok⟩ := h.cells
  have hc := ok.1
  clear h ok
  obtain ⟨c, hcc⟩ : ∃ c, c = st.cum := ⟨_, rfl⟩
  rw [← hcc] at hc c0 ⊢
  clear hcc
  have HW := Lib.hid (rway_any c t W hc ht)
  go_enter Try.func88, Try.ntmps88
  go_wp2_with (go_at_call 56; refine HW.out.mono ?_; rintro e w' ⟨rfl, rfl⟩)
  go_ret
  exact ⟨rfl, rfl⟩
theorem mem_getD {l : List Nat} {x : Nat} : x ∈ l ↔ ∃ i, i < l.length ∧ l.getD i 0 = x := by
  rw [List.mem_iff_getElem]
  constructor
  · rintro ⟨i, h, e⟩
    exact ⟨i, h, by rw [← e]; simp [List.getD, h]⟩
  · rintro ⟨i, h, e⟩
    exact ⟨i, h, by rw [← e]; simp [List.getD, h]⟩
set_option maxHeartbeats 1000000 in
theorem rhas_any (W : World) (F : Nat → Prop) (s t : Nat) (st : St) (h : DSet W F s st) (ht : t < 4294967296) :
    Calls Try.prog 57 #[.pointer (some ⟨s, 0, none⟩), .int .u32 (t : Int)] W fun e w' => e = .returned (.bool (st.has t)) ∧ W = w' := by
  obtain ⟨vw, v, ⟨c0, c1, _⟩, _, hw, _, ok⟩ := h.cells
  have HWY := Lib.hid (rw_any W F s t st h ht)
  have HBF := Lib.hid (rbefore_any t st.cum W ht ok.1)
  have hh : st.has t = (decide (wy st.cum t ∈ st.ws) || (decide (wy st.cum t = 0) || bfr t st.cum)) := by
    have h1 : decide (t = st.cum) = decide (wy st.cum t = 0) := by
      rw [decide_eq_decide]
      have := ok.1
      unfold wy; omega
    unfold St.has
    rw [psd_eq ok.1 ht, h1, Bool.or_comm]
  have HH := Lib.hid hh
  have HLEN := Lib.hid (ris_len ok.2.1)
  clear h hh ok
  generalize st.has t = r at HH ⊢
  generalize bfr t st.cum = bf at HH HBF
  have hyl := wy_lt st.cum t
  generalize wy st.cum t = y at HH HWY hyl
  obtain ⟨c, hcc⟩ : ∃ c, c = st.cum := ⟨_, rfl⟩
  obtain ⟨ws, hws⟩ : ∃ ws, ws = st.ws := ⟨_, rfl⟩
  rw [← hcc] at HBF c0
  rw [← hws] at hw HH HLEN
  clear hcc hws
  obtain ⟨A, cp, rfl, hlc, hcm, hA⟩ := hw.form
  have HR := Lib.hid hw.row
  obtain ⟨n, hn⟩ : ∃ n, n = ws.length := ⟨_, rfl⟩
  rw [← hn] at c1 hlc HLEN
  have HN := Lib.hid hn
  have hn9 := HLEN.out
  clear hn hw hA hcm
  go_enter Try.func57, Try.ntmps57
  go_wp2_with fail
  refine HWY.out.mono ?_
  rintro e w' ⟨rfl, rfl⟩
  go_wp2_with fail
  go_loop [6] (fun i => ∃ k : Nat, k ≤ n ∧ i = .int .i64 k ∧ Hid (∀ i, i < k → ws.getD i 0 ≠ y)) (fun i => n - (iof i).toNat)
  case atStart => exact ⟨0, Nat.zero_le _, rfl, Lib.hid (fun i hi => by omega)⟩
  case round =>
    obtain ⟨k, hk, rfl, HK⟩ := hrel
    by_cases hlt : k < n
    · have hkl : k < ws.length := by rw [← HN.out]; exact hlt
      obtain ⟨a, rfl, hc⟩ := HR.out k _ (ns_get hkl)
      by_cases he : ws.getD k 0 = y
      · have HRT : Hid (r = true) := Lib.hid (by
          rw [HH.out, decide_eq_true (mem_getD.2 ⟨k, hkl, he⟩), Bool.true_or])
        rw [he] at hc
        clear he hkl
        go_wp2_with fail
        go_ret
        exact ⟨ret_b HRT.out.symm, rfl⟩
      · have heq : (((ws.getD k 0 : Nat) : Int) == (y : Int)) = false := by simp only [beq_eq_false_iff_ne, ne_eq]; omega
        have HK2 : Hid (∀ i, i < k + 1 → ws.getD i 0 ≠ y) := Lib.hid fun i hi => by
          rcases Nat.lt_or_ge i k with h | h
          · exact HK.out i h
          · obtain rfl : i = k := by omega
            exact he
        clear he hkl
        generalize ws.getD k 0 = x at hc heq
        go_wp2_with fail
        go_round
        case rel => exact ⟨k + 1, by omega, by go_num, HK2⟩
        case measure => simp [iof] <;> omega
    · have hkn : k = n := by omega
      have hnm : y ∉ ws := fun hm => by
        obtain ⟨i, hi, he⟩ := mem_getD.1 hm
        exact HK.out i (by rw [hkn, HN.out]; exact hi) he
      have HRT : Hid (r = (decide (y = 0) || bf)) := Lib.hid (by rw [HH.out, decide_eq_false hnm, Bool.false_or])
      clear hkn hnm
      by_cases hy : y = 0
      · have hy0 : ((y : Int) == 0) = true := by simp only [beq_iff_eq]; omega
        have HR2 : Hid (r = true) := Lib.hid (by rw [HRT.out, decide_eq_true hy, Bool.true_or])
        clear hy
        go_wp2_with (go_at_call 89; refine HBF.out.mono ?_; rintro e w' ⟨rfl, rfl⟩)
        go_ret
        exact ⟨ret_b HR2.out.symm, rfl⟩
      · have hy0 : ((y : Int) == 0) = false := by simp only [beq_eq_false_iff_ne, ne_eq]; omega
        have HR2 : Hid (r = bf) := Lib.hid (by rw [HRT.out, decide_eq_false hy, Bool.false_or])
        clear hy
        go_wp2_with (go_at_call 89; refine HBF.out.mono ?_; rintro e w' ⟨rfl, rfl⟩)
        go_ret
        exact ⟨ret_b HR2.out.symm, rfl⟩
theorem rtake_any (W : World) (F : Nat → Prop) (s : Nat) (st : St) (h : DSet W F s st) :
    Calls Try.prog 64 #[.pointer (some ⟨s, 0, none⟩)] W fun e w' => ∃ A c, e = .returned (.slice A st.ds.length c) ∧ Row w' A (ns .u32 st.ds) ∧ (∀ a, A = some a → F a.block) ∧ DSet w' F s { st with ds := [] } ∧ Kp W w' F := by
  obtain ⟨vw, v, hb, hw, hv, f1, f2, f3, f4, ok⟩ := h
  obtain ⟨A, c, rfl, hlc, hcm, hA⟩ := hv.form
  have c2 := (hb.cell 2).trans rfl
  have z2 := hb.frozen 2
  have hg := setc_grown W s 2 (.slice none 0 0)
  have HV := Lib.hid (Ir.kept hv hg (.inr (hv.off hb (by decide))))
  have HW := Lib.hid (Ir.kept hw hg (.inr (hw.off hb (by decide))))
  have HB := Lib.hid (hb.set 2 (.slice none 0 0))
  have HOK := Lib.hid ok
  have HA := Lib.hid hA
  have HG := Lib.hid hg
  clear hb hw hv ok hA hg hcm
  go_enter Try.func64, Try.ntmps64
  go_wp2_with fail
  go_ret
  exact ⟨A, c, rfl, HV.out.row, fun a ha => f3 _ (HA.out a ha), ⟨vw, _, HB.out, HW.out, Ir.nil _ _ _, f1, f2, (fun g hg => by cases hg), fun k hk => Nat.lt_of_lt_of_le (f4 k hk) HG.out.size, ⟨HOK.out.1, HOK.out.2.1, by simp, by simp⟩⟩, Kp.grown HG.out (fun g hg => by injection hg with e; rw [← e]; exact f1)⟩
end Gp
end Go.Proofs.Ytednkcjmlpgipaa
/-
  The document's gaps.
-/
namespace Go.Proofs.Ytednkcjmlpgipaa
set_option maxRecDepth 4000
open Go.RowKit Go.Maps
namespace Gp
set_option linter.unusedVariables false

theorem cut_gaps (g n c : Nat) (h : 64 ≤ c) (W : World) : (Instr.slice 44 (.slice (some ⟨g, 0, none⟩) n c) none (some (.int .i64 64)) none).run Try.prog W = .ok (.slice (some ⟨g, 0, none⟩) 64 c) W := by
  have he : Try.prog.elem 44 = 113 := by simp [Program.elem, Try.underlying44]
  rw [run_slice_h W 44 (some ⟨g, 0, none⟩) n c Try.underlying44 .i64 64 (by omega) (by omega), he, Try.sizeOf113]
  simp [Result.andThen, sliced, Addr.add]
theorem lies_new' {W wr : World} {g' n c : Nat} {A : Option Addr} {o : Obj} (hA : ∀ a, A = some a → W.heap.size ≤ a.block) (hb : Below W.heap.size W wr)
    (hat : (Value.slice A n c).ownBlock = some g' ∨ g' = (wr.alloc o).heap.size) : ∀ a, some (⟨g', 0, none⟩ : Addr) = some a → W.heap.size ≤ a.block := fun a ha => by
  injection ha with ha
  subst ha
  rcases hat with h | h
  · cases A with
    | none => cases h
    | some a =>
      obtain rfl : a.block = g' := by simpa [Value.ownBlock] using h
      exact hA a rfl
  · have h2 : g' = wr.heap.size + 1 := by simpa using h
    have := hb.size
    show W.heap.size ≤ g'
    omega
theorem own_far' {W : World} {n c : Nat} {A : Option Addr} (hA : ∀ a, A = some a → W.heap.size ≤ a.block) : ∀ k, (Value.slice A n c).ownBlock = some k → W.heap.size ≤ k := by
  cases A with
  | none => exact fun k hk => by cases hk
  | some a =>
    exact fun k hk => by
      have : a.block = k := by simpa [Value.ownBlock] using hk
      rw [← this]; exact hA a rfl
set_option maxHeartbeats 2000000 in
theorem rgaps_any (W : World) (F : Nat → Prop) (s : Nat) (st : St) (h : DSet W F s st) :
    Calls Try.prog 63 #[.pointer (some ⟨s, 0, none⟩)] W fun e w' => ∃ A c, e = .returned (.slice A st.gaps.length c) ∧ Row w' A (gs st.gaps) ∧ Below W.heap.size W w' := by
  obtain ⟨vw, v, hb, hw, hv, f1, f2, f3, f4, ok⟩ := h
  obtain ⟨B, cb, rfl, hlc, hcm, hA⟩ := hw.form
  have hC : ∀ w2, Below W.heap.size W w2 → (w2.cell? ⟨s, 1, none⟩ = some (.slice B st.ws.length cb) ∧ Row w2 B (ns .i64 st.ws)) := fun w2 hw2 => by
    have hb2 : Bk w2 s _ _ := (hw2.block s hb.lt).trans hb
    exact ⟨(hb2.cell 1).trans rfl, hw.row.below hw2⟩
  have HRIS := Lib.hid ok.2.1
  have HLEN := Lib.hid (ris_len ok.2.1)
  have HGP : Hid (st.gaps = (runs st.ws).take 64) := Lib.hid rfl
  clear hb hw hv f1 f2 f3 f4 ok hA hcm
  obtain ⟨ws, hws⟩ : ∃ ws, ws = st.ws := ⟨_, rfl⟩
  rw [← hws] at hC HRIS HLEN HGP hlc
  clear hws
  generalize st.gaps = gg at HGP ⊢
  obtain ⟨nw, hnw⟩ : ∃ nw, nw = ws.length := ⟨_, rfl⟩
  rw [← hnw] at hC HLEN hlc
  have HNW := Lib.hid hnw
  have HC := Lib.hid hC
  have hnw9 := HLEN.out
  clear hnw hC
  go_enter Try.func63, Try.ntmps63
  go_wp2_with fail
  go_loopw [3, 4, 5] (fun v3 v4 _ wr => ∃ (k : Nat) (A : Option Addr) (c n : Nat) (l : List (Nat × Nat)), v4 = .int .i64 k ∧ k ≤ nw ∧ v3 = .slice A n c ∧ n ≤ k ∧ Hid (l = runs (ws.take k)) ∧ Hid (n = l.length) ∧ Hid (Gr wr (.slice A n c) l) ∧ Hid (∀ a, A = some a → W.heap.size ≤ a.block) ∧ Hid (Below W.heap.size W wr)) (fun _ v4 _ _ => nw - (iof v4).toNat)
  case atStart => exact ⟨0, none, 0, 0, [], rfl, Nat.zero_le _, rfl, Nat.le_refl _, Lib.hid (by simp [runs]), rfl, Gr.nil _, Lib.hid (fun a ha => by cases ha), Lib.hid (Below.refl _ _)⟩
  case round =>
    obtain ⟨k, A, c, n, l, rfl, hk, rfl, hn, HL, HN, HG, HA, HB⟩ := hrel
    obtain ⟨c1, hrow⟩ := HC.out wr HB.out
    have HR := Lib.hid hrow
    clear hrow
    by_cases hlt : k < nw
    · have hkl : k < ws.length := by rw [← HNW.out]; exact hlt
      have hwv := ris_at HRIS.out hkl
      obtain ⟨b, rfl, hcw⟩ := HR.out k _ (ns_get hkl)
      have HST : Hid (runs (ws.take (k + 1)) = gstep l (ws.getD k 0)) := Lib.hid (by rw [take_snoc hkl, runs_snoc, HL.out])
      have HPRE : Hid (∀ j, k = j + 1 → ∃ x : Nat, wr.cell? (b.add j) = some (.int .i64 (x : Int)) ∧ x < ws.getD k 0 ∧ ∃ m p, l = m ++ [p] ∧ p.2 = x) := Lib.hid fun j hj => by
        have hjl : j < ws.length := by omega
        obtain ⟨b', hb', hcb⟩ := HR.out j _ (ns_get hjl)
        injection hb' with hb'
        subst hb'
        refine ⟨ws.getD j 0, hcb, ris_lt HRIS.out (by omega) hkl, ?_⟩
        obtain ⟨p, hp, hp2⟩ := runs_last (ws.take j) (ws.getD j 0)
        rw [← take_snoc hjl, ← hj, ← HL.out] at hp
        obtain ⟨m, hm⟩ := List.getLast?_eq_some_iff.1 hp
        exact ⟨m, p, hm, hp2⟩
      have hL0 : Hid (k = 0 → l = []) := Lib.hid fun e => by rw [HL.out, e]; simp [runs]
      generalize ws.getD k 0 = w at hwv hcw HST HPRE
      have hw16 := wrap16 hwv.2
      clear hkl
      by_cases hk0 : k = 0
      · have hl0 := hL0.out hk0
        subst hl0
        have hn0 : n = 0 := by simpa using HN.out
        subst hn0
        subst hk0
        rw [show b.add 0 = b by simp [Addr.add]] at hcw
        go_wp2_with fail
        go_quiet (fail)
        go_wp2_with (at_builtin; refine gr_app rfl _ _ rfl (.slice A 0 c) [] rfl (HG.out.kept ((grown_drewN (grown_refl wr none) nq).trans (World.grownBy_alloc (wr.drewN nq) _ none)) (by cases hv : (Value.slice A 0 c).ownBlock <;> simp)) w w wr.heap.size 1 113 rfl (Bk.new (wr.drewN nq) _ _) (by simp) ?_; intro g' c' w2 hown2 hgr2 hat2)
        go_roundw
        case rel => exact ⟨1, some ⟨g', 0, none⟩, c', 1, [(w, w)], by go_num, by omega, rfl, by omega, Lib.hid (by rw [HST.out]; rfl), rfl, Lib.hid hown2, Lib.hid (lies_new' (n := 0) (c := c) HA.out (below_drewN HB.out nq) hat2), Lib.hid (((below_drewN HB.out nq).alloc HB.out.size _).grown hgr2 (by have := HB.out.size; simp; omega) (own_far' (n := 0) (c := c) HA.out))⟩
        case measure => simp [iof] <;> omega
      · obtain ⟨j, rfl⟩ : ∃ j, k = j + 1 := ⟨k - 1, by omega⟩
        obtain ⟨x, hcx, hxw, m, p, rfl, rfl⟩ := HPRE.out j rfl
        obtain ⟨g, rfl⟩ : ∃ g, A = some ⟨g, 0, none⟩ := by
          have hf := (World.ownsRow.form HG.out (by simp))
          obtain ⟨g, cap, he, _⟩ := hf
          simp only [Value.slice.injEq] at he
          exact ⟨g, he.1⟩
        have hnm : n = m.length + 1 := by have := HN.out; simpa using this
        obtain ⟨q, hqm⟩ : ∃ q, q = m.length := ⟨_, rfl⟩
        have hcp : wr.cell? ⟨g, q * 2 + 1, none⟩ = some (.int .u16 (p.2 : Int)) := by
          rw [World.ownsRow.cellAt (n := n) (cap := c) (by have := HG.out; unfold Gr at this; rw [← HN.out] at this; exact this) _ (by omega)]
          have := (gs_get (l := m ++ [p]) (i := m.length) (by simp)).2
          rw [hqm]
          simpa using this
        have hfz : wr.frozen? ⟨g, q * 2 + 1, none⟩ = false := World.ownsRow.frozenAt (n := n) (cap := c) (by have := HG.out; unfold Gr at this; rw [← HN.out] at this; exact this) _
        rw [← hqm] at hnm
        have HQ := Lib.hid hqm
        subst hnm
        have hcw2 : wr.cell? { block := b.block, off := b.off + (j + 1) } = some (.int .i64 (w : Int)) := by simpa [Addr.add] using hcw
        have e1 : ((j + 1 : Nat) : Int) - 1 = j := by omega
        have e2 : ((q + 1 : Nat) : Int) - 1 = q := by omega
        have hpos : (0 : Int) < ((j + 1 : Nat) : Int) := by omega
        clear hqm hk0 HPRE hL0
        by_cases hadj : p.2 + 1 = w
        · have hq : ((p.2 : Int) + 1 == (w : Int)) = true := by simp only [beq_iff_eq]; omega
          have HNEW : Hid (m ++ [(p.1, w)] = runs (ws.take (j + 1 + 1))) := Lib.hid (by rw [HST.out, gstep_on hadj])
          clear hadj
          go_wp2_with fail
          go_quiet (fail)
          go_wp2_with fail
          have hgs := (grown_drewN (grown_refl wr (some g)) nq).trans (setc_grown (wr.drewN nq) g (q * 2 + 1) (.int .u16 (w : Int)))
          have hG2 : Gr ((wr.drewN nq).setCell ⟨g, q * 2 + 1, none⟩ (.int .u16 (w : Int))) (.slice (some ⟨g, 0, none⟩) (q + 1) c) (m ++ [(p.1, w)]) := by
            have := Gr.last (W := wr.drewN nq) (g := g) (n := q + 1) (c := c) (l := m) (p := p) HG.out w
            rw [← HQ.out] at this
            exact this
          go_roundw
          case rel => exact ⟨j + 1 + 1, some ⟨g, 0, none⟩, c, q + 1, m ++ [(p.1, w)], by go_num, by omega, rfl, by omega, HNEW, Lib.hid (by simp; exact HQ.out), Lib.hid hG2, HA, Lib.hid (HB.out.grown hgs HB.out.size (fun k hk => by injection hk with e; rw [← e]; exact (HA.out _ rfl)))⟩
          case measure => simp [iof] <;> omega
        · have hq : ((p.2 : Int) + 1 == (w : Int)) = false := by simp only [beq_eq_false_iff_ne, ne_eq]; omega
          have HNEW : Hid (m ++ [p] ++ [(w, w)] = runs (ws.take (j + 1 + 1))) := Lib.hid (by rw [HST.out, gstep_new hadj])
          have HG1 : Hid (Gr wr (.slice (some ⟨g, 0, none⟩) (q + 1) c) (m ++ [p])) := HG
          clear hadj
          go_wp2_with fail
          go_quiet (fail)
          go_wp2_with (at_builtin; refine gr_app rfl _ _ rfl (.slice (some ⟨g, 0, none⟩) (q + 1) c) (m ++ [p]) rfl (HG1.out.kept ((grown_drewN (grown_refl wr none) nq).trans (World.grownBy_alloc (wr.drewN nq) _ none)) (.inr (by simp [Value.ownBlock]))) w w wr.heap.size 1 113 rfl (Bk.new (wr.drewN nq) _ _) (by simp; have := HQ.out; omega) ?_; intro g' c' w2 hown2 hgr2 hat2)
          go_roundw
          case rel => exact ⟨j + 1 + 1, some ⟨g', 0, none⟩, c', m.length + 1 + 1, m ++ [p] ++ [(w, w)], by go_num, by omega, rfl, by have := HQ.out; omega, HNEW, Lib.hid (by simp), Lib.hid (by simpa using hown2), Lib.hid (lies_new' (n := q + 1) (c := c) HA.out (below_drewN HB.out nq) hat2), Lib.hid (((below_drewN HB.out nq).alloc HB.out.size _).grown hgr2 (by have := HB.out.size; simp; omega) (own_far' (n := q + 1) (c := c) HA.out))⟩
          case measure => simp [iof] <;> omega
    · have hkn : k = nw := by omega
      have hl : l = runs ws := by rw [HL.out, hkn, HNW.out, List.take_length]
      have HLL := Lib.hid hl
      clear hkn hl
      by_cases h64 : 64 < n
      · have h64z : (64 : Int) < (n : Int) := by omega
        obtain ⟨g, rfl⟩ : ∃ g, A = some ⟨g, 0, none⟩ := by
          have hf := (World.ownsRow.form HG.out (by have := HN.out; omega))
          obtain ⟨g, cap, he, _⟩ := hf
          simp only [Value.slice.injEq] at he
          exact ⟨g, he.1⟩
        have hnc : n ≤ c := by
          rcases HG.out.2 with ⟨h1, _⟩ | ⟨g2, cap, cur, h1, _, _, h2, _⟩
          · simp at h1
          · simp only [Value.slice.injEq] at h1
            have := HN.out
            rw [h1.2.2]; omega
        have hct := cut_gaps g n c (by omega)
        have HF : Hid (gg = l.take 64) := Lib.hid (by rw [HGP.out, HLL.out])
        have HRW : Hid (Row wr (some ⟨g, 0, none⟩) (gs (l.take 64))) := Lib.hid (fun i v hv => HG.out.row i v (by
          have e : gs l = gs (l.take 64) ++ gs (l.drop 64) := by rw [gs_app, List.take_append_drop]
          rw [e, List.getElem?_append_left (List.getElem?_eq_some_iff.1 hv).1]
          exact hv))
        have H64 : Hid ((l.take 64).length = 64) := Lib.hid (by have := HN.out; simp; omega)
        clear h64 hnc
        go_wp2_with fail
        go_ret
        refine ⟨some ⟨g, 0, none⟩, c, by rw [HF.out, H64.out]; rfl, by rw [HF.out]; exact HRW.out, HB.out⟩
      · have h64z : decide ((64 : Int) < (n : Int)) = false := decide_eq_false (by omega)
        have HF : Hid (gg = l) := Lib.hid (by
          rw [HGP.out, ← HLL.out]
          exact List.take_of_length_le (by have := HN.out; omega))
        clear h64
        go_wp2_with fail
        go_ret
        refine ⟨A, c, by rw [HF.out, ← HN.out]; rfl, by rw [HF.out]; exact HG.out.row, HB.out⟩
end Gp
end Go.Proofs.Ytednkcjmlpgipaa
/-
  A TSN comes to the document's set: what came twice; the sorted place; the cumulative TSN goes on.
-/
namespace Go.Proofs.Ytednkcjmlpgipaa
set_option maxRecDepth 4000
open Go.RowKit Go.Maps
namespace Gp
set_option linter.unusedVariables false

/-- The document's set, but for its law. -/
def DS0 (W : World) (F : Nat → Prop) (s : Nat) (st : St) : Prop :=
  ∃ vw v, Bk W s #[.int .u32 (st.cum : Int), vw, v] 54 ∧ Ir .i64 2 W vw st.ws ∧ Ir .u32 23 W v st.ds ∧
    F s ∧ (∀ g, vw.ownBlock = some g → F g) ∧ (∀ g, v.ownBlock = some g → F g) ∧ (∀ k, F k → k < W.heap.size)
theorem DS0.ok {W : World} {F : Nat → Prop} {s : Nat} {st : St} (h : DS0 W F s st) (ok : st.Ok) : DSet W F s st := by
  obtain ⟨vw, v, hb, hw, hv, f1, f2, f3, f4⟩ := h
  exact ⟨vw, v, hb, hw, hv, f1, f2, f3, f4, ok⟩
theorem DSet.low {W : World} {F : Nat → Prop} {s : Nat} {st : St} (h : DSet W F s st) : DS0 W F s st := by
  obtain ⟨vw, v, hb, hw, hv, f1, f2, f3, f4, ok⟩ := h
  exact ⟨vw, v, hb, hw, hv, f1, f2, f3, f4⟩
theorem info64 : (Try.prog.info? 2).map (fun i => (i.zero, i.size, i.bytes)) = some (some (.int .i64 0), 1, 8) := by kernel_rfl
theorem grown_below {B : Nat} {w w1 w2 : World} {row : Option Nat} (h : Below B w w1) (hg : w1.grownBy w2 row) (hB : B ≤ w1.heap.size) (hr : ∀ k, row = some k → B ≤ k) : Below B w w2 := h.grown hg hB hr
/-- An append of numbers, possibly of none, as a step of a region that draws its order. -/
theorem ir64_step {w : World} {ops : Array Oper} {o : Oper} {a : Act} {K : Act → World → Prop} {Q : Exit → Act → World → Prop} {E : Prop} (hgd : o.guard = none) (s x : Operand)
    (ho : o.op = .call { callee := .builtin .append, args := #[s, x], argTypes := #[52, 52] }) (B : Nat) (A0 : Option Addr) (n c0 : Nat) (l : List Nat) (hs : a.eval s = .slice A0 n c0)
    (hown : w.ownsRow B 2 1 (.slice A0 n c0) n (ns .i64 l))
    (A : Option Addr) (m c : Nat) (l2 : List Nat) (hx : a.eval x = .slice A m c) (hl : l2.length = m) (hr : Row w A (ns .i64 l2)) (hz : A = none → m = 0 ∧ c = 0) (N : Nat) (hN : n + m = N) (hb : N ≤ 1000000) (hbase : B ≤ w.heap.size)
    (h : ∀ A' c' w', w'.ownsRow B 2 1 (.slice A' N c') N (ns .i64 (l ++ l2)) → w.grownBy w' (Value.slice A0 n c0).ownBlock → K (a.put o.dst (.slice A' N c')) w') :
    if Region.wanted o (yielded ops a.tmps) = true then Oper.wp Try.prog o a w K Q else E := by
  obtain ⟨i0, hi0, hz0, hz1, hz2⟩ := info_parts info64
  rw [if_pos (by simp [Region.wanted, hgd])]
  subst hN
  cases A with
  | none =>
    obtain ⟨rfl, rfl⟩ := hz rfl
    obtain rfl := List.eq_nil_of_length_eq_zero hl
    have hrun := run_append_owned_none (P := Try.prog) (w := w) B 52 o.type 2 i0 1 Try.underlying52 hi0 _ n (ns .i64 l) hown
    unfold Oper.wp
    simp [execOp, ho, resolve, invoke, builtin, hs, hx, hrun, Result.andThen]
    exact h A0 c0 w (by simpa using hown) ⟨rfl, rfl, rfl, Nat.le_refl _, fun _ _ _ => rfl⟩
  | some ad =>
    refine wp_append_own w s x 52 ho B 2 i0 (.int .i64 0) 1 8 Try.underlying52 hi0 hz0 hz1 hz2 rfl (by omega) _ n (ns .i64 l) hs hown ad m c (ns .i64 l2) hx (by rw [ns_len, hl]; omega) (fun j u hu => by obtain ⟨b, hb, hc⟩ := hr j u hu; injection hb with hb; subst hb; exact hc) (ns_one _ _) (by unfold maxLen; omega) (by omega) hbase ?_
    intro v' w2 ho2 hg2 _
    rcases id ho2.2 with ⟨rfl, h0⟩ | ⟨g, cap, cur, rfl, _⟩
    · have hn0 : n + m = 0 := h0
      have := h none 0 w2 (by rw [← ns_app, hn0]; rw [hn0] at ho2; exact ho2) hg2
      rw [hn0] at this
      exact this
    · exact h _ _ w2 (by rw [← ns_app]; exact ho2) hg2
theorem cut_none {A : Option Addr} {n c lo : Nat} (hz : A = none → n = 0 ∧ c = 0) (hl : lo ≤ n) : cutA A c lo = none → n - lo = 0 ∧ c - lo = 0 := fun e => by
  have : A = none := by
    cases A with
    | none => rfl
    | some a => unfold cutA at e; split at e <;> cases e
  obtain ⟨rfl, rfl⟩ := hz this
  omega
theorem cut_row {w : World} {A : Option Addr} {l : List Nat} {c n : Nat} (h : Row w A (ns .i64 l)) (hn : l.length = n) (hc : n ≤ c) (k : Nat) (hk : k ≤ n) :
    Row w (cutA A c k) (ns .i64 (l.drop k)) := by
  have := h.cut (c := c) (lo := k) (hi := n) hc
  have e : (ns .i64 l).take n = ns .i64 l := List.take_of_length_le (by rw [ns_len]; omega)
  rw [e] at this
  simpa [ns, List.map_drop] using this
theorem cut_front {w : World} {A : Option Addr} {l : List Nat} {c n : Nat} (h : Row w A (ns .i64 l)) (hn : l.length = n) (hc : n ≤ c) (k : Nat) (hk : k ≤ n) :
    Row w (cutA A c 0) (ns .i64 (l.take k)) := by
  have := h.cut (c := c) (lo := 0) (hi := k) (by omega)
  simpa [ns, List.map_take] using this
end Gp
end Go.Proofs.Ytednkcjmlpgipaa
/-
  A TSN comes to the document's set: Add.
-/
namespace Go.Proofs.Ytednkcjmlpgipaa
set_option maxRecDepth 4000
open Go.RowKit Go.Maps
namespace Gp
set_option linter.unusedVariables false

set_option maxHeartbeats 1000000 in
theorem radd_there (W : World) (F : Nat → Prop) (s t : Nat) (st : St) (h : DSet W F s st) (ht : t < 4294967296) (hh : st.has t = true) :
    Calls Try.prog 58 #[.pointer (some ⟨s, 0, none⟩), .int .u32 (t : Int)] W fun e w' =>
      ∃ F', e = .returned (.int .u8 ((st.add t).2 : Nat)) ∧ DSet w' F' s (st.add t).1 ∧ Mv W F w' F' := by
  have HH := Lib.hid (rhas_any W F s t st h ht)
  have HR : Hid (st.add t = ({ st with ds := if st.ds.length < 16 then st.ds ++ [t] else st.ds }, 1)) := Lib.hid (by unfold St.add; rw [if_pos hh])
  rw [hh] at HH
  obtain ⟨vw, v, hb, hw, hv, f1, f2, f3, f4, ok⟩ := id h
  have c2 := (hb.cell 2).trans rfl
  have z2 := hb.frozen 2
  obtain ⟨A, c, hve, hlc, hcm, hA⟩ := hv.form
  subst hve
  have H := Lib.hid h
  clear h hh
  by_cases hl : st.ds.length < 16
  · rw [if_pos hl] at HR
    have HB := Lib.hid hb
    have HM := Lib.hid hw
    have HV := Lib.hid hv
    have HOK := Lib.hid ok
    have HA := Lib.hid hA
    clear hb hw hv ok hA hcm
    have HSV : Hid ((Value.slice A st.ds.length c).ownBlock ≠ some s) := Lib.hid (HV.out.off HB.out (by decide))
    have HSM : Hid (vw.ownBlock ≠ some s) := Lib.hid (HM.out.off HB.out (by decide))
    have HMV : Hid (vw.ownBlock = none ∨ vw.ownBlock ≠ (Value.slice A st.ds.length c).ownBlock) := Lib.hid (by
      rcases HM.out.2 with ⟨rfl, _⟩ | ⟨g, cap, cur, rfl, _, hg, _⟩
      · exact .inl rfl
      · right
        intro e
        have := HV.out.off (b := g) hg (by decide)
        exact this e.symm)
    obtain ⟨n, hn⟩ : ∃ n, n = st.ds.length := ⟨_, rfl⟩
    rw [← hn] at hl hlc c2 HSV HMV
    have HN := Lib.hid hn
    have hlz : decide ((n : Int) < 16) = true := decide_eq_true (by omega)
    clear hn
    go_enter Try.func58, Try.ntmps58
    go_wp2_with fail
    refine HH.out.mono ?_
    rintro e w' ⟨rfl, rfl⟩
    go_wp2_with (at_builtin; refine ir_app (k := .u32) (E := 23) (S := 43) Try.underlying43 info32 (by omega) rfl _ _ rfl (.slice A n c) st.ds rfl (by rw [HN.out]; exact HV.out.kept (World.grownBy_alloc W _ none) (by cases hv : (Value.slice A st.ds.length c).ownBlock <;> simp)) t W.heap.size 1 23 rfl (Bk.new W _ _) (by have := HN.out; omega) ?_; intro g c' w2 hown hgr hat; have hb2 := (HB.out.kept (World.grownBy_alloc W _ none) (by simp)).kept hgr (fun e => HSV.out e.symm); have c22 := (hb2.cell 2).trans rfl; have z22 := hb2.frozen 2)
    go_ret
    have hgr1 : W.grownBy w2 (Value.slice A n c).ownBlock := (World.grownBy_alloc W _ _).trans hgr
    have hgt : g < w2.heap.size := Ir.lt hown rfl
    have hs2 := setc_grown w2 s 2 (.slice (some ⟨g, 0, none⟩) (st.ds.length + 1) c')
    have hgs : s ≠ g := fun e => by
      have := Ir.off hown hb2 (by decide)
      exact this (by rw [e]; rfl)
    have hsz : W.heap.size ≤ w2.heap.size := hgr1.size
    have HO2 := Lib.hid hown
    refine ⟨fun k => F k ∨ (k = g ∧ W.heap.size ≤ k), by rw [HR.out]; rfl, ?_, ?_, ?_⟩
    · rw [HR.out]
      refine ⟨vw, .slice (some ⟨g, 0, none⟩) (st.ds.length + 1) c', hb2.set 2 _, ?_, ?_, .inl f1, fun k hk => .inl (f2 k hk), ?_, ?_, ?_⟩
      · exact Ir.kept (HM.out.kept hgr1 HMV.out) hs2 (.inr HSM.out)
      · exact Ir.kept HO2.out hs2 (.inr (by simpa [Value.ownBlock] using hgs.symm))
      · intro g2 hg2
        obtain rfl : g = g2 := by simpa [Value.ownBlock] using hg2
        rcases hat with hat | hat
        · exact .inl (f3 g (by rw [HN.out] at hat; exact hat))
        · refine .inr ⟨rfl, ?_⟩
          rw [hat]
          simp
      · exact fun k hk => Nat.lt_of_lt_of_le (new_fp f4 hsz hgt k hk) hs2.size
      · refine ⟨HOK.out.1, HOK.out.2.1, ?_, ?_⟩
        · simp
          have := HN.out
          omega
        · intro x hx
          rcases List.mem_append.1 hx with hx | hx
          · exact HOK.out.2.2.2 x hx
          · simp at hx; omega
    · refine (Kp.grown hgr1 (fun g2 hg2 => f3 g2 (by rw [HN.out] at hg2; exact hg2))).trans (F' := F) (Kp.grown hs2 (fun g2 hg2 => by injection hg2 with e; rw [← e]; exact f1)) (fun b hb => .inl hb)
    · rintro k (hk | ⟨_, hk⟩)
      · exact .inl hk
      · exact .inr hk
  · rw [if_neg hl] at HR
    have hlz : decide ((st.ds.length : Int) < 16) = false := decide_eq_false (by omega)
    clear hb hw hv f1 f2 f3 f4 ok hA hl
    go_enter Try.func58, Try.ntmps58
    go_wp2_with fail
    refine HH.out.mono ?_
    rintro e w' ⟨rfl, rfl⟩
    go_wp2_with fail
    go_ret
    exact ⟨F, by rw [HR.out]; rfl, by rw [HR.out]; exact H.out, Kp.refl _ _, fun k hk => .inl hk⟩
theorem radd_far (W : World) (F : Nat → Prop) (s t : Nat) (st : St) (h : DSet W F s st) (ht : t < 4294967296) (hh : st.has t = false) (hw : 65535 < wy st.cum t) :
    Calls Try.prog 58 #[.pointer (some ⟨s, 0, none⟩), .int .u32 (t : Int)] W fun e w' =>
      ∃ F', e = .returned (.int .u8 ((st.add t).2 : Nat)) ∧ DSet w' F' s (st.add t).1 ∧ Mv W F w' F' := by
  have HH := Lib.hid (rhas_any W F s t st h ht)
  have HWY := Lib.hid (rw_any W F s t st h ht)
  have HR : Hid (st.add t = (st, 2)) := Lib.hid (by unfold St.add; rw [if_neg (by rw [hh]; simp), if_pos hw])
  rw [hh] at HH
  have H := Lib.hid h
  generalize wy st.cum t = y at hw HWY
  have hwz : (65535 : Int) < (y : Int) := by omega
  clear h hh hw
  go_enter Try.func58, Try.ntmps58
  go_wp2_with fail
  refine HH.out.mono ?_
  rintro e w' ⟨rfl, rfl⟩
  go_wp2_with fail
  refine HWY.out.mono ?_
  rintro e w' ⟨rfl, rfl⟩
  go_wp2_with fail
  go_ret
  exact ⟨F, by rw [HR.out]; rfl, by rw [HR.out]; exact H.out, Kp.refl _ _, fun k hk => .inl hk⟩
end Gp
end Go.Proofs.Ytednkcjmlpgipaa
/-
  The program's gaps.
-/
namespace Go.Proofs.Ytednkcjmlpgipaa
open Go.RowKit Go.Maps
namespace Gp
set_option linter.unusedVariables false

theorem gaps_nil (W : World) : Calls Try.prog 61 #[.pointer none] W fun e w' => e = .returned (.slice none 0 0) ∧ W = w' := by
  go_enter Try.func61, Try.ntmps61
  go_wp2_with fail
  go_ret
  exact ⟨rfl, rfl⟩
set_option maxHeartbeats 1000000 in
theorem gaps_new (W : World) (F : Nat → Prop) (s : Nat) (st : St) (h : PSet W F s st) :
    Calls Try.prog 61 #[.pointer (some ⟨s, 0, none⟩)] W fun e w' => ∃ A c, e = .returned (.slice A st.gaps.length c) ∧ Row w' A (gs st.gaps) ∧ (∀ a, A = some a → W.heap.size ≤ a.block) ∧ Below W.heap.size W w' := by
  have HWY := Lib.hid (ways_any W F s st h)
  have ok := h.2
  have HOK := Lib.hid ok
  have HLEN := Lib.hid (ris_len ok.2.1)
  have HGP : Hid (st.gaps = (runs st.ws).take 64) := Lib.hid rfl
  clear h ok
  obtain ⟨ws, hws⟩ : ∃ ws, ws = st.ws := ⟨_, rfl⟩
  have HRIS : Hid (Ris 2 65535 ws) := Lib.hid (by rw [hws]; exact HOK.out.2.1)
  rw [← hws] at HWY HLEN HGP
  clear hws HOK
  generalize st.gaps = gg at HGP ⊢
  obtain ⟨nw, hnw⟩ : ∃ nw, nw = ws.length := ⟨_, rfl⟩
  rw [← hnw] at HWY HLEN
  have HNW := Lib.hid hnw
  have hnw9 := HLEN.out
  clear hnw
  go_enter Try.func61, Try.ntmps61
  go_wp2_with fail
  refine HWY.out.mono ?_
  rintro e w1 ⟨gw, cw, rfl, hrow, hb1⟩
  have HROW := Lib.hid hrow
  have HB1 := Lib.hid hb1
  clear hrow hb1 HWY
  go_wp2_with fail
  go_loopw [3, 5, 6, 12] (fun v3 _ _ v12 wr => ∃ (k : Nat) (A : Option Addr) (c n : Nat) (l : List (Nat × Nat)), v12 = .int .i64 k ∧ k ≤ nw ∧ v3 = .slice A n c ∧ n ≤ 64 ∧ Hid (l = runs (ws.take k)) ∧ Hid (n = l.length) ∧ Hid (Gr wr (.slice A n c) l) ∧ Hid (∀ a, A = some a → W.heap.size ≤ a.block ∧ a.block ≠ gw) ∧ Hid (Row wr (some ⟨gw, 0, none⟩) (ns .u16 ws)) ∧ Hid (Below W.heap.size W wr)) (fun _ _ _ v12 _ => nw - (iof v12).toNat)
  case atStart => exact ⟨0, none, 0, 0, [], rfl, Nat.zero_le _, rfl, by omega, Lib.hid (by simp [runs]), rfl, Gr.nil _, Lib.hid (fun a ha => by cases ha), HROW, HB1⟩
  case round =>
    obtain ⟨k, A, c, n, l, rfl, hk, rfl, hn, HL, HN, HG, HA, HR, HB⟩ := hrel
    clear HROW HB1
    by_cases hlt : k < nw
    · have hkl : k < ws.length := by rw [← HNW.out]; exact hlt
      have hwv := ris_at HRIS.out hkl
      have hcw : wr.cell? ⟨gw, k, none⟩ = some (.int .u16 ((ws.getD k 0 : Nat) : Int)) := by
        obtain ⟨a, ha, hc⟩ := HR.out k _ (ns_get hkl)
        injection ha with ha
        subst ha
        rwa [addr0] at hc
      have HGW : Hid (gw < wr.heap.size) := Lib.hid (block_lt_of_cell hcw)
      have HST : Hid (runs (ws.take (k + 1)) = gstep l (ws.getD k 0)) := Lib.hid (by rw [take_snoc hkl, runs_snoc, HL.out])
      have HLAST : Hid (∀ m p, l = m ++ [p] → p.2 < ws.getD k 0) := Lib.hid fun m p e => last_lt HRIS.out hkl (by rw [← HL.out, e])
      have HFULL : Hid (l.length = 64 → (∀ p, l.getLast? = some p → p.2 + 1 ≠ ws.getD k 0) → gg = l) := Lib.hid fun h1 h2 => by
        rw [HGP.out, HL.out]
        conv => lhs; rw [split_at hkl]
        exact runs_full (by rw [← HL.out]; exact h1) (by rw [← HL.out]; exact h2)
      generalize ws.getD k 0 = w at hwv hcw HST HLAST HFULL
      clear hkl
      rcases List.eq_nil_or_concat l with rfl | ⟨m, p, rfl⟩
      · have hn0 : n = 0 := by simpa using HN.out
        subst hn0
        go_wp2_with (at_builtin; refine gr_app rfl _ _ rfl (.slice A 0 c) [] rfl (HG.out.kept (World.grownBy_alloc wr _ none) (by cases hv : (Value.slice A 0 c).ownBlock <;> simp)) w w wr.heap.size 1 113 rfl (Bk.new wr _ _) (by simp) ?_; intro g' c' w2 hown2 hgr2 hat2)
        go_roundw
        case rel => exact ⟨k + 1, some ⟨g', 0, none⟩, c', 1, [(w, w)], by go_num, by omega, rfl, by omega, Lib.hid (by rw [HST.out]; rfl), rfl, Lib.hid hown2, Lib.hid (lies_new (n := 0) (c := c) (w2 := w2) HA.out HB.out HGW.out hat2), Lib.hid (row_far (row_far HR.out (World.grownBy_alloc wr _ none) (by simp)) hgr2 (own_far (n := 0) (c := c) HA.out).1), Lib.hid ((HB.out.alloc HB.out.size _).grown hgr2 (by have := HB.out.size; simp; omega) (own_far (n := 0) (c := c) HA.out).2)⟩
        case measure => simp [iof] <;> omega
      · rw [List.concat_eq_append] at HN HG HST HLAST HFULL
        obtain ⟨g, rfl⟩ : ∃ g, A = some ⟨g, 0, none⟩ := by
          have hf := (World.ownsRow.form HG.out (by simp))
          obtain ⟨g, cap, he, _⟩ := hf
          simp only [Value.slice.injEq] at he
          exact ⟨g, he.1⟩
        have hnm : n = m.length + 1 := by have := HN.out; simpa using this
        obtain ⟨j, hj⟩ : ∃ j, j = m.length := ⟨_, rfl⟩
        have hp2 := HLAST.out m p rfl
        have hcp : wr.cell? ⟨g, j * 2 + 1, none⟩ = some (.int .u16 (p.2 : Int)) := by
          rw [World.ownsRow.cellAt (n := n) (cap := c) (by have := HG.out; unfold Gr at this; rw [← HN.out] at this; exact this) _ (by omega)]
          have := (gs_get (l := m ++ [p]) (i := m.length) (by simp)).2
          rw [hj]
          simpa using this
        have hfz : wr.frozen? ⟨g, j * 2 + 1, none⟩ = false := World.ownsRow.frozenAt (n := n) (cap := c) (by have := HG.out; unfold Gr at this; rw [← HN.out] at this; exact this) _
        rw [← hj] at hnm
        have HJ := Lib.hid hj
        subst hnm
        clear hj HGP HLEN
        have e1 : ((j + 1 : Nat) : Int) - 1 = j := by omega
        by_cases hadj : p.2 + 1 = w
        · have hq : ((p.2 : Int) + 1 == (w : Int)) = true := by simp; omega
          have HNEW : Hid (m ++ [(p.1, w)] = runs (ws.take (k + 1))) := Lib.hid (by rw [HST.out, gstep_on hadj])
          have hp3 : p.2 ≤ 65534 := by omega
          clear hadj
          go_wp2_with fail
          have hgs := setc_grown wr g (j * 2 + 1) (.int .u16 (w : Int))
          have hG2 : Gr (wr.setCell ⟨g, j * 2 + 1, none⟩ (.int .u16 (w : Int))) (.slice (some ⟨g, 0, none⟩) (j + 1) c) (m ++ [(p.1, w)]) := by
            have := Gr.last (W := wr) (g := g) (n := j + 1) (c := c) (l := m) (p := p) HG.out w
            rw [← HJ.out] at this
            exact this
          go_roundw
          case rel => exact ⟨k + 1, some ⟨g, 0, none⟩, c, j + 1, m ++ [(p.1, w)], by go_num, by omega, rfl, hn, HNEW, Lib.hid (by simp; exact HJ.out), Lib.hid hG2, HA, Lib.hid (row_far HR.out hgs (by simp; exact fun e => (HA.out _ rfl).2 e.symm)), Lib.hid (HB.out.grown hgs HB.out.size (fun k hk => by injection hk with e; rw [← e]; exact (HA.out _ rfl).1))⟩
          case measure => simp [iof] <;> omega
        · have hq : ((p.2 : Int) + 1 == (w : Int)) = false := by simp; omega
          have hp3 : p.2 ≤ 65534 := by omega
          by_cases h64 : j + 1 = 64
          · obtain rfl : j = 63 := by omega
            have HGG : Hid (gg = m ++ [p]) := Lib.hid (HFULL.out (by simp; have := HJ.out; omega) (fun q hq => by simp at hq; rw [← hq]; exact hadj))
            clear hadj h64
            go_wp2_with fail
            go_ret
            exact ⟨some ⟨g, 0, none⟩, c, by rw [HGG.out]; have := HJ.out; simp [← this], by rw [HGG.out]; exact HG.out.row, fun a ha => (HA.out a ha).1, HB.out⟩
          · have HNEW : Hid (m ++ [p] ++ [(w, w)] = runs (ws.take (k + 1))) := Lib.hid (by rw [HST.out, gstep_new hadj])
            have h64z : (((j + 1 : Nat) : Int) == 64) = false := by simp; omega
            have h64y : ((j : Int) + 1 == 64) = false := by simp; omega
            have HG1 : Hid (Gr wr (.slice (some ⟨g, 0, none⟩) (j + 1) c) (m ++ [p])) := HG
            clear hadj
            go_wp2_with (at_builtin; refine gr_app rfl _ _ rfl (.slice (some ⟨g, 0, none⟩) (j + 1) c) (m ++ [p]) rfl (HG1.out.kept (World.grownBy_alloc wr _ none) (.inr (by simp [Value.ownBlock]))) w w wr.heap.size 1 113 rfl (Bk.new wr _ _) (by simp; have := HJ.out; omega) ?_; intro g' c' w2 hown2 hgr2 hat2)
            go_roundw
            case rel => exact ⟨k + 1, some ⟨g', 0, none⟩, c', m.length + 1 + 1, m ++ [p] ++ [(w, w)], by go_num, by omega, rfl, by have := HJ.out; omega, HNEW, Lib.hid (by simp), Lib.hid (by simpa using hown2), Lib.hid (lies_new (n := j + 1) (c := c) (w2 := w2) HA.out HB.out HGW.out hat2), Lib.hid (row_far (row_far HR.out (World.grownBy_alloc wr _ none) (by simp)) hgr2 (own_far (n := j + 1) (c := c) HA.out).1), Lib.hid ((HB.out.alloc HB.out.size _).grown hgr2 (by have := HB.out.size; simp; omega) (own_far (n := j + 1) (c := c) HA.out).2)⟩
            case measure => simp [iof] <;> omega
    · have hkn : k = nw := by omega
      have hfin : gg = l := by
        rw [HGP.out, HL.out, hkn, HNW.out, List.take_length]
        apply List.take_of_length_le
        have := HN.out
        rw [HL.out, hkn, HNW.out, List.take_length] at this
        omega
      have HF := Lib.hid hfin
      clear hkn hfin
      go_wp2_with fail
      go_ret
      refine ⟨A, c, by rw [HF.out, ← HN.out]; rfl, ?_, fun a ha => (HA.out a ha).1, HB.out⟩
      rw [HF.out]
      exact HG.out.row
theorem gaps_any (W : World) (F : Nat → Prop) (s : Nat) (st : St) (h : PSet W F s st) :
    Calls Try.prog 61 #[.pointer (some ⟨s, 0, none⟩)] W fun e w' => ∃ A c, e = .returned (.slice A st.gaps.length c) ∧ Row w' A (gs st.gaps) ∧ Below W.heap.size W w' :=
  (gaps_new W F s st h).mono fun _ _ ⟨A, c, h1, h2, _, h3⟩ => ⟨A, c, h1, h2, h3⟩
end Gp
end Go.Proofs.Ytednkcjmlpgipaa
/-
  The document's Gaps: the row that it answers is new.
-/
namespace Go.Proofs.Ytednkcjmlpgipaa
set_option maxRecDepth 4000
open Go.RowKit Go.Maps
namespace Gp
set_option linter.unusedVariables false
set_option maxHeartbeats 2000000 in
theorem rgaps_new (W : World) (F : Nat → Prop) (s : Nat) (st : St) (h : DSet W F s st) :
    Calls Try.prog 63 #[.pointer (some ⟨s, 0, none⟩)] W fun e w' => ∃ A c, e = .returned (.slice A st.gaps.length c) ∧ Row w' A (gs st.gaps) ∧ (∀ a, A = some a → W.heap.size ≤ a.block) ∧ Below W.heap.size W w' := by
  obtain ⟨vw, v, hb, hw, hv, f1, f2, f3, f4, ok⟩ := h
  obtain ⟨B, cb, rfl, hlc, hcm, hA⟩ := hw.form
  have hC : ∀ w2, Below W.heap.size W w2 → (w2.cell? ⟨s, 1, none⟩ = some (.slice B st.ws.length cb) ∧ Row w2 B (ns .i64 st.ws)) := fun w2 hw2 => by
    have hb2 : Bk w2 s _ _ := (hw2.block s hb.lt).trans hb
    exact ⟨(hb2.cell 1).trans rfl, hw.row.below hw2⟩
  have HRIS := Lib.hid ok.2.1
  have HLEN := Lib.hid (ris_len ok.2.1)
  have HGP : Hid (st.gaps = (runs st.ws).take 64) := Lib.hid rfl
  clear hb hw hv f1 f2 f3 f4 ok hA hcm
  obtain ⟨ws, hws⟩ : ∃ ws, ws = st.ws := ⟨_, rfl⟩
  rw [← hws] at hC HRIS HLEN HGP hlc
  clear hws
  generalize st.gaps = gg at HGP ⊢
  obtain ⟨nw, hnw⟩ : ∃ nw, nw = ws.length := ⟨_, rfl⟩
  rw [← hnw] at hC HLEN hlc
  have HNW := Lib.hid hnw
  have HC := Lib.hid hC
  have hnw9 := HLEN.out
  clear hnw hC
  go_enter Try.func63, Try.ntmps63
  go_wp2_with fail
  go_loopw [3, 4, 5] (fun v3 v4 _ wr => ∃ (k : Nat) (A : Option Addr) (c n : Nat) (l : List (Nat × Nat)), v4 = .int .i64 k ∧ k ≤ nw ∧ v3 = .slice A n c ∧ n ≤ k ∧ Hid (l = runs (ws.take k)) ∧ Hid (n = l.length) ∧ Hid (Gr wr (.slice A n c) l) ∧ Hid (∀ a, A = some a → W.heap.size ≤ a.block) ∧ Hid (Below W.heap.size W wr)) (fun _ v4 _ _ => nw - (iof v4).toNat)
  case atStart => exact ⟨0, none, 0, 0, [], rfl, Nat.zero_le _, rfl, Nat.le_refl _, Lib.hid (by simp [runs]), rfl, Gr.nil _, Lib.hid (fun a ha => by cases ha), Lib.hid (Below.refl _ _)⟩
  case round =>
    obtain ⟨k, A, c, n, l, rfl, hk, rfl, hn, HL, HN, HG, HA, HB⟩ := hrel
    obtain ⟨c1, hrow⟩ := HC.out wr HB.out
    have HR := Lib.hid hrow
    clear hrow
    by_cases hlt : k < nw
    · have hkl : k < ws.length := by rw [← HNW.out]; exact hlt
      have hwv := ris_at HRIS.out hkl
      obtain ⟨b, rfl, hcw⟩ := HR.out k _ (ns_get hkl)
      have HST : Hid (runs (ws.take (k + 1)) = gstep l (ws.getD k 0)) := Lib.hid (by rw [take_snoc hkl, runs_snoc, HL.out])
      have HPRE : Hid (∀ j, k = j + 1 → ∃ x : Nat, wr.cell? (b.add j) = some (.int .i64 (x : Int)) ∧ x < ws.getD k 0 ∧ ∃ m p, l = m ++ [p] ∧ p.2 = x) := Lib.hid fun j hj => by
        have hjl : j < ws.length := by omega
        obtain ⟨b', hb', hcb⟩ := HR.out j _ (ns_get hjl)
        injection hb' with hb'
        subst hb'
        refine ⟨ws.getD j 0, hcb, ris_lt HRIS.out (by omega) hkl, ?_⟩
        obtain ⟨p, hp, hp2⟩ := runs_last (ws.take j) (ws.getD j 0)
        rw [← take_snoc hjl, ← hj, ← HL.out] at hp
        obtain ⟨m, hm⟩ := List.getLast?_eq_some_iff.1 hp
        exact ⟨m, p, hm, hp2⟩
      have hL0 : Hid (k = 0 → l = []) := Lib.hid fun e => by rw [HL.out, e]; simp [runs]
      generalize ws.getD k 0 = w at hwv hcw HST HPRE
      have hw16 := wrap16 hwv.2
      clear hkl
      by_cases hk0 : k = 0
      · have hl0 := hL0.out hk0
        subst hl0
        have hn0 : n = 0 := by simpa using HN.out
        subst hn0
        subst hk0
        rw [show b.add 0 = b by simp [Addr.add]] at hcw
        go_wp2_with fail
        go_quiet (fail)
        go_wp2_with (at_builtin; refine gr_app rfl _ _ rfl (.slice A 0 c) [] rfl (HG.out.kept ((grown_drewN (grown_refl wr none) nq).trans (World.grownBy_alloc (wr.drewN nq) _ none)) (by cases hv : (Value.slice A 0 c).ownBlock <;> simp)) w w wr.heap.size 1 113 rfl (Bk.new (wr.drewN nq) _ _) (by simp) ?_; intro g' c' w2 hown2 hgr2 hat2)
        go_roundw
        case rel => exact ⟨1, some ⟨g', 0, none⟩, c', 1, [(w, w)], by go_num, by omega, rfl, by omega, Lib.hid (by rw [HST.out]; rfl), rfl, Lib.hid hown2, Lib.hid (lies_new' (n := 0) (c := c) HA.out (below_drewN HB.out nq) hat2), Lib.hid (((below_drewN HB.out nq).alloc HB.out.size _).grown hgr2 (by have := HB.out.size; simp; omega) (own_far' (n := 0) (c := c) HA.out))⟩
        case measure => simp [iof] <;> omega
      · obtain ⟨j, rfl⟩ : ∃ j, k = j + 1 := ⟨k - 1, by omega⟩
        obtain ⟨x, hcx, hxw, m, p, rfl, rfl⟩ := HPRE.out j rfl
        obtain ⟨g, rfl⟩ : ∃ g, A = some ⟨g, 0, none⟩ := by
          have hf := (World.ownsRow.form HG.out (by simp))
          obtain ⟨g, cap, he, _⟩ := hf
          simp only [Value.slice.injEq] at he
          exact ⟨g, he.1⟩
        have hnm : n = m.length + 1 := by have := HN.out; simpa using this
        obtain ⟨q, hqm⟩ : ∃ q, q = m.length := ⟨_, rfl⟩
        have hcp : wr.cell? ⟨g, q * 2 + 1, none⟩ = some (.int .u16 (p.2 : Int)) := by
          rw [World.ownsRow.cellAt (n := n) (cap := c) (by have := HG.out; unfold Gr at this; rw [← HN.out] at this; exact this) _ (by omega)]
          have := (gs_get (l := m ++ [p]) (i := m.length) (by simp)).2
          rw [hqm]
          simpa using this
        have hfz : wr.frozen? ⟨g, q * 2 + 1, none⟩ = false := World.ownsRow.frozenAt (n := n) (cap := c) (by have := HG.out; unfold Gr at this; rw [← HN.out] at this; exact this) _
        rw [← hqm] at hnm
        have HQ := Lib.hid hqm
        subst hnm
        have hcw2 : wr.cell? { block := b.block, off := b.off + (j + 1) } = some (.int .i64 (w : Int)) := by simpa [Addr.add] using hcw
        have e1 : ((j + 1 : Nat) : Int) - 1 = j := by omega
        have e2 : ((q + 1 : Nat) : Int) - 1 = q := by omega
        have hpos : (0 : Int) < ((j + 1 : Nat) : Int) := by omega
        clear hqm hk0 HPRE hL0
        by_cases hadj : p.2 + 1 = w
        · have hq : ((p.2 : Int) + 1 == (w : Int)) = true := by simp only [beq_iff_eq]; omega
          have HNEW : Hid (m ++ [(p.1, w)] = runs (ws.take (j + 1 + 1))) := Lib.hid (by rw [HST.out, gstep_on hadj])
          clear hadj
          go_wp2_with fail
          go_quiet (fail)
          go_wp2_with fail
          have hgs := (grown_drewN (grown_refl wr (some g)) nq).trans (setc_grown (wr.drewN nq) g (q * 2 + 1) (.int .u16 (w : Int)))
          have hG2 : Gr ((wr.drewN nq).setCell ⟨g, q * 2 + 1, none⟩ (.int .u16 (w : Int))) (.slice (some ⟨g, 0, none⟩) (q + 1) c) (m ++ [(p.1, w)]) := by
            have := Gr.last (W := wr.drewN nq) (g := g) (n := q + 1) (c := c) (l := m) (p := p) HG.out w
            rw [← HQ.out] at this
            exact this
          go_roundw
          case rel => exact ⟨j + 1 + 1, some ⟨g, 0, none⟩, c, q + 1, m ++ [(p.1, w)], by go_num, by omega, rfl, by omega, HNEW, Lib.hid (by simp; exact HQ.out), Lib.hid hG2, HA, Lib.hid (HB.out.grown hgs HB.out.size (fun k hk => by injection hk with e; rw [← e]; exact (HA.out _ rfl)))⟩
          case measure => simp [iof] <;> omega
        · have hq : ((p.2 : Int) + 1 == (w : Int)) = false := by simp only [beq_eq_false_iff_ne, ne_eq]; omega
          have HNEW : Hid (m ++ [p] ++ [(w, w)] = runs (ws.take (j + 1 + 1))) := Lib.hid (by rw [HST.out, gstep_new hadj])
          have HG1 : Hid (Gr wr (.slice (some ⟨g, 0, none⟩) (q + 1) c) (m ++ [p])) := HG
          clear hadj
          go_wp2_with fail
          go_quiet (fail)
          go_wp2_with (at_builtin; refine gr_app rfl _ _ rfl (.slice (some ⟨g, 0, none⟩) (q + 1) c) (m ++ [p]) rfl (HG1.out.kept ((grown_drewN (grown_refl wr none) nq).trans (World.grownBy_alloc (wr.drewN nq) _ none)) (.inr (by simp [Value.ownBlock]))) w w wr.heap.size 1 113 rfl (Bk.new (wr.drewN nq) _ _) (by simp; have := HQ.out; omega) ?_; intro g' c' w2 hown2 hgr2 hat2)
          go_roundw
          case rel => exact ⟨j + 1 + 1, some ⟨g', 0, none⟩, c', m.length + 1 + 1, m ++ [p] ++ [(w, w)], by go_num, by omega, rfl, by have := HQ.out; omega, HNEW, Lib.hid (by simp), Lib.hid (by simpa using hown2), Lib.hid (lies_new' (n := q + 1) (c := c) HA.out (below_drewN HB.out nq) hat2), Lib.hid (((below_drewN HB.out nq).alloc HB.out.size _).grown hgr2 (by have := HB.out.size; simp; omega) (own_far' (n := q + 1) (c := c) HA.out))⟩
          case measure => simp [iof] <;> omega
    · have hkn : k = nw := by omega
      have hl : l = runs ws := by rw [HL.out, hkn, HNW.out, List.take_length]
      have HLL := Lib.hid hl
      clear hkn hl
      by_cases h64 : 64 < n
      · have h64z : (64 : Int) < (n : Int) := by omega
        obtain ⟨g, rfl⟩ : ∃ g, A = some ⟨g, 0, none⟩ := by
          have hf := (World.ownsRow.form HG.out (by have := HN.out; omega))
          obtain ⟨g, cap, he, _⟩ := hf
          simp only [Value.slice.injEq] at he
          exact ⟨g, he.1⟩
        have hnc : n ≤ c := by
          rcases HG.out.2 with ⟨h1, _⟩ | ⟨g2, cap, cur, h1, _, _, h2, _⟩
          · simp at h1
          · simp only [Value.slice.injEq] at h1
            have := HN.out
            rw [h1.2.2]; omega
        have hct := cut_gaps g n c (by omega)
        have HF : Hid (gg = l.take 64) := Lib.hid (by rw [HGP.out, HLL.out])
        have HRW : Hid (Row wr (some ⟨g, 0, none⟩) (gs (l.take 64))) := Lib.hid (fun i v hv => HG.out.row i v (by
          have e : gs l = gs (l.take 64) ++ gs (l.drop 64) := by rw [gs_app, List.take_append_drop]
          rw [e, List.getElem?_append_left (List.getElem?_eq_some_iff.1 hv).1]
          exact hv))
        have H64 : Hid ((l.take 64).length = 64) := Lib.hid (by have := HN.out; simp; omega)
        clear h64 hnc
        go_wp2_with fail
        go_ret
        refine ⟨some ⟨g, 0, none⟩, c, by rw [HF.out, H64.out]; rfl, by rw [HF.out]; exact HRW.out, HA.out, HB.out⟩
      · have h64z : decide ((64 : Int) < (n : Int)) = false := decide_eq_false (by omega)
        have HF : Hid (gg = l) := Lib.hid (by
          rw [HGP.out, ← HLL.out]
          exact List.take_of_length_le (by have := HN.out; omega))
        clear h64
        go_wp2_with fail
        go_ret
        refine ⟨A, c, by rw [HF.out, ← HN.out]; rfl, by rw [HF.out]; exact HG.out.row, HA.out, HB.out⟩
end Gp
end Go.Proofs.Ytednkcjmlpgipaa
/-
  Two rows held against each other.
-/
namespace Go.Proofs.Ytednkcjmlpgipaa
open Go.RowKit Go.Maps
namespace Gp
set_option linter.unusedVariables false

theorem take_same {α : Type} {l m : List α} {k : Nat} {x y : α} (h : l.take k = m.take k) (hl : l[k]? = some x) (hm : m[k]? = some y) : (l.take (k + 1) = m.take (k + 1) ↔ x = y) := by
  have h1 := (List.getElem?_eq_some_iff.1 hl)
  have h2 := (List.getElem?_eq_some_iff.1 hm)
  obtain ⟨a1, rfl⟩ := h1
  obtain ⟨a2, rfl⟩ := h2
  rw [List.take_succ_eq_append_getElem a1, List.take_succ_eq_append_getElem a2, h]
  constructor
  · intro e
    have := List.append_cancel_left e
    simpa using this
  · intro e
    rw [e]
set_option maxHeartbeats 1000000 in
theorem tsns_any (A B : Option Addr) (n m c d : Nat) (l r : List Nat) (W : World) (hl : l.length = n) (hr : r.length = m) (hn : n ≤ 100000) (hm : m ≤ 100000) (ha : Row W A (ns .u32 l)) (hb : Row W B (ns .u32 r)) :
    Calls Try.prog 19 #[.slice A n c, .slice B m d] W fun e w' => e = .returned (.bool (decide (l = r))) ∧ Below W.heap.size W w' := by
  have HL := Lib.hid hl
  have HR := Lib.hid hr
  have HA := Lib.hid ha
  have HB := Lib.hid hb
  clear hl hr ha hb
  by_cases hnm : n = m
  · subst hnm
    have hz : ((n : Int) != (n : Int)) = false := by simp
    go_enter Try.func19, Try.ntmps19
    go_wp2_with fail
    go_loopw [5] (fun i wr => ∃ k : Nat, k ≤ n ∧ i = .int .i64 k ∧ Hid (l.take k = r.take k) ∧ Hid (Row wr A (ns .u32 l)) ∧ Hid (Row wr B (ns .u32 r)) ∧ Hid (Below W.heap.size W wr)) (fun i _ => n - (iof i).toNat)
    case atStart => exact ⟨0, Nat.zero_le _, rfl, Lib.hid rfl, HA, HB, Lib.hid (Below.refl _ _)⟩
    case round =>
      obtain ⟨k, hk, rfl, HT, HA2, HB2, HW⟩ := hrel
      clear HA HB
      by_cases hlt : k < n
      · have h1 : k < l.length := by rw [HL.out]; exact hlt
        have h2 : k < r.length := by rw [HR.out]; exact hlt
        obtain ⟨a, rfl, ca⟩ := HA2.out k _ (ns_get h1)
        obtain ⟨b, rfl, cb⟩ := HB2.out k _ (ns_get h2)
        have hs := take_same HT.out (show l[k]? = some (l.getD k 0) by simp [List.getD, h1]) (show r[k]? = some (r.getD k 0) by simp [List.getD, h2])
        have HS := Lib.hid hs
        clear hs h1 h2
        generalize l.getD k 0 = x at ca HS
        generalize r.getD k 0 = y at cb HS
        by_cases he : x = y
        · have hq : ((x : Int) != (y : Int)) = false := by simp only [bne_eq_false_iff_eq]; omega
          have HT2 := Lib.hid (HS.out.2 he)
          clear he
          go_wp2_with fail
          go_quiet (fail)
          go_wp2_with fail
          go_roundw
          case rel => exact ⟨k + 1, by omega, by go_num, HT2, Lib.hid HA2.out, Lib.hid HB2.out, Lib.hid (below_drewN HW.out _)⟩
          case measure => simp [iof] <;> omega
        · have hq : ((x : Int) != (y : Int)) = true := by simp only [bne_iff_ne, ne_eq]; omega
          have HNE : Hid (decide (l = r) = false) := Lib.hid (decide_eq_false (fun e => he (HS.out.1 (by rw [e]))))
          clear he
          go_wp2_with fail
          go_quiet (fail)
          go_wp2_with fail
          go_ret
          exact ⟨ret_b HNE.out.symm, below_drewN HW.out _⟩
      · have hkn : k = n := by omega
        have HE : Hid (decide (l = r) = true) := Lib.hid (decide_eq_true (by
          have := HT.out
          rwa [hkn, List.take_of_length_le (by rw [HL.out]; omega), List.take_of_length_le (by rw [HR.out]; omega)] at this))
        clear hkn
        go_wp2_with fail
        go_ret
        exact ⟨ret_b HE.out.symm, HW.out⟩
  · have hz : ((n : Int) != (m : Int)) = true := by simp only [bne_iff_ne, ne_eq]; omega
    have HNE : Hid (decide (l = r) = false) := Lib.hid (decide_eq_false (fun e => hnm (by rw [← HL.out, ← HR.out, e])))
    go_enter Try.func19, Try.ntmps19
    go_wp2_with fail
    go_ret
    exact ⟨ret_b HNE.out.symm, Below.refl _ _⟩
theorem row_gap {W : World} {A : Option Addr} {l : List (Nat × Nat)} (h : Row W A (gs l)) {i : Nat} (hi : i < l.length) :
    ∃ a, A = some a ∧ W.cell? (a.add (i * 2)) = some (.int .u16 ((l[i].1 : Nat) : Int)) ∧ W.cell? { block := (a.add (i * 2)).block, off := (a.add (i * 2)).off + 1 } = some (.int .u16 ((l[i].2 : Nat) : Int)) := by
  obtain ⟨a, rfl, h1⟩ := h _ _ (gs_get hi).1
  obtain ⟨b, hb, h2⟩ := h _ _ (gs_get hi).2
  injection hb with hb
  subst hb
  refine ⟨a, rfl, h1, ?_⟩
  rw [← h2]
  congr 1
  unfold Addr.add
  by_cases h0 : i * 2 = 0
  · simp [h0]
  · simp [h0, Nat.add_assoc]
theorem neq_gap (x1 x2 y1 y2 : Nat) (w : World) : (binOp .neq 113 (.agg #[.int .u16 (x1 : Int), .int .u16 (x2 : Int)]) (.agg #[.int .u16 (y1 : Int), .int .u16 (y2 : Int)])).run Try.prog w = .ok (.bool (!(decide (x1 = y1 ∧ x2 = y2)))) w := by
  have u3 := Try.underlying22
  have a3 := Try.isAgg22
  have z3 := Try.sizeOf22
  have hS : Try.prog.underlying 113 = some (.struct (Try.prog.fieldsOf 113)) := by kernel_rfl
  have hp : Try.prog.stoodInHeld 113 = false := by kernel_rfl
  rw [run_neq_struct, show (10000 : Nat) = 9999 + 1 from rfl, run_equalIn_agg w 9999 113 _ _ hS hp]
  simp only [Program.fieldsOf, Try.underlying113]
  go_simp
  by_cases h1 : x1 = y1 <;> by_cases h2 : x2 = y2 <;> simp [h1, h2] <;> omega
theorem guard_gap (op : BinOp) (x y : Operand) (xs ys : Array Value) (w : World) : (eqGuard op 113 x y (.agg xs) (.agg ys)).run Try.prog w = .ok () w := run_eqGuard_agg w op _ x y xs ys (by kernel_rfl)
set_option maxHeartbeats 1000000 in
theorem sgaps_any (A B : Option Addr) (n m c d : Nat) (l r : List (Nat × Nat)) (W : World) (hl : l.length = n) (hr : r.length = m) (hn : n ≤ 100000) (hm : m ≤ 100000) (ha : Row W A (gs l)) (hb : Row W B (gs r)) :
    Calls Try.prog 18 #[.slice A n c, .slice B m d] W fun e w' => e = .returned (.bool (decide (l = r))) ∧ Below W.heap.size W w' := by
  have HL := Lib.hid hl
  have HR := Lib.hid hr
  have HA := Lib.hid ha
  have HB := Lib.hid hb
  clear hl hr ha hb
  by_cases hnm : n = m
  · subst hnm
    have hz : ((n : Int) != (n : Int)) = false := by simp
    go_enter Try.func18, Try.ntmps18
    go_wp2_with fail
    go_loopw [5] (fun i wr => ∃ k : Nat, k ≤ n ∧ i = .int .i64 k ∧ Hid (l.take k = r.take k) ∧ Hid (Row wr A (gs l)) ∧ Hid (Row wr B (gs r)) ∧ Hid (Below W.heap.size W wr)) (fun i _ => n - (iof i).toNat)
    case atStart => exact ⟨0, Nat.zero_le _, rfl, Lib.hid rfl, HA, HB, Lib.hid (Below.refl _ _)⟩
    case round =>
      obtain ⟨k, hk, rfl, HT, HA2, HB2, HW⟩ := hrel
      clear HA HB
      by_cases hlt : k < n
      · have h1 : k < l.length := by rw [HL.out]; exact hlt
        have h2 : k < r.length := by rw [HR.out]; exact hlt
        obtain ⟨a, rfl, ca, ca2⟩ := row_gap HA2.out h1
        obtain ⟨b, rfl, cb, cb2⟩ := row_gap HB2.out h2
        have hs := take_same HT.out (show l[k]? = some l[k] by simp) (show r[k]? = some r[k] by simp)
        have HS := Lib.hid hs
        clear hs
        generalize l[k] = x at ca ca2 HS
        generalize r[k] = y at cb cb2 HS
        obtain ⟨x1, x2⟩ := x
        obtain ⟨y1, y2⟩ := y
        simp only [] at ca ca2 cb cb2
        clear h1 h2
        have hm : Try.prog.eqGuardType Try.prog.depth 113 = false := by kernel_rfl
        by_cases he : x1 = y1 ∧ x2 = y2
        · have hq : ∀ w, (binOp .neq 113 (.agg #[.int .u16 (x1 : Int), .int .u16 (x2 : Int)]) (.agg #[.int .u16 (y1 : Int), .int .u16 (y2 : Int)])).run Try.prog w = .ok (.bool false) w := fun w => by rw [neq_gap, decide_eq_true he]; rfl
          have HT2 := Lib.hid (HS.out.2 (by rw [he.1, he.2]))
          clear he
          go_wp2_with fail
          go_quiet (fail)
          go_wp2_with fail
          go_roundw
          case rel => exact ⟨k + 1, by omega, by go_num, HT2, Lib.hid HA2.out, Lib.hid HB2.out, Lib.hid (below_drewN HW.out _)⟩
          case measure => simp [iof] <;> omega
        · have hq : ∀ w, (binOp .neq 113 (.agg #[.int .u16 (x1 : Int), .int .u16 (x2 : Int)]) (.agg #[.int .u16 (y1 : Int), .int .u16 (y2 : Int)])).run Try.prog w = .ok (.bool true) w := fun w => by rw [neq_gap, decide_eq_false he]; rfl
          have HNE : Hid (decide (l = r) = false) := Lib.hid (decide_eq_false (fun e => he (by have := HS.out.1 (by rw [e]); simpa using this)))
          clear he
          go_wp2_with fail
          go_quiet (fail)
          go_wp2_with fail
          go_ret
          exact ⟨ret_b HNE.out.symm, below_drewN HW.out _⟩
      · have hkn : k = n := by omega
        have HE : Hid (decide (l = r) = true) := Lib.hid (decide_eq_true (by
          have := HT.out
          rwa [hkn, List.take_of_length_le (by rw [HL.out]; omega), List.take_of_length_le (by rw [HR.out]; omega)] at this))
        clear hkn
        go_wp2_with fail
        go_ret
        exact ⟨ret_b HE.out.symm, HW.out⟩
  · have hz : ((n : Int) != (m : Int)) = true := by simp only [bne_iff_ne, ne_eq]; omega
    have HNE : Hid (decide (l = r) = false) := Lib.hid (decide_eq_false (fun e => hnm (by rw [← HL.out, ← HR.out, e])))
    go_enter Try.func18, Try.ntmps18
    go_wp2_with fail
    go_ret
    exact ⟨ret_b HNE.out.symm, Below.refl _ _⟩
end Gp
end Go.Proofs.Ytednkcjmlpgipaa
