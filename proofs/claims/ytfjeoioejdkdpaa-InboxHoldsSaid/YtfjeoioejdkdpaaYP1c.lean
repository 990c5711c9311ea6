/-
  The ways of a set's TSNs, rising: what a range over the map collects, whatever its order, sorted by the library.
-/
import Derived.Test.YtfjeoioejdkdpaaYP1a
import Derived.Test.YtfjeoioejdkdpaaYSoPdq
import Derived.OwnWalk
import Derived.Laws.OwnMore
import Derived.RegionTactic
namespace Go.Proofs.Ytfjeoioejdkdpaa
open Go.RowKit Go.Maps
namespace Gp
set_option linter.unusedVariables false

theorem info16 : (Try.prog.info? 22).map (fun i => (i.zero, i.size, i.bytes)) = some (some (.int .u16 0), 1, 2) := by kernel_rfl
def ia (l : List Nat) : Array Int := (l.map fun (x : Nat) => (x : Int)).toArray
theorem ia_size (l : List Nat) : (ia l).size = l.length := by simp [ia]
theorem ia_get {l : List Nat} {i : Nat} (h : i < l.length) : (ia l)[i]! = ((l.getD i 0 : Nat) : Int) := by
  simp [ia, h, List.getD]
/-- A sorted permutation of what has the same members, none twice, is that. -/
theorem sorted_is {l ws : List Nat} {d : Array Int} (hl : l.Nodup) (hw : ws.Pairwise (· < ·)) (hm : ∀ x, x ∈ l ↔ x ∈ ws) (hp : Sort.PermIn 0 (ia l).size (ia l) d) (hs : Sort.SortedIn Sort.ltInt 0 (ia l).size d) : d.toList = ws.map fun (x : Nat) => (x : Int) := by
  obtain ⟨hsz, _, hperm⟩ := hp
  have e1 : d.extract 0 (ia l).size = d := by rw [← hsz]; exact Array.extract_size
  rw [e1, Array.extract_size] at hperm
  have hnw : ws.Nodup := hw.imp (fun h => by omega)
  have hpw : l.Perm ws := (List.perm_ext_iff_of_nodup hl hnw).2 hm
  have hp2 : d.toList.Perm (ws.map fun (x : Nat) => (x : Int)) := hperm.trans (by
    have : (ia l).toList = l.map fun (x : Nat) => (x : Int) := by simp [ia]
    rw [this]
    exact hpw.map _)
  refine List.Perm.eq_of_pairwise (le := fun a b : Int => a ≤ b) ?_ ?_ ?_ hp2
  · intro a b _ _ h1 h2
    omega
  · rw [List.pairwise_iff_getElem]
    intro i j hi hj hij
    have h := hs i j (Nat.zero_le _) hij (by rw [← hsz]; simpa using hj)
    simp only [Sort.ltInt, decide_eq_false_iff_not] at h
    have hi' : i < d.size := by simpa using hi
    have hj' : j < d.size := by simpa using hj
    simp only [hi', hj', getElem!_pos] at h
    simpa using h
  · rw [List.pairwise_map]
    exact hw.imp (fun h => by omega)
/-- What the range has met so far. -/
def Met (c : Nat) (ws : List Nat) (left : Lit → Bool) (l : List Nat) : Prop := l.Nodup ∧ ∀ x, x ∈ l ↔ x ∈ ws ∧ left (.int .u32 ((up c x : Nat) : Int)) = false
theorem met_start {c : Nat} {ws : List Nat} {D : DataW Unit} (hc : c < 4294967296) (hw : ∀ x ∈ ws, x ≤ 65535) (h : MapOk D c ws) : Met c ws (Maps.has D) [] := by
  refine ⟨List.nodup_nil, fun x => ⟨fun hm => by simp at hm, fun ⟨h1, h2⟩ => ?_⟩⟩
  rw [h.1 _ (up_lt c x), wy_up hc (by have := hw x h1; omega)] at h2
  simp [h1] at h2
theorem sameKey_u32 (a b : Nat) : (Lit.int .u32 (a : Int)).sameKey (.int .u32 (b : Int)) = decide (a = b) := by
  by_cases e : a = b
  · subst e
    rw [decide_eq_true rfl]
    exact WideAt.sameKey_self (by simp [WideAt.IsKeyLit])
  · rw [decide_eq_false e]
    exact sameKey_ne (fun e2 => by injection e2 with _ e3; exact e (by exact_mod_cast e3))
theorem met_step {c t : Nat} {ws l : List Nat} {left : Lit → Bool} (hc : c < 4294967296) (ht : t < 4294967296) (hw : ∀ x ∈ ws, x ≤ 65535) (h : Met c ws left l) (hl : left (.int .u32 (t : Int)) = true) (hm : wy c t ∈ ws) :
    Met c ws (fun z => left z && !z.sameKey (.int .u32 (t : Int))) (l ++ [wy c t]) := by
  have hn : wy c t ∉ l := fun hx => by
    have := ((h.2 _).1 hx).2
    rw [up_wy hc ht, hl] at this
    cases this
  refine ⟨List.nodup_append.2 ⟨h.1, by simp, fun a ha b hb e => by simp at hb; subst hb; subst e; exact hn ha⟩, fun x => ?_⟩
  rw [List.mem_append, h.2 x]
  simp only [List.mem_singleton, sameKey_u32]
  constructor
  · rintro (⟨h1, h2⟩ | rfl)
    · exact ⟨h1, by rw [h2, Bool.false_and]⟩
    · exact ⟨hm, by rw [up_wy hc ht]; simp⟩
  · rintro ⟨h1, h2⟩
    by_cases e : up c x = t
    · right
      rw [← e, wy_up hc (by have := hw x h1; omega)]
    · left
      refine ⟨h1, ?_⟩
      simpa [e] using h2
theorem wrap16 {x : Nat} (h : x ≤ 65535) : IntKind.u16.wrap (x : Int) = (x : Int) := by
  rw [IntKind.wrap_u16]; omega
theorem holds_ir {W : World} {g c : Nat} {l : List Nat} (h : Ir .u16 22 W (.slice (some ⟨g, 0, none⟩) l.length c) l) : Sort.Holds u16 W g 0 (ia l) := fun j hj => by
  rw [ia_size] at hj
  rcases h.2 with ⟨h1, h2⟩ | ⟨g2, cap, cur, h1, _, hg, _⟩
  · simp at h1
  · simp only [Value.slice.injEq, Option.some.injEq, Addr.mk.injEq] at h1
    obtain ⟨⟨rfl, _⟩, _, _⟩ := h1
    have hb : Bk W g cur 22 := hg
    have hc := h.row j _ (ns_get hj)
    obtain ⟨a, ha, hc⟩ := hc
    injection ha with ha
    subst ha
    rw [addr0] at hc
    rw [Nat.zero_add]
    exact ⟨by rw [hc, ia_get hj]; rfl, hb.frozen j⟩
set_option maxHeartbeats 1000000 in
theorem ways_any (W : World) (F : Nat → Prop) (s : Nat) (st : St) (h : PSet W F s st) :
    Calls Try.prog 93 #[.pointer (some ⟨s, 0, none⟩)] W fun e w' => ∃ g c, e = .returned (.slice (some ⟨g, 0, none⟩) st.ws.length c) ∧ Row w' (some ⟨g, 0, none⟩) (ns .u16 st.ws) ∧ Below W.heap.size W w' := by
  obtain ⟨⟨m, v, D, hb, hm, hM, hv, f1, f2, f3, f4⟩, ok⟩ := h
  have HC : Hid (∀ w2, Below W.heap.size W w2 → (w2.cell? ⟨s, 0, none⟩ = some (.int .u32 (st.cum : Int)) ∧ w2.cell? ⟨s, 1, none⟩ = some (.map (some m)))) := Lib.hid fun w2 hw => by
    have hb2 : Bk w2 s _ _ := (hw.block s hb.lt).trans hb
    exact ⟨(hb2.cell 0).trans rfl, (hb2.cell 1).trans rfl⟩
  have HLEN := Lib.hid (ris_len ok.2.1)
  have HM := Lib.hid hM
  have HO := Lib.hid hm
  have HOK := Lib.hid ok
  have hcs := HC.out W (Below.refl _ _)
  obtain ⟨c0, c1⟩ := hcs
  obtain ⟨i0, hi0, hz0, hz1, hz2⟩ := info_parts info16
  have HI := Lib.hid hi0
  have HZ0 := Lib.hid hz0
  have HZ1 := Lib.hid hz1
  have HZ2 := Lib.hid hz2
  have hsz : Hid (Maps.size D = st.ws.length) := Lib.hid hM.2
  clear hb hm hM hv ok hi0 hz0 hz1 hz2
  obtain ⟨w1, hrun, hown1, hg1⟩ := run_make_own (P := Try.prog) W 0 65 22 i0 (.int .u16 0) 1 Try.underlying65 HI.out HZ0.out HZ1.out .i64 .i64 st.ws.length (by rw [HZ2.out]; have := HLEN.out; omega) (by have := HLEN.out; unfold maxLen; omega) (Nat.zero_le _)
  have HI1 : Hid (Ir .u16 22 w1 (.slice (some ⟨W.heap.size, 0, none⟩) 0 st.ws.length) []) := Lib.hid hown1
  have HB1 : Hid (Below W.heap.size W w1) := Lib.hid ((Below.refl _ W).grown hg1 (Nat.le_refl _) (fun k hk => by cases hk))
  obtain ⟨c10, c11⟩ := HC.out w1 HB1.out
  have HO1 := Lib.hid (HO.out.kept hg1 (by simp))
  have hlt1 : W.heap.size < w1.heap.size := Ir.lt HI1.out rfl
  have HLT1 := Lib.hid hlt1
  clear hown1 hg1 hlt1
  go_enter Try.func93, Try.ntmps93
  go_wp2_with (first
    | (at_len; refine wpList_len_own _ rfl _ _ rfl 23 138 Try.underlying130 (unitElem (H := Unit)) m _ D rfl HO.out ?_; rw [hsz.out])
    | (at_range; refine wpList_range_own _ rfl _ 130 rfl 23 138 law32 Try.underlying130 (unitElem (H := Unit)) m _ D rfl HO1.out ?_; intro w2 hrg2 hg2 hs2))
  go_frame
  have HB2 : Hid (Below W.heap.size W w2) := Lib.hid (HB1.out.grown hg2 HB1.out.size (fun k hk => by cases hk))
  have HI2 : Hid (Ir .u16 22 w2 (.slice (some ⟨W.heap.size, 0, none⟩) 0 st.ws.length) []) := Lib.hid (HI1.out.kept hg2 (.inr (by simp [Value.ownBlock])))
  have HMET : Hid (Met st.cum st.ws (Maps.has D) []) := Lib.hid (met_start HOK.out.1 (fun x hx => (HOK.out.2.1.2 x hx).2) HM.out)
  obtain ⟨r, hr⟩ : ∃ r, r = w1.heap.size := ⟨_, rfl⟩
  rw [← hr] at hrg2 ⊢
  have hgr : W.heap.size < r := by rw [hr]; exact HLT1.out
  have HR2 := Lib.hid hrg2
  have HGR := Lib.hid hgr
  clear hr hrg2 hg2 hs2 HO1 HI1 HB1 HO c0 c1 c10 c11 hrun HLT1 hgr HI HZ0 HZ1 HZ2
  go_loopw [3, 4] (fun v3 _ wr => ∃ (left : Lit → Bool) (cnt : Nat) (l : List Nat) (g c n : Nat), v3 = .slice (some ⟨g, 0, none⟩) n c ∧ Hid (n = l.length) ∧ n ≤ 65535 ∧ Hid (n + cnt ≤ Maps.size D) ∧ Hid (Ir .u16 22 wr (.slice (some ⟨g, 0, none⟩) n c) l) ∧ Hid (W.heap.size ≤ g ∧ g ≠ r) ∧
      Hid (wr.ranges Try.prog 23 (unitElem (H := Unit)) m r st.ws.length D left cnt) ∧ Hid (Met st.cum st.ws left l) ∧ Hid (Below W.heap.size W wr)) (fun _ _ wr => wr.rangeLeft m r)
  case atStart => exact ⟨_, _, [], W.heap.size, st.ws.length, 0, rfl, rfl, by omega, Lib.hid (by simp), HI2, Lib.hid ⟨Nat.le_refl _, by have := HGR.out; omega⟩, HR2, HMET, HB2⟩
  case round =>
    obtain ⟨left, cnt, l, g, c, n, rfl, hnl, hn, hcnt, HI, HG, HR, HMT, HB⟩ := hrel
    clear HR2 HMET HI2 HB2
    have hcs := HC.out wr HB.out
    go_wp2_with (at_next; refine wpList_next_ranges _ rfl _ rfl 23 law32 (unitElem (H := Unit)) (fun x : Int => Value.int .u32 x) (fun _ : Unit => Value.agg #[]) (fun key kl hk => by obtain ⟨x, rfl, _⟩ := Maps.keyOf_int_inv Try.underlying23 hk; exact ⟨x, rfl⟩) (fun v y hv => by obtain ⟨rfl, _⟩ := unitElem_inv hv; exact ⟨(), rfl⟩) m r st.ws.length D left cnt rfl HR.out ?_ ?_)
    · intro _ hl0
      have hm : ∀ x, x ∈ l ↔ x ∈ st.ws := fun x => by rw [HMT.out.2 x, hl0]; simp
      have HMM := Lib.hid hm
      have hlen : l.length = st.ws.length := ((List.perm_ext_iff_of_nodup HMT.out.1 (HOK.out.2.1.1.imp (fun h => by omega))).2 hm).length_eq
      have hnw : n = st.ws.length := by rw [hnl.out, hlen]
      have HIR : Hid (Ir .u16 22 wr (.slice (some ⟨g, 0, none⟩) l.length c) l) := Lib.hid (by rw [← hnl.out]; exact HI.out)
      have hS := sort_any g 0 c (ia l) wr (holds_ir HIR.out) (Ir.lt HIR.out rfl) (by rw [ia_size, hlen]; have := HLEN.out; omega)
      rw [ia_size, hlen, ← hnw] at hS
      have HSRT := Lib.hid hS
      have HNW := Lib.hid hnw
      have HLL := Lib.hid hlen
      clear hl0 hm hlen hnw hS hcs
      go_wp2_with fail
      refine HSRT.out.mono ?_
      rintro e w3 ⟨d', rfl, hp, hso, hw⟩
      have hd : d'.toList = st.ws.map fun (x : Nat) => (x : Int) := sorted_is HMT.out.1 HOK.out.2.1.1 HMM.out (by rw [ia_size, HLL.out, ← HNW.out]; exact hp) (by rw [ia_size, HLL.out, ← HNW.out]; exact hso)
      have HD := Lib.hid hd
      have HW := Lib.hid hw
      clear hd hp hso hw
      go_wp2_with fail
      go_ret
      refine ⟨g, c, by rw [← HNW.out]; rfl, fun i v hv => ⟨_, rfl, ?_⟩, HB.out.grown HW.out.2 HB.out.size (fun k hk => by injection hk with e; rw [← e]; exact HG.out.1)⟩
      have hi : i < st.ws.length := by
        have := (List.getElem?_eq_some_iff.1 hv).1
        rwa [ns_len] at this
      have hds : d'.size = st.ws.length := by
        have := congrArg List.length HD.out
        simpa using this
      rw [ns_get hi] at hv
      injection hv with hv
      rw [← hv, addr0]
      have h1 := (HW.out.1 i (by omega)).1
      rw [Nat.zero_add] at h1
      rw [h1]
      have h2 : d'[i]! = ((st.ws.getD i 0 : Nat) : Int) := by
        have hi2 : i < d'.size := by rw [hds]; exact hi
        have hi3 : i < d'.toList.length := by simpa using hi2
        rw [getElem!_pos d' i hi2, show d'[i] = d'.toList[i] from rfl]
        simp [HD.out, List.getD, hi]
      rw [h2]
      rfl
    · intro x kl yd yp w1 cnt1 hkey hlk hy hat hrg1 hlt1 hgr1 hsz1 hen
      obtain ⟨x', ex, rfl, hwx⟩ := Maps.keyOf_int_inv Try.underlying23 hkey
      obtain rfl : x = x' := by injection ex
      obtain ⟨t, rfl⟩ : ∃ t : Nat, x = t := ⟨x.toNat, by have := wf_u32 hwx; omega⟩
      have ht : t < 4294967296 := by have := wf_u32 hwx; omega
      have hin : wy st.cum t ∈ st.ws := by
        have h1 := has_true_of_atKey hat
        rw [HM.out.1 t ht] at h1
        simpa using h1
      have HMET := Lib.hid (met_step HOK.out.1 ht (fun x hx => (HOK.out.2.1.2 x hx).2) HMT.out hlk hin)
      have hle := (HOK.out.2.1.2 _ hin).2
      have HSP := Lib.hid (span_any st.cum t w1 HOK.out.1 ht)
      have hwb : Below W.heap.size W w1 := HB.out.grown hgr1 HB.out.size (fun k hk => by injection hk with e; rw [← e]; have := HGR.out; omega)
      have HIR : Hid (Ir .u16 22 w1 (.slice (some ⟨g, 0, none⟩) n c) l) := Lib.hid (HI.out.kept hgr1 (.inr (by simpa [Value.ownBlock] using HG.out.2)))
      have HB1 := Lib.hid hwb
      have HRG1 := Lib.hid hrg1
      have HLT1 := Lib.hid hlt1
      have HEN := Lib.hid hen
      have hcs1 := HC.out w1 hwb
      obtain ⟨c10, c11⟩ := hcs1
      clear hcs hkey ex hwx hlk hy hat hin hwb hrg1 hlt1 hgr1 hsz1 HI HB
      generalize wy st.cum t = y at HMET hle HSP
      have hwr := wrap16 hle
      go_wp2_with (first | (go_at_call 74; refine HSP.out.mono ?_; rintro e w' ⟨rfl, rfl⟩) | (at_builtin; refine ir_app (k := .u16) (E := 22) (S := 65) Try.underlying65 info16 (by omega) rfl _ _ rfl (.slice (some ⟨g, 0, none⟩) n c) l rfl (HIR.out.kept (World.grownBy_alloc w1 _ none) (.inr (by simp [Value.ownBlock]))) y w1.heap.size 1 22 rfl (Bk.new w1 _ _) (by have := hnl.out; omega) ?_; intro g' c' w2 hown2 hgr2 hat2))
      have hgg : W.heap.size ≤ g' ∧ g' ≠ r := by
        rcases hat2 with h | h
        · obtain rfl : g = g' := by simpa [Value.ownBlock] using h
          exact HG.out
        · have h2 : g' = w1.heap.size + 1 := by simpa using h
          have := HB1.out.size
          have := HRG1.out.lt
          omega
      have hrk : w2.ranges Try.prog 23 (unitElem (H := Unit)) m r st.ws.length D _ cnt1 := (HRG1.out.alloc _).kept hgr2 (by
        simp only [Value.ownBlock, ne_eq, Option.some.injEq]
        have := f4 m f2
        have := HG.out.1
        omega) (by
        simp only [Value.ownBlock, ne_eq, Option.some.injEq]
        exact HG.out.2.symm)
      go_roundw
      case rel => exact ⟨_, cnt1, l ++ [y], g', c', l.length + 1, rfl, Lib.hid (by simp), by have := hcnt.out; have := hsz.out; have := HLEN.out; have := HLT1.out; have := hnl.out; omega, Lib.hid (by have := hcnt.out; have := HLT1.out; have := hnl.out; omega), Lib.hid hown2, Lib.hid hgg, Lib.hid hrk, HMET, Lib.hid (((HB1.out.alloc HB1.out.size _)).grown hgr2 (by have := HB1.out.size; simp; omega) (fun k hk => by
        have : g = k := by simpa [Value.ownBlock] using hk
        rw [← this]; exact HG.out.1))⟩
      case measure => rw [hrk.left_eq, HR.out.left_eq]; exact HLT1.out
end Gp
end Go.Proofs.Ytfjeoioejdkdpaa
/-
  Rows of gaps of the call's own.
-/
namespace Go.Proofs.Ytfjeoioejdkdpaa
open Go.RowKit Go.Maps
namespace Gp
set_option linter.unusedVariables false

/-- Gaps as cells: two each. -/
def gs (l : List (Nat × Nat)) : List Value := l.flatMap fun p => [Value.int .u16 (p.1 : Int), Value.int .u16 (p.2 : Int)]
theorem gs_len (l : List (Nat × Nat)) : (gs l).length = l.length * 2 := by
  induction l with
  | nil => rfl
  | cons p l ih => simp [gs] at ih ⊢; omega
theorem gs_app (l m : List (Nat × Nat)) : gs l ++ gs m = gs (l ++ m) := by simp [gs]
theorem gs_get : ∀ {l : List (Nat × Nat)} {i : Nat} (h : i < l.length), (gs l)[i * 2]? = some (.int .u16 ((l[i].1 : Nat) : Int)) ∧ (gs l)[i * 2 + 1]? = some (.int .u16 ((l[i].2 : Nat) : Int))
  | p :: l, 0, _ => by simp [gs]
  | p :: l, i + 1, h => by
    have e : gs (p :: l) = [Value.int .u16 (p.1 : Int), Value.int .u16 (p.2 : Int)] ++ gs l := by simp [gs]
    have ih := gs_get (l := l) (i := i) (by simpa using h)
    rw [e, List.getElem?_append_right (by simp; omega), List.getElem?_append_right (by simp; omega)]
    simp only [List.length_cons, List.length_nil, List.getElem_cons_succ]
    rw [show (i + 1) * 2 - (0 + 1 + 1) = i * 2 by omega, show (i + 1) * 2 + 1 - (0 + 1 + 1) = i * 2 + 1 by omega]
    exact ih
theorem gs_one (l : List (Nat × Nat)) : ∀ u ∈ gs l, u.oneCell' = true := fun u hu => by
  simp only [gs, List.mem_flatMap] at hu
  obtain ⟨p, _, hp⟩ := hu
  simp at hp
  rcases hp with rfl | rfl <;> rfl
theorem gs_last (l : List (Nat × Nat)) (p : Nat × Nat) (w : Nat) : (gs (l ++ [p])).set (l.length * 2 + 1) (.int .u16 (w : Int)) = gs (l ++ [(p.1, w)]) := by
  rw [← gs_app, ← gs_app, List.set_append_right _ _ (by rw [gs_len]; omega), gs_len, show l.length * 2 + 1 - l.length * 2 = 1 by omega]
  rfl
def Gr (W : World) (v : Value) (l : List (Nat × Nat)) : Prop := W.ownsRow 0 119 2 v l.length (gs l)
theorem Gr.nil (W : World) : Gr W (.slice none 0 0) [] := World.ownsRow_nil _ _ _ _
theorem Gr.kept {W W' : World} {v : Value} {l : List (Nat × Nat)} {row : Option Nat} (h : Gr W v l) (hg : W.grownBy W' row) (hne : v.ownBlock = none ∨ v.ownBlock ≠ row) : Gr W' v l := World.ownsRow.kept h hg hne
theorem Gr.row {W : World} {A : Option Addr} {n c : Nat} {l : List (Nat × Nat)} (h : Gr W (.slice A n c) l) : Row W A (gs l) := fun i v hv => by
  rcases id h.2 with ⟨_, h0⟩ | ⟨g, cap, cur, hv2, _⟩
  · have := h.1
    have h1 := (List.getElem?_eq_some_iff.1 hv).1
    omega
  · simp only [Value.slice.injEq] at hv2
    obtain ⟨rfl, _, _⟩ := hv2
    exact ⟨_, rfl, h.cells (g := g) rfl i v hv⟩
theorem infoG : (Try.prog.info? 119).map (fun i => (i.zero, i.size, i.bytes)) = some (some (.agg #[.int .u16 0, .int .u16 0]), 2, 4) := by kernel_rfl
/-- An append of one gap. -/
theorem gr_app {w : World} {ops : Array Oper} {rest : List Oper} {o : Oper} {a : Act} {Q : Exit → Act → World → Prop} (hgd : o.guard = none) (s x : Operand)
    (ho : o.op = .call { callee := .builtin .append, args := #[s, x], argTypes := #[44, 44] }) (v : Value) (l : List (Nat × Nat)) (hs : a.eval s = v) (hown : Gr w v l) (y1 y2 : Nat)
    (B cap : Nat) (t : TypeId) (hx : a.eval x = .slice (some ⟨B, 0, none⟩) 1 cap) (hB : Bk w B #[.int .u16 (y1 : Int), .int .u16 (y2 : Int)] t) (hlen : l.length ≤ 100000)
    (h : ∀ g c w', Gr w' (.slice (some ⟨g, 0, none⟩) (l.length + 1) c) (l ++ [(y1, y2)]) → w.grownBy w' v.ownBlock → (v.ownBlock = some g ∨ g = w.heap.size) → wpList Try.prog ops Q rest (a.put o.dst (.slice (some ⟨g, 0, none⟩) (l.length + 1) c)) w') :
    wpList Try.prog ops Q (o :: rest) a w := by
  obtain ⟨i0, hi0, hz0, hz1, hz2⟩ := info_parts infoG
  refine wpList_append_lies w hgd s x 44 ho 0 119 i0 (.agg #[.int .u16 0, .int .u16 0]) 2 4 Try.underlying44 hi0 hz0 hz1 hz2 rfl (by omega) v l.length (gs l) hs hown ⟨B, 0, none⟩ 1 cap (gs [(y1, y2)]) hx rfl ?_ (gs_one _) (by omega) (by unfold maxLen; omega) (by omega) (Nat.zero_le _) _ rfl ?_
  · intro j u hj
    have := World.news_of_block (w := w) hB j u
    simpa [gs] using this (by simpa [gs] using hj)
  · intro g c w' ho2 hg2 hat hlt
    refine h g c w' ?_ hg2 hat
    show w'.ownsRow 0 _ 2 _ (l ++ [(y1, y2)]).length (gs (l ++ [(y1, y2)]))
    rw [← gs_app, List.length_append]
    exact ho2
/-- The last gap ends later. -/
theorem Gr.last {W : World} {g n c : Nat} {l : List (Nat × Nat)} {p : Nat × Nat} (h : Gr W (.slice (some ⟨g, 0, none⟩) n c) (l ++ [p])) (w : Nat) :
    Gr (W.setCell ⟨g, l.length * 2 + 1, none⟩ (.int .u16 (w : Int))) (.slice (some ⟨g, 0, none⟩) n c) (l ++ [(p.1, w)]) := by
  have hn : n = (l ++ [p]).length := by
    rcases h.2 with ⟨h1, h2⟩ | ⟨g2, cap, cur, h1, _⟩
    · simp at h1
    · simp only [Value.slice.injEq] at h1; exact h1.2.1
  subst hn
  have := (World.ownsRow.stored h (l.length * 2 + 1) (.int .u16 (w : Int))).1
  rw [gs_last] at this
  have e : (l ++ [(p.1, w)]).length = (l ++ [p]).length := by simp
  show World.ownsRow _ 0 _ 2 _ (l ++ [(p.1, w)]).length _
  rw [e]
  exact this
theorem row_far {W W' : World} {g : Nat} {l : List Value} {row : Option Nat} (h : Row W (some ⟨g, 0, none⟩) l) (hg : W.grownBy W' row) (hne : some g ≠ row) : Row W' (some ⟨g, 0, none⟩) l := fun i v hv => by
  obtain ⟨a, ha, hc⟩ := h i v hv
  injection ha with ha
  subst ha
  refine ⟨_, rfl, ?_⟩
  rw [addr0] at hc ⊢
  exact hg.cell hc hne
/-- Where a row of gaps lies, behind an append. -/
theorem lies_new {W wr w2 : World} {gw g' n c : Nat} {A : Option Addr} {o : Obj} (hA : ∀ a, A = some a → W.heap.size ≤ a.block ∧ a.block ≠ gw) (hb : Below W.heap.size W wr) (hgw : gw < wr.heap.size)
    (hat : (Value.slice A n c).ownBlock = some g' ∨ g' = (wr.alloc o).heap.size) : ∀ a, some (⟨g', 0, none⟩ : Addr) = some a → W.heap.size ≤ a.block ∧ a.block ≠ gw := fun a ha => by
  injection ha with ha
  subst ha
  rcases hat with h | h
  · cases A with
    | none => cases h
    | some a =>
      obtain rfl : a.block = g' := by simpa [Value.ownBlock] using h
      exact hA a rfl
  · have h2 : g' = wr.heap.size + 1 := by simpa using h
    have := hb.size
    exact ⟨by show W.heap.size ≤ g'; omega, by show g' ≠ gw; omega⟩
theorem own_far {W : World} {gw n c : Nat} {A : Option Addr} (hA : ∀ a, A = some a → W.heap.size ≤ a.block ∧ a.block ≠ gw) : some gw ≠ (Value.slice A n c).ownBlock ∧ ∀ k, (Value.slice A n c).ownBlock = some k → W.heap.size ≤ k := by
  cases A with
  | none => exact ⟨by simp [Value.ownBlock], fun k hk => by cases hk⟩
  | some a =>
    obtain ⟨h1, h2⟩ := hA a rfl
    exact ⟨by simp [Value.ownBlock]; exact fun e => h2 e.symm, fun k hk => by
      have : a.block = k := by simpa [Value.ownBlock] using hk
      rw [← this]; exact h1⟩
end Gp
end Go.Proofs.Ytfjeoioejdkdpaa
/-
  The program's gaps.
-/
namespace Go.Proofs.Ytfjeoioejdkdpaa
open Go.RowKit Go.Maps
namespace Gp
set_option linter.unusedVariables false

theorem gaps_nil (W : World) : Calls Try.prog 62 #[.pointer none] W fun e w' => e = .returned (.slice none 0 0) ∧ W = w' := by
  go_enter Try.func62, Try.ntmps62
  go_wp2_with fail
  go_ret
  exact ⟨rfl, rfl⟩
set_option maxHeartbeats 1000000 in
theorem gaps_new (W : World) (F : Nat → Prop) (s : Nat) (st : St) (h : PSet W F s st) :
    Calls Try.prog 62 #[.pointer (some ⟨s, 0, none⟩)] W fun e w' => ∃ A c, e = .returned (.slice A st.gaps.length c) ∧ Row w' A (gs st.gaps) ∧ (∀ a, A = some a → W.heap.size ≤ a.block) ∧ Below W.heap.size W w' := by
  have HWY := Lib.hid (ways_any W F s st h)
  have ok := h.2
  have HOK := Lib.hid ok
  have HLEN := Lib.hid (ris_len ok.2.1)
  have HGP : Hid (st.gaps = (runs st.ws).take 64) := Lib.hid rfl
  clear h ok
  obtain ⟨ws, hws⟩ : ∃ ws, ws = st.ws := ⟨_, rfl⟩
  have HRIS : Hid (Ris 2 65535 ws) := Lib.hid (by rw [hws]; exact HOK.out.2.1)
  rw [← hws] at HWY HLEN HGP
  clear hws HOK
  generalize st.gaps = gg at HGP ⊢
  obtain ⟨nw, hnw⟩ : ∃ nw, nw = ws.length := ⟨_, rfl⟩
  rw [← hnw] at HWY HLEN
  have HNW := Lib.hid hnw
  have hnw9 := HLEN.out
  clear hnw
  go_enter Try.func62, Try.ntmps62
  go_wp2_with fail
  refine HWY.out.mono ?_
  rintro e w1 ⟨gw, cw, rfl, hrow, hb1⟩
  have HROW := Lib.hid hrow
  have HB1 := Lib.hid hb1
  clear hrow hb1 HWY
  go_wp2_with fail
  go_loopw [3, 5, 6, 12] (fun v3 _ _ v12 wr => ∃ (k : Nat) (A : Option Addr) (c n : Nat) (l : List (Nat × Nat)), v12 = .int .i64 k ∧ k ≤ nw ∧ v3 = .slice A n c ∧ n ≤ 64 ∧ Hid (l = runs (ws.take k)) ∧ Hid (n = l.length) ∧ Hid (Gr wr (.slice A n c) l) ∧ Hid (∀ a, A = some a → W.heap.size ≤ a.block ∧ a.block ≠ gw) ∧ Hid (Row wr (some ⟨gw, 0, none⟩) (ns .u16 ws)) ∧ Hid (Below W.heap.size W wr)) (fun _ _ _ v12 _ => nw - (iof v12).toNat)
  case atStart => exact ⟨0, none, 0, 0, [], rfl, Nat.zero_le _, rfl, by omega, Lib.hid (by simp [runs]), rfl, Gr.nil _, Lib.hid (fun a ha => by cases ha), HROW, HB1⟩
  case round =>
    obtain ⟨k, A, c, n, l, rfl, hk, rfl, hn, HL, HN, HG, HA, HR, HB⟩ := hrel
    clear HROW HB1
    by_cases hlt : k < nw
    · have hkl : k < ws.length := by rw [← HNW.out]; exact hlt
      have hwv := ris_at HRIS.out hkl
      have hcw : wr.cell? ⟨gw, k, none⟩ = some (.int .u16 ((ws.getD k 0 : Nat) : Int)) := by
        obtain ⟨a, ha, hc⟩ := HR.out k _ (ns_get hkl)
        injection ha with ha
        subst ha
        rwa [addr0] at hc
      have HGW : Hid (gw < wr.heap.size) := Lib.hid (block_lt_of_cell hcw)
      have HST : Hid (runs (ws.take (k + 1)) = gstep l (ws.getD k 0)) := Lib.hid (by rw [take_snoc hkl, runs_snoc, HL.out])
      have HLAST : Hid (∀ m p, l = m ++ [p] → p.2 < ws.getD k 0) := Lib.hid fun m p e => last_lt HRIS.out hkl (by rw [← HL.out, e])
      have HFULL : Hid (l.length = 64 → (∀ p, l.getLast? = some p → p.2 + 1 ≠ ws.getD k 0) → gg = l) := Lib.hid fun h1 h2 => by
        rw [HGP.out, HL.out]
        conv => lhs; rw [split_at hkl]
        exact runs_full (by rw [← HL.out]; exact h1) (by rw [← HL.out]; exact h2)
      generalize ws.getD k 0 = w at hwv hcw HST HLAST HFULL
      clear hkl
      rcases List.eq_nil_or_concat l with rfl | ⟨m, p, rfl⟩
      · have hn0 : n = 0 := by simpa using HN.out
        subst hn0
        go_wp2_with (at_builtin; refine gr_app rfl _ _ rfl (.slice A 0 c) [] rfl (HG.out.kept (World.grownBy_alloc wr _ none) (by cases hv : (Value.slice A 0 c).ownBlock <;> simp)) w w wr.heap.size 1 119 rfl (Bk.new wr _ _) (by simp) ?_; intro g' c' w2 hown2 hgr2 hat2)
        go_roundw
        case rel => exact ⟨k + 1, some ⟨g', 0, none⟩, c', 1, [(w, w)], by go_num, by omega, rfl, by omega, Lib.hid (by rw [HST.out]; rfl), rfl, Lib.hid hown2, Lib.hid (lies_new (n := 0) (c := c) (w2 := w2) HA.out HB.out HGW.out hat2), Lib.hid (row_far (row_far HR.out (World.grownBy_alloc wr _ none) (by simp)) hgr2 (own_far (n := 0) (c := c) HA.out).1), Lib.hid ((HB.out.alloc HB.out.size _).grown hgr2 (by have := HB.out.size; simp; omega) (own_far (n := 0) (c := c) HA.out).2)⟩
        case measure => simp [iof] <;> omega
      · rw [List.concat_eq_append] at HN HG HST HLAST HFULL
        obtain ⟨g, rfl⟩ : ∃ g, A = some ⟨g, 0, none⟩ := by
          have hf := (World.ownsRow.form HG.out (by simp))
          obtain ⟨g, cap, he, _⟩ := hf
          simp only [Value.slice.injEq] at he
          exact ⟨g, he.1⟩
        have hnm : n = m.length + 1 := by have := HN.out; simpa using this
        obtain ⟨j, hj⟩ : ∃ j, j = m.length := ⟨_, rfl⟩
        have hp2 := HLAST.out m p rfl
        have hcp : wr.cell? ⟨g, j * 2 + 1, none⟩ = some (.int .u16 (p.2 : Int)) := by
          rw [World.ownsRow.cellAt (n := n) (cap := c) (by have := HG.out; unfold Gr at this; rw [← HN.out] at this; exact this) _ (by omega)]
          have := (gs_get (l := m ++ [p]) (i := m.length) (by simp)).2
          rw [hj]
          simpa using this
        have hfz : wr.frozen? ⟨g, j * 2 + 1, none⟩ = false := World.ownsRow.frozenAt (n := n) (cap := c) (by have := HG.out; unfold Gr at this; rw [← HN.out] at this; exact this) _
        rw [← hj] at hnm
        have HJ := Lib.hid hj
        subst hnm
        clear hj HGP HLEN
        have e1 : ((j + 1 : Nat) : Int) - 1 = j := by omega
        by_cases hadj : p.2 + 1 = w
        · have hq : ((p.2 : Int) + 1 == (w : Int)) = true := by simp; omega
          have HNEW : Hid (m ++ [(p.1, w)] = runs (ws.take (k + 1))) := Lib.hid (by rw [HST.out, gstep_on hadj])
          have hp3 : p.2 ≤ 65534 := by omega
          clear hadj
          go_wp2_with fail
          have hgs := setc_grown wr g (j * 2 + 1) (.int .u16 (w : Int))
          have hG2 : Gr (wr.setCell ⟨g, j * 2 + 1, none⟩ (.int .u16 (w : Int))) (.slice (some ⟨g, 0, none⟩) (j + 1) c) (m ++ [(p.1, w)]) := by
            have := Gr.last (W := wr) (g := g) (n := j + 1) (c := c) (l := m) (p := p) HG.out w
            rw [← HJ.out] at this
            exact this
          go_roundw
          case rel => exact ⟨k + 1, some ⟨g, 0, none⟩, c, j + 1, m ++ [(p.1, w)], by go_num, by omega, rfl, hn, HNEW, Lib.hid (by simp; exact HJ.out), Lib.hid hG2, HA, Lib.hid (row_far HR.out hgs (by simp; exact fun e => (HA.out _ rfl).2 e.symm)), Lib.hid (HB.out.grown hgs HB.out.size (fun k hk => by injection hk with e; rw [← e]; exact (HA.out _ rfl).1))⟩
          case measure => simp [iof] <;> omega
        · have hq : ((p.2 : Int) + 1 == (w : Int)) = false := by simp; omega
          have hp3 : p.2 ≤ 65534 := by omega
          by_cases h64 : j + 1 = 64
          · obtain rfl : j = 63 := by omega
            have HGG : Hid (gg = m ++ [p]) := Lib.hid (HFULL.out (by simp; have := HJ.out; omega) (fun q hq => by simp at hq; rw [← hq]; exact hadj))
            clear hadj h64
            go_wp2_with fail
            go_ret
            exact ⟨some ⟨g, 0, none⟩, c, by rw [HGG.out]; have := HJ.out; simp [← this], by rw [HGG.out]; exact HG.out.row, fun a ha => (HA.out a ha).1, HB.out⟩
          · have HNEW : Hid (m ++ [p] ++ [(w, w)] = runs (ws.take (k + 1))) := Lib.hid (by rw [HST.out, gstep_new hadj])
            have h64z : (((j + 1 : Nat) : Int) == 64) = false := by simp; omega
            have h64y : ((j : Int) + 1 == 64) = false := by simp; omega
            have HG1 : Hid (Gr wr (.slice (some ⟨g, 0, none⟩) (j + 1) c) (m ++ [p])) := HG
            clear hadj
            go_wp2_with (at_builtin; refine gr_app rfl _ _ rfl (.slice (some ⟨g, 0, none⟩) (j + 1) c) (m ++ [p]) rfl (HG1.out.kept (World.grownBy_alloc wr _ none) (.inr (by simp [Value.ownBlock]))) w w wr.heap.size 1 119 rfl (Bk.new wr _ _) (by simp; have := HJ.out; omega) ?_; intro g' c' w2 hown2 hgr2 hat2)
            go_roundw
            case rel => exact ⟨k + 1, some ⟨g', 0, none⟩, c', m.length + 1 + 1, m ++ [p] ++ [(w, w)], by go_num, by omega, rfl, by have := HJ.out; omega, HNEW, Lib.hid (by simp), Lib.hid (by simpa using hown2), Lib.hid (lies_new (n := j + 1) (c := c) (w2 := w2) HA.out HB.out HGW.out hat2), Lib.hid (row_far (row_far HR.out (World.grownBy_alloc wr _ none) (by simp)) hgr2 (own_far (n := j + 1) (c := c) HA.out).1), Lib.hid ((HB.out.alloc HB.out.size _).grown hgr2 (by have := HB.out.size; simp; omega) (own_far (n := j + 1) (c := c) HA.out).2)⟩
            case measure => simp [iof] <;> omega
    · have hkn : k = nw := by omega
      have hfin : gg = l := by
        rw [HGP.out, HL.out, hkn, HNW.out, List.take_length]
        apply List.take_of_length_le
        have := HN.out
        rw [HL.out, hkn, HNW.out, List.take_length] at this
        omega
      have HF := Lib.hid hfin
      clear hkn hfin
      go_wp2_with fail
      go_ret
      refine ⟨A, c, by rw [HF.out, ← HN.out]; rfl, ?_, fun a ha => (HA.out a ha).1, HB.out⟩
      rw [HF.out]
      exact HG.out.row
theorem gaps_any (W : World) (F : Nat → Prop) (s : Nat) (st : St) (h : PSet W F s st) :
    Calls Try.prog 62 #[.pointer (some ⟨s, 0, none⟩)] W fun e w' => ∃ A c, e = .returned (.slice A st.gaps.length c) ∧ Row w' A (gs st.gaps) ∧ Below W.heap.size W w' :=
  (gaps_new W F s st h).mono fun _ _ ⟨A, c, h1, h2, _, h3⟩ => ⟨A, c, h1, h2, h3⟩
end Gp
end Go.Proofs.Ytfjeoioejdkdpaa
/-
  Two rows held against each other.
-/
namespace Go.Proofs.Ytfjeoioejdkdpaa
open Go.RowKit Go.Maps
namespace Gp
set_option linter.unusedVariables false

theorem take_same {α : Type} {l m : List α} {k : Nat} {x y : α} (h : l.take k = m.take k) (hl : l[k]? = some x) (hm : m[k]? = some y) : (l.take (k + 1) = m.take (k + 1) ↔ x = y) := by
  have h1 := (List.getElem?_eq_some_iff.1 hl)
  have h2 := (List.getElem?_eq_some_iff.1 hm)
  obtain ⟨a1, rfl⟩ := h1
  obtain ⟨a2, rfl⟩ := h2
  rw [List.take_succ_eq_append_getElem a1, List.take_succ_eq_append_getElem a2, h]
  constructor
  · intro e
    have := List.append_cancel_left e
    simpa using this
  · intro e
    rw [e]
set_option maxHeartbeats 1000000 in
theorem tsns_any (A B : Option Addr) (n m c d : Nat) (l r : List Nat) (W : World) (hl : l.length = n) (hr : r.length = m) (hn : n ≤ 100000) (hm : m ≤ 100000) (ha : Row W A (ns .u32 l)) (hb : Row W B (ns .u32 r)) :
    Calls Try.prog 23 #[.slice A n c, .slice B m d] W fun e w' => e = .returned (.bool (decide (l = r))) ∧ Below W.heap.size W w' := by
  have HL := Lib.hid hl
  have HR := Lib.hid hr
  have HA := Lib.hid ha
  have HB := Lib.hid hb
  clear hl hr ha hb
  by_cases hnm : n = m
  · subst hnm
    have hz : ((n : Int) != (n : Int)) = false := by simp
    go_enter Try.func23, Try.ntmps23
    go_wp2_with fail
    go_loopw [5] (fun i wr => ∃ k : Nat, k ≤ n ∧ i = .int .i64 k ∧ Hid (l.take k = r.take k) ∧ Hid (Row wr A (ns .u32 l)) ∧ Hid (Row wr B (ns .u32 r)) ∧ Hid (Below W.heap.size W wr)) (fun i _ => n - (iof i).toNat)
    case atStart => exact ⟨0, Nat.zero_le _, rfl, Lib.hid rfl, HA, HB, Lib.hid (Below.refl _ _)⟩
    case round =>
      obtain ⟨k, hk, rfl, HT, HA2, HB2, HW⟩ := hrel
      clear HA HB
      by_cases hlt : k < n
      · have h1 : k < l.length := by rw [HL.out]; exact hlt
        have h2 : k < r.length := by rw [HR.out]; exact hlt
        obtain ⟨a, rfl, ca⟩ := HA2.out k _ (ns_get h1)
        obtain ⟨b, rfl, cb⟩ := HB2.out k _ (ns_get h2)
        have hs := take_same HT.out (show l[k]? = some (l.getD k 0) by simp [List.getD, h1]) (show r[k]? = some (r.getD k 0) by simp [List.getD, h2])
        have HS := Lib.hid hs
        clear hs h1 h2
        generalize l.getD k 0 = x at ca HS
        generalize r.getD k 0 = y at cb HS
        by_cases he : x = y
        · have hq : ((x : Int) != (y : Int)) = false := by simp only [bne_eq_false_iff_eq]; omega
          have HT2 := Lib.hid (HS.out.2 he)
          clear he
          go_wp2_with fail
          go_quiet (fail)
          go_wp2_with fail
          go_roundw
          case rel => exact ⟨k + 1, by omega, by go_num, HT2, Lib.hid HA2.out, Lib.hid HB2.out, Lib.hid (below_drewN HW.out _)⟩
          case measure => simp [iof] <;> omega
        · have hq : ((x : Int) != (y : Int)) = true := by simp only [bne_iff_ne, ne_eq]; omega
          have HNE : Hid (decide (l = r) = false) := Lib.hid (decide_eq_false (fun e => he (HS.out.1 (by rw [e]))))
          clear he
          go_wp2_with fail
          go_quiet (fail)
          go_wp2_with fail
          go_ret
          exact ⟨ret_b HNE.out.symm, below_drewN HW.out _⟩
      · have hkn : k = n := by omega
        have HE : Hid (decide (l = r) = true) := Lib.hid (decide_eq_true (by
          have := HT.out
          rwa [hkn, List.take_of_length_le (by rw [HL.out]; omega), List.take_of_length_le (by rw [HR.out]; omega)] at this))
        clear hkn
        go_wp2_with fail
        go_ret
        exact ⟨ret_b HE.out.symm, HW.out⟩
  · have hz : ((n : Int) != (m : Int)) = true := by simp only [bne_iff_ne, ne_eq]; omega
    have HNE : Hid (decide (l = r) = false) := Lib.hid (decide_eq_false (fun e => hnm (by rw [← HL.out, ← HR.out, e])))
    go_enter Try.func23, Try.ntmps23
    go_wp2_with fail
    go_ret
    exact ⟨ret_b HNE.out.symm, Below.refl _ _⟩
theorem row_gap {W : World} {A : Option Addr} {l : List (Nat × Nat)} (h : Row W A (gs l)) {i : Nat} (hi : i < l.length) :
    ∃ a, A = some a ∧ W.cell? (a.add (i * 2)) = some (.int .u16 ((l[i].1 : Nat) : Int)) ∧ W.cell? { block := (a.add (i * 2)).block, off := (a.add (i * 2)).off + 1 } = some (.int .u16 ((l[i].2 : Nat) : Int)) := by
  obtain ⟨a, rfl, h1⟩ := h _ _ (gs_get hi).1
  obtain ⟨b, hb, h2⟩ := h _ _ (gs_get hi).2
  injection hb with hb
  subst hb
  refine ⟨a, rfl, h1, ?_⟩
  rw [← h2]
  congr 1
  unfold Addr.add
  by_cases h0 : i * 2 = 0
  · simp [h0]
  · simp [h0, Nat.add_assoc]
theorem neq_gap (x1 x2 y1 y2 : Nat) (w : World) : (binOp .neq 119 (.agg #[.int .u16 (x1 : Int), .int .u16 (x2 : Int)]) (.agg #[.int .u16 (y1 : Int), .int .u16 (y2 : Int)])).run Try.prog w = .ok (.bool (!(decide (x1 = y1 ∧ x2 = y2)))) w := by
  have u3 := Try.underlying22
  have a3 := Try.isAgg22
  have z3 := Try.sizeOf22
  have hS : Try.prog.underlying 119 = some (.struct (Try.prog.fieldsOf 119)) := by kernel_rfl
  have hp : Try.prog.stoodInHeld 119 = false := by kernel_rfl
  rw [run_neq_struct, show (10000 : Nat) = 9999 + 1 from rfl, run_equalIn_agg w 9999 119 _ _ hS hp]
  simp only [Program.fieldsOf, Try.underlying119]
  go_simp
  by_cases h1 : x1 = y1 <;> by_cases h2 : x2 = y2 <;> simp [h1, h2] <;> omega
theorem guard_gap (op : BinOp) (x y : Operand) (xs ys : Array Value) (w : World) : (eqGuard op 119 x y (.agg xs) (.agg ys)).run Try.prog w = .ok () w := run_eqGuard_agg w op _ x y xs ys (by kernel_rfl)
set_option maxHeartbeats 1000000 in
theorem sgaps_any (A B : Option Addr) (n m c d : Nat) (l r : List (Nat × Nat)) (W : World) (hl : l.length = n) (hr : r.length = m) (hn : n ≤ 100000) (hm : m ≤ 100000) (ha : Row W A (gs l)) (hb : Row W B (gs r)) :
    Calls Try.prog 22 #[.slice A n c, .slice B m d] W fun e w' => e = .returned (.bool (decide (l = r))) ∧ Below W.heap.size W w' := by
  have HL := Lib.hid hl
  have HR := Lib.hid hr
  have HA := Lib.hid ha
  have HB := Lib.hid hb
  clear hl hr ha hb
  by_cases hnm : n = m
  · subst hnm
    have hz : ((n : Int) != (n : Int)) = false := by simp
    go_enter Try.func22, Try.ntmps22
    go_wp2_with fail
    go_loopw [5] (fun i wr => ∃ k : Nat, k ≤ n ∧ i = .int .i64 k ∧ Hid (l.take k = r.take k) ∧ Hid (Row wr A (gs l)) ∧ Hid (Row wr B (gs r)) ∧ Hid (Below W.heap.size W wr)) (fun i _ => n - (iof i).toNat)
    case atStart => exact ⟨0, Nat.zero_le _, rfl, Lib.hid rfl, HA, HB, Lib.hid (Below.refl _ _)⟩
    case round =>
      obtain ⟨k, hk, rfl, HT, HA2, HB2, HW⟩ := hrel
      clear HA HB
      by_cases hlt : k < n
      · have h1 : k < l.length := by rw [HL.out]; exact hlt
        have h2 : k < r.length := by rw [HR.out]; exact hlt
        obtain ⟨a, rfl, ca, ca2⟩ := row_gap HA2.out h1
        obtain ⟨b, rfl, cb, cb2⟩ := row_gap HB2.out h2
        have hs := take_same HT.out (show l[k]? = some l[k] by simp) (show r[k]? = some r[k] by simp)
        have HS := Lib.hid hs
        clear hs
        generalize l[k] = x at ca ca2 HS
        generalize r[k] = y at cb cb2 HS
        obtain ⟨x1, x2⟩ := x
        obtain ⟨y1, y2⟩ := y
        simp only [] at ca ca2 cb cb2
        clear h1 h2
        have hm : Try.prog.eqGuardType Try.prog.depth 119 = false := by kernel_rfl
        by_cases he : x1 = y1 ∧ x2 = y2
        · have hq : ∀ w, (binOp .neq 119 (.agg #[.int .u16 (x1 : Int), .int .u16 (x2 : Int)]) (.agg #[.int .u16 (y1 : Int), .int .u16 (y2 : Int)])).run Try.prog w = .ok (.bool false) w := fun w => by rw [neq_gap, decide_eq_true he]; rfl
          have HT2 := Lib.hid (HS.out.2 (by rw [he.1, he.2]))
          clear he
          go_wp2_with fail
          go_quiet (fail)
          go_wp2_with fail
          go_roundw
          case rel => exact ⟨k + 1, by omega, by go_num, HT2, Lib.hid HA2.out, Lib.hid HB2.out, Lib.hid (below_drewN HW.out _)⟩
          case measure => simp [iof] <;> omega
        · have hq : ∀ w, (binOp .neq 119 (.agg #[.int .u16 (x1 : Int), .int .u16 (x2 : Int)]) (.agg #[.int .u16 (y1 : Int), .int .u16 (y2 : Int)])).run Try.prog w = .ok (.bool true) w := fun w => by rw [neq_gap, decide_eq_false he]; rfl
          have HNE : Hid (decide (l = r) = false) := Lib.hid (decide_eq_false (fun e => he (by have := HS.out.1 (by rw [e]); simpa using this)))
          clear he
          go_wp2_with fail
          go_quiet (fail)
          go_wp2_with fail
          go_ret
          exact ⟨ret_b HNE.out.symm, below_drewN HW.out _⟩
      · have hkn : k = n := by omega
        have HE : Hid (decide (l = r) = true) := Lib.hid (decide_eq_true (by
          have := HT.out
          rwa [hkn, List.take_of_length_le (by rw [HL.out]; omega), List.take_of_length_le (by rw [HR.out]; omega)] at this))
        clear hkn
        go_wp2_with fail
        go_ret
        exact ⟨ret_b HE.out.symm, HW.out⟩
  · have hz : ((n : Int) != (m : Int)) = true := by simp only [bne_iff_ne, ne_eq]; omega
    have HNE : Hid (decide (l = r) = false) := Lib.hid (decide_eq_false (fun e => hnm (by rw [← HL.out, ← HR.out, e])))
    go_enter Try.func22, Try.ntmps22
    go_wp2_with fail
    go_ret
    exact ⟨ret_b HNE.out.symm, Below.refl _ _⟩
end Gp
end Go.Proofs.Ytfjeoioejdkdpaa
