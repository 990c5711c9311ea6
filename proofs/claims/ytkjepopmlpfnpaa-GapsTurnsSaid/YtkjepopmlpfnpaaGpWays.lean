/-
  The ways of a set's TSNs, rising: what a range over the map collects, whatever its order, sorted by the library.
-/
import Derived.Test.YtkjepopmlpfnpaaGpNew
import Derived.Test.YtkjepopmlpfnpaaSoPdq
import Derived.OwnWalk
namespace Go.Proofs.Ytkjepopmlpfnpaa
open Go.RowKit Go.Maps
set_option linter.unusedVariables false

theorem info16 : (Try.prog.info? 46).map (fun i => (i.zero, i.size, i.bytes)) = some (some (.int .u16 0), 1, 2) := by kernel_rfl
def ia (l : List Nat) : Array Int := (l.map fun (x : Nat) => (x : Int)).toArray
theorem ia_size (l : List Nat) : (ia l).size = l.length := by simp [ia]
theorem ia_get {l : List Nat} {i : Nat} (h : i < l.length) : (ia l)[i]! = ((l.getD i 0 : Nat) : Int) := by
  simp [ia, h, List.getD]
/-- A sorted permutation of what has the same members, none twice, is that. -/
theorem sorted_is {l ws : List Nat} {d : Array Int} (hl : l.Nodup) (hw : ws.Pairwise (· < ·)) (hm : ∀ x, x ∈ l ↔ x ∈ ws) (hp : Sort.PermIn 0 (ia l).size (ia l) d) (hs : Sort.SortedIn Sort.ltInt 0 (ia l).size d) : d.toList = ws.map fun (x : Nat) => (x : Int) := by
  obtain ⟨hsz, _, hperm⟩ := hp
  have e1 : d.extract 0 (ia l).size = d := by rw [← hsz]; exact Array.extract_size
  rw [e1, Array.extract_size] at hperm
  have hnw : ws.Nodup := hw.imp (fun h => by omega)
  have hpw : l.Perm ws := (List.perm_ext_iff_of_nodup hl hnw).2 hm
  have hp2 : d.toList.Perm (ws.map fun (x : Nat) => (x : Int)) := hperm.trans (by
    have : (ia l).toList = l.map fun (x : Nat) => (x : Int) := by simp [ia]
    rw [this]
    exact hpw.map _)
  refine List.Perm.eq_of_pairwise (le := fun a b : Int => a ≤ b) ?_ ?_ ?_ hp2
  · intro a b _ _ h1 h2
    omega
  · rw [List.pairwise_iff_getElem]
    intro i j hi hj hij
    have h := hs i j (Nat.zero_le _) hij (by rw [← hsz]; simpa using hj)
    simp only [Sort.ltInt, decide_eq_false_iff_not] at h
    have hi' : i < d.size := by simpa using hi
    have hj' : j < d.size := by simpa using hj
    simp only [hi', hj', getElem!_pos] at h
    simpa using h
  · rw [List.pairwise_map]
    exact hw.imp (fun h => by omega)
/-- What the range has met so far. -/
def Met (c : Nat) (ws : List Nat) (left : Lit → Bool) (l : List Nat) : Prop := l.Nodup ∧ ∀ x, x ∈ l ↔ x ∈ ws ∧ left (.int .u32 ((up c x : Nat) : Int)) = false
theorem met_start {c : Nat} {ws : List Nat} {D : DataW Unit} (hc : c < 4294967296) (hw : ∀ x ∈ ws, x ≤ 65535) (h : MapOk D c ws) : Met c ws (Maps.has D) [] := by
  refine ⟨List.nodup_nil, fun x => ⟨fun hm => by simp at hm, fun ⟨h1, h2⟩ => ?_⟩⟩
  rw [h.1 _ (up_lt c x), wy_up hc (by have := hw x h1; omega)] at h2
  simp [h1] at h2
theorem sameKey_u32 (a b : Nat) : (Lit.int .u32 (a : Int)).sameKey (.int .u32 (b : Int)) = decide (a = b) := by
  by_cases e : a = b
  · subst e
    rw [decide_eq_true rfl]
    exact WideAt.sameKey_self (by simp [WideAt.IsKeyLit])
  · rw [decide_eq_false e]
    exact sameKey_ne (fun e2 => by injection e2 with _ e3; exact e (by exact_mod_cast e3))
theorem met_step {c t : Nat} {ws l : List Nat} {left : Lit → Bool} (hc : c < 4294967296) (ht : t < 4294967296) (hw : ∀ x ∈ ws, x ≤ 65535) (h : Met c ws left l) (hl : left (.int .u32 (t : Int)) = true) (hm : wy c t ∈ ws) :
    Met c ws (fun z => left z && !z.sameKey (.int .u32 (t : Int))) (l ++ [wy c t]) := by
  have hn : wy c t ∉ l := fun hx => by
    have := ((h.2 _).1 hx).2
    rw [up_wy hc ht, hl] at this
    cases this
  refine ⟨List.nodup_append.2 ⟨h.1, by simp, fun a ha b hb e => by simp at hb; subst hb; subst e; exact hn ha⟩, fun x => ?_⟩
  rw [List.mem_append, h.2 x]
  simp only [List.mem_singleton, sameKey_u32]
  constructor
  · rintro (⟨h1, h2⟩ | rfl)
    · exact ⟨h1, by rw [h2, Bool.false_and]⟩
    · exact ⟨hm, by rw [up_wy hc ht]; simp⟩
  · rintro ⟨h1, h2⟩
    by_cases e : up c x = t
    · right
      rw [← e, wy_up hc (by have := hw x h1; omega)]
    · left
      refine ⟨h1, ?_⟩
      simpa [e] using h2
theorem wrap16 {x : Nat} (h : x ≤ 65535) : IntKind.u16.wrap (x : Int) = (x : Int) := by
  rw [IntKind.wrap_u16]; omega
theorem holds_ir {W : World} {g c : Nat} {l : List Nat} (h : Ir .u16 46 W (.slice (some ⟨g, 0, none⟩) l.length c) l) : Sort.Holds u16 W g 0 (ia l) := fun j hj => by
  rw [ia_size] at hj
  rcases h.2 with ⟨h1, h2⟩ | ⟨g2, cap, cur, h1, _, hg, _⟩
  · simp at h1
  · simp only [Value.slice.injEq, Option.some.injEq, Addr.mk.injEq] at h1
    obtain ⟨⟨rfl, _⟩, _, _⟩ := h1
    have hb : Bk W g cur 46 := hg
    have hc := h.row j _ (ns_get hj)
    obtain ⟨a, ha, hc⟩ := hc
    injection ha with ha
    subst ha
    rw [addr0] at hc
    rw [Nat.zero_add]
    exact ⟨by rw [hc, ia_get hj]; rfl, hb.frozen j⟩
set_option maxHeartbeats 1000000 in
theorem ways_any (W : World) (F : Nat → Prop) (s : Nat) (st : St) (h : PSet W F s st) :
    Calls Try.prog 28 #[.pointer (some ⟨s, 0, none⟩)] W fun e w' => ∃ g c, e = .returned (.slice (some ⟨g, 0, none⟩) st.ws.length c) ∧ Row w' (some ⟨g, 0, none⟩) (ns .u16 st.ws) ∧ Below W.heap.size W w' := by
  obtain ⟨⟨m, v, D, hb, hm, hM, hv, f1, f2, f3, f4⟩, ok⟩ := h
  have HC : Hid (∀ w2, Below W.heap.size W w2 → (w2.cell? ⟨s, 0, none⟩ = some (.int .u32 (st.cum : Int)) ∧ w2.cell? ⟨s, 1, none⟩ = some (.map (some m)))) := Lib.hid fun w2 hw => by
    have hb2 : Bk w2 s _ _ := (hw.block s hb.lt).trans hb
    exact ⟨(hb2.cell 0).trans rfl, (hb2.cell 1).trans rfl⟩
  have HLEN := Lib.hid (ris_len ok.2.1)
  have HM := Lib.hid hM
  have HO := Lib.hid hm
  have HOK := Lib.hid ok
  have hcs := HC.out W (Below.refl _ _)
  obtain ⟨c0, c1⟩ := hcs
  obtain ⟨i0, hi0, hz0, hz1, hz2⟩ := info_parts info16
  have HI := Lib.hid hi0
  have HZ0 := Lib.hid hz0
  have HZ1 := Lib.hid hz1
  have HZ2 := Lib.hid hz2
  have hsz : Hid (Maps.size D = st.ws.length) := Lib.hid hM.2
  clear hb hm hM hv ok hi0 hz0 hz1 hz2
  obtain ⟨w1, hrun, hown1, hg1⟩ := run_make_own (P := Try.prog) W 0 45 46 i0 (.int .u16 0) 1 Try.underlying45 HI.out HZ0.out HZ1.out .i64 .i64 st.ws.length (by rw [HZ2.out]; have := HLEN.out; omega) (by have := HLEN.out; unfold maxLen; omega) (Nat.zero_le _)
  have HI1 : Hid (Ir .u16 46 w1 (.slice (some ⟨W.heap.size, 0, none⟩) 0 st.ws.length) []) := Lib.hid hown1
  have HB1 : Hid (Below W.heap.size W w1) := Lib.hid ((Below.refl _ W).grown hg1 (Nat.le_refl _) (fun k hk => by cases hk))
  obtain ⟨c10, c11⟩ := HC.out w1 HB1.out
  have HO1 := Lib.hid (HO.out.kept hg1 (by simp))
  have hlt1 : W.heap.size < w1.heap.size := Ir.lt HI1.out rfl
  have HLT1 := Lib.hid hlt1
  clear hown1 hg1 hlt1
  go_enter Try.func28, Try.ntmps28
  go_wp2_with (first
    | (at_len; refine wpList_len_own _ rfl _ _ rfl 22 56 Try.underlying52 (unitElem (H := Unit)) m _ D rfl HO.out ?_; rw [hsz.out])
    | (at_range; refine wpList_range_own _ rfl _ 52 rfl 22 56 law32 Try.underlying52 (unitElem (H := Unit)) m _ D rfl HO1.out ?_; intro w2 hrg2 hg2 hs2))
  go_frame
  have HB2 : Hid (Below W.heap.size W w2) := Lib.hid (HB1.out.grown hg2 HB1.out.size (fun k hk => by cases hk))
  have HI2 : Hid (Ir .u16 46 w2 (.slice (some ⟨W.heap.size, 0, none⟩) 0 st.ws.length) []) := Lib.hid (HI1.out.kept hg2 (.inr (by simp [Value.ownBlock])))
  have HMET : Hid (Met st.cum st.ws (Maps.has D) []) := Lib.hid (met_start HOK.out.1 (fun x hx => (HOK.out.2.1.2 x hx).2) HM.out)
  obtain ⟨r, hr⟩ : ∃ r, r = w1.heap.size := ⟨_, rfl⟩
  rw [← hr] at hrg2 ⊢
  have hgr : W.heap.size < r := by rw [hr]; exact HLT1.out
  have HR2 := Lib.hid hrg2
  have HGR := Lib.hid hgr
  clear hr hrg2 hg2 hs2 HO1 HI1 HB1 HO c0 c1 c10 c11 hrun HLT1 hgr HI HZ0 HZ1 HZ2
  go_loopw [3, 4] (fun v3 _ wr => ∃ (left : Lit → Bool) (cnt : Nat) (l : List Nat) (g c n : Nat), v3 = .slice (some ⟨g, 0, none⟩) n c ∧ Hid (n = l.length) ∧ n ≤ 65535 ∧ Hid (n + cnt ≤ Maps.size D) ∧ Hid (Ir .u16 46 wr (.slice (some ⟨g, 0, none⟩) n c) l) ∧ Hid (W.heap.size ≤ g ∧ g ≠ r) ∧
      Hid (wr.ranges Try.prog 22 (unitElem (H := Unit)) m r st.ws.length D left cnt) ∧ Hid (Met st.cum st.ws left l) ∧ Hid (Below W.heap.size W wr)) (fun _ _ wr => wr.rangeLeft m r)
  case atStart => exact ⟨_, _, [], W.heap.size, st.ws.length, 0, rfl, rfl, by omega, Lib.hid (by simp), HI2, Lib.hid ⟨Nat.le_refl _, by have := HGR.out; omega⟩, HR2, HMET, HB2⟩
  case round =>
    obtain ⟨left, cnt, l, g, c, n, rfl, hnl, hn, hcnt, HI, HG, HR, HMT, HB⟩ := hrel
    clear HR2 HMET HI2 HB2
    have hcs := HC.out wr HB.out
    go_wp2_with (at_next; refine wpList_next_ranges _ rfl _ rfl 22 law32 (unitElem (H := Unit)) (fun x : Int => Value.int .u32 x) (fun _ : Unit => Value.agg #[]) (fun key kl hk => by obtain ⟨x, rfl, _⟩ := Maps.keyOf_int_inv Try.underlying22 hk; exact ⟨x, rfl⟩) (fun v y hv => by obtain ⟨rfl, _⟩ := unitElem_inv hv; exact ⟨(), rfl⟩) m r st.ws.length D left cnt rfl HR.out ?_ ?_)
    · intro _ hl0
      have hm : ∀ x, x ∈ l ↔ x ∈ st.ws := fun x => by rw [HMT.out.2 x, hl0]; simp
      have HMM := Lib.hid hm
      have hlen : l.length = st.ws.length := ((List.perm_ext_iff_of_nodup HMT.out.1 (HOK.out.2.1.1.imp (fun h => by omega))).2 hm).length_eq
      have hnw : n = st.ws.length := by rw [hnl.out, hlen]
      have HIR : Hid (Ir .u16 46 wr (.slice (some ⟨g, 0, none⟩) l.length c) l) := Lib.hid (by rw [← hnl.out]; exact HI.out)
      have hS := sort_any g 0 c (ia l) wr (holds_ir HIR.out) (Ir.lt HIR.out rfl) (by rw [ia_size, hlen]; have := HLEN.out; omega)
      rw [ia_size, hlen, ← hnw] at hS
      have HSRT := Lib.hid hS
      have HNW := Lib.hid hnw
      have HLL := Lib.hid hlen
      clear hl0 hm hlen hnw hS hcs
      go_wp2_with fail
      refine HSRT.out.mono ?_
      rintro e w3 ⟨d', rfl, hp, hso, hw⟩
      have hd : d'.toList = st.ws.map fun (x : Nat) => (x : Int) := sorted_is HMT.out.1 HOK.out.2.1.1 HMM.out (by rw [ia_size, HLL.out, ← HNW.out]; exact hp) (by rw [ia_size, HLL.out, ← HNW.out]; exact hso)
      have HD := Lib.hid hd
      have HW := Lib.hid hw
      clear hd hp hso hw
      go_wp2_with fail
      go_ret
      refine ⟨g, c, by rw [← HNW.out]; rfl, fun i v hv => ⟨_, rfl, ?_⟩, HB.out.grown HW.out.2 HB.out.size (fun k hk => by injection hk with e; rw [← e]; exact HG.out.1)⟩
      have hi : i < st.ws.length := by
        have := (List.getElem?_eq_some_iff.1 hv).1
        rwa [ns_len] at this
      have hds : d'.size = st.ws.length := by
        have := congrArg List.length HD.out
        simpa using this
      rw [ns_get hi] at hv
      injection hv with hv
      rw [← hv, addr0]
      have h1 := (HW.out.1 i (by omega)).1
      rw [Nat.zero_add] at h1
      rw [h1]
      have h2 : d'[i]! = ((st.ws.getD i 0 : Nat) : Int) := by
        have hi2 : i < d'.size := by rw [hds]; exact hi
        have hi3 : i < d'.toList.length := by simpa using hi2
        rw [getElem!_pos d' i hi2, show d'[i] = d'.toList[i] from rfl]
        simp [HD.out, List.getD, hi]
      rw [h2]
      rfl
    · intro x kl yd yp w1 cnt1 hkey hlk hy hat hrg1 hlt1 hgr1 hsz1 hen
      obtain ⟨x', ex, rfl, hwx⟩ := Maps.keyOf_int_inv Try.underlying22 hkey
      obtain rfl : x = x' := by injection ex
      obtain ⟨t, rfl⟩ : ∃ t : Nat, x = t := ⟨x.toNat, by have := wf_u32 hwx; omega⟩
      have ht : t < 4294967296 := by have := wf_u32 hwx; omega
      have hin : wy st.cum t ∈ st.ws := by
        have h1 := has_true_of_atKey hat
        rw [HM.out.1 t ht] at h1
        simpa using h1
      have HMET := Lib.hid (met_step HOK.out.1 ht (fun x hx => (HOK.out.2.1.2 x hx).2) HMT.out hlk hin)
      have hle := (HOK.out.2.1.2 _ hin).2
      have HSP := Lib.hid (span_any st.cum t w1 HOK.out.1 ht)
      have hwb : Below W.heap.size W w1 := HB.out.grown hgr1 HB.out.size (fun k hk => by injection hk with e; rw [← e]; have := HGR.out; omega)
      have HIR : Hid (Ir .u16 46 w1 (.slice (some ⟨g, 0, none⟩) n c) l) := Lib.hid (HI.out.kept hgr1 (.inr (by simpa [Value.ownBlock] using HG.out.2)))
      have HB1 := Lib.hid hwb
      have HRG1 := Lib.hid hrg1
      have HLT1 := Lib.hid hlt1
      have HEN := Lib.hid hen
      have hcs1 := HC.out w1 hwb
      obtain ⟨c10, c11⟩ := hcs1
      clear hcs hkey ex hwx hlk hy hat hin hwb hrg1 hlt1 hgr1 hsz1 HI HB
      generalize wy st.cum t = y at HMET hle HSP
      have hwr := wrap16 hle
      go_wp2_with (first | (go_at_call 32; refine HSP.out.mono ?_; rintro e w' ⟨rfl, rfl⟩) | (at_builtin; refine ir_app (k := .u16) (E := 46) (S := 45) Try.underlying45 info16 (by omega) rfl _ _ rfl (.slice (some ⟨g, 0, none⟩) n c) l rfl (HIR.out.kept (World.grownBy_alloc w1 _ none) (.inr (by simp [Value.ownBlock]))) y w1.heap.size 1 46 rfl (Bk.new w1 _ _) (by have := hnl.out; omega) ?_; intro g' c' w2 hown2 hgr2 hat2))
      have hgg : W.heap.size ≤ g' ∧ g' ≠ r := by
        rcases hat2 with h | h
        · obtain rfl : g = g' := by simpa [Value.ownBlock] using h
          exact HG.out
        · have h2 : g' = w1.heap.size + 1 := by simpa using h
          have := HB1.out.size
          have := HRG1.out.lt
          omega
      have hrk : w2.ranges Try.prog 22 (unitElem (H := Unit)) m r st.ws.length D _ cnt1 := (HRG1.out.alloc _).kept hgr2 (by
        simp only [Value.ownBlock, ne_eq, Option.some.injEq]
        have := f4 m f2
        have := HG.out.1
        omega) (by
        simp only [Value.ownBlock, ne_eq, Option.some.injEq]
        exact HG.out.2.symm)
      go_roundw
      case rel => exact ⟨_, cnt1, l ++ [y], g', c', l.length + 1, rfl, Lib.hid (by simp), by have := hcnt.out; have := hsz.out; have := HLEN.out; have := HLT1.out; have := hnl.out; omega, Lib.hid (by have := hcnt.out; have := HLT1.out; have := hnl.out; omega), Lib.hid hown2, Lib.hid hgg, Lib.hid hrk, HMET, Lib.hid (((HB1.out.alloc HB1.out.size _)).grown hgr2 (by have := HB1.out.size; simp; omega) (fun k hk => by
        have : g = k := by simpa [Value.ownBlock] using hk
        rw [← this]; exact HG.out.1))⟩
      case measure => rw [hrk.left_eq, HR.out.left_eq]; exact HLT1.out
end Go.Proofs.Ytkjepopmlpfnpaa
