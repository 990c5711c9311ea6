/-
  The reader of layer 5: causes, as it reads a value.
-/
import Derived.Test.YtbliipjiilmbcaaYChunkCs2
import Derived.Test.YtbliipjiilmbcaaYChunkTkAny
import Derived.Test.YtbliipjiilmbcaaYChunkKnown
import Derived.Test.YtbliipjiilmbcaaYP1a
import Derived.Deep.RegionHeld3
import Derived.Test.YtbliipjiilmbcaaYP1b
import Derived.Great.BuildSlice
import Derived.Test.YtbliipjiilmbcaaYP1c
import Derived.OwnWalkIn
set_option linter.unusedVariables false
set_option linter.unusedSimpArgs false
namespace Go.Proofs.Ytbliipjiilmbcaa
open Go.RowKit Wire Tlv Chunk Go.Shelf

/-- What is asked of causes' function. -/
theorem causes_asks (w W : World) (b bx : Nat) (c0 : Ck) (hbx : Bk W bx #[.pointer (some ⟨b, 0, none⟩)] 93) (hne : bx ≠ b) (hbW : b < W.heap.size) (hws : w.heap.size ≤ W.heap.size) :
    Asks w W b 94 #[.pointer (some ⟨bx, 0, none⟩)] cst (XC c0) where
  enters := enters_of Try.func94 (by kernel_rfl) rfl
  calm := fun W0 k c s A B _ ⟨cA, cc, q, h1, h2, h3, h4⟩ hc => ⟨cA, cc, q, h1, h2, h3, h4.calm hc⟩
  set_ := fun W0 k c s A i v hb ⟨cA, cc, q, h1, h2, h3, h4⟩ => ⟨cA, cc, q, h1, h2, h3, h4.put (Nat.lt_of_lt_of_le hbW hb.size)⟩
  more := fun W0 k c s A ⟨cA, cc, q, h1, h2, ⟨h3, h30⟩, h4⟩ => ⟨cA, cc, q, h1, h2, ⟨Nat.le_succ_of_le h3, h30⟩, h4⟩
  call := fun W0 k r' q W1 hB hk hp hv hs => causes_call c0 w W W0 b bx k r' q W1 hbx hne hbW hws hB hk hp hv hs
theorem causes_fin {x : Tv} (hx : x.ok) (hk : x.k = 6 ∨ x.k = 9) (w W Wc W0 W' : World) (b k : Nat) (s' : Ls) (hot : Ot W Wc b) (hB : Below Wc.heap.size Wc W0) (hk2 : k ≤ 20000)
    (hr : Rr w b ⟨[], (gone cst (r0 x) (ev false (r0 x).l)).c, (gone cst (r0 x) (ev false (r0 x).l)).bad⟩ s' none 0 0 W') (ho : Ot Wc W' b) (hX : XC (r0 x).c W0 k (gone cst (r0 x) (ev false (r0 x).l)).c s' W') : FOut w b x W (.returned (.tuple #[])) W' := by
  refine ⟨rfl, _, _, _, _, _, hr, hot.trans ho, fun hb _ => ?_, ?_⟩
  · obtain ⟨cA, cc, q, rfl, hc, ⟨h1, h2⟩, h3⟩ := hX
    have hbo := bare_ok hx (by omega)
    refine (ch_cause ?_ (by rw [hc]; rfl) (by rw [hc]; rfl) (by rw [hc]; rfl) (by rw [hc]; rfl) (by show (gone cst (r0 x) (ev false (r0 x).l)).c.ca.length ≤ 65536; omega) (fun y hy => (h2 y hy).2.2) h3).lower (Nat.le_trans hot.size hB.size)
    show Ck.ok (gone cst (r0 x) (ev false (r0 x).l)).c
    rw [hc]
    exact { hbo with ca := fun y hy => ⟨(h2 y hy).1, (h2 y hy).2.1⟩ }
  · rw [take_mayO (by omega), raw_cause hk]
    obtain ⟨e1, e2⟩ := gone_ev x.v (r0 x) rfl
    show fin ⟨[], (gone cst (r0 x) (ev false x.v)).c, (gone cst (r0 x) (ev false x.v)).bad⟩ = _
    rw [e2, e1]
    cases (tl false x.v).2
    · rw [fin_bad rfl]; rfl
    · rw [fin_ok rfl rfl, if_pos rfl]
      rfl
set_option maxRecDepth 100000 in
set_option maxHeartbeats 4000000 in
theorem causes_f (w W : World) (b : Nat) (x : Tv) (A : Option Addr) (n cap : Nat) (hx : x.ok) (hk : x.k = 6 ∨ x.k = 9) (h : Rr w b (r0 x) nol A n cap W) :
    Calls Try.prog 64 #[.pointer (some ⟨b, 0, none⟩)] W (FOut w b x W) := by
  have hlt := h.bk.lt
  have hal : Below W.heap.size W (W.alloc (.cells #[.pointer (some ⟨b, 0, none⟩)] 93)) := (Below.refl _ _).alloc (Nat.le_refl _) _
  have HS0 : Hid (Rr w b (r0 x) nol A n cap (W.alloc (.cells #[.pointer (some ⟨b, 0, none⟩)] 93)) ∧ Ot W (W.alloc (.cells #[.pointer (some ⟨b, 0, none⟩)] 93)) b ∧ Bk (W.alloc (.cells #[.pointer (some ⟨b, 0, none⟩)] 93)) W.heap.size #[.pointer (some ⟨b, 0, none⟩)] 93) := Lib.hid ⟨h.next hal, Ot.below b hal, Bk.new W _ _⟩
  have HFIN := Lib.hid (fun Wc W0 W' k s' => causes_fin hx hk w W Wc W0 W' b k s')
  have hne : W.heap.size ≠ b := by omega
  clear h hal hk hx
  go_enter Try.func64, Try.ntmps64
  go_upto_region 1 with fail
  generalize World.alloc W _ = wc at HS0 ⊢
  obtain ⟨bx, hbx⟩ : ∃ bx, W.heap.size = bx := ⟨_, rfl⟩
  rw [hbx] at HS0 hne
  rw [hbx]
  clear hbx
  obtain ⟨hrr, hot, hbk⟩ := HS0.out
  have hbW := hrr.bk.lt
  have x0 := hbk.cell 0
  simp at x0
  have HOT := Lib.hid hot
  have HQ5C : Hid (∀ W0, XC (r0 x).c W0 0 (r0 x).c nol W0) := Lib.hid fun W0 => ⟨none, 0, [], rfl, rfl, ⟨Nat.le_refl _, fun a ha => by simp [r0, bare, zero] at ha⟩, Cr.nil _ _⟩
  have HPA := Lib.hid (params_r w wc b (r0 x) nol A n cap hrr 94 #[.pointer (some ⟨bx, 0, none⟩)] cst (XC (r0 x).c) (fun W0 _ => HQ5C.out W0) (causes_asks w wc b bx (r0 x).c hbk hne hbW hrr.bl.size))
  clear hrr hot hbk HS0
  go_wp2_with fail
  (with_reducible refine HPA.out.mono ?_)
  rintro e W9 ⟨rfl, W0, k, s', hB, hk2, hr9, ho9, hX9⟩
  have HF := Lib.hid (HFIN.out wc W0 W9 k s' HOT.out hB hk2 hr9 ho9 hX9)
  clear hB hr9 ho9 hX9 HPA HFIN
  go_wp2_with fail
  go_end0
  exact HF.out
end Go.Proofs.Ytbliipjiilmbcaa
/-
  What chunk.Take does.
-/
namespace Go.Proofs.Ytbliipjiilmbcaa
open Go.RowKit Wire Tlv Chunk Go.Shelf

theorem ckTake_all (x : Tv) (A : Option Addr) (n cp : Nat) (w : World) (hx : x.ok) (hl : x.v.length = n) (hn : n ≤ 65531) (hle : n ≤ cp) (hcm : cp ≤ maxLen) (hr : Row w A (bs x.v)) :
    Calls Try.prog 12 #[.agg #[.int .u16 (x.k : Int), .int .u8 (x.f : Int), .slice A n cp]] w (TakeOut w (take x)) := by
  by_cases h255 : 255 < x.k
  · exact ckTake_no x A n cp w h255
  have hk : x.k ≤ 255 := by omega
  by_cases h0 : x.k = 0
  · exact ckTake_any x A n cp w hx hk hl hn hle hcm hr 61 (enters_of Try.func61 (by kernel_rfl) rfl) (by unfold rk; rw [if_pos h0]) fun W b A n cp h => piece_f w W b x A n cp hx h0 h
  by_cases h1 : x.k = 1 ∨ x.k = 2
  · exact ckTake_any x A n cp w hx hk hl hn hle hcm hr 62 (enters_of Try.func62 (by kernel_rfl) rfl) (by unfold rk; rw [if_neg h0, if_pos h1]) fun W b A n cp h => side_f w W b x A n cp hx h1 h
  by_cases h3 : x.k = 3
  · exact ckTake_any x A n cp w hx hk hl hn hle hcm hr 63 (enters_of Try.func63 (by kernel_rfl) rfl) (by unfold rk; rw [if_neg h0, if_neg h1, if_pos h3]) fun W b A n cp h => came_f w W b x A n cp hx h3 h
  by_cases h6 : x.k = 6 ∨ x.k = 9
  · exact ckTake_any x A n cp w hx hk hl hn hle hcm hr 64 (enters_of Try.func64 (by kernel_rfl) rfl) (by unfold rk; rw [if_neg h0, if_neg h1, if_neg h3, if_pos h6]) fun W b A n cp h => causes_f w W b x A n cp hx h6 h
  by_cases h7 : x.k = 7
  · exact ckTake_any x A n cp w hx hk hl hn hle hcm hr 65 (enters_of Try.func65 (by kernel_rfl) rfl) (by unfold rk; rw [if_neg h0, if_neg h1, if_neg h3, if_neg h6, if_pos h7]) fun W b A n cp h => last_f w W b x A n cp hx h7 h
  by_cases h8 : x.k = 8 ∨ x.k = 11 ∨ x.k = 14
  · exact ckTake_any x A n cp w hx hk hl hn hle hcm hr 66 (enters_of Try.func66 (by kernel_rfl) rfl) (by unfold rk; rw [if_neg h0, if_neg h1, if_neg h3, if_neg h6, if_neg h7, if_pos h8]) fun W b A n cp h => nothing_f w W b x A n cp hx h8 h
  exact ckTake_any x A n cp w hx hk hl hn hle hcm hr 67 (enters_of Try.func67 (by kernel_rfl) rfl) (by unfold rk; rw [if_neg h0, if_neg h1, if_neg h3, if_neg h6, if_neg h7, if_neg h8]) fun W b A n cp h => data_f w W b x A n cp hx hk (by omega) h
end Go.Proofs.Ytbliipjiilmbcaa
/-
  What taking leaves, in one form.
-/
namespace Go.Proofs.Ytbliipjiilmbcaa
open Go.RowKit Wire Tlv Chunk

/-- The error beside what was taken. -/
def terr (o : Option Ck) : Int := match o with
  | none => 50
  | some _ => 0
theorem TakeOut.one {w w' : World} {o : Option Ck} {e : Ending} (h : TakeOut w o e w') : ∃ s, e = .returned (.tuple #[.agg (cv (o.getD zero) s), .int .i64 (terr o)]) ∧ Ch w' (o.getD zero) s ∧ Below w.heap.size w w' := by
  cases o with
  | none => exact ⟨nol, h.1, (ch_none (W := w') 0 zero_ok rfl rfl rfl rfl rfl).ch, h.2⟩
  | some c =>
    obtain ⟨s, h1, h2, h3⟩ := h
    exact ⟨s, h1, h2.ch, h3⟩
theorem TakeOut.oneF {w w' : World} {o : Option Ck} {e : Ending} (h : TakeOut w o e w') : ∃ s, e = .returned (.tuple #[.agg (cv (o.getD zero) s), .int .i64 (terr o)]) ∧ ChF w.heap.size w' (o.getD zero) s ∧ Below w.heap.size w w' := by
  cases o with
  | none => exact ⟨nol, h.1, ch_none (W := w') w.heap.size zero_ok rfl rfl rfl rfl rfl, h.2⟩
  | some c => exact h
end Go.Proofs.Ytbliipjiilmbcaa
/-
  Chunks in a slice: their cells, and how one is loaded.
-/
namespace Go.Proofs.Ytbliipjiilmbcaa
open Go.RowKit Wire Tlv Chunk

/-- A whole struct out of wherever its cells lie. -/
theorem run_loadVar_at {P : Program} (w : World) (a : Addr) (ty : TypeId) (cs : Array Value) (d : TypeDesc) (hc : ∀ j v, cs.toList[j]? = some v → w.cell? (a.add j) = some v)
    (hu : P.underlying ty = some d) (hd : (match d with | .struct _ | .array _ _ => true | _ => false) = true) (hi : (P.info? ty).map (·.size) = some cs.size) :
    (loadVar ty a).run P w = .ok (.agg cs) w := by
  have hl : (loadCells a cs.toList.length).run P w = .ok cs.toList.toArray w := run_loadCells_list (P := P) w a cs.toList hc
  cases hq : P.info? ty with
  | none => simp [hq] at hi
  | some i =>
    have hs : i.size = cs.size := by simpa [hq] using hi
    have hagg : (isAgg ty).run P w = .ok true w := by
      unfold isAgg
      rw [Sem.run_bind, run_underlying hu w]
      cases d <;> simp_all
    simp only [Array.length_toList, Array.toArray_toList] at hl
    simp [loadVar, Sem.run_bind, hagg, sizeOf, typeInfo, hq, hs, hl]
theorem wp_load_at {P : Program} {o : Oper} {a : Act} {w : World} {K : Act → World → Prop} {Q : Exit → Act → World → Prop} (ty : TypeId) (x : Operand) (ho : o.op = .load ty x)
    (ad : Addr) (hx : a.eval x = .pointer (some ad)) (cs : Array Value) (d : TypeDesc) (hc : ∀ j v, cs.toList[j]? = some v → w.cell? (ad.add j) = some v)
    (hu : P.underlying ty = some d) (hd : (match d with | .struct _ | .array _ _ => true | _ => false) = true) (hi : (P.info? ty).map (·.size) = some cs.size)
    (h : K (a.put o.dst (.agg cs)) w) : o.wp P a w K Q := by
  unfold Oper.wp execOp
  simp only [ho, hx, Instr.loadAt, Instr.sureAddr, Sem.run_bind, Sem.run_pure, Result.andThen_ok, run_loadVar_at w ad ty cs d hc hu hd hi]
  exact h
theorem wpList_load_at {P : Program} {ops : Array Oper} {rest : List Oper} {o : Oper} {a : Act} {w : World} {Q : Exit → Act → World → Prop} (hgd : o.guard = none) (ty : TypeId) (x : Operand) (ho : o.op = .load ty x)
    (ad : Addr) (hx : a.eval x = .pointer (some ad)) (cs : Array Value) (d : TypeDesc) (hc : ∀ j v, cs.toList[j]? = some v → w.cell? (ad.add j) = some v)
    (hu : P.underlying ty = some d) (hd : (match d with | .struct _ | .array _ _ => true | _ => false) = true) (hi : (P.info? ty).map (·.size) = some cs.size)
    (h : wpList P ops Q rest (a.put o.dst (.agg cs)) w) : wpList P ops Q (o :: rest) a w :=
  wpList_plain hgd fun _ hK => wp_load_at ty x ho ad hx cs d hc hu hd hi (hK _ _ h)
/-- A chunk with its slices. -/
abbrev Cq := Ck × Ls
def kcs (ks : List Cq) : List Value := ks.flatMap fun k => (cv k.1 k.2).toList
theorem kcs_len (ks : List Cq) : (kcs ks).length = 15 * ks.length := by
  induction ks with
  | nil => rfl
  | cons k ks ih =>
    simp only [kcs, List.flatMap_cons, List.length_append, List.length_cons] at ih ⊢
    have : (cv k.1 k.2).toList.length = 15 := by simp [cv]
    omega
theorem kcs_snoc (ks : List Cq) (k : Cq) : kcs (ks ++ [k]) = kcs ks ++ (cv k.1 k.2).toList := by simp [kcs]
theorem kcs_get : ∀ {ks : List Cq} {i : Nat} (h : i < ks.length) {j : Nat} {v : Value}, (cv ks[i].1 ks[i].2).toList[j]? = some v → (kcs ks)[i * 15 + j]? = some v
  | k :: ks, 0, _, j, v, hj => by
    have hl : j < (cv k.1 k.2).toList.length := (List.getElem?_eq_some_iff.1 hj).1
    simp only [kcs, List.flatMap_cons, Nat.zero_mul, Nat.zero_add]
    rw [List.getElem?_append_left hl]
    exact hj
  | k :: ks, i + 1, h, j, v, hj => by
    have ih := kcs_get (ks := ks) (i := i) (by simpa using h) (j := j) (v := v) hj
    have hl : (cv k.1 k.2).toList.length = 15 := by simp [cv]
    simp only [kcs, List.flatMap_cons] at ih ⊢
    rw [List.getElem?_append_right (by omega), hl, show (i + 1) * 15 + j - 15 = i * 15 + j by omega]
    exact ih
/-- Chunks in a slice. -/
def Rk (W : World) (A : Option Addr) (ks : List Cq) : Prop := Row W A (kcs ks) ∧ ∀ k ∈ ks, Ch W k.1 k.2
theorem Rk.next {W W' : World} {A : Option Addr} {ks : List Cq} (h : Rk W A ks) (hb : Below W.heap.size W W') : Rk W' A ks := ⟨h.1.below hb, fun k hk => (h.2 k hk).next hb⟩
theorem Rk.at {W : World} {A : Option Addr} {ks : List Cq} (h : Rk W A ks) {i : Nat} (hi : i < ks.length) :
    ∃ a, A = some a ∧ (∀ j v, (cv ks[i].1 ks[i].2).toList[j]? = some v → W.cell? ((a.add (i * 15)).add j) = some v) ∧ Ch W ks[i].1 ks[i].2 := by
  have h0 : (cv ks[i].1 ks[i].2).toList[0]? = some (.int .u8 (ks[i].1.kd : Int)) := rfl
  obtain ⟨a, hA, _⟩ := h.1 _ _ (kcs_get hi h0)
  refine ⟨a, hA, fun j v hj => ?_, h.2 _ (List.getElem_mem hi)⟩
  obtain ⟨a', hA', hc⟩ := h.1 _ _ (kcs_get hi hj)
  rw [hA] at hA'
  injection hA' with hA'
  subst hA'
  rw [add_add]
  exact hc
end Go.Proofs.Ytbliipjiilmbcaa
/-
  What pkt's some, alone, untagged and Size do.
-/
namespace Go.Proofs.Ytbliipjiilmbcaa
open Go.RowKit Wire Tlv Chunk Pkt

set_option maxRecDepth 100000 in
set_option maxHeartbeats 1000000 in
theorem alone_any (c : Ck) (s : Ls) (w : World) : Calls Try.prog 52 #[.agg (cv c s)] w fun e w' => e = .returned (.bool (alone c.kd)) ∧ Below w.heap.size w w' := by
  have HB : Hid (Bk (w.alloc (.cells (cv c s) 86)) w.heap.size (cv c s) 86 ∧ Below w.heap.size w (w.alloc (.cells (cv c s) 86))) := Lib.hid ⟨Bk.new _ _ _, (Below.refl _ _).alloc (Nat.le_refl _) _⟩
  have h1 : ((c.kd : Int) == 1) = (c.kd == 1) := by
    rw [Bool.eq_iff_iff]; simp; omega
  have h2 : ((c.kd : Int) == 2) = (c.kd == 2) := by
    rw [Bool.eq_iff_iff]; simp; omega
  have h14 : ((c.kd : Int) == 14) = (c.kd == 14) := by
    rw [Bool.eq_iff_iff]; simp; omega
  unfold alone
  generalize (c.kd == 1) = b1 at h1 ⊢
  generalize (c.kd == 2) = b2 at h2 ⊢
  generalize (c.kd == 14) = b3 at h14 ⊢
  go_enter Try.func52, Try.ntmps52
  go_upto_region 1 with fail
  generalize World.alloc w _ = W1 at HB ⊢
  have k0 : W1.cell? ⟨w.heap.size, 0, none⟩ = some (.int .u8 (c.kd : Int)) := HB.out.1.c0
  cases b1 <;> cases b2 <;> cases b3
  all_goals
    go_wp2_with fail
    go_ret
    exact ⟨rfl, HB.out.2⟩
set_option maxRecDepth 100000 in
set_option maxHeartbeats 1000000 in
theorem untag_any (c : Ck) (s : Ls) (w : World) : Calls Try.prog 53 #[.agg (cv c s)] w fun e w' => e = .returned (.bool (untag c.kd)) ∧ Below w.heap.size w w' := by
  have HB : Hid (Bk (w.alloc (.cells (cv c s) 86)) w.heap.size (cv c s) 86 ∧ Below w.heap.size w (w.alloc (.cells (cv c s) 86))) := Lib.hid ⟨Bk.new _ _ _, (Below.refl _ _).alloc (Nat.le_refl _) _⟩
  have h1 : ((c.kd : Int) == 1) = (c.kd == 1) := by
    rw [Bool.eq_iff_iff]; simp; omega
  unfold untag
  generalize (c.kd == 1) = b1 at h1 ⊢
  go_enter Try.func53, Try.ntmps53
  go_upto_region 1 with fail
  generalize World.alloc w _ = W1 at HB ⊢
  have k0 : W1.cell? ⟨w.heap.size, 0, none⟩ = some (.int .u8 (c.kd : Int)) := HB.out.1.c0
  go_wp2_with fail
  go_ret
  exact ⟨rfl, HB.out.2⟩
set_option maxRecDepth 100000 in
set_option maxHeartbeats 2000000 in
theorem some_any (F : Nat) (P : Nat → Bool) (ks : List Cq) (A : Option Addr) (n c : Nat) (w : World) (h : Rk w A ks) (hl : ks.length = n) (hn : n ≤ 1000000000) (heg : ∀ args w, (callFunc F args).run Try.prog w = .ok (.enter F args) w)
    (hF : ∀ c s W, Calls Try.prog F #[.agg (cv c s)] W fun e w' => e = .returned (.bool (P c.kd)) ∧ Below W.heap.size W w') :
    Calls Try.prog 51 #[.slice A n c, .func (.func F) #[] #[]] w fun e w' => e = .returned (.bool (ks.any fun k => P k.1.kd)) ∧ Below w.heap.size w w' := by
  have HR := Lib.hid h
  have HL := Lib.hid hl
  have HF := Lib.hid hF
  have HCI : Hid (∀ c : Ck, ∀ s : Ls, (Try.prog.info? 32).map (·.size) = some (cv c s).size) := Lib.hid cv_info
  obtain ⟨R, hR⟩ : ∃ R, (ks.any fun k => P k.1.kd) = R := ⟨_, rfl⟩
  rw [hR]
  have HE0 : Hid (R = ((ks.drop 0).any fun k => P k.1.kd)) := Lib.hid (by rw [← hR]; rfl)
  clear h hl hF hR
  go_enter Try.func51, Try.ntmps51
  go_wp2_with fail
  go_loopw [6, 9] (fun _ i wr => ∃ k : Nat, k ≤ n ∧ i = .int .i64 (k : Int) ∧ Hid (R = ((ks.drop k).any fun k => P k.1.kd)) ∧ Hid (Below w.heap.size w wr)) (fun _ i _ => n - (intOf i).toNat)
  case atStart => exact ⟨0, by omega, rfl, HE0, Lib.hid (Below.refl _ _)⟩
  case round =>
    clear HE0
    obtain ⟨k, hk, rfl, HE, HB⟩ := hrel
    by_cases hlt : k < n
    · have hkl : k < ks.length := by rw [HL.out]; exact hlt
      obtain ⟨a, rfl, hc, _⟩ := (HR.out.next HB.out).at hkl
      have HC := Lib.hid hc
      have he : R = (P ks[k].1.kd || ((ks.drop (k + 1)).any fun k => P k.1.kd)) := by
        rw [HE.out, List.drop_eq_getElem_cons hkl, List.any_cons]
      have HE2 := Lib.hid he
      generalize ks[k] = q at HC HE2
      have hst := store_new q.1 q.2 wr
      have HFQ := Lib.hid (fun W => HF.out q.1 q.2 W)
      clear hc he HE
      go_upto_region 4 with (refine wpList_load_at rfl 32 (.tmp 11) rfl (a.add (k * 15)) rfl (cv q.1 q.2) _ HC.out Try.underlying32 rfl (HCI.out _ _) ?_)
      clear hst
      have hal : Below wr.heap.size wr (wr.alloc (.cells (cv q.1 q.2) 32)) := (Below.refl _ _).alloc (Nat.le_refl _) _
      have HB2 := Lib.hid (bnext' HB.out hal)
      have HQ : Hid (Bk (wr.alloc (.cells (cv q.1 q.2) 32)) wr.heap.size (cv q.1 q.2) 32) := Lib.hid (Bk.new _ _ _)
      clear hal
      generalize hW2 : wr.alloc (.cells (cv q.1 q.2) 32) = W2 at HB2 HQ ⊢
      clear hW2
      generalize wr.heap.size = g at HQ ⊢
      go_wp2_with (refine wpList_load_row rfl 32 (.tmp 6) rfl g rfl 32 (cv q.1 q.2) (0, 0) _ HQ.out Try.underlying32 rfl (HCI.out _ _) ?_)
      (with_reducible refine (HFQ.out _).mono ?_)
      rintro e W3 ⟨rfl, hb3⟩
      have HB3 := Lib.hid (bnext' HB2.out hb3)
      clear hb3
      cases hp : P q.1.kd with
      | true =>
        have HT : Hid (R = true) := Lib.hid (by rw [HE2.out, hp]; rfl)
        go_wp2_with fail
        go_ret
        exact ⟨by rw [HT.out]; rfl, HB3.out⟩
      | false =>
        have HT : Hid (R = ((ks.drop (k + 1)).any fun k => P k.1.kd)) := Lib.hid (by rw [HE2.out, hp]; rfl)
        go_wp2_with fail
        go_roundw
        case rel => exact ⟨k + 1, by omega, by go_num, HT, HB3⟩
        case measure => simp [intOf]; omega
    · have HT : Hid (R = false) := Lib.hid (by rw [HE.out, List.drop_of_length_le (by rw [HL.out]; omega)]; rfl)
      go_wp2_with fail
      go_ret
      exact ⟨by rw [HT.out]; rfl, HB.out⟩
end Go.Proofs.Ytbliipjiilmbcaa
/-
  What pkt.May, the document's May, pkt.Size and ends do.
-/
namespace Go.Proofs.Ytbliipjiilmbcaa
open Go.RowKit Wire Tlv Chunk Pkt

theorem mem_cell {W : World} {b : Nat} {f t g : Nat} {A : Option Addr} {n c : Nat} {T : TypeId} (h : Bk W b #[.int .u16 (f : Int), .int .u16 (t : Int), .int .u32 (g : Int), .slice A n c] T) : W.cell? ⟨b, 2, none⟩ = some (.int .u32 (g : Int)) ∧ W.cell? ⟨b, 3, none⟩ = some (.slice A n c) := ⟨h.cell 2, h.cell 3⟩
theorem mem_head {W : World} {b : Nat} {f t g : Nat} {A : Option Addr} {n c : Nat} {T : TypeId} (h : Bk W b #[.int .u16 (f : Int), .int .u16 (t : Int), .int .u32 (g : Int), .slice A n c] T) : W.cell? ⟨b, 0, none⟩ = some (.int .u16 (f : Int)) ∧ W.cell? ⟨b, 1, none⟩ = some (.int .u16 (t : Int)) := ⟨h.cell 0, h.cell 1⟩
set_option maxRecDepth 100000 in
set_option maxHeartbeats 2000000 in
theorem pktMay_any (f t g : Nat) (ks : List Cq) (A : Option Addr) (n c : Nat) (w : World) (h : Rk w A ks) (hl : ks.length = n) (hn : n ≤ 1000000000) :
    Calls Try.prog 24 #[.agg #[.int .u16 (f : Int), .int .u16 (t : Int), .int .u32 (g : Int), .slice A n c]] w fun e w' => e = .returned (.bool (mayP g (ks.map (·.1)))) ∧ Below w.heap.size w w' := by
  have HB : Hid (Bk (w.alloc (.cells #[.int .u16 (f : Int), .int .u16 (t : Int), .int .u32 (g : Int), .slice A n c] 52)) w.heap.size #[.int .u16 (f : Int), .int .u16 (t : Int), .int .u32 (g : Int), .slice A n c] 52 ∧ Below w.heap.size w (w.alloc (.cells #[.int .u16 (f : Int), .int .u16 (t : Int), .int .u32 (g : Int), .slice A n c] 52))) := Lib.hid ⟨Bk.new _ _ _, (Below.refl _ _).alloc (Nat.le_refl _) _⟩
  have CA : Hid (∀ W, Below w.heap.size w W → Calls Try.prog 51 #[.slice A n c, .func (.func 52) #[] #[]] W fun e w' => e = .returned (.bool (ks.any fun k => alone k.1.kd)) ∧ Below W.heap.size W w') := Lib.hid fun W hW => some_any _ alone ks A n c W (h.next hW) hl hn (enters_of Try.func52 (by kernel_rfl) rfl) alone_any
  have CU : Hid (∀ W, Below w.heap.size w W → Calls Try.prog 51 #[.slice A n c, .func (.func 53) #[] #[]] W fun e w' => e = .returned (.bool (ks.any fun k => untag k.1.kd)) ∧ Below W.heap.size W w') := Lib.hid fun W hW => some_any _ untag ks A n c W (h.next hW) hl hn (enters_of Try.func53 (by kernel_rfl) rfl) untag_any
  have hm : mayP g (ks.map (·.1)) = (!((n == 0) || (decide (1 < n) && ks.any fun k => alone k.1.kd)) && ((ks.any fun k => untag k.1.kd) == (g == 0))) := by
    unfold mayP
    rw [List.length_map, hl, List.any_map, List.any_map]
    rfl
  obtain ⟨R, hR⟩ : ∃ R, mayP g (ks.map (·.1)) = R := ⟨_, rfl⟩
  rw [hR] at hm ⊢
  generalize (ks.any fun k => alone k.1.kd) = ba at CA hm
  generalize (ks.any fun k => untag k.1.kd) = bu at CU hm
  have hg0 : ((g : Int) == 0) = (g == 0) := by rw [Bool.eq_iff_iff]; first | (simp; done) | (simp; omega)
  generalize (g == 0) = bg at hg0 hm
  have hcase : ∃ b1 b2 : Bool, ((n : Int) == 0) = b1 ∧ decide ((1 : Int) < (n : Int)) = b2 ∧ (n == 0) = b1 ∧ decide (1 < n) = b2 ∧ (b1 && b2) = false := by
    refine ⟨_, _, rfl, rfl, ?_, ?_, ?_⟩
    · rw [Bool.eq_iff_iff]; first | (simp; done) | (simp; omega)
    · rw [Bool.eq_iff_iff]; first | (simp; done) | (simp; omega)
    · rw [Bool.and_eq_false_iff]; simp; omega
  obtain ⟨b1, b2, d1, d2, e1, e2, hbb⟩ := hcase
  rw [e1, e2] at hm
  have HM := Lib.hid hm
  clear h hl hm hR e1 e2
  go_enter Try.func24, Try.ntmps24
  go_upto_region 1 with fail
  generalize World.alloc w _ = W1 at HB ⊢
  obtain ⟨k2, k3⟩ := mem_cell HB.out.1
  cases b1 with
  | true =>
    clear hbb d2
    go_wp2_with fail
    go_ret
    exact ⟨by rw [HM.out]; rfl, HB.out.2⟩
  | false =>
    cases b2 with
    | true =>
      go_wp2_with fail
      have hbw := HB.out.2
      (with_reducible refine (CA.out _ hbw).mono ?_)
      rintro e W2 ⟨rfl, hb2⟩
      have HB2 : Hid (Bk W2 w.heap.size #[.int .u16 (f : Int), .int .u16 (t : Int), .int .u32 (g : Int), .slice A n c] 52 ∧ Below w.heap.size w W2) := Lib.hid ⟨HB.out.1.next hb2, bnext' HB.out.2 hb2⟩
      clear hb2 hbw k2 k3 HB
      cases ba with
      | true =>
        go_wp2_with fail
        go_ret
        exact ⟨by rw [HM.out]; rfl, HB2.out.2⟩
      | false =>
        obtain ⟨s1, s2⟩ := mem_cell HB2.out.1.drew
        have hbd : Below w.heap.size w W2.drew := HB2.out.2.drew
        go_upto_region 3 with fail
        refine wp_region_held_drew (S := (fun W => W.cell? ⟨w.heap.size, 2, none⟩ = some (.int .u32 (g : Int)) ∧ W.cell? ⟨w.heap.size, 3, none⟩ = some (.slice A n c))) (by kernel_rfl) (⟨s1, s2⟩) (fun hHeld => ?_)
        refine wpAnyH_take (i := 0) (v := ?_) rfl (by kernel_rfl) (by kernel_rfl) (by kernel_rfl) (fun _ _ _ h => h) (Or.inl ⟨by rfl, ?_⟩) (by first | assumption | trivial) ?_
        rotate_left 1
        · (intro w9 hSw; obtain ⟨s1, s2⟩ := hSw; go_simp; try (with_reducible rfl))
        try simp only [Act.put, List.setIfInBounds_toArray, List.set_cons_zero, List.set_cons_succ, List.getElem_toArray, List.getElem_cons_zero, List.getElem_cons_succ]
        refine wpAnyH_take (i := 1) (v := ?_) rfl (by kernel_rfl) (by kernel_rfl) (by kernel_rfl) (fun _ _ _ h => h) (Or.inl ⟨by rfl, ?_⟩) (by first | assumption | trivial) ?_
        rotate_left 1
        · (intro w9 hSw; obtain ⟨s1, s2⟩ := hSw; go_simp; try (with_reducible rfl))
        try simp only [Act.put, List.setIfInBounds_toArray, List.set_cons_zero, List.set_cons_succ, List.getElem_toArray, List.getElem_cons_zero, List.getElem_cons_succ]
        refine wpAnyH_take (i := 3) (v := ?_) rfl (by kernel_rfl) (by kernel_rfl) (by kernel_rfl) (fun _ _ _ h => h) (Or.inl ⟨by rfl, ?_⟩) (by first | assumption | trivial) ?_
        rotate_left 1
        · (intro w9 hSw; obtain ⟨s1, s2⟩ := hSw; go_simp; try (with_reducible rfl))
        try simp only [Act.put, List.setIfInBounds_toArray, List.set_cons_zero, List.set_cons_succ, List.getElem_toArray, List.getElem_cons_zero, List.getElem_cons_succ]
        refine wpAnyH_take (i := 4) (v := ?_) rfl (by kernel_rfl) (by kernel_rfl) (by kernel_rfl) (fun _ _ _ h => h) (Or.inl ⟨by rfl, ?_⟩) (by first | assumption | trivial) ?_
        rotate_left 1
        · (intro w9 hSw; obtain ⟨s1, s2⟩ := hSw; go_simp; try (with_reducible rfl))
        try simp only [Act.put, List.setIfInBounds_toArray, List.set_cons_zero, List.set_cons_succ, List.getElem_toArray, List.getElem_cons_zero, List.getElem_cons_succ]
        refine wpAnyH_take (i := 5) (v := ?_) rfl (by kernel_rfl) (by kernel_rfl) (by kernel_rfl) (fun _ _ _ h => h) (Or.inl ⟨by rfl, ?_⟩) (by first | assumption | trivial) ?_
        rotate_left 1
        · (intro w9 hSw; obtain ⟨s1, s2⟩ := hSw; go_simp; try (with_reducible rfl))
        try simp only [Act.put, List.setIfInBounds_toArray, List.set_cons_zero, List.set_cons_succ, List.getElem_toArray, List.getElem_cons_zero, List.getElem_cons_succ]
        refine wpAnyH_take (i := 6) (v := ?_) rfl (by kernel_rfl) (by kernel_rfl) (by kernel_rfl) (fun _ _ _ h => h) (Or.inl ⟨by rfl, ?_⟩) (by first | assumption | trivial) ?_
        rotate_left 1
        · (intro w9 hSw; obtain ⟨s1, s2⟩ := hSw; go_simp; try (with_reducible rfl))
        try simp only [Act.put, List.setIfInBounds_toArray, List.set_cons_zero, List.set_cons_succ, List.getElem_toArray, List.getElem_cons_zero, List.getElem_cons_succ]
        refine wpAnyH_ready (rs := [2]) (by kernel_rfl) (by simp) ?_
        refine AllReadyH.cons rfl (fun K hK => ?_) AllReadyH.nil
        go_simp
        go_at_call 51
        (with_reducible refine (CU.out _ hbd).mono ?_)
        rintro e W9 ⟨rfl, hb9⟩
        have HB9 : Hid (Bk W9 w.heap.size #[.int .u16 (f : Int), .int .u16 (t : Int), .int .u32 (g : Int), .slice A n c] 52 ∧ Below w.heap.size w W9) := Lib.hid ⟨HB2.out.1.drew.next hb9, bnext' hbd hb9⟩
        have hS9 := mem_cell HB9.out.1
        clear hb9
        refine hK.out _ _ (hS9) (fun hHeld => ?_)
        clear hK K
        try simp only [Act.put, List.setIfInBounds_toArray, List.set_cons_zero, List.set_cons_succ, List.getElem_toArray, List.getElem_cons_zero, List.getElem_cons_succ]
        refine wpAnyH_take (i := 7) (v := ?_) rfl (by kernel_rfl) (by kernel_rfl) (by kernel_rfl) (fun _ _ _ h => h) (Or.inl ⟨by rfl, ?_⟩) (by first | assumption | trivial) ?_
        rotate_left 1
        · (intro w9 hSw; obtain ⟨s1, s2⟩ := hSw; go_simp; try (with_reducible rfl))
        try simp only [Act.put, List.setIfInBounds_toArray, List.set_cons_zero, List.set_cons_succ, List.getElem_toArray, List.getElem_cons_zero, List.getElem_cons_succ]
        refine wpAnyH_take (i := 8) (v := ?_) rfl (by kernel_rfl) (by kernel_rfl) (by kernel_rfl) (fun _ _ _ h => h) (Or.inl ⟨by rfl, ?_⟩) (by first | assumption | trivial) ?_
        rotate_left 1
        · (intro w9 hSw; obtain ⟨s1, s2⟩ := hSw; go_simp; try (with_reducible rfl))
        try simp only [Act.put, List.setIfInBounds_toArray, List.set_cons_zero, List.set_cons_succ, List.getElem_toArray, List.getElem_cons_zero, List.getElem_cons_succ]
        refine wpAnyH_done (by kernel_rfl) ?_ _
        clear s1 s2 hbd hHeld hS9
        go_wp2_with fail
        go_ret
        exact ⟨by rw [HM.out]; rfl, HB9.out.2⟩
    | false =>
      obtain ⟨s1, s2⟩ := mem_cell HB.out.1.drew
      have hbd : Below w.heap.size w W1.drew := HB.out.2.drew
      go_upto_region 3 with fail
      clear k2 k3
      refine wp_region_held_drew (S := (fun W => W.cell? ⟨w.heap.size, 2, none⟩ = some (.int .u32 (g : Int)) ∧ W.cell? ⟨w.heap.size, 3, none⟩ = some (.slice A n c))) (by kernel_rfl) (⟨s1, s2⟩) (fun hHeld => ?_)
      refine wpAnyH_take (i := 0) (v := ?_) rfl (by kernel_rfl) (by kernel_rfl) (by kernel_rfl) (fun _ _ _ h => h) (Or.inl ⟨by rfl, ?_⟩) (by first | assumption | trivial) ?_
      rotate_left 1
      · (intro w9 hSw; obtain ⟨s1, s2⟩ := hSw; go_simp; try (with_reducible rfl))
      try simp only [Act.put, List.setIfInBounds_toArray, List.set_cons_zero, List.set_cons_succ, List.getElem_toArray, List.getElem_cons_zero, List.getElem_cons_succ]
      refine wpAnyH_take (i := 1) (v := ?_) rfl (by kernel_rfl) (by kernel_rfl) (by kernel_rfl) (fun _ _ _ h => h) (Or.inl ⟨by rfl, ?_⟩) (by first | assumption | trivial) ?_
      rotate_left 1
      · (intro w9 hSw; obtain ⟨s1, s2⟩ := hSw; go_simp; try (with_reducible rfl))
      try simp only [Act.put, List.setIfInBounds_toArray, List.set_cons_zero, List.set_cons_succ, List.getElem_toArray, List.getElem_cons_zero, List.getElem_cons_succ]
      refine wpAnyH_take (i := 3) (v := ?_) rfl (by kernel_rfl) (by kernel_rfl) (by kernel_rfl) (fun _ _ _ h => h) (Or.inl ⟨by rfl, ?_⟩) (by first | assumption | trivial) ?_
      rotate_left 1
      · (intro w9 hSw; obtain ⟨s1, s2⟩ := hSw; go_simp; try (with_reducible rfl))
      try simp only [Act.put, List.setIfInBounds_toArray, List.set_cons_zero, List.set_cons_succ, List.getElem_toArray, List.getElem_cons_zero, List.getElem_cons_succ]
      refine wpAnyH_take (i := 4) (v := ?_) rfl (by kernel_rfl) (by kernel_rfl) (by kernel_rfl) (fun _ _ _ h => h) (Or.inl ⟨by rfl, ?_⟩) (by first | assumption | trivial) ?_
      rotate_left 1
      · (intro w9 hSw; obtain ⟨s1, s2⟩ := hSw; go_simp; try (with_reducible rfl))
      try simp only [Act.put, List.setIfInBounds_toArray, List.set_cons_zero, List.set_cons_succ, List.getElem_toArray, List.getElem_cons_zero, List.getElem_cons_succ]
      refine wpAnyH_take (i := 5) (v := ?_) rfl (by kernel_rfl) (by kernel_rfl) (by kernel_rfl) (fun _ _ _ h => h) (Or.inl ⟨by rfl, ?_⟩) (by first | assumption | trivial) ?_
      rotate_left 1
      · (intro w9 hSw; obtain ⟨s1, s2⟩ := hSw; go_simp; try (with_reducible rfl))
      try simp only [Act.put, List.setIfInBounds_toArray, List.set_cons_zero, List.set_cons_succ, List.getElem_toArray, List.getElem_cons_zero, List.getElem_cons_succ]
      refine wpAnyH_take (i := 6) (v := ?_) rfl (by kernel_rfl) (by kernel_rfl) (by kernel_rfl) (fun _ _ _ h => h) (Or.inl ⟨by rfl, ?_⟩) (by first | assumption | trivial) ?_
      rotate_left 1
      · (intro w9 hSw; obtain ⟨s1, s2⟩ := hSw; go_simp; try (with_reducible rfl))
      try simp only [Act.put, List.setIfInBounds_toArray, List.set_cons_zero, List.set_cons_succ, List.getElem_toArray, List.getElem_cons_zero, List.getElem_cons_succ]
      refine wpAnyH_ready (rs := [2]) (by kernel_rfl) (by simp) ?_
      refine AllReadyH.cons rfl (fun K hK => ?_) AllReadyH.nil
      go_simp
      go_at_call 51
      (with_reducible refine (CU.out _ hbd).mono ?_)
      rintro e W9 ⟨rfl, hb9⟩
      have HB9 : Hid (Bk W9 w.heap.size #[.int .u16 (f : Int), .int .u16 (t : Int), .int .u32 (g : Int), .slice A n c] 52 ∧ Below w.heap.size w W9) := Lib.hid ⟨HB.out.1.drew.next hb9, bnext' hbd hb9⟩
      have hS9 := mem_cell HB9.out.1
      clear hb9
      refine hK.out _ _ (hS9) (fun hHeld => ?_)
      clear hK K
      try simp only [Act.put, List.setIfInBounds_toArray, List.set_cons_zero, List.set_cons_succ, List.getElem_toArray, List.getElem_cons_zero, List.getElem_cons_succ]
      refine wpAnyH_take (i := 7) (v := ?_) rfl (by kernel_rfl) (by kernel_rfl) (by kernel_rfl) (fun _ _ _ h => h) (Or.inl ⟨by rfl, ?_⟩) (by first | assumption | trivial) ?_
      rotate_left 1
      · (intro w9 hSw; obtain ⟨s1, s2⟩ := hSw; go_simp; try (with_reducible rfl))
      try simp only [Act.put, List.setIfInBounds_toArray, List.set_cons_zero, List.set_cons_succ, List.getElem_toArray, List.getElem_cons_zero, List.getElem_cons_succ]
      refine wpAnyH_take (i := 8) (v := ?_) rfl (by kernel_rfl) (by kernel_rfl) (by kernel_rfl) (fun _ _ _ h => h) (Or.inl ⟨by rfl, ?_⟩) (by first | assumption | trivial) ?_
      rotate_left 1
      · (intro w9 hSw; obtain ⟨s1, s2⟩ := hSw; go_simp; try (with_reducible rfl))
      try simp only [Act.put, List.setIfInBounds_toArray, List.set_cons_zero, List.set_cons_succ, List.getElem_toArray, List.getElem_cons_zero, List.getElem_cons_succ]
      refine wpAnyH_done (by kernel_rfl) ?_ _
      clear s1 s2 hbd hHeld hS9
      go_wp2_with fail
      go_ret
      exact ⟨by rw [HM.out]; rfl, HB9.out.2⟩
end Go.Proofs.Ytbliipjiilmbcaa
/-
  Plain words for ChunkBack: what is put is taken as it was, and what is taken is put as that thing.
-/
namespace Go.Proofs.Ytbliipjiilmbcaa
open Go.RowKit Wire Tlv Chunk

theorem nn_hit (pre : List Int) (sz a : Nat) (post v : List Int) (i : Nat) (hv : v = pre ++ (be sz a ++ post)) (hi : pre.length = i) (ha : a < 256 ^ sz) : nn v i sz = a := by
  subst hv hi
  unfold nn
  rw [if_pos (by simp [be_len]), List.drop_left, List.take_append_of_le_length (by rw [be_len]; exact Nat.le_refl _), List.take_of_length_le (by rw [be_len]; exact Nat.le_refl _)]
  exact nu_be sz a ha
theorem be_nn {v : List Int} (hv : Byt v) {i sz : Nat} (h : i + sz ≤ v.length) : be sz (nn v i sz) = (v.drop i).take sz := by
  unfold nn
  rw [if_pos h]
  exact be_nu sz _ (by simp; omega) (Byt.take (Byt.drop hv i) sz)
theorem drop_split {v : List Int} (i sz : Nat) : v.drop i = (v.drop i).take sz ++ v.drop (i + sz) := by
  rw [← List.drop_drop, List.take_append_drop]
/-- The bytes of gaps, and of numbers, told again. -/
theorem gb_gaps {v : List Int} (hv : Byt v) : ∀ (k : Nat), 12 + 4 * k ≤ v.length → gb (gaps_ v k) = (v.drop 12).take (4 * k)
  | 0, _ => by simp [gaps_, gb]
  | k + 1, h => by
    rw [gaps_snoc, gb_snoc, gb_gaps hv k (by omega), be_nn hv (by omega), be_nn hv (by omega)]
    have e : (v.drop 12).take (4 * (k + 1)) = (v.drop 12).take (4 * k) ++ ((v.drop 12).drop (4 * k)).take 4 := by
      rw [show 4 * (k + 1) = 4 * k + 4 by omega, List.take_add]
    rw [e, List.drop_drop]
    congr 1
    have e2 : (v.drop (12 + 4 * k)).take 4 = (v.drop (12 + 4 * k)).take 2 ++ ((v.drop (12 + 4 * k)).drop 2).take 2 := by
      rw [show 4 = 2 + 2 by omega, List.take_add]
    rw [e2, List.drop_drop, show 12 + 4 * k + 2 = 14 + 4 * k by omega]
theorem ub_dups {v : List Int} (hv : Byt v) (g : Nat) : ∀ (k : Nat), 12 + 4 * g + 4 * k ≤ v.length → ub (dups_ v g k) = (v.drop (12 + 4 * g)).take (4 * k)
  | 0, _ => by simp [dups_, ub]
  | k + 1, h => by
    rw [dups_snoc, ub_snoc, ub_dups hv g k (by omega), be_nn hv (by omega)]
    rw [show 4 * (k + 1) = 4 * k + 4 by omega, List.take_add, List.drop_drop]
theorem nil_of {α : Type} {l : List α} (h : l.length = 0) : l = [] := List.eq_nil_of_length_eq_zero h
/-- What is taken is put as that thing. -/
theorem val_taken {x : Tv} {d : Ck} (hx : x.ok) (h : take x = some d) (hk : ¬ (x.k = 1 ∨ x.k = 2)) : val d = x.v ∧ d.kd = x.k ∧ d.fl = x.f := by
  have h255 : x.k ≤ 255 := by
    refine Nat.le_of_not_lt fun hh => ?_
    unfold take at h
    rw [if_pos hh] at h
    cases h
  rw [take_mayO h255] at h
  obtain ⟨c, hr, hm⟩ := Option.bind_eq_some_iff.1 h
  have hcd : c = d := by
    by_cases hmay : may c
    · rw [mayO, if_pos hmay] at hm; exact Option.some.inj hm
    · rw [mayO, if_neg hmay] at hm; cases hm
  subst hcd
  clear hm h
  have hv := hx.2.2
  by_cases h0 : x.k = 0
  · rw [raw_piece h0] at hr
    split at hr
    · rename_i hl
      injection hr with hr
      subst hr
      refine ⟨?_, rfl, rfl⟩
      simp only [val, body, pars, nums, bare, zero, h0, cat, if_pos, List.map_nil, List.append_nil, List.flatMap_nil, List.append_assoc, if_neg (show ¬ (0 : Nat) = 2 by omega)]
      rw [be_nn hv (by omega), be_nn hv (by omega), be_nn hv (by omega), be_nn hv (by omega)]
      conv => rhs; rw [← List.drop_zero (l := x.v), drop_split 0 4, drop_split (0 + 4) 2, drop_split (0 + 4 + 2) 2, drop_split (0 + 4 + 2 + 2) 4]
    · cases hr
  by_cases h3 : x.k = 3
  · rw [raw_sack h3] at hr
    split at hr
    · rename_i hl
      injection hr with hr
      subst hr
      refine ⟨?_, rfl, rfl⟩
      simp only [val, body, pars, nums, bare, zero, h3, cat, if_pos, List.map_nil, List.append_nil, List.flatMap_nil, gaps_len, dups_len, if_neg (show ¬ (3 : Nat) = 2 by omega), if_neg (show ¬ (3 : Nat) = 0 by omega), if_neg (show ¬ ((3 : Nat) = 1 ∨ (3 : Nat) = 2) by omega)]
      rw [gb_gaps hv _ (by omega), ub_dups hv _ _ (by omega)]
      generalize hg : nn x.v 8 2 = g at hl ⊢
      generalize hd : nn x.v 10 2 = d at hl ⊢
      rw [be_nn hv (by omega), be_nn hv (by omega), ← hg, be_nn hv (by omega), ← hd, be_nn hv (by omega), hg, hd]
      conv => rhs; rw [← List.drop_zero (l := x.v), drop_split 0 4, drop_split (0 + 4) 4, drop_split (0 + 4 + 4) 2, drop_split (0 + 4 + 4 + 2) 2, drop_split (0 + 4 + 4 + 2 + 2) (4 * g), drop_split (0 + 4 + 4 + 2 + 2 + 4 * g) (4 * d), List.drop_of_length_le (show x.v.length ≤ 0 + 4 + 4 + 2 + 2 + 4 * g + 4 * d by omega), List.append_nil]
    · cases hr
  by_cases h6 : x.k = 6 ∨ x.k = 9
  · rw [raw_cause h6] at hr
    split at hr
    · rename_i hl
      injection hr with hr
      subst hr
      refine ⟨?_, rfl, rfl⟩
      have hn : ∀ c : Ck, c.kd = x.k → c.ad = [] → c.da = [] → val c = cat false (c.ca.map (fun y => ⟨y.1, 0, y.2⟩)) := fun c h1 ha hd => by
        unfold val body pars nums
        rw [h1, ha, hd, if_neg h0, if_neg hk, if_neg h3, if_neg (by omega), if_neg (by omega), if_neg (by omega)]
        simp
      have h2 := cat_tl x.v.length x.v (Nat.le_refl _) hv hl
      rw [hn _ rfl rfl rfl]
      show cat false (((tl false x.v).1.map (fun y => (y.k, y.v))).map (fun y => (⟨y.1, 0, y.2⟩ : Tv))) = _
      rw [List.map_map]
      conv => rhs; rw [← h2.1]
      congr 1
      conv => rhs; rw [← List.map_id (tl false x.v).1]
      refine List.map_congr_left fun y hy => ?_
      have hf : y.f = 0 := by simpa [fit] using (h2.2 y hy).2.1
      obtain ⟨yk, yf, yv⟩ := y
      simp only at hf
      subst hf
      rfl
    · cases hr
  have hn : ∀ c : Ck, c.kd = x.k → x.k ≠ 7 → c.ad = [] → c.ca = [] → val c = c.da := fun c h1 h7 ha hc => by
    unfold val body pars nums
    rw [h1, ha, hc, if_neg h0, if_neg hk, if_neg h3, if_neg h7, if_neg (by omega), if_neg (by omega)]
    simp [cat]
  by_cases h7 : x.k = 7
  · rw [raw_shut h7] at hr
    split at hr
    · rename_i hl
      injection hr with hr
      subst hr
      refine ⟨?_, rfl, rfl⟩
      simp only [val, body, pars, nums, bare, zero, h7, cat, if_pos, List.map_nil, List.append_nil, List.flatMap_nil, if_neg (show ¬ (7 : Nat) = 2 by omega), if_neg (show ¬ (7 : Nat) = 0 by omega), if_neg (show ¬ (7 : Nat) = 3 by omega), if_neg (show ¬ ((7 : Nat) = 1 ∨ (7 : Nat) = 2) by omega)]
      rw [be_nn hv (by omega), List.drop_zero, List.take_of_length_le (by omega)]
    · cases hr
  by_cases h8 : x.k = 8 ∨ x.k = 11 ∨ x.k = 14
  · rw [raw_none h8] at hr
    split at hr
    · rename_i hl
      injection hr with hr
      subst hr
      refine ⟨?_, rfl, rfl⟩
      rw [hn _ rfl h7 rfl rfl]
      exact (nil_of hl).symm
    · cases hr
  rw [raw_data (by omega)] at hr
  injection hr with hr
  subst hr
  exact ⟨hn _ rfl h7 rfl rfl, rfl, rfl⟩
/-- A thing is no longer than the bytes that it was told of. -/
theorem tl_in {ch : Bool} : ∀ (m : Nat) (b : List Int), b.length ≤ m → Byt b → ∀ x ∈ (tl ch b).1, x.v.length ≤ b.length
  | 0, b, h, _, x, hx => by
    rw [List.length_eq_zero_iff.1 (Nat.le_zero.1 h), tl_nil] at hx
    cases hx
  | m + 1, b, h, hb, x, hx => by
    by_cases h0 : b.length = 0
    · rw [List.length_eq_zero_iff.1 h0, tl_nil] at hx
      cases hx
    cases ht : t1 ch b with
    | none =>
      rw [tl_none h0 ht] at hx
      cases hx
    | some p =>
      obtain ⟨y, s⟩ := p
      rw [tl_some ht] at hx
      have h1 := t1_lt ht
      rcases List.mem_cons.1 hx with rfl | hx
      · have h2 := (tb_t1 hb ht).2.2.2
        have h3 := tb_len ch x
        rw [h2] at h3
        have := whl_le (4 + x.v.length)
        simp at h3
        omega
      · have := tl_in m (b.drop s) (by simp; omega) (Byt.drop hb s) x hx
        simp at this
        omega
theorem prr_keeps : ∀ (l : List (Tv × Int)) (c d : Ck) (B : Nat), prr c l = some d → (∀ x ∈ l, x.2 = 0 → x.1.v.length ≤ B) → c.da.length ≤ B → d = { c with ad := d.ad, da := d.da } ∧ d.da.length ≤ B
  | [], c, d, B, h, _, hc => by
    rw [prr] at h
    injection h with h
    subst h
    exact ⟨rfl, hc⟩
  | (x, e) :: l, c, d, B, h, hB, hc => by
    rw [prr] at h
    split at h
    · cases h
    rename_i he
    have ih := fun c' h hc => prr_keeps l c' d B h (fun y hy => hB y (List.mem_cons_of_mem _ hy)) hc
    split at h
    · split at h
      · cases h
      · obtain ⟨h1, h2⟩ := ih _ h hc
        exact ⟨h1, h2⟩
    split at h
    · split at h
      · cases h
      · obtain ⟨h1, h2⟩ := ih _ h (hB (x, e) List.mem_cons_self (by simpa using he))
        exact ⟨h1, h2⟩
    split at h
    · injection h with h
      subst h
      exact ⟨rfl, hc⟩
    · exact ih _ h hc
theorem val_side {x : Tv} {d : Ck} (hx : x.ok) (h : take x = some d) (hk : x.k = 1 ∨ x.k = 2) : (val d).length ≤ x.v.length + 100 ∧ d.kd = x.k := by
  rw [take_mayO (by omega), raw_side hk] at h
  split at h
  · obtain ⟨c, hr, hm⟩ := Option.bind_eq_some_iff.1 h
    have hcd : may c ∧ c = d := by
      by_cases hmay : may c
      · rw [mayO, if_pos hmay] at hm; exact ⟨hmay, Option.some.inj hm⟩
      · rw [mayO, if_neg hmay] at hm; cases hm
    obtain ⟨hmay, rfl⟩ := hcd
    obtain ⟨h1, h2⟩ := prr_keeps _ _ c x.v.length hr (fun y hy h0 => by
      unfold ev at hy
      rcases List.mem_append.1 hy with hy | hy
      · obtain ⟨z, hz, rfl⟩ := List.mem_map.1 hy
        have := tl_in _ _ (Nat.le_refl _) (Byt.drop hx.2.2 16) z hz
        simp at this ⊢
        omega
      · split at hy
        · cases hy
        · simp at hy
          subst hy
          cases h0) (Nat.zero_le _)
    have hkd : c.kd = x.k := by rw [h1]; rfl
    have hca : c.ca = [] := by rw [h1]; rfl
    refine ⟨?_, hkd⟩
    have h3 := hmay.1.ad3
    unfold val body
    have hn : (nums c).length = 16 := by
      unfold nums
      rw [hkd, if_neg (by omega), if_pos hk]
      simp [be_len]
    have hp : (cat false (pars c)).length ≤ 40 + (if c.kd = 2 then c.da.length else 0) := by
      unfold pars cat
      rw [hca]
      simp only [List.map_nil, List.append_nil, List.flatMap_append, List.length_append]
      have e1 : ∀ l : List Nat, ((l.map (fun a => (⟨5, 0, be 4 a⟩ : Tv))).flatMap (tb false)).length = 8 * l.length := fun l => by
        induction l with
        | nil => rfl
        | cons a l ih =>
          simp only [List.map_cons, List.flatMap_cons, List.length_append, ih, tb_len, be_len, List.length_cons, whl]
          omega
      rw [e1]
      split
      · simp only [List.flatMap_cons, List.flatMap_nil, List.append_nil, tb_len]
        have := whl_le (4 + c.da.length)
        omega
      · simp; omega
    rw [List.length_append, List.length_append, hn]
    split at hp
    · rename_i h22
      rw [if_pos h22]
      simp; omega
    · rename_i h22
      rw [if_neg h22]
      have : c.da = [] := by
        have := hmay.1.da.resolve_left (by unfold hDa; omega)
        exact nil_of this
      rw [this]
      simp; omega
  · cases h
end Go.Proofs.Ytbliipjiilmbcaa
/-
  Plain words for ChunkBack: what is put is taken as it was.
-/
namespace Go.Proofs.Ytbliipjiilmbcaa
open Go.RowKit Wire Tlv Chunk

theorem nn_first (sz a : Nat) (post : List Int) (ha : a < 256 ^ sz) : nn (be sz a ++ post) 0 sz = a := nn_hit [] sz a post _ 0 rfl rfl ha
theorem prr_ads : ∀ (l : List Nat) (c0 : Ck) (t : List (Tv × Int)), (∀ a ∈ l, a < 4294967296) → c0.ad.length + l.length ≤ 3 → prr c0 ((l.map fun a => ((⟨5, 0, be 4 a⟩ : Tv), (0 : Int))) ++ t) = prr { c0 with ad := c0.ad ++ l } t
  | [], c0, t, _, _ => by simp
  | a :: l, c0, t, h, h3 => by
    have h1 : c0.ad.length ≠ 3 := by simp at h3; omega
    rw [List.map_cons, List.cons_append, prr, if_neg (by simp), if_pos rfl, if_neg (by simp [be_len, h1])]
    rw [show nu (be 4 a) = a from nu_be 4 a (h a List.mem_cons_self)]
    rw [prr_ads l { c0 with ad := c0.ad ++ [a] } t (fun b hb => h b (List.mem_cons_of_mem _ hb)) (by simp at h3 ⊢; omega)]
    simp
theorem cat_mem {xs : List Tv} {x : Tv} (h : x ∈ xs) : x.v.length ≤ (cat false xs).length := by
  induction xs with
  | nil => cases h
  | cons y xs ih =>
    simp only [cat, List.flatMap_cons, List.length_append, tb_len]
    rcases List.mem_cons.1 h with rfl | h
    · have := whl_le (4 + x.v.length)
      omega
    · have := ih h
      simp only [cat] at this
      omega
theorem pars_fit {c : Ck} (hok : c.ok) (hl : (val c).length ≤ 65531) : ∀ x ∈ pars c, x.ok ∧ fit false x ∧ x.v.length ≤ 65531 := fun x hx => by
  have h1 := pars_ok hok x hx
  have h2 := cat_mem hx
  unfold val at hl
  rw [List.length_append] at hl
  exact ⟨h1.1, h1.2, by omega⟩
theorem gaps_back (l : List (Nat × Nat)) (pre post : List Int) (hp : pre.length = 12) (h : ∀ g ∈ l, g.1 < 65536 ∧ g.2 < 65536) : gaps_ (pre ++ (gb l ++ post)) l.length = l := by
  refine List.ext_getElem (by simp [gaps_]) fun i h1 h2 => ?_
  simp only [gaps_, List.getElem_map, List.getElem_range]
  have hs : l = l.take i ++ l[i] :: l.drop (i + 1) := by rw [List.getElem_cons_drop, List.take_append_drop]
  have hg := h l[i] (List.getElem_mem h2)
  have e : gb l = gb (l.take i) ++ (be 2 l[i].1 ++ (be 2 l[i].2 ++ gb (l.drop (i + 1)))) := by
    rw [show gb l = gb (l.take i ++ l[i] :: l.drop (i + 1)) from congrArg gb hs]
    simp only [gb, List.flatMap_append, List.flatMap_cons, List.append_assoc]
  have hl := gb_len (l.take i)
  simp at hl
  refine Prod.ext ?_ ?_
  · exact nn_hit (pre ++ gb (l.take i)) 2 _ (be 2 l[i].2 ++ gb (l.drop (i + 1)) ++ post) _ _ (by rw [e]; simp) (by rw [List.length_append, hl, hp]; omega) hg.1
  · exact nn_hit (pre ++ gb (l.take i) ++ be 2 l[i].1) 2 _ (gb (l.drop (i + 1)) ++ post) _ _ (by rw [e]; simp) (by rw [List.length_append, List.length_append, hl, hp, be_len]; omega) hg.2
theorem dups_back (l : List Nat) (g : Nat) (pre : List Int) (hp : pre.length = 12 + 4 * g) (h : ∀ a ∈ l, a < 4294967296) : dups_ (pre ++ ub l) g l.length = l := by
  refine List.ext_getElem (by simp [dups_]) fun i h1 h2 => ?_
  simp only [dups_, List.getElem_map, List.getElem_range]
  have hs : l = l.take i ++ l[i] :: l.drop (i + 1) := by rw [List.getElem_cons_drop, List.take_append_drop]
  have e : ub l = ub (l.take i) ++ (be 4 l[i] ++ ub (l.drop (i + 1))) := by
    rw [show ub l = ub (l.take i ++ l[i] :: l.drop (i + 1)) from congrArg ub hs]
    simp only [ub, List.flatMap_append, List.flatMap_cons]
  have hl := ub_len (l.take i)
  simp at hl
  exact nn_hit (pre ++ ub (l.take i)) 4 _ (ub (l.drop (i + 1))) _ _ (by rw [e]; simp) (by rw [List.length_append, hl, hp]; omega) (h l[i] (List.getElem_mem h2))
theorem raw_val {c : Ck} (hok : c.ok) (hm : may c) (hl : (val c).length ≤ 65531) : raw ⟨c.kd, c.fl, val c⟩ = some c := by
  obtain ⟨F, hap⟩ := hm
  have hpf := pars_fit hok hl
  have hb := hok
  obtain ⟨kd, fl, tag, rwn, tsn, out, inn, sid, ssn, ppid, da, ad, ga, du, ca⟩ := c
  obtain ⟨f1, f2, f3, f4, f5, f6, f7, f8, f9, f10, f11, f12⟩ := F
  simp only [hTsn, hRw, hDa, hPc, hIn, hGp, hCa] at f2 f3 f4 f5 f6 f7 f8 f9 f10 f11 f12
  by_cases h0 : kd = 0
  · subst h0
    obtain rfl : rwn = 0 := by omega
    obtain ⟨rfl, rfl, rfl, h6⟩ : tag = 0 ∧ out = 0 ∧ inn = 0 ∧ ad.length = 0 := by omega
    have h7 : ga.length = 0 ∧ du.length = 0 := by omega
    have h8 : ca.length = 0 := by omega
    obtain rfl := nil_of h6
    obtain rfl := nil_of h7.1
    obtain rfl := nil_of h7.2
    obtain rfl := nil_of h8
    have hd : da.length ≠ 0 := f12 (.inl rfl)
    have hv : val ⟨0, fl, 0, 0, tsn, 0, 0, sid, ssn, ppid, da, [], [], [], []⟩ = be 4 tsn ++ (be 2 sid ++ (be 2 ssn ++ (be 4 ppid ++ da))) := by
      simp [val, body, pars, nums, cat]
    rw [raw_piece rfl]
    simp only
    rw [hv, if_pos (by simp [be_len]; omega)]
    rw [nn_first 4 tsn _ hb.tsn, nn_hit (be 4 tsn) 2 sid (be 2 ssn ++ (be 4 ppid ++ da)) _ 4 rfl (be_len _ _) hb.sid,
      nn_hit (be 4 tsn ++ be 2 sid) 2 ssn (be 4 ppid ++ da) _ 6 (by simp) (by simp [be_len]) hb.ssn, nn_hit (be 4 tsn ++ be 2 sid ++ be 2 ssn) 4 ppid da _ 8 (by simp) (by simp [be_len]) hb.ppid]
    have e : (be 4 tsn ++ (be 2 sid ++ (be 2 ssn ++ (be 4 ppid ++ da)))).drop 12 = da := by
      rw [show be 4 tsn ++ (be 2 sid ++ (be 2 ssn ++ (be 4 ppid ++ da))) = (be 4 tsn ++ (be 2 sid ++ (be 2 ssn ++ be 4 ppid))) ++ da by simp]
      exact List.drop_left' (by simp [be_len])
    rw [e]
    rfl
  by_cases h12 : kd = 1 ∨ kd = 2
  · obtain ⟨rfl, rfl, rfl⟩ : sid = 0 ∧ ssn = 0 ∧ ppid = 0 := by omega
    have h7 : ga.length = 0 ∧ du.length = 0 := by omega
    have h8 : ca.length = 0 := by omega
    obtain rfl := nil_of h7.1
    obtain rfl := nil_of h7.2
    obtain rfl := nil_of h8
    have hv : val ⟨kd, fl, tag, rwn, tsn, out, inn, 0, 0, 0, da, ad, [], [], []⟩ = be 4 tag ++ (be 4 rwn ++ (be 2 out ++ (be 2 inn ++ (be 4 tsn ++ cat false (pars ⟨kd, fl, tag, rwn, tsn, out, inn, 0, 0, 0, da, ad, [], [], []⟩))))) := by
      have hbd : body ⟨kd, fl, tag, rwn, tsn, out, inn, 0, 0, 0, da, ad, [], [], []⟩ = be 4 tag ++ (be 4 rwn ++ (be 2 out ++ (be 2 inn ++ be 4 tsn))) := by
        unfold body nums
        simp only
        rw [if_neg h0, if_pos h12]
        split
        · simp
        · have : da.length = 0 := by omega
          obtain rfl := nil_of this
          simp
      unfold val
      rw [hbd]
      simp
    generalize hP : pars ⟨kd, fl, tag, rwn, tsn, out, inn, 0, 0, 0, da, ad, [], [], []⟩ = P at hv hpf
    rw [raw_side h12]
    simp only
    rw [hv, if_pos (by simp [be_len]; omega)]
    rw [nn_first 4 tag _ hb.tag, nn_hit (be 4 tag) 4 rwn (be 2 out ++ (be 2 inn ++ (be 4 tsn ++ cat false P))) _ 4 rfl (be_len _ _) hb.rw,
      nn_hit (be 4 tag ++ be 4 rwn) 2 out (be 2 inn ++ (be 4 tsn ++ cat false P)) _ 8 (by simp) (by simp [be_len]) hb.out, nn_hit (be 4 tag ++ be 4 rwn ++ be 2 out) 2 inn (be 4 tsn ++ cat false P) _ 10 (by simp) (by simp [be_len]) hb.inn,
      nn_hit (be 4 tag ++ be 4 rwn ++ be 2 out ++ be 2 inn) 4 tsn (cat false P) _ 12 (by simp) (by simp [be_len]) hb.tsn]
    have e : (be 4 tag ++ (be 4 rwn ++ (be 2 out ++ (be 2 inn ++ (be 4 tsn ++ cat false P))))).drop 16 = cat false P := by
      rw [show be 4 tag ++ (be 4 rwn ++ (be 2 out ++ (be 2 inn ++ (be 4 tsn ++ cat false P)))) = (be 4 tag ++ (be 4 rwn ++ (be 2 out ++ (be 2 inn ++ be 4 tsn)))) ++ cat false P by simp]
      exact List.drop_left' (by simp [be_len])
    rw [e]
    have e2 := ev_cat (ch := false) [] hpf
    rw [List.append_nil, ev_nil, List.append_nil] at e2
    rw [e2, ← hP]
    unfold pars
    simp only [List.map_nil, List.append_nil, List.map_append, List.map_map]
    have ha := prr_ads ad { bare ⟨kd, fl, be 4 tag ++ (be 4 rwn ++ (be 2 out ++ (be 2 inn ++ (be 4 tsn ++ cat false P))))⟩ with tag := tag, rw := rwn, out := out, inn := inn, tsn := tsn } ((if kd = 2 then [(⟨7, 0, da⟩ : Tv)] else []).map (fun x => (x, (0 : Int)))) hb.ad (by simpa [bare, zero] using f9)
    refine Eq.trans ?_ (ha.trans ?_)
    · rfl
    · by_cases h2 : kd = 2
      · subst h2
        have hd : da ≠ [] := fun h => by have := f12 (.inr rfl); rw [h] at this; exact this rfl
        rw [if_pos rfl]
        simp only [List.map_cons, List.map_nil]
        rw [prr, if_neg (by simp), if_neg (by simp), if_pos rfl, if_neg (by simp [bare, zero, hd]), prr]
        simp [bare, zero]
      · rw [if_neg h2]
        obtain rfl := nil_of (show da.length = 0 by omega)
        simp only [List.map_nil]
        rw [prr]
        simp [bare, zero]
  by_cases h3 : kd = 3
  · subst h3
    obtain ⟨rfl, rfl, rfl⟩ : sid = 0 ∧ ssn = 0 ∧ ppid = 0 := by omega
    obtain ⟨rfl, rfl, rfl, h6⟩ : tag = 0 ∧ out = 0 ∧ inn = 0 ∧ ad.length = 0 := by omega
    obtain rfl := nil_of h6
    obtain rfl := nil_of (show ca.length = 0 by omega)
    obtain rfl := nil_of (show da.length = 0 by omega)
    have hv : val ⟨3, fl, 0, rwn, tsn, 0, 0, 0, 0, 0, [], [], ga, du, []⟩ = be 4 tsn ++ (be 4 rwn ++ (be 2 ga.length ++ (be 2 du.length ++ (gb ga ++ ub du)))) := by
      simp [val, body, pars, nums, cat]
    have h8 : nn (val ⟨3, fl, 0, rwn, tsn, 0, 0, 0, 0, 0, [], [], ga, du, []⟩) 8 2 = ga.length := nn_hit (be 4 tsn ++ be 4 rwn) 2 _ (be 2 du.length ++ (gb ga ++ ub du)) _ 8 (by rw [hv]; simp) (by simp [be_len]) (by omega)
    have h10 : nn (val ⟨3, fl, 0, rwn, tsn, 0, 0, 0, 0, 0, [], [], ga, du, []⟩) 10 2 = du.length := nn_hit (be 4 tsn ++ be 4 rwn ++ be 2 ga.length) 2 _ (gb ga ++ ub du) _ 10 (by rw [hv]; simp) (by simp [be_len]) (by omega)
    rw [raw_sack rfl]
    simp only
    rw [h8, h10, if_pos (by rw [hv]; simp [be_len, gb_len, ub_len]; omega)]
    have g1 : gaps_ (val ⟨3, fl, 0, rwn, tsn, 0, 0, 0, 0, 0, [], [], ga, du, []⟩) ga.length = ga := by
      rw [hv, show be 4 tsn ++ (be 4 rwn ++ (be 2 ga.length ++ (be 2 du.length ++ (gb ga ++ ub du)))) = (be 4 tsn ++ (be 4 rwn ++ (be 2 ga.length ++ be 2 du.length))) ++ (gb ga ++ ub du) by simp]
      exact gaps_back ga _ _ (by simp [be_len]) hb.ga
    have g2 : dups_ (val ⟨3, fl, 0, rwn, tsn, 0, 0, 0, 0, 0, [], [], ga, du, []⟩) ga.length du.length = du := by
      rw [hv, show be 4 tsn ++ (be 4 rwn ++ (be 2 ga.length ++ (be 2 du.length ++ (gb ga ++ ub du)))) = (be 4 tsn ++ (be 4 rwn ++ (be 2 ga.length ++ (be 2 du.length ++ gb ga)))) ++ ub du by simp]
      exact dups_back du _ _ (by simp [be_len, gb_len]; omega) hb.du
    rw [g1, g2, nn_hit [] 4 tsn _ _ 0 hv rfl hb.tsn, nn_hit (be 4 tsn) 4 rwn _ _ 4 hv (be_len _ _) hb.rw]
    rfl
  obtain rfl : rwn = 0 := by omega
  obtain ⟨rfl, rfl, rfl⟩ : sid = 0 ∧ ssn = 0 ∧ ppid = 0 := by omega
  obtain ⟨rfl, rfl, rfl, h6⟩ : tag = 0 ∧ out = 0 ∧ inn = 0 ∧ ad.length = 0 := by omega
  obtain rfl := nil_of h6
  obtain ⟨h71, h72⟩ : ga.length = 0 ∧ du.length = 0 := by omega
  obtain rfl := nil_of h71
  obtain rfl := nil_of h72
  by_cases h6 : kd = 6 ∨ kd = 9
  · obtain rfl : tsn = 0 := by omega
    obtain rfl := nil_of (show da.length = 0 by omega)
    have hv : val ⟨kd, fl, 0, 0, 0, 0, 0, 0, 0, 0, [], [], [], [], ca⟩ = cat false (pars ⟨kd, fl, 0, 0, 0, 0, 0, 0, 0, 0, [], [], [], [], ca⟩) := by
      unfold val body nums
      simp only
      rw [if_neg h0, if_neg h12, if_neg h3, if_neg (by omega), if_neg (by omega)]
      simp
    have hp : pars ⟨kd, fl, 0, 0, 0, 0, 0, 0, 0, 0, [], [], [], [], ca⟩ = ca.map (fun x => ⟨x.1, 0, x.2⟩) := by
      unfold pars
      simp only
      rw [if_neg (by omega)]
      simp
    have ht := tl_cat (ch := false) [] hpf
    rw [List.append_nil, tl_nil, List.append_nil] at ht
    rw [raw_cause h6]
    simp only
    rw [hv, ht, if_pos rfl, hp]
    simp [bare, zero, Function.comp_def]
  obtain rfl := nil_of (show ca.length = 0 by omega)
  have hv : ∀ d, val ⟨kd, fl, 0, 0, tsn, 0, 0, 0, 0, 0, d, [], [], [], []⟩ = (if kd = 7 then be 4 tsn else []) ++ d := fun d => by
    have h2 : ¬ kd = 2 := fun h => h12 (.inr h)
    unfold val body nums pars
    simp only
    rw [if_neg h0, if_neg h12, if_neg h3, if_neg h2, if_neg h2]
    simp [cat]
  by_cases h7 : kd = 7
  · subst h7
    obtain rfl := nil_of (show da.length = 0 by omega)
    rw [raw_shut rfl]
    simp only
    rw [hv, if_pos rfl, List.append_nil, if_pos (be_len _ _), nn_hit [] 4 tsn [] (be 4 tsn) 0 (by simp) rfl hb.tsn]
    rfl
  obtain rfl : tsn = 0 := by omega
  by_cases h8 : kd = 8 ∨ kd = 11 ∨ kd = 14
  · obtain rfl := nil_of (show da.length = 0 by omega)
    rw [raw_none h8]
    simp only
    rw [hv, if_neg h7]
    rfl
  rw [raw_data (by simp only; omega)]
  simp only
  rw [hv, if_neg h7]
  rfl
theorem take_put {c : Ck} (hok : c.ok) (hm : may c) (hl : (val c).length ≤ 65531) : take ⟨c.kd, c.fl, val c⟩ = some c := by
  rw [take_mayO (by have := hok.kd; show c.kd ≤ 255; omega), raw_val hok hm hl]
  exact (by show mayO c = some c; unfold mayO; rw [if_pos hm])
end Go.Proofs.Ytbliipjiilmbcaa
/-
  Words for the walks of ChunkBack and ChunkParams.
-/
namespace Go.Proofs.Ytbliipjiilmbcaa
open Go.RowKit Wire Tlv Chunk

/-- The blocks of the chunk and of the thing that were handed in. -/
def CB (w : World) (cs xv : Array Value) (W : World) : Prop := Bk W w.heap.size cs 32 ∧ Bk W (w.heap.size + 1) xv 25 ∧ Below w.heap.size w W
theorem CB.new (w : World) (cs xv : Array Value) : CB w cs xv ((w.alloc (.cells cs 32)).alloc (.cells xv 25)) := by
  refine ⟨(Bk.new w cs _).alloc _, ?_, ((Below.refl _ _).alloc (Nat.le_refl _) _).alloc (by simp) _⟩
  have := Bk.new (w.alloc (.cells cs 32)) xv 25
  rw [World.size_alloc] at this
  exact this
theorem CB.next {w W W' : World} {cs xv : Array Value} (h : CB w cs xv W) (hb : Below W.heap.size W W') : CB w cs xv W' := ⟨h.1.next hb, h.2.1.next hb, bnext' h.2.2 hb⟩
theorem tlist_tb {y : Tv} (hy : y.ok) (hf : fit true y) (hl : y.v.length ≤ 65531) : tlist true (tb true y) = ([y], 0) := by
  have h := tl_cat (ch := true) (xs := [y]) [] (fun x hx => by
    simp at hx
    subst hx
    exact ⟨hy, hf, hl⟩)
  simp only [cat, List.flatMap_cons, List.flatMap_nil, List.append_nil, tl_nil] at h
  unfold tlist
  rw [h]
  rfl
theorem one_of {qs : List Q} {y : Tv} (h : qs.map (·.1) = [y]) : ∃ u, qs = [(y, u)] := by
  match qs, h with
  | [(z, u)], h =>
    simp at h
    exact ⟨u, by rw [h]⟩
theorem ckSame_lit (c : Ck) (s s' : Ls) (w : World) (h : Ch w c s) (h' : Ch w c s') : Calls Try.prog 14 #[.agg #[.int .u8 (c.kd : Int), .int .u8 (c.fl : Int), .int .u32 (c.tag : Int), .int .u32 (c.rw : Int), .int .u32 (c.tsn : Int), .int .u16 (c.out : Int), .int .u16 (c.inn : Int), .int .u16 (c.sid : Int), .int .u16 (c.ssn : Int), .int .u32 (c.ppid : Int), .slice s.dA s.dn s.dc, .slice s.aA s.an s.ac, .slice s.gA s.gn s.gc, .slice s.uA s.un s.uc, .slice s.cA s.cn s.cc], .agg #[.int .u8 (c.kd : Int), .int .u8 (c.fl : Int), .int .u32 (c.tag : Int), .int .u32 (c.rw : Int), .int .u32 (c.tsn : Int), .int .u16 (c.out : Int), .int .u16 (c.inn : Int), .int .u16 (c.sid : Int), .int .u16 (c.ssn : Int), .int .u32 (c.ppid : Int), .slice s'.dA s'.dn s'.dc, .slice s'.aA s'.an s'.ac, .slice s'.gA s'.gn s'.gc, .slice s'.uA s'.un s'.uc, .slice s'.cA s'.cn s'.cc]] w fun e w' => e = .returned (.bool true) ∧ Below w.heap.size w w' := ckSame_any c s s' w h h'
theorem ckSame_zl (c : Ck) (s : Ls) (w : World) (h : Ch w c s) (hc : c = zero) : Calls Try.prog 14 #[.agg #[.int .u8 (c.kd : Int), .int .u8 (c.fl : Int), .int .u32 (c.tag : Int), .int .u32 (c.rw : Int), .int .u32 (c.tsn : Int), .int .u16 (c.out : Int), .int .u16 (c.inn : Int), .int .u16 (c.sid : Int), .int .u16 (c.ssn : Int), .int .u32 (c.ppid : Int), .slice s.dA s.dn s.dc, .slice s.aA s.an s.ac, .slice s.gA s.gn s.gc, .slice s.uA s.un s.uc, .slice s.cA s.cn s.cc], .agg zlit] w fun e w' => e = .returned (.bool true) ∧ Below w.heap.size w w' := by
  subst hc
  exact ckSame_any zero s nol w h (ch_none (W := w) 0 zero_ok rfl rfl rfl rfl rfl).ch
theorem ckMay_cv (c : Ck) (s : Ls) (w : World) (h : Ch w c s) : Calls Try.prog 18 #[.agg (cv c s)] w fun e w' => e = .returned (.bool (mayB c)) ∧ Below w.heap.size w w' := ckMay_lit c s w h
theorem add_zero' (a : Addr) : a.add (0 * 3) = a := by
  unfold Addr.add
  split <;> simp_all
/-- What is asked of what was taken. -/
theorem taken_says {x : Tv} {d : Ck} (hx : x.ok) (hl : x.v.length ≤ 5000) (h : take x = some d) : may d ∧ cput d = (tb true ⟨d.kd, d.fl, val d⟩, 0) ∧ (d.kd ≠ 1 → d.kd ≠ 2 → tp true x = (tb true ⟨d.kd, d.fl, val d⟩, 0)) := by
  have h255 : x.k ≤ 255 := by
    refine Nat.le_of_not_lt fun hh => ?_
    unfold take at h
    rw [if_pos hh] at h
    cases h
  have hm : may d := by
    rw [take_mayO h255] at h
    obtain ⟨c, _, hm⟩ := Option.bind_eq_some_iff.1 h
    by_cases hmay : may c
    · rw [mayO, if_pos hmay] at hm; rw [← Option.some.inj hm]; exact hmay
    · rw [mayO, if_neg hmay] at hm; cases hm
  by_cases hk : x.k = 1 ∨ x.k = 2
  · have h1 := val_side hx h hk
    refine ⟨hm, cput_ok hm (by omega), fun h2 h3 => ?_⟩
    rw [h1.2] at h2 h3
    omega
  · obtain ⟨h1, h2, h3⟩ := val_taken hx h hk
    refine ⟨hm, cput_ok hm (by rw [h1]; omega), fun _ _ => ?_⟩
    rw [h1, h2, h3, tp_true (by omega), if_neg (by omega)]
end Go.Proofs.Ytbliipjiilmbcaa
/-
  What the document's May, pkt.Size, ends and Ends do.
-/
namespace Go.Proofs.Ytbliipjiilmbcaa
open Go.RowKit Wire Tlv Chunk Pkt

theorem bor3 (k : Nat) : ((k : Int) == 1) = (k == 1) ∧ ((k : Int) == 2) = (k == 2) ∧ ((k : Int) == 14) = (k == 14) := by
  refine ⟨?_, ?_, ?_⟩
  all_goals (rw [Bool.eq_iff_iff]; first | (simp; done) | (simp; omega))
set_option maxRecDepth 100000 in
set_option maxHeartbeats 2000000 in
theorem rpMay_any (f t g : Nat) (ks : List Cq) (A : Option Addr) (n c : Nat) (w : World) (h : Rk w A ks) (hl : ks.length = n) (hn : n ≤ 1000000000) :
    Calls Try.prog 25 #[.agg #[.int .u16 (f : Int), .int .u16 (t : Int), .int .u32 (g : Int), .slice A n c]] w fun e w' => e = .returned (.bool (mayP g (ks.map (·.1)))) ∧ Below w.heap.size w w' := by
  have HB : Hid (Bk (w.alloc (.cells #[.int .u16 (f : Int), .int .u16 (t : Int), .int .u32 (g : Int), .slice A n c] 52)) w.heap.size #[.int .u16 (f : Int), .int .u16 (t : Int), .int .u32 (g : Int), .slice A n c] 52 ∧ Below w.heap.size w (w.alloc (.cells #[.int .u16 (f : Int), .int .u16 (t : Int), .int .u32 (g : Int), .slice A n c] 52))) := Lib.hid ⟨Bk.new _ _ _, (Below.refl _ _).alloc (Nat.le_refl _) _⟩
  have hm := may_eq g (ks.map (·.1))
  rw [List.length_map, hl] at hm
  obtain ⟨R, hR⟩ : ∃ R, mayP g (ks.map (·.1)) = R := ⟨_, rfl⟩
  rw [hR] at hm ⊢
  have hg0 : ((g : Int) == 0) = (g == 0) := by rw [Bool.eq_iff_iff]; first | (simp; done) | (simp; omega)
  have hn1 : decide ((1 : Int) < (n : Int)) = decide (1 < n) := by rw [Bool.eq_iff_iff]; simp; omega
  have HQ0 : Hid (mayQ g n (ks.map (·.1)) = mayQ g n ((ks.drop 0).map (·.1))) := Lib.hid rfl
  obtain ⟨q0, hq0⟩ : ∃ q, mayQ g n (ks.map (·.1)) = q := ⟨_, rfl⟩
  rw [hq0] at hm HQ0
  have HM := Lib.hid hm
  have HH := Lib.hid h
  have HL := Lib.hid hl
  have HQC : Hid (∀ (c : Ck) (l : List Ck), mayQ g n (c :: l) = ((!(alone c.kd && decide (1 < n)) && (untag c.kd == (g == 0))) && mayQ g n l)) := Lib.hid (mayQ_cons g n)
  have HQN : Hid (mayQ g n [] = true) := Lib.hid rfl
  generalize mayQ g n = mq at HQ0 HQC HQN
  generalize (g == 0) = bg at hg0 HQC
  generalize decide (1 < n) = b1 at hn1 HQC
  clear hm hR hq0 h hl
  go_enter Try.func25, Try.ntmps25
  go_upto_region 1 with fail
  generalize World.alloc w _ = W1 at HB ⊢
  obtain ⟨k2, k3⟩ := mem_cell HB.out.1
  go_wp2_with fail
  go_loopw [3, 4] (fun i _ wr => wr = W1 ∧ ∃ k : Nat, k ≤ n ∧ i = .int .i64 (k : Int) ∧ Hid (q0 = mq ((ks.drop k).map (·.1)))) (fun i _ _ => n - (intOf i).toNat)
  case atStart => exact ⟨rfl, 0, by omega, rfl, HQ0⟩
  case round =>
    clear HQ0
    obtain ⟨rfl, k, hk, rfl, HE⟩ := hrel
    by_cases hlt : k < n
    · have hkl : k < ks.length := by rw [HL.out]; exact hlt
      obtain ⟨a, rfl, hc, _⟩ := (HH.out.next HB.out.2).at hkl
      have he : q0 = ((!(alone ks[k].1.kd && b1) && (untag ks[k].1.kd == bg)) && mq ((ks.drop (k + 1)).map (·.1))) := by
        rw [HE.out, List.drop_eq_getElem_cons hkl, List.map_cons, HQC.out]
      have hc0 := hc 0 _ rfl
      have HE2 := Lib.hid he
      generalize ks[k].1.kd = kd at HE2 hc0
      have hc1 : wr.cell? (a.add (k * 15)) = some (.int .u8 (kd : Int)) := by rw [← hc0]; congr 1
      clear hc he HE hc0
      obtain ⟨h1, h2, h14⟩ := bor3 kd
      have hal : alone kd = ((kd == 1) || (kd == 2) || (kd == 14)) := rfl
      have hun : untag kd = (kd == 1) := rfl
      rw [hal, hun] at HE2
      clear hal hun
      generalize (kd == 1) = c1 at h1 HE2
      generalize (kd == 2) = c2 at h2 HE2
      generalize (kd == 14) = c14 at h14 HE2
      have hcase : ∃ bad : Bool, ((c1 || c2 || c14) && b1) = bad ∧ (bad = true → q0 = false) := ⟨_, rfl, fun hb => by rw [HE2.out, hb]; simp⟩
      obtain ⟨bad, hbad, hq⟩ := hcase
      rw [hbad] at HE2
      have HQ := Lib.hid hq
      clear hq
      cases bad with
      | true =>
        have HF := Lib.hid (HQ.out rfl)
        cases c1 <;> cases c2 <;> cases c14 <;> cases b1 <;> first | (cases hbad; done) | skip
        all_goals
          clear hbad
          go_wp2_with fail
          go_ret
          exact ⟨by rw [HM.out, HF.out]; rfl, HB.out.2⟩
      | false =>
        cases hx : (c1 == bg) with
        | false =>
          have HF : Hid (q0 = false) := Lib.hid (by rw [HE2.out, hx]; simp)
          cases c1 <;> cases bg <;> first | (cases hx; done) | skip
          all_goals
            clear hx
            cases c2 <;> cases c14 <;> cases b1 <;> first | (cases hbad; done) | skip
          all_goals
            clear hbad
            go_wp2_with fail
            go_ret
            exact ⟨by rw [HM.out, HF.out]; rfl, HB.out.2⟩
        | true =>
          have HE3 : Hid (q0 = mq ((ks.drop (k + 1)).map (·.1))) := Lib.hid (by rw [HE2.out, hx]; simp)
          cases c1 <;> cases bg <;> first | (cases hx; done) | skip
          all_goals
            clear hx
            cases c2 <;> cases c14 <;> cases b1 <;> first | (cases hbad; done) | skip
          all_goals
            clear hbad
            go_wp2_with fail
            go_roundw
            case rel => exact ⟨trivial, k + 1, by omega, by go_num, HE3⟩
            case measure => simp [intOf]; omega
    · have hkn : k = n := by omega
      have HT : Hid (q0 = true) := Lib.hid (by rw [HE.out, List.drop_of_length_le (by rw [HL.out]; omega)]; exact HQN.out)
      have HT2 : Hid (R = decide (0 < n)) := Lib.hid (by rw [HM.out, HT.out]; simp)
      go_wp2_with fail
      go_ret
      exact ⟨by rw [HT2.out]; rfl, HB.out.2⟩
set_option maxRecDepth 100000 in
set_option maxHeartbeats 1000000 in
theorem pSize_any (c : Ck) (s : Ls) (w : World) (h : Ch w c s) :
    Calls Try.prog 30 #[.agg (cv c s)] w fun e w' => e = .returned (.int .i64 ((cput c).1.length : Nat)) ∧ Below w.heap.size w w' := by
  have HU : Hid (U1 w (cv c s) _) := Lib.hid (U1.new w (cv c s))
  have HC : Hid (Ch _ c s) := Lib.hid (h.alloc (.cells (cv c s) 32))
  have HCI := Lib.hid (cv_info c s)
  have CP := Lib.hid fun W (hW : Ch W c s) => ckPut_any c s W hW
  generalize cput c = p at CP
  obtain ⟨L, err⟩ := p
  clear h
  go_enter Try.func30, Try.ntmps30
  go_upto_region 1 with fail
  generalize World.alloc w _ = W1 at HU HC ⊢
  go_wp2_with (refine wpList_load_row rfl 32 (.tmp 1) rfl w.heap.size rfl 32 (cv c s) (0, 0) _ HU.out.1 Try.underlying32 rfl HCI.out ?_)
  (with_reducible refine (CP.out _ HC.out).mono ?_)
  rintro e W3 ⟨A3, n3, c3, rfl, ho3⟩
  have HU3 := Lib.hid (HU.out.next ho3.2)
  have HL := Lib.hid ho3.len
  clear ho3
  go_wp2_with fail
  go_ret
  exact ⟨by rw [HL.out]; rfl, HU3.out.2⟩
end Go.Proofs.Ytbliipjiilmbcaa
/-
  Chunks in a row of the call's own; ends, Ends.
-/
namespace Go.Proofs.Ytbliipjiilmbcaa
open Go.RowKit Wire Tlv Chunk Pkt

def TyT (t : TypeId) : Prop := t = 5 ∨ t = 27 ∨ t = 63 ∨ t = 73
theorem Keeps.setTy {lo b i : Nat} {W : World} {v : Value} {cs : Array Value} {t : TypeId} (h : Bk W b cs t) (ht : ¬ TyT t) : Keeps lo W (W.setCell ⟨b, i, none⟩ v) := fun k o _ ho hy => by
  by_cases hk : k = b
  · subst hk
    rw [show W.heap[k]? = _ from h] at ho
    injection ho with ho
    subst ho
    obtain ⟨_, _, _, h1, h2⟩ := hy
    injection h1 with _ h1
    subst h1
    exact absurd h2 ht
  · exact (Below.heap_setCell _ _ _ k (by show k ≠ b; exact hk)).trans ho
theorem Keeps.rowTy {lo b : Nat} {W : World} {cs cs' : Array Value} {t : TypeId} (h : Bk W b cs t) (ht : ¬ TyT t) : Keeps lo W (W.setRow b cs') := fun k o _ ho hy => by
  by_cases hk : k = b
  · subst hk
    rw [show W.heap[k]? = _ from h] at ho
    injection ho with ho
    subst ho
    obtain ⟨_, _, _, h1, h2⟩ := hy
    injection h1 with _ h1
    subst h1
    exact absurd h2 ht
  · exact (setRow_other _ _ _ _ hk).trans ho
theorem Keeps.grown {lo base s n : Nat} {W W' : World} {e : TypeId} {v : Value} {xs : List Value} (ho : W.ownsRow base e s v n xs) (ht : ¬ TyT e) (hg : W.grownBy W' v.ownBlock) : Keeps lo W W' := fun k o _ hh hy => by
  refine (hg.block k (Array.getElem?_eq_some_iff.1 hh).1 (fun e1 => ?_)).trans hh
  rcases ho.2 with ⟨rfl, _⟩ | ⟨g, cap, cur, rfl, _, hc, _⟩
  · cases e1
  · simp only [Value.ownBlock, Option.some.injEq] at e1
    subst e1
    rw [hc] at hh
    injection hh with hh
    subst hh
    obtain ⟨_, _, _, h1, h2⟩ := hy
    injection h1 with _ h1
    subst h1
    exact ht h2
theorem nty_chunk : ¬ TyT 32 := by simp [TyT]
theorem nty_packet : ¬ TyT 52 := by simp [TyT]
theorem Try_infoChunk : (Try.prog.info? 32).map (fun i => (i.zero, i.size, i.bytes)) = some (some (.agg zlit), 15, 152) := by kernel_rfl
/-- Chunks in a row of the call's own, their rows of its own too. -/
def Ko (B : Nat) (A : Option Addr) (n c : Nat) (ks : List Cq) (W : World) : Prop := W.ownsRow B 32 15 (.slice A n c) n (kcs ks) ∧ ∀ k ∈ ks, ChF B W k.1 k.2
theorem Ko.nil (B : Nat) (W : World) : Ko B none 0 0 [] W := ⟨World.ownsRow_nil _ _ _ _, fun k h => by simp at h⟩
theorem Ko.len {B : Nat} {A : Option Addr} {n c : Nat} {ks : List Cq} {W : World} (h : Ko B A n c ks W) : ks.length = n := by
  have := h.1.1
  rw [kcs_len] at this
  omega
theorem Ko.next {B : Nat} {A : Option Addr} {n c : Nat} {ks : List Cq} {W W' : World} (h : Ko B A n c ks W) (hb : Below W.heap.size W W') : Ko B A n c ks W' := ⟨own_below h.1 hb, fun k hk => (h.2 k hk).next hb⟩
theorem Ko.rk {B : Nat} {A : Option Addr} {n c : Nat} {ks : List Cq} {W : World} (h : Ko B A n c ks W) : Rk W A ks := ⟨row_of_owns h.1, fun k hk => (h.2 k hk).ch⟩
theorem Ko.snoc {B : Nat} {A A' : Option Addr} {n c c' : Nat} {ks : List Cq} {q : Cq} {W W' : World} (h : Ko B A n c ks W) (hq : ChF B W q.1 q.2) (ho : W'.ownsRow B 32 15 (.slice A' (n + 1) c') (n + 1) (kcs ks ++ (cv q.1 q.2).toList)) (hg : W.grownBy W' (Value.slice A n c).ownBlock) : Ko B A' (n + 1) c' (ks ++ [q]) W' := by
  have hk := Keeps.grown (lo := B) h.1 nty_chunk hg
  refine ⟨by rw [kcs_snoc]; exact ho, fun k hkm => ?_⟩
  rcases List.mem_append.1 hkm with hkm | hkm
  · exact (h.2 k hkm).keep hk
  · simp at hkm
    subst hkm
    exact hq.keep hk
theorem Ko.set {B b i : Nat} {A : Option Addr} {n c : Nat} {ks : List Cq} {W : World} {v : Value} {cs : Array Value} {t : TypeId} (h : Ko B A n c ks W) (hb : Bk W b cs t) (ht : ¬ TyT t) (hne : t ≠ 32) : Ko B A n c ks (W.setCell ⟨b, i, none⟩ v) :=
  ⟨owns_set h.1 hb hne i, fun k hk => (h.2 k hk).keep (Keeps.setTy hb ht)⟩
theorem cv_cell (c : Ck) (s : Ls) : ∀ u ∈ (cv c s).toList, u.oneCell' = true := fun u hu => by
  have := Array.all_eq_true_iff_forall_mem.1 (cv_one c s) u (by simpa using hu)
  exact this
set_option maxHeartbeats 400000 in
theorem ends_any (k : Nat) (w : World) (hk : k < 256) : Calls Try.prog 83 #[.int .u8 (k : Int)] w fun e w' => e = .returned (.bool (ends k)) ∧ w = w' := by
  have H1 := Lib.hid fun w => ckKnown_any k w
  have H2 := Lib.hid fun w => ckSkips_any k w hk
  have he : ends k = (!kn k && !(!kn k && decide (128 ≤ k))) := by
    unfold ends
    cases kn k
    · by_cases h : k < 128
      · simp [h]
      · simp [h]; omega
    · rfl
  rw [he]
  generalize (!kn k && decide (128 ≤ k)) = b2 at H2 ⊢
  generalize kn k = b1 at H1 ⊢
  go_enter Try.func83, Try.ntmps83
  cases b1
  all_goals
    go_wp2_with (first
      | (go_at_call 31; (with_reducible refine (H1.out _).mono ?_); rintro e w' ⟨rfl, rfl⟩)
      | (go_at_call 32; (with_reducible refine (H2.out _).mono ?_); rintro e w' ⟨rfl, rfl⟩))
    go_ret
    exact ⟨rfl, rfl⟩
set_option maxHeartbeats 400000 in
theorem rEnds_any (k : Nat) (w : World) : Calls Try.prog 58 #[.int .u8 (k : Int)] w fun e w' => e = .returned (.bool (ends k)) ∧ w = w' := by
  have H1 := Lib.hid fun w => rfKnown_any k w
  have hd : decide ((k : Int) < 128) = decide (k < 128) := by rw [Bool.eq_iff_iff]; simp; omega
  unfold ends
  generalize decide (k < 128) = b2 at hd ⊢
  generalize kn k = b1 at H1 ⊢
  go_enter Try.func58, Try.ntmps58
  cases b1
  all_goals
    go_wp2_with (go_at_call 84; (with_reducible refine (H1.out _).mono ?_); rintro e w' ⟨rfl, rfl⟩)
    go_ret
    exact ⟨rfl, rfl⟩
end Go.Proofs.Ytbliipjiilmbcaa
/-
  Chunks told one by one; a slice of one chunk.
-/
namespace Go.Proofs.Ytbliipjiilmbcaa
open Go.RowKit Wire Tlv Chunk Pkt

/-- Chunks ahead of those that are told, or the first error. -/
def jn (pre : List Ck) (r : List Ck × Int) : List Ck × Int := if r.2 ≠ 0 then ([], r.2) else (pre ++ r.1, 0)
theorem jn_nil (r : List Ck × Int) (h : r.2 ≠ 0 → r.1 = []) : jn [] r = r := by
  unfold jn
  split
  · rename_i h2; obtain ⟨a, b⟩ := r; simp at h h2 ⊢; exact h h2
  · rename_i h2; obtain ⟨a, b⟩ := r; simp at h2 ⊢; exact h2.symm
theorem pc_err : ∀ (l : List (Tv × Int)), (pc l).2 ≠ 0 → (pc l).1 = []
  | [], h => by simp [pc] at h
  | (x, e) :: l, h => by
    rw [pc] at h ⊢
    split
    · rfl
    split
    · rfl
    split
    · rfl
    · split
      · rfl
      · rename_i h1 h2 _ _ h3 h4
        rw [if_neg h1, if_neg h2, h3] at h
        simp only at h
        rw [if_neg h4] at h
        exact absurd rfl h
theorem pc_cons (x : Tv) (l : List (Tv × Int)) : pc ((x, 0) :: l) = if ends x.k = true then ([], 0) else match take x with
    | none => ([], 50)
    | some c => jn [c] (pc l) := by
  rw [pc, if_neg (by simp)]
  rfl
theorem jn_jn (pre : List Ck) (c : Ck) (r : List Ck × Int) : jn pre (jn [c] r) = jn (pre ++ [c]) r := by
  unfold jn
  by_cases h : r.2 ≠ 0
  · simp [h]
  · simp [h]
theorem set15 (X : Array Value) (h : X.size = 15) (v0 v1 v2 v3 v4 v5 v6 v7 v8 v9 v10 v11 v12 v13 v14 : Value) : (((((((((((((((X.setIfInBounds 0 v0).setIfInBounds 1 v1).setIfInBounds 2 v2).setIfInBounds 3 v3).setIfInBounds 4 v4).setIfInBounds 5 v5).setIfInBounds 6 v6).setIfInBounds 7 v7).setIfInBounds 8 v8).setIfInBounds 9 v9).setIfInBounds 10 v10).setIfInBounds 11 v11).setIfInBounds 12 v12).setIfInBounds 13 v13).setIfInBounds 14 v14) = #[v0, v1, v2, v3, v4, v5, v6, v7, v8, v9, v10, v11, v12, v13, v14] := by
  obtain ⟨l⟩ := X
  simp only [List.size_toArray] at h
  match l, h with
  | [_, _, _, _, _, _, _, _, _, _, _, _, _, _, _], _ => simp
theorem fill_chunk (c : Ck) (s : Ls) (ie : TypeInfo) (z : Value) (hs : ie.size = 15) : Instr.fill (fun i => some (i * ie.size, ie.size)) ((Array.range (1 * ie.size)).map (fun i => z.cells[i % z.cells.size]!)) [(0, Value.agg (cv c s))] = some (cv c s) := by
  rw [hs]
  simp [Instr.fill, cv, Value.cells]
  exact set15 _ (by simp) _ _ _ _ _ _ _ _ _ _ _ _ _ _ _
end Go.Proofs.Ytbliipjiilmbcaa
/-
  What pkt.Put does.
-/
namespace Go.Proofs.Ytbliipjiilmbcaa
open Go.RowKit Wire Tlv Chunk Pkt

/-- What has been laid of chunks' bytes: all of them, or more than a packet may have. -/
def Laid (l : List Int) (all : List Int) : Prop := l = all ∨ (1500 < l.length ∧ l.length ≤ 70000 ∧ 1500 < all.length ∧ l.length % 4 = 0 ∧ all.length % 4 = 0)
theorem cput_mod {c : Ck} (h : (cput c).2 = 0) : (cput c).1.length % 4 = 0 ∧ (cput c).1.length ≤ 65536 := by
  by_cases hm : may c
  · by_cases hl : 65531 < (val c).length
    · rw [cput_long hm hl] at h; cases h
    · rw [cput_ok hm hl]
      simp only
      rw [tb_len]
      have := whl_le (4 + (val c).length)
      simp only
      exact ⟨this.2.2, by omega⟩
  · rw [cput_no hm] at h; cases h
theorem cput_byt {c : Ck} (hok : c.ok) : Byt (cput c).1 := by
  by_cases hm : may c
  · by_cases hl : 65531 < (val c).length
    · rw [cput_long hm hl]; intro x hx; simp at hx
    · rw [cput_ok hm hl]
      exact tb_byt ⟨by have := hok.kd; show c.kd < 65536; omega, hok.fl, val_byt hok⟩ (by have := hok.kd; show c.kd ≤ 255; omega)
  · rw [cput_no hm]; intro x hx; simp at hx
theorem pb_cons (c : Ck) (l : List Ck) : pb (c :: l) = if (cput c).2 ≠ 0 then ([], (cput c).2) else if (pb l).2 ≠ 0 then ([], (pb l).2) else ((cput c).1 ++ (pb l).1, 0) := by rw [pb]
theorem pb_mod : ∀ (l : List Ck), (pb l).1.length % 4 = 0
  | [] => by simp [pb]
  | c :: l => by
    rw [pb_cons]
    split
    · rfl
    split
    · rfl
    · rename_i h1 _
      have h2 := (cput_mod (c := c) (by simpa using h1)).1
      have h3 := pb_mod l
      simp only [List.length_append]
      omega
/-- The packet's bytes told from what has been laid. -/
theorem pt_laid {f t g : Nat} {l all : List Int} (h : Laid l all) (hm : all.length % 4 = 0) : Head.pt f t g l = Head.pt f t g all := by
  rcases h with rfl | ⟨h1, h2, h3, h4, h5⟩
  · rfl
  · unfold Head.pt
    rw [if_neg (by omega), if_pos (by omega), if_neg (by omega), if_pos (by omega)]
/-- What is kept while chunks are put one behind the other: what was laid, and what is still to come. -/
theorem laid_more {l d m : List Int} (h : Laid l d) (hm : m.length % 4 = 0) (h0 : l.length ≤ 1500) : Laid (l ++ m) (d ++ m) := by
  rcases h with rfl | h
  · exact .inl rfl
  · omega
theorem laid_less {l d m : List Int} (h : Laid l d) (hm : m.length % 4 = 0) (h0 : ¬ l.length ≤ 1500) (hb : l.length ≤ 70000) (hl : l.length % 4 = 0) : Laid l (d ++ m) := by
  rcases h with rfl | ⟨h1, h2, h3, h4, h5⟩
  · exact .inr ⟨by omega, hb, by simp; omega, hl, by simp; omega⟩
  · exact .inr ⟨h1, h2, by simp; omega, h4, by simp; omega⟩
abbrev pkl (f t g : Nat) (A : Option Addr) (n c : Nat) : Array Value := #[.int .u16 (f : Int), .int .u16 (t : Int), .int .u32 (g : Int), .slice A n c]
/-- What is kept of pkt.Put's loop. -/
structure Pl (w : World) (f t g : Nat) (A : Option Addr) (n c : Nat) (d l : List Int) (B : Option Addr) (m e : Nat) (W : World) : Prop where
  bk : Bk W w.heap.size (pkl f t g A n c) 52
  own : W.ownsRow (w.heap.size + 1) 5 1 (.slice B m e) m (bs l)
  bl : Below w.heap.size w W
  laid : Laid l d
  dm : d.length % 4 = 0
  lm : l.length % 4 = 0
  byt : Byt l
  le : l.length ≤ 70000
theorem Pl.next {w W W' : World} {f t g : Nat} {A : Option Addr} {n c : Nat} {d l : List Int} {B : Option Addr} {m e : Nat} (h : Pl w f t g A n c d l B m e W) (hb : Below W.heap.size W W') : Pl w f t g A n c d l B m e W' :=
  { h with bk := h.bk.next hb, own := own_below h.own hb, bl := bnext' h.bl hb }
theorem Pl.len {w W : World} {f t g : Nat} {A : Option Addr} {n c : Nat} {d l : List Int} {B : Option Addr} {m e : Nat} (h : Pl w f t g A n c d l B m e W) : l.length = m := by have := h.own.1; simpa [bs] using this
set_option maxRecDepth 100000 in
set_option maxHeartbeats 4000000 in
theorem pktPut_any (f t g : Nat) (ks : List Cq) (A : Option Addr) (n c : Nat) (w : World) (hf : f < 65536) (ht : t < 65536) (hg : g < 4294967296) (h : Rk w A ks) (hl : ks.length = n) (hn : n ≤ 1000000000) :
    Calls Try.prog 22 #[.agg (pkl f t g A n c)] w (HPutOut w (pput f t g (ks.map (·.1)))) := by
  have HP0 : Hid (Pl w f t g A n c [] [] none 0 0 (w.alloc (.cells (pkl f t g A n c) 52))) := Lib.hid { bk := Bk.new _ _ _, own := World.ownsRow_nil _ _ _ _, bl := (Below.refl _ _).alloc (Nat.le_refl _) _, laid := .inl rfl, dm := rfl, lm := rfl, byt := (fun x hx => by simp at hx), le := by simp }
  have CM := Lib.hid fun W (hW : Below w.heap.size w W) => pktMay_any f t g ks A n c W (h.next hW) hl hn
  have HH := Lib.hid h
  have HL := Lib.hid hl
  have CH := Lib.hid fun B m e l W (hl2 : l.length = m) (hm : m ≤ 100000) (hb : Byt l) (hr : Row W B (bs l)) (hz : B = none → m = 0 ∧ e = 0) => hput_any f t g B m e l W hf ht hg hl2 hm hb hr hz
  have HCI : Hid (∀ c : Ck, ∀ s : Ls, (Try.prog.info? 32).map (·.size) = some (cv c s).size) := Lib.hid cv_info
  obtain ⟨p, hp⟩ : ∃ p, pput f t g (ks.map (·.1)) = p := ⟨_, rfl⟩
  rw [hp]
  have HPP := Lib.hid hp
  clear h hl hp
  go_enter Try.func22, Try.ntmps22
  go_upto_region 1 with fail
  generalize World.alloc w _ = W1 at HP0 ⊢
  go_wp2_with (refine wpList_load_row rfl 52 (.tmp 1) rfl w.heap.size rfl 52 (pkl f t g A n c) (0, 0) _ HP0.out.bk Try.underlying52 rfl (by kernel_rfl) ?_)
  have hbw := HP0.out.bl
  (with_reducible refine (CM.out _ hbw).mono ?_)
  clear hbw
  rintro e W2 ⟨rfl, hb2⟩
  have HP2 := Lib.hid (HP0.out.next hb2)
  clear hb2 HP0 CM
  cases hmay : mayP g (ks.map (·.1)) with
  | false =>
    have hpe : p = ([], 60) := by rw [← HPP.out]; unfold pput; rw [if_neg (by rw [hmay]; simp)]
    subst hpe
    clear hmay
    go_wp2_with fail
    go_ret2
    exact ⟨none, 0, 0, rfl, World.ownsRow_nil _ _ _ _, HP2.out.bl⟩
  | true =>
    have hpe : p = (if (pb (ks.map (·.1))).2 ≠ 0 then ([], (pb (ks.map (·.1))).2) else Head.pt f t g (pb (ks.map (·.1))).1) := by rw [← HPP.out]; unfold pput; rw [if_pos hmay]
    have HR0 : Hid (∀ d : List Int, d = [] → p = (if (pb ((ks.drop 0).map (·.1))).2 ≠ 0 then ([], (pb ((ks.drop 0).map (·.1))).2) else Head.pt f t g (d ++ (pb ((ks.drop 0).map (·.1))).1))) := Lib.hid fun d hd => by subst hd; exact hpe
    clear hpe hmay HPP
    obtain ⟨_, k3⟩ := mem_cell HP2.out.bk
    go_wp2_with fail
    clear k3
    go_loopw [4, 6, 7, 8, 15] (fun y _ _ _ i wr => ∃ (k : Nat) (d l : List Int) (B : Option Addr) (m e : Nat), k ≤ n ∧ i = .int .i64 (k : Int) ∧ y = .slice B m e ∧ m ≤ 70000 ∧ Hid (p = (if (pb ((ks.drop k).map (·.1))).2 ≠ 0 then ([], (pb ((ks.drop k).map (·.1))).2) else Head.pt f t g (d ++ (pb ((ks.drop k).map (·.1))).1))) ∧ Hid (Pl w f t g A n c d l B m e wr)) (fun _ _ _ _ i _ => n - (intOf i).toNat)
    case atStart => exact ⟨0, [], [], none, 0, 0, by omega, rfl, rfl, by omega, Lib.hid (HR0.out [] rfl), HP2⟩
    case round =>
      clear HR0 HP2
      obtain ⟨k, d, l, B, m, e, hk, rfl, rfl, hm7, HR, HP⟩ := hrel
      by_cases hlt : k < n
      · have hkl : k < ks.length := by rw [HL.out]; exact hlt
        obtain ⟨a, rfl, hc, hch⟩ := (HH.out.next HP.out.bl).at hkl
        have hr2 : p = (if (pb (ks[k].1 :: (ks.drop (k + 1)).map (·.1))).2 ≠ 0 then ([], (pb (ks[k].1 :: (ks.drop (k + 1)).map (·.1))).2) else Head.pt f t g (d ++ (pb (ks[k].1 :: (ks.drop (k + 1)).map (·.1))).1)) := by
          have := HR.out
          rwa [List.drop_eq_getElem_cons hkl, List.map_cons] at this
        have HC := Lib.hid hc
        have HCH := Lib.hid hch
        generalize ks[k] = q at HC HCH hr2
        obtain ⟨qc, qs⟩ := q
        have hst := store_new qc qs wr
        clear hc hch HR
        go_upto_region 7 with (refine wpList_load_at rfl 32 (.tmp 17) rfl (a.add (k * 15)) rfl (cv qc qs) _ HC.out Try.underlying32 rfl (HCI.out _ _) ?_)
        clear hst
        have hal : Below wr.heap.size wr (wr.alloc (.cells (cv qc qs) 32)) := (Below.refl _ _).alloc (Nat.le_refl _) _
        have HP3 := Lib.hid (HP.out.next hal)
        have HCH3 := Lib.hid (HCH.out.next hal)
        have HQ : Hid (Bk (wr.alloc (.cells (cv qc qs) 32)) wr.heap.size (cv qc qs) 32) := Lib.hid (Bk.new _ _ _)
        clear hal HP HCH HC
        generalize hW3 : wr.alloc (.cells (cv qc qs) 32) = W3 at HP3 HCH3 HQ ⊢
        clear hW3
        generalize wr.heap.size = gq at HQ ⊢
        have CP := Lib.hid (ckPut_any qc qs W3 HCH3.out)
        have hcm := cput_mod (c := qc)
        have hcb := cput_byt (c := qc) HCH3.out.ok
        rw [pb_cons] at hr2
        generalize hPR : pb ((ks.drop (k + 1)).map (·.1)) = PR at hr2
        obtain ⟨⟨Lc, ec⟩, hpc⟩ : ∃ x, cput qc = x := ⟨_, rfl⟩
        rw [hpc] at CP hcm hcb hr2
        simp only at hcm hcb hr2
        go_wp2_with (refine wpList_load_row rfl 32 (.tmp 6) rfl gq rfl 32 (cv qc qs) (0, 0) _ HQ.out Try.underlying32 rfl (HCI.out _ _) ?_)
        (with_reducible refine CP.out.mono ?_)
        rintro e4 W4 ⟨A4, n4, c4, rfl, ho4⟩
        have HP4 := Lib.hid (HP3.out.next ho4.2)
        have HO4 := Lib.hid ho4
        clear ho4 HP3 HQ HCH3 CP hpc
        by_cases he : ec = 0
        case neg =>
          have d1 : (ec != 0) = true := by simpa using he
          have HT : Hid (p = ([], ec)) := Lib.hid (by rw [hr2, if_pos he]; simp only; rw [if_pos he])
          clear hr2 hcm hcb he hPR
          go_wp2_with fail
          go_ret2
          exact ⟨none, 0, 0, by rw [HT.out]; rfl, by rw [HT.out]; exact World.ownsRow_nil _ _ _ _, HP4.out.bl⟩
        subst he
        have hcm := hcm rfl
        have HCM := Lib.hid hcm
        have HCB := Lib.hid hcb
        have hl4 : Lc.length = n4 := HO4.out.len
        have hr3 : p = (if PR.2 ≠ 0 then ([], PR.2) else Head.pt f t g ((d ++ Lc) ++ PR.1)) := by
          rw [hr2]
          by_cases h2 : PR.2 = 0 <;> simp [h2]
        rw [← hPR] at hr3
        have HR3 := Lib.hid hr3
        clear hr2 hr3 hcm hcb hPR PR
        have hlm : l.length = m := HP4.out.len
        by_cases hle : m ≤ 1500
        · have d2 : decide ((m : Int) ≤ 1500) = true := by simp; omega
          have HLE := Lib.hid hle
          go_upto_region 11 with fail
          go_upto_region 12 with (at_builtin; refine Hid.out ?_)
          refine Lib.hid ?_
          have hlt4 : w.heap.size + 1 ≤ W4.heap.size := HP4.out.bk.lt
          refine app_step rfl (.tmp 30) (.tmp 31) rfl (w.heap.size + 1) B m e l rfl HP4.out.own A4 n4 c4 Lc rfl hl4 HO4.out.row (owns_none HO4.out.1).1 (by have := HCM.out.2; omega) hlt4 ?_
          intro A5 n5 c5 w5 hn5 ho5 hb5
          have HN : Hid (Pl w f t g (some a) n c (d ++ Lc) (l ++ Lc) A5 n5 c5 w5) := Lib.hid
            { bk := HP4.out.bk.nextB hb5 (Nat.lt_succ_self _), own := ho5, bl := HP4.out.bl.trans (hb5.mono (Nat.le_succ _)), laid := laid_more HP4.out.laid HCM.out.1 (by rw [hlm]; exact HLE.out), dm := by have := HP4.out.dm; have := HCM.out.1; simp; omega, lm := by have := HP4.out.lm; have := HCM.out.1; simp; omega, byt := byt_app HP4.out.byt HCB.out, le := by have := HCM.out.2; have := HLE.out; simp; omega }
          have hn7 : n5 ≤ 70000 := by have := HCM.out.2; omega
          clear hn5 ho5 hb5 hlt4 d2 HP4 HO4 HLE hl4 hlm hle
          go_wp2_with fail
          go_roundw
          case rel => exact ⟨k + 1, d ++ Lc, l ++ Lc, A5, n5, c5, by omega, by go_num, rfl, hn7, HR3, HN⟩
          case measure => simp [intOf]; omega
        · have d2 : decide ((m : Int) ≤ 1500) = false := by simp; omega
          have HN : Hid (Pl w f t g (some a) n c (d ++ Lc) l B m e W4) := Lib.hid
            { HP4.out with laid := laid_less HP4.out.laid HCM.out.1 (by rw [hlm]; omega) HP4.out.le HP4.out.lm, dm := by have := HP4.out.dm; have := HCM.out.1; simp; omega }
          clear HP4 HO4 hl4 hlm
          go_wp2_with fail
          go_roundw
          case rel => exact ⟨k + 1, d ++ Lc, l, B, m, e, by omega, by go_num, rfl, hm7, HR3, HN⟩
          case measure => simp [intOf]; omega
      · have hT : p = Head.pt f t g l := by
          rw [HR.out, List.drop_of_length_le (by rw [HL.out]; omega)]
          simp only [List.map_nil, pb]
          rw [if_neg (by simp), List.append_nil]
          exact (pt_laid HP.out.laid HP.out.dm).symm
        have CHH := Lib.hid (CH.out B m e l wr HP.out.len (by omega) HP.out.byt (row_of_own HP.out.own) (owns_none HP.out.own).1)
        rw [← hT] at CHH
        obtain ⟨k0, k1⟩ := mem_head HP.out.bk
        obtain ⟨k2, k3⟩ := mem_cell HP.out.bk
        have HBL := Lib.hid HP.out.bl
        clear hT HR CH HP
        go_wp2_with fail
        (with_reducible refine CHH.out.mono ?_)
        rintro e9 W9 ⟨A9, n9, c9, rfl, ho9⟩
        have HO9 := Lib.hid (show Own w W9 A9 n9 c9 p.1 from ⟨own_base ho9.1 HBL.out.size, bnext' HBL.out ho9.2⟩)
        clear ho9
        go_wp2_with fail
        go_ret2
        exact ⟨A9, n9, c9, rfl, HO9.out⟩
end Go.Proofs.Ytbliipjiilmbcaa
/-
  What the document's Great of a packet does.
-/
namespace Go.Proofs.Ytbliipjiilmbcaa
open Go.RowKit Wire Tlv Chunk Pkt

/-- What Great leaves. -/
def GpOut (w : World) (n : Nat) (ks : List Cq) (e : Ending) (w' : World) : Prop := ∃ b : Bool, e = .returned (.bool b) ∧ (b = false → n ≤ 300 ∧ ∀ k ∈ ks, k.2.cn ≤ 5000) ∧ Below w.heap.size w w'
/-- The packet's block. -/
def Pq (w : World) (p : Array Value) (W : World) : Prop := Bk W w.heap.size p 52 ∧ Below w.heap.size w W
theorem Pq.new (w : World) (p : Array Value) : Pq w p (w.alloc (.cells p 52)) := ⟨Bk.new _ _ _, (Below.refl _ _).alloc (Nat.le_refl _) _⟩
theorem Pq.next {w W W' : World} {p : Array Value} (h : Pq w p W) (hb : Below W.heap.size W W') : Pq w p W' := ⟨h.1.next hb, bnext' h.2 hb⟩
set_option maxRecDepth 100000 in
set_option maxHeartbeats 4000000 in
theorem rpGreat_any (f t g : Nat) (ks : List Cq) (A : Option Addr) (n c : Nat) (w : World) (h : Rk w A ks) (hl : ks.length = n) (hn : n ≤ 1000000000000) :
    Calls Try.prog 21 #[.agg (pkl f t g A n c)] w (GpOut w n ks) := by
  have HB : Hid (Pq w (pkl f t g A n c) _) := Lib.hid (Pq.new w (pkl f t g A n c))
  have HH := Lib.hid h
  have HL := Lib.hid hl
  have HCI : Hid (∀ c : Ck, ∀ s : Ls, (Try.prog.info? 32).map (·.size) = some (cv c s).size) := Lib.hid cv_info
  clear h hl
  go_enter Try.func21, Try.ntmps21
  go_upto_region 1 with fail
  generalize World.alloc w _ = W1 at HB ⊢
  obtain ⟨_, k3⟩ := mem_cell HB.out.1
  by_cases h3 : 300 < n
  · have d3 : decide ((300 : Int) < (n : Int)) = true := by simp; omega
    go_wp2_with fail
    go_ret
    exact ⟨true, rfl, (fun h => by cases h), HB.out.2⟩
  have d3 : decide ((300 : Int) < (n : Int)) = false := by simp; omega
  have HN : Hid (n ≤ 300) := Lib.hid (by omega)
  clear h3
  go_wp2_with fail
  clear d3 k3
  go_loopw [3, 4] (fun z i wr => ∃ (k : Nat) (y : Int), k ≤ n ∧ i = .int .i64 (k : Int) ∧ z = .int .i64 y ∧ Hid (∀ j, j < k → ∀ q, ks[j]? = some q → q.2.cn ≤ 5000) ∧ Hid (Pq w (pkl f t g A n c) wr)) (fun _ i _ => n - (intOf i).toNat)
  case atStart => exact ⟨0, 0, by omega, rfl, rfl, Lib.hid (fun j hj => by omega), HB⟩
  case round =>
    clear HB
    obtain ⟨k, y, hk, rfl, rfl, HR, HP⟩ := hrel
    obtain ⟨_, k3⟩ := mem_cell HP.out.1
    by_cases hlt : k < n
    · have hkl : k < ks.length := by rw [HL.out]; exact hlt
      have hat := fun W (hW : Below w.heap.size w W) => (HH.out.next hW).at hkl
      obtain ⟨a, rfl, hc, hch⟩ := hat wr HP.out.2
      have hq : ks[k]? = some ks[k] := List.getElem?_eq_getElem hkl
      have HAT : Hid (∀ W, Below w.heap.size w W → ∀ j v, (cv ks[k].1 ks[k].2).toList[j]? = some v → W.cell? ((a.add (k * 15)).add j) = some v) := Lib.hid fun W hW => by
        obtain ⟨a', e, h1, _⟩ := hat W hW
        injection e with e
        subst e
        exact h1
      have HC := Lib.hid hc
      have HCH := Lib.hid hch
      generalize ks[k] = q at HC HCH HAT hq
      obtain ⟨qc, qs⟩ := q
      have HQ := Lib.hid hq
      have CG := Lib.hid (rGreat_any qc qs wr HCH.out)
      clear hat hc hch hq
      go_wp2_with (refine wpList_load_at rfl 32 (.tmp 19) rfl (a.add (k * 15)) rfl (cv qc qs) _ HC.out Try.underlying32 rfl (HCI.out _ _) ?_)
      (with_reducible refine CG.out.mono ?_)
      rintro e4 W4 ⟨bg, rfl, hcn, hb4⟩
      have HB4 := Lib.hid (HP.out.next hb4)
      have HCN := Lib.hid hcn
      clear hb4 hcn HP HC HCH CG k3
      cases bg with
      | true =>
        go_wp2_with fail
        go_ret
        exact ⟨true, rfl, (fun h => by cases h), HB4.out.2⟩
      | false =>
        have HR3 : Hid (∀ j, j < k + 1 → ∀ q, ks[j]? = some q → q.2.cn ≤ 5000) := Lib.hid fun j hj q hq => by
          by_cases hjk : j < k
          · exact HR.out j hjk q hq
          · have e : j = k := by omega
            subst e
            rw [HQ.out] at hq
            injection hq with hq
            subst hq
            exact HCN.out rfl
        have HB4d := Lib.hid (HB4.out.next (Below.refl _ _).drew)
        have s1 : W4.drew.cell? ⟨w.heap.size, 3, none⟩ = some (.slice (some a) n c) := (mem_cell HB4d.out.1).2
        have s2 : W4.drew.cell? { block := (a.add (k * 15)).block, off := (a.add (k * 15)).off + 10 } = some (.slice qs.dA qs.dn qs.dc) := by
          have := HAT.out _ HB4d.out.2 10 _ rfl
          rw [← this]; rfl
        have s3 : W4.drew.cell? { block := (a.add (k * 15)).block, off := (a.add (k * 15)).off + 12 } = some (.slice qs.gA qs.gn qs.gc) := by
          have := HAT.out _ HB4d.out.2 12 _ rfl
          rw [← this]; rfl
        clear HR HQ HCN HAT
        go_upto_region 9 with fail
        refine wp_region_held_drew (S := (fun W => W.cell? ⟨w.heap.size, 3, none⟩ = some (.slice (some a) n c) ∧ W.cell? { block := (a.add (k * 15)).block, off := (a.add (k * 15)).off + 10 } = some (.slice qs.dA qs.dn qs.dc) ∧ W.cell? { block := (a.add (k * 15)).block, off := (a.add (k * 15)).off + 12 } = some (.slice qs.gA qs.gn qs.gc))) (by kernel_rfl) (⟨s1, s2, s3⟩) (fun hHeld => ?_)
        refine wpAnyH_take (i := 0) (v := ?_) rfl (by kernel_rfl) (by kernel_rfl) (by kernel_rfl) (fun _ _ _ h => h) (Or.inl ⟨by rfl, ?_⟩) (by first | assumption | trivial) ?_
        rotate_left 1
        · (intro w9 hSw; obtain ⟨s1, s2, s3⟩ := hSw; go_simp; try (with_reducible rfl))
        try simp only [Act.put, List.setIfInBounds_toArray, List.set_cons_zero, List.set_cons_succ, List.getElem_toArray, List.getElem_cons_zero, List.getElem_cons_succ]
        refine wpAnyH_take (i := 1) (v := ?_) rfl (by kernel_rfl) (by kernel_rfl) (by kernel_rfl) (fun _ _ _ h => h) (Or.inl ⟨by rfl, ?_⟩) (by first | assumption | trivial) ?_
        rotate_left 1
        · (intro w9 hSw; obtain ⟨s1, s2, s3⟩ := hSw; go_simp; try (with_reducible rfl))
        try simp only [Act.put, List.setIfInBounds_toArray, List.set_cons_zero, List.set_cons_succ, List.getElem_toArray, List.getElem_cons_zero, List.getElem_cons_succ]
        refine wpAnyH_take (i := 2) (v := ?_) rfl (by kernel_rfl) (by kernel_rfl) (by kernel_rfl) (fun _ _ _ h => h) (Or.inl ⟨by rfl, ?_⟩) (by first | assumption | trivial) ?_
        rotate_left 1
        · (intro w9 hSw; obtain ⟨s1, s2, s3⟩ := hSw; go_simp; try (with_reducible rfl))
        try simp only [Act.put, List.setIfInBounds_toArray, List.set_cons_zero, List.set_cons_succ, List.getElem_toArray, List.getElem_cons_zero, List.getElem_cons_succ]
        refine wpAnyH_take (i := 3) (v := ?_) rfl (by kernel_rfl) (by kernel_rfl) (by kernel_rfl) (fun _ _ _ h => h) (Or.inl ⟨by rfl, ?_⟩) (by first | assumption | trivial) ?_
        rotate_left 1
        · (intro w9 hSw; obtain ⟨s1, s2, s3⟩ := hSw; go_simp; try (with_reducible rfl))
        try simp only [Act.put, List.setIfInBounds_toArray, List.set_cons_zero, List.set_cons_succ, List.getElem_toArray, List.getElem_cons_zero, List.getElem_cons_succ]
        refine wpAnyH_take (i := 4) (v := ?_) rfl (by kernel_rfl) (by kernel_rfl) (by kernel_rfl) (fun _ _ _ h => h) (Or.inl ⟨by rfl, ?_⟩) (by first | assumption | trivial) ?_
        rotate_left 1
        · (intro w9 hSw; obtain ⟨s1, s2, s3⟩ := hSw; go_simp; try (with_reducible rfl))
        try simp only [Act.put, List.setIfInBounds_toArray, List.set_cons_zero, List.set_cons_succ, List.getElem_toArray, List.getElem_cons_zero, List.getElem_cons_succ]
        refine wpAnyH_take (i := 5) (v := ?_) rfl (by kernel_rfl) (by kernel_rfl) (by kernel_rfl) (fun _ _ _ h => h) (Or.inl ⟨by rfl, ?_⟩) (by first | assumption | trivial) ?_
        rotate_left 1
        · (intro w9 hSw; obtain ⟨s1, s2, s3⟩ := hSw; go_simp; try (with_reducible rfl))
        try simp only [Act.put, List.setIfInBounds_toArray, List.set_cons_zero, List.set_cons_succ, List.getElem_toArray, List.getElem_cons_zero, List.getElem_cons_succ]
        refine wpAnyH_take (i := 6) (v := ?_) rfl (by kernel_rfl) (by kernel_rfl) (by kernel_rfl) (fun _ _ _ h => h) (Or.inl ⟨by rfl, ?_⟩) (by first | assumption | trivial) ?_
        rotate_left 1
        · (intro w9 hSw; obtain ⟨s1, s2, s3⟩ := hSw; go_simp; try (with_reducible rfl))
        try simp only [Act.put, List.setIfInBounds_toArray, List.set_cons_zero, List.set_cons_succ, List.getElem_toArray, List.getElem_cons_zero, List.getElem_cons_succ]
        refine wpAnyH_take (i := 7) (v := ?_) rfl (by kernel_rfl) (by kernel_rfl) (by kernel_rfl) (fun _ _ _ h => h) (Or.inl ⟨by rfl, ?_⟩) (by first | assumption | trivial) ?_
        rotate_left 1
        · (intro w9 hSw; obtain ⟨s1, s2, s3⟩ := hSw; go_simp; try (with_reducible rfl))
        try simp only [Act.put, List.setIfInBounds_toArray, List.set_cons_zero, List.set_cons_succ, List.getElem_toArray, List.getElem_cons_zero, List.getElem_cons_succ]
        refine wpAnyH_take (i := 8) (v := ?_) rfl (by kernel_rfl) (by kernel_rfl) (by kernel_rfl) (fun _ _ _ h => h) (Or.inl ⟨by rfl, ?_⟩) (by first | assumption | trivial) ?_
        rotate_left 1
        · (intro w9 hSw; obtain ⟨s1, s2, s3⟩ := hSw; go_simp; try (with_reducible rfl))
        try simp only [Act.put, List.setIfInBounds_toArray, List.set_cons_zero, List.set_cons_succ, List.getElem_toArray, List.getElem_cons_zero, List.getElem_cons_succ]
        refine wpAnyH_take (i := 9) (v := ?_) rfl (by kernel_rfl) (by kernel_rfl) (by kernel_rfl) (fun _ _ _ h => h) (Or.inl ⟨by rfl, ?_⟩) (by first | assumption | trivial) ?_
        rotate_left 1
        · (intro w9 hSw; obtain ⟨s1, s2, s3⟩ := hSw; go_simp; try (with_reducible rfl))
        try simp only [Act.put, List.setIfInBounds_toArray, List.set_cons_zero, List.set_cons_succ, List.getElem_toArray, List.getElem_cons_zero, List.getElem_cons_succ]
        refine wpAnyH_take (i := 10) (v := ?_) rfl (by kernel_rfl) (by kernel_rfl) (by kernel_rfl) (fun _ _ _ h => h) (Or.inl ⟨by rfl, ?_⟩) (by first | assumption | trivial) ?_
        rotate_left 1
        · (intro w9 hSw; obtain ⟨s1, s2, s3⟩ := hSw; go_simp; try (with_reducible rfl))
        try simp only [Act.put, List.setIfInBounds_toArray, List.set_cons_zero, List.set_cons_succ, List.getElem_toArray, List.getElem_cons_zero, List.getElem_cons_succ]
        refine wpAnyH_take (i := 11) (v := ?_) rfl (by kernel_rfl) (by kernel_rfl) (by kernel_rfl) (fun _ _ _ h => h) (Or.inl ⟨by rfl, ?_⟩) (by first | assumption | trivial) ?_
        rotate_left 1
        · (intro w9 hSw; obtain ⟨s1, s2, s3⟩ := hSw; go_simp; try (with_reducible rfl))
        try simp only [Act.put, List.setIfInBounds_toArray, List.set_cons_zero, List.set_cons_succ, List.getElem_toArray, List.getElem_cons_zero, List.getElem_cons_succ]
        refine wpAnyH_take (i := 12) (v := ?_) rfl (by kernel_rfl) (by kernel_rfl) (by kernel_rfl) (fun _ _ _ h => h) (Or.inl ⟨by rfl, ?_⟩) (by first | assumption | trivial) ?_
        rotate_left 1
        · (intro w9 hSw; obtain ⟨s1, s2, s3⟩ := hSw; go_simp; try (with_reducible rfl))
        try simp only [Act.put, List.setIfInBounds_toArray, List.set_cons_zero, List.set_cons_succ, List.getElem_toArray, List.getElem_cons_zero, List.getElem_cons_succ]
        refine wpAnyH_take (i := 13) (v := ?_) rfl (by kernel_rfl) (by kernel_rfl) (by kernel_rfl) (fun _ _ _ h => h) (Or.inl ⟨by rfl, ?_⟩) (by first | assumption | trivial) ?_
        rotate_left 1
        · (intro w9 hSw; obtain ⟨s1, s2, s3⟩ := hSw; go_simp; try (with_reducible rfl))
        try simp only [Act.put, List.setIfInBounds_toArray, List.set_cons_zero, List.set_cons_succ, List.getElem_toArray, List.getElem_cons_zero, List.getElem_cons_succ]
        refine wpAnyH_take (i := 14) (v := ?_) rfl (by kernel_rfl) (by kernel_rfl) (by kernel_rfl) (fun _ _ _ h => h) (Or.inl ⟨by rfl, ?_⟩) (by first | assumption | trivial) ?_
        rotate_left 1
        · (intro w9 hSw; obtain ⟨s1, s2, s3⟩ := hSw; go_simp; try (with_reducible rfl))
        try simp only [Act.put, List.setIfInBounds_toArray, List.set_cons_zero, List.set_cons_succ, List.getElem_toArray, List.getElem_cons_zero, List.getElem_cons_succ]
        refine wpAnyH_take (i := 15) (v := ?_) rfl (by kernel_rfl) (by kernel_rfl) (by kernel_rfl) (fun _ _ _ h => h) (Or.inl ⟨by rfl, ?_⟩) (by first | assumption | trivial) ?_
        rotate_left 1
        · (intro w9 hSw; obtain ⟨s1, s2, s3⟩ := hSw; go_simp; try (with_reducible rfl))
        try simp only [Act.put, List.setIfInBounds_toArray, List.set_cons_zero, List.set_cons_succ, List.getElem_toArray, List.getElem_cons_zero, List.getElem_cons_succ]
        refine wpAnyH_take (i := 16) (v := ?_) rfl (by kernel_rfl) (by kernel_rfl) (by kernel_rfl) (fun _ _ _ h => h) (Or.inl ⟨by rfl, ?_⟩) (by first | assumption | trivial) ?_
        rotate_left 1
        · (intro w9 hSw; obtain ⟨s1, s2, s3⟩ := hSw; go_simp; try (with_reducible rfl))
        try simp only [Act.put, List.setIfInBounds_toArray, List.set_cons_zero, List.set_cons_succ, List.getElem_toArray, List.getElem_cons_zero, List.getElem_cons_succ]
        refine wpAnyH_take (i := 17) (v := ?_) rfl (by kernel_rfl) (by kernel_rfl) (by kernel_rfl) (fun _ _ _ h => h) (Or.inl ⟨by rfl, ?_⟩) (by first | assumption | trivial) ?_
        rotate_left 1
        · (intro w9 hSw; obtain ⟨s1, s2, s3⟩ := hSw; go_simp; try (with_reducible rfl))
        try simp only [Act.put, List.setIfInBounds_toArray, List.set_cons_zero, List.set_cons_succ, List.getElem_toArray, List.getElem_cons_zero, List.getElem_cons_succ]
        refine wpAnyH_take (i := 18) (v := ?_) rfl (by kernel_rfl) (by kernel_rfl) (by kernel_rfl) (fun _ _ _ h => h) (Or.inl ⟨by rfl, ?_⟩) (by first | assumption | trivial) ?_
        rotate_left 1
        · (intro w9 hSw; obtain ⟨s1, s2, s3⟩ := hSw; go_simp; try (with_reducible rfl))
        try simp only [Act.put, List.setIfInBounds_toArray, List.set_cons_zero, List.set_cons_succ, List.getElem_toArray, List.getElem_cons_zero, List.getElem_cons_succ]
        refine wpAnyH_done (by kernel_rfl) ?_ _
        clear s1 s2 s3 hHeld
        go_wp2_with fail
        go_roundw
        case rel => exact ⟨k + 1, _, by omega, by go_num, rfl, HR3, HB4d⟩
        case measure => simp [intOf]; omega
    · have hall : ∀ k ∈ ks, k.2.cn ≤ 5000 := fun q hq => by
        obtain ⟨j, hj, e⟩ := List.getElem_of_mem hq
        exact HR.out j (by rw [HL.out] at hj; omega) q (by rw [List.getElem?_eq_getElem hj, e])
      have HA := Lib.hid hall
      clear hall
      go_wp2_with fail
      go_ret
      exact ⟨_, rfl, fun _ => ⟨HN.out, HA.out⟩, HP.out.2⟩
end Go.Proofs.Ytbliipjiilmbcaa
/-
  Plain: what is put of a packet is taken as it was, up to the first kind that ends.
-/
namespace Go.Proofs.Ytbliipjiilmbcaa
open Go.RowKit Wire Tlv Chunk Pkt

/-- The chunks ahead of the first kind that ends. -/
def upto : List Ck → List Ck
  | [] => []
  | c :: l => if ends c.kd = true then [] else c :: upto l
theorem cput_zero {c : Ck} (h : (cput c).2 = 0) : may c ∧ (val c).length ≤ 65531 ∧ cput c = (tb true ⟨c.kd, c.fl, val c⟩, 0) := by
  by_cases hm : may c
  · by_cases hl : 65531 < (val c).length
    · rw [cput_long hm hl] at h; cases h
    · exact ⟨hm, by omega, cput_ok hm hl⟩
  · rw [cput_no hm] at h; cases h
theorem pb_zero {c : Ck} {l : List Ck} (h : (pb (c :: l)).2 = 0) : (cput c).2 = 0 ∧ (pb l).2 = 0 ∧ pb (c :: l) = ((cput c).1 ++ (pb l).1, 0) := by
  rw [pb] at h ⊢
  by_cases h1 : (cput c).2 ≠ 0
  · rw [if_pos h1] at h; exact absurd h h1
  rw [if_neg h1] at h ⊢
  by_cases h2 : (pb l).2 ≠ 0
  · rw [if_pos h2] at h; exact absurd h h2
  rw [if_neg h2]
  exact ⟨by simpa using h1, by simpa using h2, rfl⟩
theorem put_tv {c : Ck} (hok : c.ok) : (⟨c.kd, c.fl, val c⟩ : Tv).ok ∧ fit true ⟨c.kd, c.fl, val c⟩ :=
  ⟨⟨by have := hok.kd; show c.kd < 65536; omega, hok.fl, val_byt hok⟩, by have := hok.kd; show c.kd ≤ 255; omega⟩
theorem pb_byt : ∀ (ks : List Ck), (∀ c ∈ ks, c.ok) → Byt (pb ks).1
  | [], _ => fun c h => by simp [pb] at h
  | c :: l, h => by
    have hn : Byt ([] : List Int) := fun c h => by simp at h
    by_cases h0 : (pb (c :: l)).2 = 0
    · obtain ⟨h1, _, e⟩ := pb_zero h0
      obtain ⟨_, _, e2⟩ := cput_zero h1
      obtain ⟨o1, o2⟩ := put_tv (h c (by simp))
      rw [e, e2]
      exact byt_app (tb_byt o1 o2) (pb_byt l fun d hd => h d (by simp [hd]))
    · rw [pb] at h0 ⊢
      split
      · exact hn
      split
      · exact hn
      · rename_i h1 h2
        rw [if_neg h1, if_neg h2] at h0
        exact absurd rfl h0
theorem pb_four : ∀ (ks : List Ck), (pb ks).1.length % 4 = 0
  | [] => by simp [pb]
  | c :: l => by
    by_cases h0 : (pb (c :: l)).2 = 0
    · obtain ⟨h1, _, e⟩ := pb_zero h0
      obtain ⟨_, _, e2⟩ := cput_zero h1
      have := pb_four l
      have := whl_le (4 + (val c).length)
      rw [e, e2]
      simp only [List.length_append, tb_len]
      omega
    · rw [pb] at h0 ⊢
      split
      · simp
      split
      · simp
      · rename_i h1 h2
        rw [if_neg h1, if_neg h2] at h0
        exact absurd rfl h0
theorem pc_pb : ∀ (ks : List Ck), (∀ c ∈ ks, c.ok) → (pb ks).2 = 0 → pc (ev true (pb ks).1) = (upto ks, 0)
  | [], _, _ => rfl
  | c :: l, h, h0 => by
    obtain ⟨h1, h2, e⟩ := pb_zero h0
    obtain ⟨hm, hl, e2⟩ := cput_zero h1
    have hok := h c (by simp)
    obtain ⟨o1, o2⟩ := put_tv hok
    have e3 : (pb (c :: l)).1 = tb true ⟨c.kd, c.fl, val c⟩ ++ (pb l).1 := by rw [e, e2]
    rw [e3, ev_some (t1_tb o1 o2 hl _), List.drop_left' (tb_len _ _), pc_cons, take_put hok hm hl, pc_pb l (fun d hd => h d (by simp [hd])) h2]
    simp only [upto]
    split
    · rfl
    · rfl
/-- What was put of a packet, taken. -/
theorem ptk_pput {f t g : Nat} {ks : List Ck} (hf : f < 65536) (ht : t < 65536) (hg : g < 4294967296) (hok : ∀ c ∈ ks, c.ok) (h0 : (pput f t g ks).2 = 0) :
    ptk (pput f t g ks).1 = if mayP g (upto ks) = true then ⟨f, t, g, upto ks, 0⟩ else ⟨0, 0, 0, [], 60⟩ := by
  unfold pput at h0 ⊢
  split at h0
  · rename_i h1
    rw [if_pos h1]
    split at h0
    · rename_i h2; exact absurd h0 h2
    · rename_i h2
      rw [if_neg h2]
      have hb := Head.back hf ht hg (pb_byt ks hok) h0
      have hp := pc_pb ks hok (by simpa using h2)
      unfold ptk
      rw [hb]
      simp only
      rw [hp]
      simp
  · cases h0
theorem upto_all {ks : List Ck} (h : ∀ c ∈ ks, ends c.kd = false) : upto ks = ks := by
  induction ks with
  | nil => rfl
  | cons c l ih =>
    rw [upto, h c (by simp), ih fun d hd => h d (by simp [hd])]
    rfl
theorem upto_mem {ks : List Ck} {c : Ck} (h : c ∈ upto ks) : c ∈ ks ∧ ends c.kd = false := by
  induction ks with
  | nil => simp [upto] at h
  | cons d l ih =>
    rw [upto] at h
    split at h
    · simp at h
    · rename_i hd
      rcases List.mem_cons.1 h with rfl | h
      · exact ⟨by simp, by simpa using hd⟩
      · exact ⟨by simp [(ih h).1], (ih h).2⟩
end Go.Proofs.Ytbliipjiilmbcaa
/-
  Plain: a packet with one byte otherwise is not taken.
-/
namespace Go.Proofs.Ytbliipjiilmbcaa
open Go.RowKit Wire Tlv Chunk Pkt Crc

theorem num_put : ∀ (l : List Int) (p c u : Nat), p < l.length → l.getD p 0 = (c : Int) → num (l.set p ((c ^^^ u : Nat) : Int)) = num l ^^^ 2 ^ (8 * p) * u
  | [], p, c, u, h, _ => by simp at h
  | x :: l, 0, c, u, _, hc => by
    simp only [List.getD_cons_zero] at hc
    subst hc
    simp only [List.set_cons_zero, num, Int.toNat_natCast]
    simp only [Nat.mul_zero, Nat.pow_zero, Nat.one_mul]
    ac_rfl
  | x :: l, p + 1, c, u, h, hc => by
    have ih := num_put l p c u (by simpa using h) (by simpa only [List.getD_cons_succ] using hc)
    simp only [List.set_cons_succ, num]
    have e : 2 ^ (8 * (p + 1)) * u = (2 ^ (8 * p) * u) * 2 ^ 8 := by
      rw [show 8 * (p + 1) = 8 * p + 8 by omega, Nat.pow_add]
      ac_rfl
    rw [ih, e, show (256 : Nat) = 2 ^ 8 from rfl, Nat.mul_comm (2 ^ 8) (num l ^^^ _), Nat.mul_comm (2 ^ 8) (num l)]
    simp only [← Nat.shiftLeft_eq, Nat.shiftLeft_xor_distrib]
    ac_rfl
theorem set_byt {l : List Int} (h : Byt l) (p v : Nat) (hv : v < 256) : Byt (l.set p (v : Int)) := fun x hx => by
  rcases List.mem_or_eq_of_mem_set hx with hx | rfl
  · exact h x hx
  · exact ⟨by omega, by omega⟩
theorem tk_turned {l : List Int} (hl : Byt l) (h0 : (Head.tk l).err = 0) {p c u : Nat} (hp : p < l.length) (hc : l.getD p 0 = (c : Int)) (hc2 : c < 256) (hu : u < 256) (h1 : u ≠ 0) :
    (Head.tk (l.set p ((c ^^^ u : Nat) : Int))).err = 31 := by
  have h12 : 12 ≤ l.length := by
    unfold Head.tk at h0
    split at h0
    · cases h0
    split at h0
    · cases h0
    · omega
  have hx := num_put l p c u hp hc
  have hm := set_byt hl p (c ^^^ u) (Nat.xor_lt_two_pow (n := 8) hc2 hu)
  have hlen : (l.set p ((c ^^^ u : Nat) : Int)).length = l.length := by simp
  have hw : (∀ i, i < 8 ∨ 12 ≤ i → (l.set p ((c ^^^ u : Nat) : Int)).getD i 0 = l.getD i 0) ∨ (∀ i, 8 ≤ i → i < 12 → (l.set p ((c ^^^ u : Nat) : Int)).getD i 0 = l.getD i 0) := by
    have hs : ∀ i, i ≠ p → (l.set p ((c ^^^ u : Nat) : Int)).getD i 0 = l.getD i 0 := fun i hi => by
      simp only [List.getD_eq_getElem?_getD]
      rw [List.getElem?_set_ne (by omega)]
    by_cases h8 : 8 ≤ p ∧ p < 12
    · exact .inl fun i hi => hs i (by omega)
    · exact .inr fun i hi hj => hs i (by omega)
  by_cases h4 : p + 4 ≤ l.length
  · exact Head.otherwise_ hl hm hlen h0 h1 (by omega) (by omega) hx hw
  · have e : 2 ^ (8 * p) * u = 2 ^ (8 * (l.length - 4)) * (2 ^ (8 * (p - (l.length - 4))) * u) := by
      rw [← Nat.mul_assoc, ← Nat.pow_add]
      congr 2
      omega
    rw [e] at hx
    refine Head.otherwise_ hl hm hlen h0 (fun hz => ?_) ?_ (by omega) hx hw
    · rcases Nat.mul_eq_zero.1 hz with hz | hz
      · exact absurd hz (Nat.pos_iff_ne_zero.1 (Nat.two_pow_pos _))
      · exact h1 hz
    · have h3 : p - (l.length - 4) ≤ 3 := by omega
      have : (2 : Nat) ^ (8 * (p - (l.length - 4))) ≤ 2 ^ 24 := Nat.pow_le_pow_right (by omega) (by omega)
      have : 2 ^ (8 * (p - (l.length - 4))) * u ≤ 2 ^ 24 * 255 := Nat.mul_le_mul this (by omega)
      omega
/-- What was put, with a byte otherwise. -/
theorem ptk_turned {f t g : Nat} {ks : List Ck} (hf : f < 65536) (ht : t < 65536) (hg : g < 4294967296) (hok : ∀ c ∈ ks, c.ok) (h0 : (pput f t g ks).2 = 0) {p c u : Nat} (hp : p < (pput f t g ks).1.length)
    (hc : (pput f t g ks).1.getD p 0 = (c : Int)) (hc2 : c < 256) (hu : u < 256) (h1 : u ≠ 0) : ptk ((pput f t g ks).1.set p ((c ^^^ u : Nat) : Int)) = ⟨0, 0, 0, [], 31⟩ := by
  unfold pput at *
  split at h0
  · rename_i hm
    rw [if_pos hm] at hp hc ⊢
    split at h0
    · rename_i h2; exact absurd h0 h2
    · rename_i h2
      rw [if_neg h2] at hp hc ⊢
      have hb := Head.back hf ht hg (pb_byt ks hok) h0
      have hB : Byt (Head.pt f t g (pb ks).1).1 := by
        unfold Head.pt at h0 ⊢
        split at h0
        · cases h0
        split at h0
        · cases h0
        · rename_i h3 h4
          rw [if_neg h3, if_neg h4]
          exact Head.pk_byt _ _ _ _ (pb_byt ks hok)
      have h31 := tk_turned hB (by rw [hb]) hp hc hc2 hu h1
      unfold ptk
      rw [h31, if_pos (by decide)]
  · cases h0
/-- How many bytes were put. -/
theorem pb_len : ∀ (ks : List Ck), (pb ks).2 = 0 → (pb ks).1.length = (ks.map fun c => (cput c).1.length).sum
  | [], _ => rfl
  | c :: l, h => by
    obtain ⟨_, h2, e⟩ := pb_zero h
    rw [e]
    simp [pb_len l h2]
theorem pput_len {f t g : Nat} {ks : List Ck} (h0 : (pput f t g ks).2 = 0) : (pput f t g ks).1.length = 12 + (ks.map fun c => (cput c).1.length).sum ∧ (pput f t g ks).1.length ≤ 1500 := by
  unfold pput at h0 ⊢
  split at h0
  · rename_i hm
    rw [if_pos hm]
    split at h0
    · rename_i h2; exact absurd h0 h2
    · rename_i h2
      rw [if_neg h2]
      have := pb_len ks (by simpa using h2)
      unfold Head.pt at h0 ⊢
      split at h0
      · cases h0
      split at h0
      · cases h0
      · rename_i h3 h4
        rw [if_neg h3, if_neg h4]
        simp only [Head.pk_len]
        omega
  · cases h0
theorem pput_none {f t g : Nat} {ks : List Ck} (h0 : (pput f t g ks).2 ≠ 0) : (pput f t g ks).1 = [] := by
  unfold pput at h0 ⊢
  split
  · rename_i hm
    rw [if_pos hm] at h0
    split
    · rfl
    · rename_i h2
      rw [if_neg h2] at h0
      unfold Head.pt at h0 ⊢
      split
      · rfl
      split
      · rfl
      · rename_i h3 h4
        rw [if_neg h3, if_neg h4] at h0
        exact absurd rfl h0
  · rfl
/-- Of chunks that may be together, those ahead of an end may be too, if there is one. -/
theorem may_upto {g : Nat} {ks : List Ck} (h : mayP g ks = true) : mayP g (upto ks) = !(upto ks).isEmpty := by
  have hlen : ∀ l : List Ck, (upto l).length ≤ l.length := fun l => by
    induction l with
    | nil => exact Nat.le_refl _
    | cons c l ih => rw [upto]; split <;> simp; exact ih
  rw [may_eq] at h ⊢
  simp only [Bool.and_eq_true, mayQ, List.all_eq_true] at h
  have hall : mayQ g (upto ks).length (upto ks) = true := by
    rw [mayQ, List.all_eq_true]
    intro c hc
    have := h.1 c (upto_mem hc).1
    have hl := hlen ks
    by_cases h1 : 1 < (upto ks).length
    · have h2 : 1 < ks.length := by omega
      simpa [h1, h2] using this
    · simp [h1, this.2]
  rw [hall]
  cases upto ks <;> simp
end Go.Proofs.Ytbliipjiilmbcaa
/-
  Plain: the rows of layer 6's 'known'.
-/
namespace Go.Proofs.Ytbliipjiilmbcaa
open Go.RowKit Wire Tlv Chunk Pkt

/-- The chunk of a kind with nothing. -/
def kOf (k : Nat) : Ck := { zero with kd := k }
theorem kOf_ok {k : Nat} (hk : k < 256) : (kOf k).ok := by
  constructor
  all_goals first
    | exact hk
    | exact (by decide : (0 : Nat) < 256)
    | exact (by decide : (0 : Nat) < 65536)
    | exact (by decide : (0 : Nat) < 4294967296)
    | (intro c hc; simp [kOf, zero] at hc; done)
theorem kOf_may {k : Nat} (h0 : ¬ (k = 0 ∨ k = 2)) : may (kOf k) := by
  refine ⟨?_, rfl⟩
  constructor
  all_goals first
    | (exact fun h => absurd h h0)
    | (exact .inr rfl)
    | (exact .inr ⟨rfl, rfl, rfl⟩)
    | (exact .inr ⟨rfl, rfl, rfl, rfl⟩)
    | (exact .inr ⟨rfl, rfl⟩)
    | exact Nat.zero_le _
theorem kOf_val {k : Nat} (h0 : ¬ (k ≤ 3 ∨ k = 7)) : val (kOf k) = [] := by
  have e : (kOf k).kd = k := rfl
  unfold val body nums pars
  rw [e, if_neg (by omega), if_neg (by omega), if_neg (by omega), if_neg (by omega), if_neg (by omega), if_neg (by omega)]
  rfl
theorem kOf_put {k : Nat} (h0 : ¬ (k ≤ 3 ∨ k = 7)) : cput (kOf k) = (tb true ⟨k, 0, []⟩, 0) := by
  rw [cput_ok (kOf_may (by omega)) (by rw [kOf_val h0]; simp), kOf_val h0]
  rfl
theorem pb3 {a b c : Nat} (ha : ¬ (a ≤ 3 ∨ a = 7)) (hb : ¬ (b ≤ 3 ∨ b = 7)) (hc : ¬ (c ≤ 3 ∨ c = 7)) : pb [kOf a, kOf b, kOf c] = (tb true ⟨a, 0, []⟩ ++ (tb true ⟨b, 0, []⟩ ++ tb true ⟨c, 0, []⟩), 0) := by
  simp [pb, kOf_put ha, kOf_put hb, kOf_put hc]
theorem pput3 {k : Nat} (hk : k = 70 ∨ k = 130) : (pput 1 2 5 [kOf 11, kOf k, kOf 8]).2 = 0 ∧ (pput 1 2 5 [kOf 11, kOf k, kOf 8]).1.length = 24 := by
  have hm : mayP 5 [kOf 11, kOf k, kOf 8] = true := by rcases hk with rfl | rfl <;> decide
  unfold pput
  rw [if_pos hm, pb3 (by omega) (by omega) (by omega), if_neg (by simp)]
  simp only
  unfold Head.pt
  have hl : (tb true ⟨11, 0, []⟩ ++ (tb true ⟨k, 0, []⟩ ++ tb true ⟨8, 0, []⟩)).length = 12 := by
    simp [tb_len, whl]
  rw [hl, if_neg (by decide), if_neg (by decide)]
  exact ⟨rfl, by rw [Head.pk_len, hl]⟩
theorem ptk70 : ptk (pput 1 2 5 [kOf 11, kOf 70, kOf 8]).1 = ⟨1, 2, 5, [kOf 11], 0⟩ := by
  rw [ptk_pput (by decide) (by decide) (by decide) (fun c hc => by simp at hc; rcases hc with rfl | rfl | rfl <;> exact kOf_ok (by decide)) (pput3 (.inl rfl)).1]
  have e : upto [kOf 11, kOf 70, kOf 8] = [kOf 11] := rfl
  rw [e, if_pos (by decide)]
theorem ptk130 : ptk (pput 1 2 5 [kOf 11, kOf 130, kOf 8]).1 = ⟨1, 2, 5, [kOf 11, kOf 130, kOf 8], 0⟩ := by
  rw [ptk_pput (by decide) (by decide) (by decide) (fun c hc => by simp at hc; rcases hc with rfl | rfl | rfl <;> exact kOf_ok (by decide)) (pput3 (.inr rfl)).1]
  have e : upto [kOf 11, kOf 130, kOf 8] = [kOf 11, kOf 130, kOf 8] := rfl
  rw [e, if_pos (by decide)]
theorem rows_no : pput 1 2 1 [] = ([], 60) ∧ pput 1 2 1 [kOf 1] = ([], 60) ∧ pput 1 2 0 [kOf 11] = ([], 60) ∧ pput 1 2 5 [kOf 14, kOf 8] = ([], 60) := by
  refine ⟨?_, ?_, ?_, ?_⟩ <;> (unfold pput; rw [if_neg (by decide)])
/-- The sizes of the three chunks. -/
theorem size_shutack : (cput (kOf 8)).1.length = 4 := by rw [kOf_put (by decide), tb_len]; rfl
theorem size_nodata : cput (kOf 0) = ([], 50) := cput_no fun h => h.1.has (.inl rfl) rfl
end Go.Proofs.Ytbliipjiilmbcaa
/-
  A whole struct loaded, and a slice of one struct built, inside a fence.
-/
namespace Go.Proofs.Ytbliipjiilmbcaa
open Go.RowKit

theorem wpListIn_load_row {F : Fence} {n : Nat} {P : Program} {w : World} {ops : Array Oper} {rest : List Oper} {o : Oper} {a : Act} {Q : Exit → Act → World → Prop} (hgd : o.guard = none) (ty : TypeId) (x : Operand) (ho : o.op = .load ty x)
    (g : Nat) (hx : a.eval x = .pointer (some ⟨g, 0, none⟩)) (t : TypeId) (cs : Array Value) (fr : Nat × Nat) (d : TypeDesc) (hg : w.heap[g]? = some (.cells cs t fr))
    (hu : P.underlying ty = some d) (hd : (match d with | .struct _ | .array _ _ => true | _ => false) = true) (hi : (P.info? ty).map (·.size) = some cs.size)
    (h : wpListIn F n P ops Q rest (a.put o.dst (.agg cs)) w) : wpListIn F n P ops Q (o :: rest) a w := by
  refine wpListIn_plain hgd fun K hK' => ?_
  unfold Oper.wpIn
  refine ⟨?_, ?_⟩
  · simp [Oper.about, ho]
  · rw [Oper.semAt_plain F _ _ (by rw [ho]; intro c hc'; cases hc')]
    simp only [execOp, ho, hx, Instr.loadAt, Instr.sureAddr, Sem.run_bind, Sem.run_pure, Result.andThen_ok, run_loadVar_row w g t ty cs fr d hg hu hd hi]
    exact hK' _ _ h
theorem wpListIn_buildSlice {F : Fence} {n : Nat} {P : Program} {w : World} {ops : Array Oper} {rest : List Oper} {o : Oper} {a : Act} {Q : Exit → Act → World → Prop} (hg : o.guard = none) (t e : TypeId) (len : Nat) (parts : Array (Nat × Operand)) (ho : o.op = .buildSlice t len parts)
    (cells : Array Value) (ie : TypeInfo) (z : Value)
    (hu : P.underlying t = some (.slice e)) (hie : P.info? e = some ie) (hz : ie.zero = some z) (hsmall : ¬ len * ie.size > 2 ^ 24) (hpos : ¬ len * ie.size = 0)
    (hf : Instr.fill (fun i => some (i * ie.size, ie.size)) ((Array.range (len * ie.size)).map (z.cells[· % z.cells.size]!)) (parts.map fun (i, x) => (i, a.eval x)).toList = some cells)
    (h : wpListIn F n P ops Q rest (a.put o.dst (.slice (some ⟨w.heap.size, 0, none⟩) len len)) (w.alloc (.cells cells e))) : wpListIn F n P ops Q (o :: rest) a w := by
  refine wpListIn_plain hg fun K hK' => ?_
  unfold Oper.wpIn
  refine ⟨?_, ?_⟩
  · simp [Oper.about, ho]
  · rw [Oper.semAt_plain F _ _ (by rw [ho]; intro c hc'; cases hc')]
    simp only [execOp, ho, Sem.run_bind, run_buildSlice w t e len _ cells ie z hu hie hz hsmall hpos hf, Result.andThen_ok]
    exact hK' _ _ h
end Go.Proofs.Ytbliipjiilmbcaa
/-
  What pkt.chunks does.
-/
namespace Go.Proofs.Ytbliipjiilmbcaa
open Go.RowKit Go.Shelf Wire Tlv Chunk Pkt
attribute [local go_sem] Oper.semAt_some

theorem Keeps.calm {B lo : Nat} {W W' : World} (hc : Calm B W W') : Keeps lo W W' := fun k o _ ho ⟨_, _, _, h, _⟩ => hc.2 k o ho (by subst h; rfl)
theorem Ko.calm {B C : Nat} {A : Option Addr} {n c : Nat} {ks : List Cq} {W W' : World} (h : Ko C A n c ks W) (hc : Calm B W W') : Ko C A n c ks W' := ⟨owns_calm h.1 hc, fun k hk => (h.2 k hk).keep (Keeps.calm hc)⟩
/-- What pkt.chunks leaves. -/
def CsOut (w : World) (r : List Ck × Int) (e : Ending) (w' : World) : Prop := ∃ A n c ks, e = .returned (.tuple #[.slice A n c, .int .i64 r.2]) ∧ ks.map (·.1) = r.1 ∧ Ko w.heap.size A n c ks w' ∧ n ≤ 100000 ∧ Below w.heap.size w w'
/-- The three variables of the call. -/
def V3 (w : World) (z : Int) (A : Option Addr) (n c : Nat) (W : World) : Prop := Bk W w.heap.size #[.slice none 0 0] 50 ∧ Bk W (w.heap.size + 1) #[.int .i64 z] 33 ∧ Bk W (w.heap.size + 1 + 1) #[.slice A n c] 50 ∧ Below w.heap.size w W
theorem V3.calm {w : World} {z : Int} {A : Option Addr} {n c B : Nat} {W W' : World} (h : V3 w z A n c W) (hw : w.heap.size ≤ B) (hc : Calm B W W') : V3 w z A n c W' := ⟨h.1.calm hc, h.2.1.calm hc, h.2.2.1.calm hc, h.2.2.2.trans (hc.1.mono hw)⟩
theorem V3.next {w : World} {z : Int} {A : Option Addr} {n c : Nat} {W W' : World} (h : V3 w z A n c W) (hb : Below W.heap.size W W') : V3 w z A n c W' := ⟨h.1.next hb, h.2.1.next hb, h.2.2.1.next hb, bnext' h.2.2.2 hb⟩
/-- What is kept round by round. -/
def Qc (w : World) (hi : Nat) (pre : List Ev) (W : World) : Prop := ∃ A n c ks, V3 w 0 A n c W ∧ Ko hi A n c ks W ∧ n ≤ pre.length ∧ (∀ t, pc (pre.map pl ++ t) = jn (ks.map (·.1)) (pc t)) ∧ hi ≤ W.heap.size
/-- What is left behind a return, or a break. -/
def Qe (w : World) (c : Code) (pre : List Ev) (W : World) : Prop := c = .ret ∧ ∃ (z : Int) (A : Option Addr) (n c : Nat), z ≠ 0 ∧ (∀ t, pc (pre.map pl ++ t) = ([], z)) ∧ V3 w z A n c W
def Qb (w : World) (hi : Nat) (c : Code) (pre : List Ev) (W : World) : Prop := c = .exit 0 ∧ ∃ A n c ks, V3 w 0 A n c W ∧ Ko hi A n c ks W ∧ n ≤ pre.length ∧ (∀ t, pc (pre.map pl ++ t) = (ks.map (·.1), 0)) ∧ hi ≤ W.heap.size
theorem Qc.calm {w : World} {hi B : Nat} {pre : List Ev} {W W' : World} (h : Qc w hi pre W) (hw : w.heap.size ≤ B) (hc : Calm B W W') : Qc w hi pre W' := by
  obtain ⟨A, n, c, ks, h1, h2, h3, h4, h5⟩ := h
  exact ⟨A, n, c, ks, h1.calm hw hc, h2.calm hc, h3, h4, Nat.le_trans h5 hc.1.size⟩
theorem Qe.calm {w : World} {B : Nat} {c : Code} {pre : List Ev} {W W' : World} (h : Qe w c pre W) (hw : w.heap.size ≤ B) (hc : Calm B W W') : Qe w c pre W' := by
  obtain ⟨h0, z, A, n, d, h1, h2, h3⟩ := h
  exact ⟨h0, z, A, n, d, h1, h2, h3.calm hw hc⟩
theorem Qb.calm {w : World} {hi B : Nat} {c : Code} {pre : List Ev} {W W' : World} (h : Qb w hi c pre W) (hw : w.heap.size ≤ B) (hc : Calm B W W') : Qb w hi c pre W' := by
  obtain ⟨h0, A, n, d, ks, h1, h2, h3, h4, h5⟩ := h
  exact ⟨h0, A, n, d, ks, h1.calm hw hc, h2.calm hc, h3, h4, Nat.le_trans h5 hc.1.size⟩
theorem tl_fit {ch : Bool} : ∀ (m : Nat) (b : List Int), b.length ≤ m → Byt b → ∀ x ∈ (tl ch b).1, fit ch x ∧ x.v.length ≤ 65531
  | 0, b, h, _, x, hx => by
    rw [List.length_eq_zero_iff.1 (Nat.le_zero.1 h), tl_nil] at hx
    cases hx
  | m + 1, b, h, hb, x, hx => by
    by_cases h0 : b.length = 0
    · rw [List.length_eq_zero_iff.1 h0, tl_nil] at hx
      cases hx
    cases ht : t1 ch b with
    | none =>
      rw [tl_none h0 ht] at hx
      cases hx
    | some p =>
      obtain ⟨y, s⟩ := p
      rw [tl_some ht] at hx
      have h1 := t1_lt ht
      rcases List.mem_cons.1 hx with rfl | hx
      · exact ⟨(tb_t1 hb ht).2.1, (tb_t1 hb ht).2.2.1⟩
      · exact tl_fit m (b.drop s) (by simp; omega) (Byt.drop hb s) x hx
theorem ev_fit {b : List Int} {x : Tv} (hb : Byt b) (h : (x, (0 : Int)) ∈ ev true b) : x.k ≤ 255 ∧ x.v.length ≤ 65531 := by
  unfold ev at h
  rcases List.mem_append.1 h with h | h
  · obtain ⟨y, hy, e⟩ := List.mem_map.1 h
    injection e with e _
    subst e
    have := tl_fit _ _ (Nat.le_refl _) hb y hy
    exact ⟨by simpa [fit] using this.1, this.2⟩
  · split at h
    · cases h
    · simp at h
theorem nty_chunks : ¬ TyT 50 := by simp [TyT]
theorem nty_errno : ¬ TyT 33 := by simp [TyT]
theorem fin3 {w W : World} {A : Option Addr} {n c : Nat} (z : Int) (h : V3 w 0 A n c W) : V3 w z A n c ((W.setCell ⟨w.heap.size, 0, none⟩ (.slice none 0 0)).setCell ⟨w.heap.size + 1, 0, none⟩ (.int .i64 z)) ∧ KeepsOthers W ((W.setCell ⟨w.heap.size, 0, none⟩ (.slice none 0 0)).setCell ⟨w.heap.size + 1, 0, none⟩ (.int .i64 z)) := by
  obtain ⟨h4, h5, h6, hB⟩ := h
  have e4 := h4.set 0 (.slice none 0 0)
  have e5 := (h5.other (c := w.heap.size) (by omega) 0 (.slice none 0 0)).set 0 (.int .i64 z)
  simp at e4 e5
  exact ⟨⟨e4.other (by omega) 0 _, e5, (h6.other (by omega) 0 _).other (by omega) 0 _, (hB.setCell (p := ⟨w.heap.size, 0, none⟩) (Nat.le_refl _) _).setCell (p := ⟨w.heap.size + 1, 0, none⟩) (by simp) _⟩, (KeepsOthers.setCell _ _ _).trans (KeepsOthers.setCell _ _ _)⟩
/-- In the middle of a round. -/
def Qa (w : World) (l : List Int) (hi : Nat) (A : Option Addr) (n c : Nat) (F : Value) (pre : List Ev) (x : Ev) (a : Act) (W : World) : Prop := ∃ Bx, Bk W Bx #[.int .u16 (x.1.1.k : Int), .int .u8 (x.1.1.f : Int), x.1.2] 25 ∧ Qc w hi pre W ∧ Vev true l hi pre x W ∧
  a = { tmps := #[.slice A n c, undef, .pointer (some ⟨w.heap.size, 0, none⟩), .pointer (some ⟨w.heap.size + 1, 0, none⟩), .pointer (some ⟨w.heap.size + 1 + 1, 0, none⟩), .pointer (some ⟨Bx, 0, none⟩), .int .i64 x.2, undef, undef, .slice A n c, F,
    .agg #[.int .u16 (x.1.1.k : Int), .int .u8 (x.1.1.f : Int), x.1.2], .int .i64 x.2, undef, undef, undef, undef, undef, undef, undef, undef, undef, undef, undef, undef, undef, undef, undef, undef, undef, undef, undef, undef], defers := [] }
theorem pc_err0 (pre : List (Tv × Int)) (x : Tv) (e : Int) (he : e ≠ 0) (ks : List Ck) (h : ∀ t, pc (pre ++ t) = jn ks (pc t)) (t : List (Tv × Int)) : pc ((pre ++ [(x, e)]) ++ t) = ([], e) := by
  rw [List.append_assoc, h]
  show jn ks (pc ((x, e) :: t)) = _
  rw [pc, if_pos he]
  simp [jn, he]
set_option maxRecDepth 100000 in
set_option maxHeartbeats 4000000 in
theorem chunks_any (A : Option Addr) (n c : Nat) (l : List Int) (w : World) (hl : l.length = n) (hn : n ≤ 60000) (hb : Byt l) (hr : Row w A (bs l)) :
    Calls Try.prog 55 #[.slice A n c] w (CsOut w (pc (ev true l))) := by
  have cA : ∀ W, Below w.heap.size w W → Calls Try.prog 41 #[.bool true, .slice A n c] W (AllIt W true l) := fun W h => tall_any true A n c l W hl (by omega) (hr.below h)
  have CA := Lib.hid cA
  clear cA
  refine calls_marks Try.func55 rfl ?_
  simp only [Try.ntmps55, List.size_toArray, List.length_cons, List.length_nil, Nat.reduceAdd, Nat.reduceSub, Array.replicate_succ, Array.replicate_zero, List.push_toArray, List.append_toArray, List.nil_append, List.cons_append]
  go_wp2_with fail
  (with_reducible refine (CA.out _ ?_).mono ?_)
  · exact (((Below.refl _ w).alloc (Nat.le_refl _) _).alloc (by simp) _).alloc (by simp; omega) _
  rintro e w1 ⟨A1, n1, c1, ob, rfl, hI1, hob, hob2, hb1⟩
  simp only [World.size_alloc] at hI1 hob hb1
  have hn1 : n1 ≤ 100000 := by have := hI1.2.2.1; rw [bs_len, hl] at this; omega
  have hB0 : Below w.heap.size w w1 := ((((Below.refl _ w).alloc (Nat.le_refl _) _).alloc (by simp) _).alloc (by simp; omega) _).trans (hb1.mono (by omega))
  have hk4 : Bk w1 w.heap.size #[.slice none 0 0] 50 := (((Bk.new w _ _).alloc (.cells #[.int .i64 0] 33)).alloc (.cells #[.slice none 0 0] 50)).nextB hb1 (by omega)
  have hk5 : Bk w1 (w.heap.size + 1) #[.int .i64 0] 33 := by
    have := ((Bk.new (w.alloc (.cells #[.slice none 0 0] 50)) #[.int .i64 0] 33).alloc (.cells #[.slice none 0 0] 50)).nextB hb1 (by simp)
    simpa using this
  have hk6 : Bk w1 (w.heap.size + 1 + 1) #[.slice none 0 0] 50 := by
    have := (Bk.new ((w.alloc (.cells #[.slice none 0 0] 50)).alloc (.cells #[.int .i64 0] 33)) #[.slice none 0 0] 50).nextB hb1 (by simp)
    simpa using this
  have hPc : Qc w w1.heap.size [] w1 := ⟨none, 0, 0, [], ⟨hk4, hk5, hk6, hB0⟩, Ko.nil _ _, by simp, fun t => (jn_nil _ (pc_err t)).symm, Nat.le_refl _⟩
  have hseq := iter_seq true A1 n1 c1 l (w.heap.size + 1 + 1 + 1) ob (w.heap.size + 1 + 1 + 1) w1 hn1 hb hI1 ⟨Nat.le_refl _, by omega⟩ ⟨by omega, hob2⟩
  have hws := hB0.size
  have HS := Lib.hid hseq
  have HPC := Lib.hid hPc
  obtain ⟨iC, hi0, hz0, hz1, hz2⟩ := info_parts Try_infoChunk
  have HI0 := Lib.hid hi0
  have HI1 := Lib.hid hz0
  have HI2 := Lib.hid hz1
  have HI3 := Lib.hid hz2
  have HEL := Lib.hid (ev_len true l)
  have HL := Lib.hid hl
  have HBY := Lib.hid hb
  have HCI : Hid (∀ c : Ck, ∀ s : Ls, (Try.prog.info? 32).map (·.size) = some (cv c s).size) := Lib.hid cv_info
  have hh : w.heap.size + 1 + 1 + 1 < w1.heap.size := by omega
  clear hseq hPc hk4 hk5 hk6 hB0 hI1 hb1 hb hr hi0 hz0 hz1 hz2 hl CA
  go_wp2_with fail
  refine (wpIn_wide (n := 9)).1 ?_
  refine range_wpIn (gf := 74) (lb := #[.pointer (some ⟨ob, 0, none⟩), .pointer (some ⟨w.heap.size + 1 + 1 + 1, 0, none⟩)]) rfl (enters_of Try.func74 (by kernel_rfl) rfl) HS.out (Nat.le_refl _) (fun _ => rfl)
    (fun pre W => Qc w w1.heap.size pre W) (fun c pre W => Qe w c pre W ∨ Qb w w1.heap.size c pre W) (fun pre A B h hc => h.calm hws hc) (fun c pre A B h hc => h.elim (fun h => .inl (h.calm hws hc)) (fun h => .inr (h.calm hws hc))) HPC.out
    (Qa w l w1.heap.size A n c (.func (.func 74) #[] #[.pointer (some ⟨ob, 0, none⟩), .pointer (some ⟨w.heap.size + 1 + 1 + 1, 0, none⟩)]))
    (fun pre x a₁ A B ⟨Bx, h1, h2, h3, h4⟩ hc => ⟨Bx, h1.calm hc, h2.calm hws hc, ⟨h3.1, h3.2.calm hc⟩, h4⟩) ?assign ?body ?done ?stop
  case assign =>
    intro y pre x W K hi hv hK
    obtain ⟨A2, n2, c2, hx2, _⟩ := hv.2.2
    have hbel : Below W.heap.size W (W.alloc (.cells #[.int .u16 (x.1.1.k : Int), .int .u8 (x.1.1.f : Int), x.1.2] 25)) := (Below.refl _ _).alloc (Nat.le_refl _) _
    have hla := hK _ _ hbel ⟨W.heap.size, Bk.new _ _ _, hi.calm hws (Calm.of_below hbel (by obtain ⟨_, _, _, _, _, _, _, _, h⟩ := hi; exact h)), ⟨hv.1, hv.2.next hbel⟩, rfl⟩
    rw [hx2] at hla
    have HLA := Lib.hid hla
    obtain ⟨⟨xt, xv⟩, xe⟩ := x
    simp only at hx2
    subst hx2
    clear hi hv hK hbel hla
    simp only [enc]
    gi_wp2
    exact HLA.out
  case body =>
    rintro y pre ⟨⟨xt, xv⟩, xe⟩ a₁ W hsize ⟨Bx, hx, ⟨A', n', c', ks, hV, hK, hnp, hpc, hhi⟩, hv, rfl⟩
    obtain ⟨A2, n2, c2, hx2, _⟩ := hv.2.2
    simp only at hx2
    subst hx2
    simp only at hx
    have hpre : 4 * pre.length ≤ n + 4 := by
      obtain ⟨t, ht⟩ := hv.1
      have h1 := HEL.out
      rw [ht, HL.out] at h1
      simp at h1
      omega
    by_cases he : xe = 0
    · subst he
      have d1 : ((0 : Int) != 0) = false := rfl
      have x0 := hx.cell 0
      have x1 := hx.cell 1
      have x2 := hx.cell 2
      simp at x0 x1 x2
      have hfit : xt.k ≤ 255 ∧ xt.v.length ≤ 65531 := by
        obtain ⟨t, ht⟩ := hv.1
        have h1 : (xt, (0 : Int)) ∈ ev true l := by rw [ht]; simp [pl]
        exact ev_fit HBY.out h1
      have hpx : ∀ t, pc ((pre ++ [((xt, Value.slice A2 n2 c2), (0 : Int))]).map pl ++ t) = jn (ks.map (·.1)) (if ends xt.k = true then ([], 0) else match take xt with
          | none => ([], 50)
          | some c => jn [c] (pc t)) := fun t => by
        rw [List.map_append, List.append_assoc, hpc]
        show jn _ (pc ((xt, 0) :: t)) = _
        rw [pc_cons]
        all_goals rfl
      have wk : IntKind.u8.wrap (xt.k : Int) = (xt.k : Int) := by rw [IntKind.wrap_u8]; omega
      have HEN := Lib.hid (ends_any xt.k W (by omega))
      have HV := Lib.hid hV
      have HK := Lib.hid hK
      have HPX := Lib.hid hpx
      have HQ := Lib.hid hv.2
      have HFIT := Lib.hid hfit
      clear hV hK hv hx hpx hpc hfit
      gi_wp2
      refine ⟨trivial, ?_⟩
      refine (CallsIn.inRound y (callsIn_wide.2 HEN.out)).mono ?_
      rintro e w6 ⟨rfl, rfl⟩
      cases hen : ends xt.k with
      | true =>
        have HPX2 : Hid (∀ t, pc ((pre ++ [((xt, Value.slice A2 n2 c2), (0 : Int))]).map pl ++ t) = (ks.map (·.1), 0)) := Lib.hid fun t => by rw [HPX.out, if_pos hen]; simp [jn]
        clear hen HPX wk HEN x0 x1 x2
        gi_wp2
        exact ⟨KeepsFrom.refl _ _, .inr ⟨rfl, A', n', c', ks, HV.out, HK.out, by simp; omega, HPX2.out, hhi⟩⟩
      | false =>
        have HPX2 : Hid (∀ t, pc ((pre ++ [((xt, Value.slice A2 n2 c2), (0 : Int))]).map pl ++ t) = jn (ks.map (·.1)) (match take xt with
          | none => ([], 50)
          | some c => jn [c] (pc t))) := Lib.hid fun t => by rw [HPX.out, if_neg (by rw [hen]; simp)]
        have CTK : Hid (Calls Try.prog 12 #[.agg #[.int .u16 (xt.k : Int), .int .u8 (xt.f : Int), .slice A2 n2 c2]] W fun e w' => ∃ s, e = .returned (.tuple #[.agg (cv ((take xt).getD zero) s), .int .i64 (terr (take xt))]) ∧ ChF W.heap.size w' ((take xt).getD zero) s ∧ Below W.heap.size W w') := Lib.hid (by
          obtain ⟨hok, A3, n3, c3, e3, _, ho3⟩ := HQ.out
          injection e3 with e3 e4 e5
          subst e3 e4 e5
          have hcap := owns_none ho3
          have hlen : xt.v.length = n2 := by have := ho3.1; simpa [bs] using this
          exact (ckTake_all xt A2 n2 c2 W hok hlen (by rw [← hlen]; exact HFIT.out.2) hcap.2.1 hcap.2.2 (row_of_owns ho3)).mono fun _ _ h => h.oneF)
        generalize take xt = tx at CTK HPX2
        clear hen HPX wk HEN
        gi_wp2
        refine ⟨trivial, ?_⟩
        refine (CallsIn.inRound y (callsIn_wide.2 CTK.out)).mono ?_
        rintro e w7 ⟨s, rfl, hcf, hb7⟩
        have hal : Below w7.heap.size w7 (w7.alloc (.cells (cv (tx.getD zero) s) 32)) := (Below.refl _ _).alloc (Nat.le_refl _) _
        have HV8 := Lib.hid ((HV.out.next hb7).next hal)
        have HK8 := Lib.hid ((HK.out.next hb7).next hal)
        have HCF := Lib.hid ((hcf.next hal).lower hhi)
        have HC7 : Hid (Bk (w7.alloc (.cells (cv (tx.getD zero) s) 32)) w7.heap.size (cv (tx.getD zero) s) 32) := Lib.hid (Bk.new _ _ _)
        have HKO := Lib.hid ((others_below hb7).trans (others_below hal))
        have HKE : Hid (Kept (w.heap.size + 1 + 1 + 1) w1.heap.size W (w7.alloc (.cells (cv (tx.getD zero) s) 32))) := Lib.hid (Kept.of_below (bnext' (hb7.mono (Nat.le_refl _)) hal) hhi)
        have hhi8 : w1.heap.size ≤ (w7.alloc (.cells (cv (tx.getD zero) s) 32)).heap.size := Nat.le_trans hhi (Nat.le_trans hb7.size hal.size)
        have hst := store_new (tx.getD zero) s w7
        clear hcf hb7 hal x0 x1 x2 CTK HV HK
        cases tx with
        | none =>
          have HPX3 : Hid (∀ t, pc ((pre ++ [((xt, Value.slice A2 n2 c2), (0 : Int))]).map pl ++ t) = ([], 50)) := Lib.hid fun t => by rw [HPX2.out]; rfl
          have HV8 : Hid (V3 w 0 A' n' c' (w7.alloc (.cells (cv zero s) 32))) := HV8
          have HKO : Hid (KeepsOthers W (w7.alloc (.cells (cv zero s) 32))) := HKO
          have hst : (storeCells ⟨w7.heap.size, 0, none⟩ (cv zero s).toList 0).run Try.prog (w7.alloc (.cells zlit 32)) = .ok () (w7.alloc (.cells (cv zero s) 32)) := hst
          have HFI := Lib.hid (fin3 50 HV8.out)
          have r4 := HV8.out.1.cell 0
          have r5 := HV8.out.2.1.cell 0
          simp at r4 r5
          have f4 := HV8.out.1.frozen 0
          have f5 := HV8.out.2.1.frozen 0
          have e50 : terr none = 50 := rfl
          rw [e50]
          clear e50 HPX2
          gi_wp2
          exact ⟨(HKO.out.trans HFI.out.2).from _, .inl ⟨rfl, 50, _, _, _, by decide, HPX3.out, HFI.out.1⟩⟩
        | some q =>
          have HPX3 : Hid (∀ t, pc ((pre ++ [((xt, Value.slice A2 n2 c2), (0 : Int))]).map pl ++ t) = jn ((ks ++ [(q, s)]).map (·.1)) (pc t)) := Lib.hid fun t => by rw [HPX2.out]; simp only; rw [jn_jn]; simp
          have e50 : terr (some q) = 0 := rfl
          rw [e50]
          clear e50 HPX2
          have HC7 : Hid (Bk (w7.alloc (.cells (cv q s) 32)) w7.heap.size (cv q s) 32) := HC7
          have HCF : Hid (ChF w1.heap.size (w7.alloc (.cells (cv q s) 32)) q s) := HCF
          have HV8 : Hid (V3 w 0 A' n' c' (w7.alloc (.cells (cv q s) 32))) := HV8
          have HK8 : Hid (Ko w1.heap.size A' n' c' ks (w7.alloc (.cells (cv q s) 32))) := HK8
          have HKO : Hid (KeepsOthers W (w7.alloc (.cells (cv q s) 32))) := HKO
          have HKE : Hid (Kept (w.heap.size + 1 + 1 + 1) w1.heap.size W (w7.alloc (.cells (cv q s) 32))) := HKE
          have hhi8 : w1.heap.size ≤ (w7.alloc (.cells (cv q s) 32)).heap.size := hhi8
          have hst : (storeCells ⟨w7.heap.size, 0, none⟩ (cv q s).toList 0).run Try.prog (w7.alloc (.cells zlit 32)) = .ok () (w7.alloc (.cells (cv q s) 32)) := hst
          have r6 := HV8.out.2.2.1.cell 0
          simp at r6
          gi_wp2_with (refine wpListIn_load_row rfl 32 (.tmp 7) rfl w7.heap.size rfl 32 (cv q s) (0, 0) _ HC7.out Try.underlying32 rfl (HCI.out _ _) ?_; refine Hid.out ?_)
          refine Lib.hid ?_
          clear hst r6
          generalize hW8 : w7.alloc (.cells (cv q s) 32) = w8 at HC7 HCF HV8 HK8 HKO HKE hhi8 ⊢
          clear hW8
          generalize w7.heap.size = g7 at HC7 ⊢
          refine wpListIn_buildSlice rfl 50 32 1 #[(0, .tmp 29)] rfl (cv q s) iC _ Try.underlying50 HI0.out HI1.out (by rw [HI2.out]; decide) (by rw [HI2.out]; decide) (by simp only [List.map_toArray, List.map_cons, List.map_nil]; exact fill_chunk q s iC (.agg zlit) HI2.out) ?_
          have hal : Below w8.heap.size w8 (w8.alloc (.cells (cv q s) 32)) := (Below.refl _ _).alloc (Nat.le_refl _) _
          have HV9 := Lib.hid (HV8.out.next hal)
          have HK9 := Lib.hid (HK8.out.next hal)
          have HCF9 := Lib.hid (HCF.out.next hal)
          have hhi9 : w1.heap.size ≤ (w8.alloc (.cells (cv q s) 32)).heap.size := Nat.le_trans hhi8 hal.size
          have hnew : Row (w8.alloc (.cells (cv q s) 32)) (some ⟨w8.heap.size, 0, none⟩) (cv q s).toList := (Bk.new w8 (cv q s) 32).row
          refine wpListIn_append_own _ rfl (.tmp 28) (.tmp 30) 50 rfl w1.heap.size 32 iC _ 15 152 Try.underlying50 HI0.out HI1.out HI2.out HI3.out rfl (by decide) (.slice A' n' c') n' (kcs ks) rfl HK9.out.1 ⟨w8.heap.size, 0, none⟩ 1 1 (cv q s).toList rfl rfl (bcells hnew) (cv_cell q s) (by unfold maxLen; omega) (by omega) hhi9 ?_
          intro v' w10 hown10 hgrow10 _
          obtain ⟨A10, c10, rfl⟩ := own_form hown10
          have hK10 := HK9.out.snoc (q := (q, s)) HCF9.out hown10 hgrow10
          have h4 := HV9.out.1.grown HK9.out.1 (by decide) hgrow10
          have h5 := HV9.out.2.1.grown HK9.out.1 (by decide) hgrow10
          have h6 := HV9.out.2.2.1.grown HK9.out.1 (by decide) hgrow10
          have hbl : Below w.heap.size w w10 := HV9.out.2.2.2.grown hgrow10 HV9.out.2.2.2.size (fun j e => by have := (HK9.out.1.lt _ e).1; omega)
          have hko : KeepsOthers W (w10.setCell ⟨w.heap.size + 1 + 1, 0, none⟩ (.slice A10 (n' + 1) c10)) := (((HKO.out.trans (others_below hal)).trans (KeepsOthers.of_grownBy hgrow10 (row_cells HK9.out.1))).trans (KeepsOthers.setCell _ _ _))
          have hke : Kept (w.heap.size + 1 + 1 + 1) w1.heap.size W (w10.setCell ⟨w.heap.size + 1 + 1, 0, none⟩ (.slice A10 (n' + 1) c10)) := ((HKE.out.trans (Kept.of_below hal hhi8)).trans (Kept.of_grown hgrow10 hhi9 (fun j e => .inr (HK9.out.1.lt _ e).1))).trans (Kept.of_set _ (.inl (by show w.heap.size + 1 + 1 < _; omega)))
          have hq : Qc w w1.heap.size (pre ++ [((xt, Value.slice A2 n2 c2), (0 : Int))]) (w10.setCell ⟨w.heap.size + 1 + 1, 0, none⟩ (.slice A10 (n' + 1) c10)) := by
            have e6 := h6.set 0 (.slice A10 (n' + 1) c10)
            simp at e6
            exact ⟨A10, n' + 1, c10, ks ++ [(q, s)], ⟨h4.other (by omega) 0 _, h5.other (by omega) 0 _, e6, hbl.setCell (p := ⟨w.heap.size + 1 + 1, 0, none⟩) (by simp; omega) _⟩, hK10.set h6 nty_chunks (by decide), by simp; omega, HPX3.out, by simp [World.setCell]; exact Nat.le_trans hhi9 hgrow10.size⟩
          have HFIN := Lib.hid (show KeepsFrom w1.heap.size W _ ∧ _ ∧ _ from ⟨hko.from _, hke, hq⟩)
          have r6 := h6.cell 0
          have f6 := h6.frozen 0
          simp at r6
          clear hown10 hgrow10 hK10 h4 h5 h6 hbl hko hke hq hal hnew HV8 HK8 HCF HC7 HKO HKE HV9 HK9 HCF9
          gi_wp2
          exact HFIN.out

    · have d1 : (xe != 0) = true := by simpa using he
      have r4 := hV.1.cell 0
      have r5 := hV.2.1.cell 0
      simp at r4 r5
      have f4 := hV.1.frozen 0
      have f5 := hV.2.1.frozen 0
      have HFI := Lib.hid (fin3 xe hV)
      have HPX : Hid (∀ t, pc ((pre ++ [((xt, Value.slice A2 n2 c2), xe)]).map pl ++ t) = ([], xe)) := Lib.hid fun t => by
        rw [List.map_append]
        exact pc_err0 _ _ _ he _ hpc t
      have HE := Lib.hid he
      clear he hV hK hv hx hpc
      gi_wp2
      exact ⟨HFI.out.2.from _, .inl ⟨rfl, xe, _, _, _, HE.out, HPX.out, HFI.out.1⟩⟩
  case done =>
    rintro D xs W hD hS ⟨A', n', c', ks, hV, hK, hnp, hpc, hhi⟩ hKD
    have hpx : pc (ev true l) = (ks.map (·.1), 0) := by
      have := hpc []
      rw [List.append_nil, hS] at this
      rw [this]
      simp [pc, jn]
    have hn9 : n' ≤ 100000 := by
      have h1 := HEL.out
      rw [← hS, HL.out] at h1
      simp at h1
      omega
    have r4 := hV.1.cell 0
    have r5 := hV.2.1.cell 0
    have r6 := hV.2.2.1.cell 0
    simp at r4 r5 r6
    have f4 := hV.1.frozen 0
    have f5 := hV.2.1.frozen 0
    have hfin : Hid (∀ W9, W9 = ((W.setCell ⟨w.heap.size, 0, none⟩ (.slice A' n' c')).setCell ⟨w.heap.size + 1, 0, none⟩ (.int .i64 0)) → (W9.heap[D]? = some (.deferred (some [])) ∧ Bk (W9.putObj D (.deferred none)) w.heap.size #[.slice A' n' c'] 50 ∧ Bk (W9.putObj D (.deferred none)) (w.heap.size + 1) #[.int .i64 0] 33 ∧ Ko w1.heap.size A' n' c' ks (W9.putObj D (.deferred none)) ∧ Below w.heap.size w (W9.putObj D (.deferred none)))) := Lib.hid fun W9 e => by
      subst e
      obtain ⟨h4, h5, h6, hB⟩ := hV
      have e4 := h4.set 0 (.slice A' n' c')
      have e5 := (h5.other (c := w.heap.size) (by omega) 0 (.slice A' n' c')).set 0 (.int .i64 0)
      simp at e4 e5
      have hK' := ((KeepsOthers.setCell W ⟨w.heap.size, 0, none⟩ (.slice A' n' c')).trans (KeepsOthers.setCell _ ⟨w.heap.size + 1, 0, none⟩ (.int .i64 0))).same D _ hKD rfl
      have hcalm : Calm w.heap.size ((W.setCell ⟨w.heap.size, 0, none⟩ (.slice A' n' c')).setCell ⟨w.heap.size + 1, 0, none⟩ (.int .i64 0)) _ := Calm.of_put (.deferred none) hK' rfl (by omega)
      refine ⟨hK', (e4.other (by omega) 0 _).calm hcalm, e5.calm hcalm, ?_, ?_⟩
      · exact ((hK.set h4 nty_chunks (by decide)).set (h5.other (by omega) 0 _) nty_errno (by decide)).calm hcalm
      · exact ((hB.setCell (p := ⟨w.heap.size, 0, none⟩) (Nat.le_refl _) _).setCell (p := ⟨w.heap.size + 1, 0, none⟩) (by simp) _).trans hcalm.1
    have HPX := Lib.hid hpx
    clear hV hK hpc hS hpx hKD
    go_wp2_with fail
    obtain ⟨k1, k2, k3, k4, k5⟩ := hfin.out _ rfl
    have g0 := k2.cell 0
    have g1 := k3.cell 0
    simp only [List.getElem?_toArray, List.getElem?_cons_zero] at g0 g1
    generalize World.setCell (World.setCell W _ _) _ _ = W9 at k1 k2 k3 k4 k5 g0 g1 ⊢
    refine ⟨by simp, .inl ⟨_, _, rfl, run_takeDeferred k1, ?_⟩⟩
    refine ⟨.tuple #[.slice A' n' c', .int .i64 0], by simp [results, Try.results55, go_sem, g0, g1], A', n', c', ks, by rw [HPX.out], by rw [HPX.out], ⟨own_base k4.1 hws, fun k hk => (k4.2 k hk).lower hws⟩, hn9, k5⟩
  case stop =>
    rintro D c pre W hD ⟨t, ht⟩ hP hKD
    rcases hP with ⟨rfl, z, A', n', c', hz, hpc, hV⟩ | ⟨rfl, A', n', c', ks, hV, hK, hnp, hpc, hhi⟩
    · have hpx : pc (ev true l) = ([], z) := by rw [ht]; exact hpc t
      have hcalm : Calm w.heap.size W _ := Calm.of_put (.deferred none) hKD rfl (by omega)
      have g0 := (hV.1.calm hcalm).cell 0
      have g1 := (hV.2.1.calm hcalm).cell 0
      simp only [List.getElem?_toArray, List.getElem?_cons_zero] at g0 g1
      have HB := Lib.hid (hV.2.2.2.trans hcalm.1)
      have HPX := Lib.hid hpx
      have HK := Lib.hid hKD
      clear hV hcalm ht hz hpc hpx hKD
      gi_wp2
      refine ⟨by simp, .inl ⟨_, _, rfl, run_takeDeferred HK.out, ?_⟩⟩
      refine ⟨.tuple #[.slice none 0 0, .int .i64 z], by simp [results, Try.results55, go_sem, g0, g1], none, 0, 0, [], by rw [HPX.out], by rw [HPX.out]; rfl, Ko.nil _ _, by omega, HB.out⟩
    · have hpx : pc (ev true l) = (ks.map (·.1), 0) := by rw [ht]; exact hpc t
      have hn9 : n' ≤ 100000 := by
        have h1 := HEL.out
        rw [ht, HL.out] at h1
        simp at h1
        omega
      have r4 := hV.1.cell 0
      have r5 := hV.2.1.cell 0
      have r6 := hV.2.2.1.cell 0
      simp at r4 r5 r6
      have f4 := hV.1.frozen 0
      have f5 := hV.2.1.frozen 0
      have hfin : Hid (∀ W9, W9 = ((W.setCell ⟨w.heap.size, 0, none⟩ (.slice A' n' c')).setCell ⟨w.heap.size + 1, 0, none⟩ (.int .i64 0)) → (W9.heap[D]? = some (.deferred (some [])) ∧ Bk (W9.putObj D (.deferred none)) w.heap.size #[.slice A' n' c'] 50 ∧ Bk (W9.putObj D (.deferred none)) (w.heap.size + 1) #[.int .i64 0] 33 ∧ Ko w1.heap.size A' n' c' ks (W9.putObj D (.deferred none)) ∧ Below w.heap.size w (W9.putObj D (.deferred none)))) := Lib.hid fun W9 e => by
        subst e
        obtain ⟨h4, h5, h6, hB⟩ := hV
        have e4 := h4.set 0 (.slice A' n' c')
        have e5 := (h5.other (c := w.heap.size) (by omega) 0 (.slice A' n' c')).set 0 (.int .i64 0)
        simp at e4 e5
        have hK' := ((KeepsOthers.setCell W ⟨w.heap.size, 0, none⟩ (.slice A' n' c')).trans (KeepsOthers.setCell _ ⟨w.heap.size + 1, 0, none⟩ (.int .i64 0))).same D _ hKD rfl
        have hcalm : Calm w.heap.size ((W.setCell ⟨w.heap.size, 0, none⟩ (.slice A' n' c')).setCell ⟨w.heap.size + 1, 0, none⟩ (.int .i64 0)) _ := Calm.of_put (.deferred none) hK' rfl (by omega)
        refine ⟨hK', (e4.other (by omega) 0 _).calm hcalm, e5.calm hcalm, ?_, ?_⟩
        · exact ((hK.set h4 nty_chunks (by decide)).set (h5.other (by omega) 0 _) nty_errno (by decide)).calm hcalm
        · exact ((hB.setCell (p := ⟨w.heap.size, 0, none⟩) (Nat.le_refl _) _).setCell (p := ⟨w.heap.size + 1, 0, none⟩) (by simp) _).trans hcalm.1
      have HPX := Lib.hid hpx
      clear hV hK hpc ht hpx hKD
      gi_wp2
      go_wp2_with fail
      obtain ⟨k1, k2, k3, k4, k5⟩ := hfin.out _ rfl
      have g0 := k2.cell 0
      have g1 := k3.cell 0
      simp only [List.getElem?_toArray, List.getElem?_cons_zero] at g0 g1
      generalize World.setCell (World.setCell W _ _) _ _ = W9 at k1 k2 k3 k4 k5 g0 g1 ⊢
      refine ⟨by simp, .inl ⟨_, _, rfl, run_takeDeferred k1, ?_⟩⟩
      refine ⟨.tuple #[.slice A' n' c', .int .i64 0], by simp [results, Try.results55, go_sem, g0, g1], A', n', c', ks, by rw [HPX.out], by rw [HPX.out], ⟨own_base k4.1 hws, fun k hk => (k4.2 k hk).lower hws⟩, hn9, k5⟩
end Go.Proofs.Ytbliipjiilmbcaa
/-
  The document's Same of two packets of the same chunks.
-/
namespace Go.Proofs.Ytbliipjiilmbcaa
open Go.RowKit Wire Tlv Chunk Pkt

/-- The blocks of two packets. -/
def P2 (w : World) (p q : Array Value) (W : World) : Prop := Bk W w.heap.size p 52 ∧ Bk W (w.heap.size + 1) q 52 ∧ Below w.heap.size w W
theorem P2.new (w : World) (p q : Array Value) : P2 w p q ((w.alloc (.cells p 52)).alloc (.cells q 52)) := by
  refine ⟨(Bk.new w p _).alloc _, ?_, ((Below.refl _ _).alloc (Nat.le_refl _) _).alloc (by simp) _⟩
  have := Bk.new (w.alloc (.cells p 52)) q 52
  rw [World.size_alloc] at this
  exact this
theorem P2.next {w W W' : World} {p q : Array Value} (h : P2 w p q W) (hb : Below W.heap.size W W') : P2 w p q W' := ⟨h.1.next hb, h.2.1.next hb, bnext' h.2.2 hb⟩
set_option maxRecDepth 100000 in
set_option maxHeartbeats 4000000 in
theorem pSame_any (f t g : Nat) (ks ks2 : List Cq) (A A2 : Option Addr) (n c c2 : Nat) (w : World) (h : Rk w A ks) (h2 : Rk w A2 ks2) (hl : ks.length = n) (he : ks.map (·.1) = ks2.map (·.1)) (hn : n ≤ 1000000000) :
    Calls Try.prog 28 #[.agg (pkl f t g A n c), .agg (pkl f t g A2 n c2)] w fun e w' => e = .returned (.bool true) ∧ Below w.heap.size w w' := by
  have HB : Hid (P2 w (pkl f t g A n c) (pkl f t g A2 n c2) _) := Lib.hid (P2.new w (pkl f t g A n c) (pkl f t g A2 n c2))
  have HH := Lib.hid h
  have HH2 := Lib.hid h2
  have HL := Lib.hid hl
  have HE := Lib.hid he
  have HL2 : Hid (ks2.length = n) := Lib.hid (by have := congrArg List.length he; simp at this; omega)
  have HCI : Hid (∀ c : Ck, ∀ s : Ls, (Try.prog.info? 32).map (·.size) = some (cv c s).size) := Lib.hid cv_info
  clear h h2 hl he
  go_enter Try.func28, Try.ntmps28
  go_upto_region 1 with fail
  generalize World.alloc (World.alloc w _) _ = W1 at HB ⊢
  obtain ⟨h0, h1⟩ := mem_head HB.out.1
  obtain ⟨h2, h3⟩ := mem_cell HB.out.1
  obtain ⟨j0, j1⟩ := mem_head HB.out.2.1
  obtain ⟨j2, j3⟩ := mem_cell HB.out.2.1
  go_wp2_with fail
  clear h0 h1 h2 h3 j0 j1 j2 j3
  go_loopw [5] (fun i wr => ∃ k : Nat, k ≤ n ∧ i = .int .i64 (k : Int) ∧ Hid (P2 w (pkl f t g A n c) (pkl f t g A2 n c2) wr)) (fun i _ => n - (intOf i).toNat)
  case atStart => exact ⟨0, by omega, rfl, HB⟩
  case round =>
    clear HB
    obtain ⟨k, hk, rfl, HP⟩ := hrel
    obtain ⟨_, h3⟩ := mem_cell HP.out.1
    by_cases hlt : k < n
    · have hkl : k < ks.length := by rw [HL.out]; exact hlt
      have hkl2 : k < ks2.length := by rw [HL2.out]; exact hlt
      have HBd := Lib.hid (HP.out.next (Below.refl _ _).drew)
      obtain ⟨a, rfl, hc, hch⟩ := (HH.out.next HBd.out.2.2).at hkl
      obtain ⟨a2, rfl, hc2, hch2⟩ := (HH2.out.next HBd.out.2.2).at hkl2
      have hee : ks[k].1 = ks2[k].1 := by
        have h1 := congrArg (fun l => l[k]?) HE.out
        simp only [List.getElem?_map, List.getElem?_eq_getElem hkl, List.getElem?_eq_getElem hkl2, Option.map_some] at h1
        exact Option.some.inj h1
      have HC := Lib.hid hc
      have HC2 := Lib.hid hc2
      have HCH := Lib.hid hch
      have HCH2 := Lib.hid hch2
      generalize ks[k] = q at HC HCH hee
      generalize ks2[k] = q2 at HC2 HCH2 hee
      obtain ⟨qc, qs⟩ := q
      obtain ⟨qc2, qs2⟩ := q2
      simp only at hee
      subst hee
      have HSM := Lib.hid (ckSame_any qc qs qs2 wr.drew HCH.out HCH2.out)
      have s1 : wr.drew.cell? ⟨w.heap.size, 3, none⟩ = some (.slice (some a) n c) := (mem_cell HBd.out.1).2
      have s2 : wr.drew.cell? ⟨w.heap.size + 1, 3, none⟩ = some (.slice (some a2) n c2) := (mem_cell HBd.out.2.1).2
      clear hc hc2 hch hch2 HCH HCH2
      go_upto_region 6 with fail
      clear h3
      refine wp_region_held_drew (S := (fun W => W.cell? ⟨w.heap.size, 3, none⟩ = some (.slice (some a) n c) ∧ W.cell? ⟨w.heap.size + 1, 3, none⟩ = some (.slice (some a2) n c2))) (by kernel_rfl) (⟨s1, s2⟩) (fun hHeld => ?_)
      refine wpAnyH_take (i := 0) (v := ?_) rfl (by kernel_rfl) (by kernel_rfl) (by kernel_rfl) (fun _ _ _ h => h) (Or.inl ⟨by rfl, ?_⟩) (by first | assumption | trivial) ?_
      rotate_left 1
      · (intro w9 hSw; obtain ⟨s1, s2⟩ := hSw; go_simp; try (with_reducible rfl))
      try simp only [Act.put, List.setIfInBounds_toArray, List.set_cons_zero, List.set_cons_succ, List.getElem_toArray, List.getElem_cons_zero, List.getElem_cons_succ]
      refine wpAnyH_take (i := 1) (v := ?_) rfl (by kernel_rfl) (by kernel_rfl) (by kernel_rfl) (fun _ _ _ h => h) (Or.inl ⟨by rfl, ?_⟩) (by first | assumption | trivial) ?_
      rotate_left 1
      · (intro w9 hSw; obtain ⟨s1, s2⟩ := hSw; go_simp; try (with_reducible rfl))
      try simp only [Act.put, List.setIfInBounds_toArray, List.set_cons_zero, List.set_cons_succ, List.getElem_toArray, List.getElem_cons_zero, List.getElem_cons_succ]
      refine wpAnyH_take (i := 2) (v := ?_) rfl (by kernel_rfl) (by kernel_rfl) (by kernel_rfl) (fun _ _ _ h => h) (Or.inl ⟨by rfl, ?_⟩) (by first | assumption | trivial) ?_
      rotate_left 1
      · (intro w9 hSw; obtain ⟨s1, s2⟩ := hSw; go_simp; try (with_reducible rfl))
      try simp only [Act.put, List.setIfInBounds_toArray, List.set_cons_zero, List.set_cons_succ, List.getElem_toArray, List.getElem_cons_zero, List.getElem_cons_succ]
      refine wpAnyH_take (i := 3) (v := ?_) rfl (by kernel_rfl) (by kernel_rfl) (by kernel_rfl) (fun _ _ _ h => h) (Or.inl ⟨by rfl, ?_⟩) (by first | assumption | trivial) ?_
      rotate_left 1
      · (intro w9 hSw; obtain ⟨s1, s2⟩ := hSw; go_simp; try (with_reducible rfl))
      try simp only [Act.put, List.setIfInBounds_toArray, List.set_cons_zero, List.set_cons_succ, List.getElem_toArray, List.getElem_cons_zero, List.getElem_cons_succ]
      refine wpAnyH_take (i := 5) (v := ?_) rfl (by kernel_rfl) (by kernel_rfl) (by kernel_rfl) (fun _ _ _ h => h) (Or.inl ⟨by rfl, ?_⟩) (by first | assumption | trivial) ?_
      rotate_left 1
      · (intro w9 hSw; obtain ⟨s1, s2⟩ := hSw; go_simp; try (with_reducible rfl))
      try simp only [Act.put, List.setIfInBounds_toArray, List.set_cons_zero, List.set_cons_succ, List.getElem_toArray, List.getElem_cons_zero, List.getElem_cons_succ]
      refine wpAnyH_take (i := 6) (v := ?_) rfl (by kernel_rfl) (by kernel_rfl) (by kernel_rfl) (fun _ _ _ h => h) (Or.inl ⟨by rfl, ?_⟩) (by first | assumption | trivial) ?_
      rotate_left 1
      · (intro w9 hSw; obtain ⟨s1, s2⟩ := hSw; go_simp; try (with_reducible rfl))
      try simp only [Act.put, List.setIfInBounds_toArray, List.set_cons_zero, List.set_cons_succ, List.getElem_toArray, List.getElem_cons_zero, List.getElem_cons_succ]
      refine wpAnyH_take (i := 7) (v := ?_) rfl (by kernel_rfl) (by kernel_rfl) (by kernel_rfl) (fun _ _ _ h => h) (Or.inl ⟨by rfl, ?_⟩) (by first | assumption | trivial) ?_
      rotate_left 1
      · (intro w9 hSw; obtain ⟨s1, s2⟩ := hSw; go_simp; try (with_reducible rfl))
      try simp only [Act.put, List.setIfInBounds_toArray, List.set_cons_zero, List.set_cons_succ, List.getElem_toArray, List.getElem_cons_zero, List.getElem_cons_succ]
      refine wpAnyH_take (i := 8) (v := ?_) rfl (by kernel_rfl) (by kernel_rfl) (by kernel_rfl) (fun _ _ _ h => h) (Or.inl ⟨by rfl, ?_⟩) (by first | assumption | trivial) ?_
      rotate_left 1
      · (intro w9 hSw; obtain ⟨s1, s2⟩ := hSw; go_simp; try (with_reducible rfl))
      try simp only [Act.put, List.setIfInBounds_toArray, List.set_cons_zero, List.set_cons_succ, List.getElem_toArray, List.getElem_cons_zero, List.getElem_cons_succ]
      refine wpAnyH_ready (rs := [4, 9]) (by kernel_rfl) (by simp) ?_
      refine AllReadyH.cons rfl (fun K hK => ?_) (AllReadyH.cons rfl (fun K hK => ?_) AllReadyH.nil)
      · refine wp_load_at 32 (.tmp 30) rfl (a.add (k * 15)) rfl (cv qc qs) _ HC.out Try.underlying32 rfl (HCI.out _ _) ?_
        refine hK.out _ _ (hHeld) (fun hHeld => ?_)
        clear hK K
        try simp only [Act.put, List.setIfInBounds_toArray, List.set_cons_zero, List.set_cons_succ, List.getElem_toArray, List.getElem_cons_zero, List.getElem_cons_succ]
        refine wpAnyH_ready (rs := [9]) (by kernel_rfl) (by simp) ?_
        refine AllReadyH.cons rfl (fun K hK => ?_) AllReadyH.nil
        refine wp_load_at 32 (.tmp 35) rfl (a2.add (k * 15)) rfl (cv qc qs2) _ HC2.out Try.underlying32 rfl (HCI.out _ _) ?_
        refine hK.out _ _ (hHeld) (fun hHeld => ?_)
        clear hK K
        try simp only [Act.put, List.setIfInBounds_toArray, List.set_cons_zero, List.set_cons_succ, List.getElem_toArray, List.getElem_cons_zero, List.getElem_cons_succ]
        refine wpAnyH_ready (rs := [10]) (by kernel_rfl) (by simp) ?_
        refine AllReadyH.cons rfl (fun K hK => ?_) AllReadyH.nil
        go_simp
        go_at_call 14
        (with_reducible refine HSM.out.mono ?_)
        rintro e9 W9 ⟨rfl, hb9⟩
        have HB9 := Lib.hid (HBd.out.next hb9)
        have hS9 : (fun W => W.cell? ⟨w.heap.size, 3, none⟩ = some (.slice (some a) n c) ∧ W.cell? ⟨w.heap.size + 1, 3, none⟩ = some (.slice (some a2) n c2)) W9 := ⟨(mem_cell HB9.out.1).2, (mem_cell HB9.out.2.1).2⟩
        clear hb9
        refine hK.out _ _ (hS9) (fun hHeld => ?_)
        clear hK K
        try simp only [Act.put, List.setIfInBounds_toArray, List.set_cons_zero, List.set_cons_succ, List.getElem_toArray, List.getElem_cons_zero, List.getElem_cons_succ]
        refine wpAnyH_take (i := 11) (v := ?_) rfl (by kernel_rfl) (by kernel_rfl) (by kernel_rfl) (fun _ _ _ h => h) (Or.inl ⟨by rfl, ?_⟩) (by first | assumption | trivial) ?_
        rotate_left 1
        · (intro w9 hSw; obtain ⟨s1, s2⟩ := hSw; go_simp; try (with_reducible rfl))
        try simp only [Act.put, List.setIfInBounds_toArray, List.set_cons_zero, List.set_cons_succ, List.getElem_toArray, List.getElem_cons_zero, List.getElem_cons_succ]
        refine wpAnyH_done (by kernel_rfl) ?_ _
        clear s1 s2 hHeld hS9
        go_wp2_with fail
        go_roundw
        case rel => exact ⟨k + 1, by omega, by go_num, HB9⟩
        case measure => simp [intOf]; omega
      · refine wp_load_at 32 (.tmp 35) rfl (a2.add (k * 15)) rfl (cv qc qs2) _ HC2.out Try.underlying32 rfl (HCI.out _ _) ?_
        refine hK.out _ _ (hHeld) (fun hHeld => ?_)
        clear hK K
        try simp only [Act.put, List.setIfInBounds_toArray, List.set_cons_zero, List.set_cons_succ, List.getElem_toArray, List.getElem_cons_zero, List.getElem_cons_succ]
        refine wpAnyH_ready (rs := [4]) (by kernel_rfl) (by simp) ?_
        refine AllReadyH.cons rfl (fun K hK => ?_) AllReadyH.nil
        refine wp_load_at 32 (.tmp 30) rfl (a.add (k * 15)) rfl (cv qc qs) _ HC.out Try.underlying32 rfl (HCI.out _ _) ?_
        refine hK.out _ _ (hHeld) (fun hHeld => ?_)
        clear hK K
        try simp only [Act.put, List.setIfInBounds_toArray, List.set_cons_zero, List.set_cons_succ, List.getElem_toArray, List.getElem_cons_zero, List.getElem_cons_succ]
        refine wpAnyH_ready (rs := [10]) (by kernel_rfl) (by simp) ?_
        refine AllReadyH.cons rfl (fun K hK => ?_) AllReadyH.nil
        go_simp
        go_at_call 14
        (with_reducible refine HSM.out.mono ?_)
        rintro e9 W9 ⟨rfl, hb9⟩
        have HB9 := Lib.hid (HBd.out.next hb9)
        have hS9 : (fun W => W.cell? ⟨w.heap.size, 3, none⟩ = some (.slice (some a) n c) ∧ W.cell? ⟨w.heap.size + 1, 3, none⟩ = some (.slice (some a2) n c2)) W9 := ⟨(mem_cell HB9.out.1).2, (mem_cell HB9.out.2.1).2⟩
        clear hb9
        refine hK.out _ _ (hS9) (fun hHeld => ?_)
        clear hK K
        try simp only [Act.put, List.setIfInBounds_toArray, List.set_cons_zero, List.set_cons_succ, List.getElem_toArray, List.getElem_cons_zero, List.getElem_cons_succ]
        refine wpAnyH_take (i := 11) (v := ?_) rfl (by kernel_rfl) (by kernel_rfl) (by kernel_rfl) (fun _ _ _ h => h) (Or.inl ⟨by rfl, ?_⟩) (by first | assumption | trivial) ?_
        rotate_left 1
        · (intro w9 hSw; obtain ⟨s1, s2⟩ := hSw; go_simp; try (with_reducible rfl))
        try simp only [Act.put, List.setIfInBounds_toArray, List.set_cons_zero, List.set_cons_succ, List.getElem_toArray, List.getElem_cons_zero, List.getElem_cons_succ]
        refine wpAnyH_done (by kernel_rfl) ?_ _
        clear s1 s2 hHeld hS9
        go_wp2_with fail
        go_roundw
        case rel => exact ⟨k + 1, by omega, by go_num, HB9⟩
        case measure => simp [intOf]; omega
    · go_wp2_with fail
      go_ret
      exact ⟨rfl, HP.out.2.2⟩
end Go.Proofs.Ytbliipjiilmbcaa
