/-
  FragBack's three rows in memory.
-/
import Derived.Test.YthgbngnhlgaioaaFgSents
import Derived.Test.YthgbngnhlgaioaaFgTold
namespace Go.Proofs.Ythgbngnhlgaioaa
set_option maxRecDepth 4000
open Go.RowKit Go.Maps
open Fg
set_option linter.unusedVariables false
set_option linter.unusedSimpArgs false

theorem infoI : (Try.prog.info? 3).map (fun i => (i.zero, i.size, i.bytes)) = some (some (.int .i64 0), 1, 8) := by kernel_rfl
/-- A row of ints of the call's own. -/
def Nr (B : Nat) (w : World) (v : Value) (l : List Nat) : Prop := w.ownsRow B 3 1 v l.length (ns .i64 l)
theorem nr_app {w : World} {ops : Array Oper} {rest : List Oper} {o : Oper} {a : Act} {Q : Exit → Act → World → Prop} (hgd : o.guard = none) (s x : Operand)
    (ho : o.op = .call { callee := .builtin .append, args := #[s, x], argTypes := #[27, 27] }) (B : Nat) (v : Value) (l : List Nat) (hs : a.eval s = v) (hown : Nr B w v l) (y : Nat)
    (b cap : Nat) (t : TypeId) (hx : a.eval x = .slice (some ⟨b, 0, none⟩) 1 cap) (hb : Bk w b #[.int .i64 (y : Int)] t) (hlen : l.length ≤ 2000000) (hB : B ≤ w.heap.size)
    (h : ∀ g c w', Nr B w' (.slice (some ⟨g, 0, none⟩) (l.length + 1) c) (l ++ [y]) → w.grownBy w' v.ownBlock → (v.ownBlock = some g ∨ g = w.heap.size) → wpList Try.prog ops Q rest (a.put o.dst (.slice (some ⟨g, 0, none⟩) (l.length + 1) c)) w') :
    wpList Try.prog ops Q (o :: rest) a w := by
  obtain ⟨i0, hi0, hz0, hz1, hz2⟩ := info_parts infoI
  refine wpList_append_lies w hgd s x 27 ho B 3 i0 (.int .i64 0) 1 8 Try.underlying27 hi0 hz0 hz1 hz2 rfl (by omega) v l.length (ns .i64 l) hs hown ⟨b, 0, none⟩ 1 cap (ns .i64 [y]) hx rfl ?_ (ns_one _ _) (by omega) (by unfold maxLen; omega) (by omega) hB _ rfl ?_
  · intro j u hj
    have := World.news_of_block (w := w) hb j u
    simpa [ns] using this (by simpa [ns] using hj)
  · intro g c w' ho2 hg2 hat hlt
    refine h g c w' ?_ hg2 hat
    show w'.ownsRow B 3 1 _ (l ++ [y]).length (ns .i64 (l ++ [y]))
    rw [← ns_app, List.length_append]
    exact ho2
theorem ps_app {w : World} {ops : Array Oper} {rest : List Oper} {o : Oper} {a : Act} {Q : Exit → Act → World → Prop} (hgd : o.guard = none) (s x : Operand)
    (ho : o.op = .call { callee := .builtin .append, args := #[s, x], argTypes := #[26, 26] }) (B : Nat) (v : Value) (qs : List Pq) (hs : a.eval s = v) (hown : Ps B w v qs) (q : Pq) (hq : Vq B w q)
    (b cap : Nat) (t : TypeId) (hx : a.eval x = .slice (some ⟨b, 0, none⟩) 1 cap) (hb : Bk w b (pcl q).toArray t) (hlen : qs.length ≤ 2000000) (hB : B ≤ w.heap.size)
    (h : ∀ g c w', Ps B w' (.slice (some ⟨g, 0, none⟩) (qs.length + 1) c) (qs ++ [q]) → w.grownBy w' v.ownBlock → (v.ownBlock = some g ∨ g = w.heap.size) → wpList Try.prog ops Q rest (a.put o.dst (.slice (some ⟨g, 0, none⟩) (qs.length + 1) c)) w') :
    wpList Try.prog ops Q (o :: rest) a w := by
  obtain ⟨i0, hi0, hz0, hz1, hz2⟩ := info_parts infoP
  refine wpList_append_lies w hgd s x 26 ho B 38 i0 _ 6 40 Try.underlying26 hi0 hz0 hz1 hz2 rfl (by omega) v qs.length (pf qs) hs hown.own ⟨b, 0, none⟩ 1 cap (pcl q) hx rfl ?_ (fun u hu => pf_one [q] u (by simpa [pf] using hu)) (by omega) (by unfold maxLen; omega) (by omega) hB _ rfl ?_
  · intro j u hj
    have := World.news_of_block (w := w) hb j u
    simpa using this (by simpa using hj)
  · intro g c w' ho2 hg2 hat hlt
    exact h g c w' (hown.more hq ho2 hg2) hg2 hat
structure BI (W w : World) (v7 v8 v9 : Value) (rs : List Pq) (of lf : List Nat) : Prop where
  all : Ps W.heap.size w v7 rs
  ofs : Nr W.heap.size w v8 of
  lfs : Nr W.heap.size w v9 lf
  ap : v8.ownBlock = none ∨ v8.ownBlock ≠ v9.ownBlock
  bel : Below W.heap.size W w
section
variable {W w w' : World} {v7 v8 v9 : Value} {rs : List Pq} {of lf : List Nat}
theorem BI.next (h : BI W w v7 v8 v9 rs of lf) (hb : Below w.heap.size w w') : BI W w' v7 v8 v9 rs of lf :=
  ⟨h.all.next hb, own_below h.ofs hb, own_below h.lfs hb, h.ap, bnext h.bel hb⟩
theorem BI.pushAll (h : BI W w v7 v8 v9 rs of lf) {v : Value} {rs' : List Pq} (ha : Ps W.heap.size w' v rs') (hg : w.grownBy w' v7.ownBlock) : BI W w' v v8 v9 rs' of lf :=
  ⟨ha, World.ownsRow.kept h.ofs hg (owns_apart h.ofs h.all.own (by decide)), World.ownsRow.kept h.lfs hg (owns_apart h.lfs h.all.own (by decide)), h.ap, h.bel.grown hg h.bel.size (fun k hk => (h.all.own.lt k hk).1)⟩
theorem ap_symm {a b : Option Nat} (h : a = none ∨ a ≠ b) : b = none ∨ b ≠ a := by
  rcases h with h | h
  · subst h
    cases b
    · exact .inl rfl
    · exact .inr (by simp)
  · exact .inr (Ne.symm h)
theorem psGrown {B : Nat} {v v0 : Value} (h : Ps B w v rs) {s : Nat} {e : TypeId} {n : Nat} {xs : List Value} {B' : Nat} (h0 : w.ownsRow B' e s v0 n xs) (h1 : 38 ≠ e) (h2 : 5 ≠ e) (hg : w.grownBy w' v0.ownBlock) : Ps B w' v rs :=
  ⟨World.ownsRow.kept h.own hg (owns_apart h.own h0 h1), fun q hq => (h.dat q hq).kept hg (owns_apart (h.dat q hq).2 h0 h2)⟩
theorem BI.pushOf (h : BI W w v7 v8 v9 rs of lf) {g n c : Nat} {of' : List Nat} (ho : Nr W.heap.size w' (.slice (some ⟨g, 0, none⟩) n c) of') (hg : w.grownBy w' v8.ownBlock) (hat : v8.ownBlock = some g ∨ g = w.heap.size) : BI W w' v7 (.slice (some ⟨g, 0, none⟩) n c) v9 rs of' lf :=
  ⟨psGrown h.all h.ofs (by decide) (by decide) hg, ho, World.ownsRow.kept h.lfs hg (ap_symm h.ap), .inr (by
    show some g ≠ v9.ownBlock
    rcases hat with e | e
    · rw [← e]
      rcases h.ap with h1 | h1
      · rw [h1] at e; cases e
      · exact h1
    · intro e2
      have := (World.ownsRow.lt h.lfs g e2.symm).2
      omega), h.bel.grown hg h.bel.size (fun k hk => (World.ownsRow.lt h.ofs k hk).1)⟩
theorem BI.pushLf (h : BI W w v7 v8 v9 rs of lf) {g n c : Nat} {lf' : List Nat} (ho : Nr W.heap.size w' (.slice (some ⟨g, 0, none⟩) n c) lf') (hg : w.grownBy w' v9.ownBlock) (hat : v9.ownBlock = some g ∨ g = w.heap.size) : BI W w' v7 v8 (.slice (some ⟨g, 0, none⟩) n c) rs of lf' :=
  ⟨psGrown h.all h.lfs (by decide) (by decide) hg, World.ownsRow.kept h.ofs hg h.ap, ho, by
    cases h8 : v8.ownBlock with
    | none => exact .inl rfl
    | some k =>
      refine .inr fun e => ?_
      have e2 : k = g := by
        have : some k = some g := e
        injection this
      subst e2
      rcases hat with e3 | e3
      · rcases h.ap with h1 | h1
        · rw [h1] at h8; cases h8
        · exact h1 (by rw [h8, e3])
      · have := (World.ownsRow.lt h.ofs k h8).2
        omega, h.bel.grown hg h.bel.size (fun k hk => (World.ownsRow.lt h.lfs k hk).1)⟩
theorem bi_nil (hb : Below W.heap.size W w) : BI W w (.slice none 0 0) (.slice none 0 0) (.slice none 0 0) [] [] [] :=
  ⟨⟨World.ownsRow_nil _ _ _ _, fun q hq => by cases hq⟩, World.ownsRow_nil _ _ _ _, World.ownsRow_nil _ _ _ _, .inl rfl, hb⟩
end
theorem own_kp {w w' : World} {F : Nat → Prop} {b s : Nat} {e : TypeId} {v : Value} {n : Nat} {xs : List Value} (h : w.ownsRow b e s v n xs) (hk : Kp w w' F) (hd : ∀ g, v.ownBlock = some g → ¬ F g) : w'.ownsRow b e s v n xs := by
  refine ⟨h.1, ?_⟩
  rcases h.2 with h2 | ⟨g, cap, cur, hv, hg, hh, r⟩
  · exact .inl h2
  · refine .inr ⟨g, cap, cur, hv, hg, (hk.block g (Array.getElem?_eq_some_iff.1 hh).1 (hd g (by rw [hv]; rfl))).trans hh, r⟩
/-- Its block lies below lo, or from hi on. -/
def Away (lo hi : Nat) (v : Value) : Prop := ∀ g, v.ownBlock = some g → g < lo ∨ hi ≤ g
/-- The pieces that Cut has made, while loop 2 goes over them. -/
structure L2 (lo hi : Nat) (w6 w : World) (gx : Nat) (cx : Array Value) (v7 v8 : Value) : Prop where
  kp : Kp w6 w fun b => b < lo ∨ hi ≤ b
  bx : Bk w gx cx 33
  a7 : Away lo hi v7
  a8 : Away lo hi v8
  top : hi ≤ w.heap.size
theorem L2.next {lo hi gx : Nat} {cx : Array Value} {w6 w w' : World} {v7 v8 : Value} (h : L2 lo hi w6 w gx cx v7 v8) (hb : Below w.heap.size w w') : L2 lo hi w6 w' gx cx v7 v8 :=
  ⟨h.kp.trans (F' := fun b => b < lo ∨ hi ≤ b) (Kp.below hb) (fun b hb => .inl hb), h.bx.next hb, h.a7, h.a8, Nat.le_trans h.top hb.size⟩
theorem L2.push7 {lo hi gx g n c B s m : Nat} {e : TypeId} {xs : List Value} {cx : Array Value} {w6 w w' : World} {v7 v8 : Value} (h : L2 lo hi w6 w gx cx v7 v8) (ho : w.ownsRow B e s v7 m xs) (he : 33 ≠ e) (hg : w.grownBy w' v7.ownBlock) (hat : v7.ownBlock = some g ∨ g = w.heap.size) : L2 lo hi w6 w' gx cx (.slice (some ⟨g, 0, none⟩) n c) v8 :=
  ⟨h.kp.trans (F' := fun b => b < lo ∨ hi ≤ b) (Kp.grown hg h.a7) (fun b hb => .inl hb), h.bx.kept hg (fun e2 => own_off ho h.bx he e2.symm), fun g' e2 => by
    have e3 : g = g' := by
      have : some g = some g' := e2
      injection this
    subst e3
    rcases hat with e4 | e4
    · exact h.a7 g e4
    · exact .inr (by rw [e4]; exact h.top), h.a8, Nat.le_trans h.top hg.size⟩
theorem L2.push8 {lo hi gx g n c B s m : Nat} {e : TypeId} {xs : List Value} {cx : Array Value} {w6 w w' : World} {v7 v8 : Value} (h : L2 lo hi w6 w gx cx v7 v8) (ho : w.ownsRow B e s v8 m xs) (he : 33 ≠ e) (hg : w.grownBy w' v8.ownBlock) (hat : v8.ownBlock = some g ∨ g = w.heap.size) : L2 lo hi w6 w' gx cx v7 (.slice (some ⟨g, 0, none⟩) n c) :=
  ⟨h.kp.trans (F' := fun b => b < lo ∨ hi ≤ b) (Kp.grown hg h.a8) (fun b hb => .inl hb), h.bx.kept hg (fun e2 => own_off ho h.bx he e2.symm), h.a7, fun g' e2 => by
    have e3 : g = g' := by
      have : some g = some g' := e2
      injection this
    subst e3
    rcases hat with e4 | e4
    · exact h.a8 g e4
    · exact .inr (by rw [e4]; exact h.top), Nat.le_trans h.top hg.size⟩
/-- One of them, and its bytes. -/
theorem L2.ps {lo gx : Nat} {cx : Array Value} {w6 w : World} {v7 v8 : Value} {A : Option Addr} {n c : Nat} {ls : List Pq} (h : L2 lo w6.heap.size w6 w gx cx v7 v8) (hp : Ps lo w6 (.slice A n c) ls) : Ps lo w (.slice A n c) ls := by
  have hd : ∀ {e : TypeId} {s n : Nat} {v : Value} {xs : List Value}, w6.ownsRow lo e s v n xs → ∀ g, v.ownBlock = some g → ¬ (g < lo ∨ w6.heap.size ≤ g) := fun ho g hg => by
    have := ho.lt g hg
    omega
  exact ⟨own_kp hp.own h.kp (hd hp.own), fun q hq => ⟨(hp.dat q hq).1, own_kp (hp.dat q hq).2 h.kp (hd (hp.dat q hq).2)⟩⟩
/-- A message as plain words have it. -/
def Sq.mq (q : Sq) : Mq := ⟨q.s, q.u, q.p, q.d, q.n, q.z.toNat⟩
theorem wrap_fw {t : Nat} : IntKind.u32.wrap ((t : Int) + 1) = ((fw t 1 : Nat) : Int) := by
  unfold fw
  simp [IntKind.wrap, IntKind.signed, IntKind.bits]
theorem l2_next {rs rs' ls : List Pq} {x : Mq} {t0 j tq fq sq nq pq : Nat} {dq : List Int} {r : Option Addr × Nat × Nat} (h1 : rs'.map (·.1) = rs.map (·.1) ++ (x.ps t0 rs.length).take j) (hls : ls.map (·.1) = cutL x.u x.s x.p x.d x.z) (hj : ls[j]? = some (⟨tq, fq, sq, nq, pq, dq⟩, r)) {T : Nat} (hT : T = fw t0 (rs.length + j)) :
    (rs' ++ [((⟨T, fq, sq, x.n, pq, dq⟩, r) : Pq)]).map (·.1) = rs.map (·.1) ++ (x.ps t0 rs.length).take (j + 1) := by
  have h2 := congrArg (·[j]?) hls
  simp only [List.getElem?_map, hj, Option.map_some, cutL] at h2
  have hjc : j < cutN x.d x.z := by
    apply Classical.byContradiction
    intro hn
    rw [List.getElem?_eq_none (by simp; omega)] at h2
    cases h2
  rw [List.getElem?_range hjc] at h2
  simp only [Option.map_some, Option.some.injEq, Pc.mk.injEq] at h2
  obtain ⟨_, rfl, rfl, _, rfl, rfl⟩ := h2
  have h3 : (x.ps t0 rs.length)[j]? = some (x.pc t0 rs.length j) := by
    unfold Mq.ps
    rw [List.getElem?_map, List.getElem?_range (show j < x.cnt from hjc)]
    rfl
  rw [List.map_append, h1, List.append_assoc, List.take_add_one, h3]
  subst hT
  rfl
theorem rs_most {rs rs' : List Pq} {x : Mq} {t0 : Nat} (hg : tot rs ≤ 20000) (hd : ∀ q ∈ rs, q.1.d.length = q.2.2.1) (hx : x.d.length ≤ 1048576) (h1 : rs'.map (·.1) = rs.map (·.1) ++ x.ps t0 rs.length) : ∀ q ∈ rs', q.1.d.length ≤ 1048576 := fun q hq => by
  have hm : q.1 ∈ rs'.map (·.1) := List.mem_map.2 ⟨q, hq, rfl⟩
  rw [h1] at hm
  rcases List.mem_append.1 hm with h | h
  · obtain ⟨r, hr, e⟩ := List.mem_map.1 h
    rw [← e, hd r hr]
    obtain ⟨i, hi, rfl⟩ := List.mem_iff_getElem.1 hr
    have h2 := tot_take hi
    have h3 := tot_take_le rs (i + 1)
    omega
  · unfold Mq.ps at h
    obtain ⟨i, _, e⟩ := List.mem_map.1 h
    rw [← e]
    show (Fg.part x.d x.z i).length ≤ _
    rw [part_len]
    omega
theorem ps_all {x : Mq} {t0 a N : Nat} (h : N = x.cnt) : (x.ps t0 a).take N = x.ps t0 a := List.take_of_length_le (by simp [Mq.ps, h])
/-- One message more. -/
theorem bl_more {qs : List Sq} {k t0 N : Nat} {rs rs' : List Pq} {of : List Nat} {q : Sq} (hq : qs[k]? = some q) (hb : Built ((qs.take k).map Sq.mq) t0 (rs.map (·.1)) of) (hN : N = q.mq.cnt) (h1 : rs'.map (·.1) = rs.map (·.1) ++ (q.mq.ps t0 rs.length).take N) :
    Built ((qs.take (k + 1)).map Sq.mq) t0 (rs'.map (·.1)) (of ++ List.replicate N k) := by
  have hk := (List.getElem?_eq_some_iff.1 hq).1
  have hlen : ((qs.take k).map Sq.mq).length = k := by simp; omega
  have := hb.more q.mq
  rw [hlen, List.length_map] at this
  rw [List.take_add_one, hq, List.map_append, h1, ps_all hN, hN]
  exact this
theorem lf_more {qs : List Sq} {k N : Nat} {q : Sq} (hq : qs[k]? = some q) (hN : N = q.mq.cnt) : ((qs.take k).map fun q => q.mq.cnt) ++ [N] = (qs.take (k + 1)).map fun q => q.mq.cnt := by
  rw [List.take_add_one, hq, List.map_append, hN]
  rfl
end Go.Proofs.Ythgbngnhlgaioaa
