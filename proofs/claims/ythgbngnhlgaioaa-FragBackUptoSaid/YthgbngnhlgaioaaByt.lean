/-
  Rows of bytes that a call owns; bytes.Clone; appends of bytes. For all layers.
-/
import Derived.Test.YthgbngnhlgaioaaWords
import Derived.Test.YthgbngnhlgaioaaChecked
import Derived.BigQuiet
import Derived.BigRegion
import Derived.Deep.QuietTactic
import Derived.Outline
import Derived.Handy
import Derived.Deep.OwnRows
import Derived.OwnWalk
import Derived.Deep.RegionWith
import Derived.Deep.AppendLies
import Derived.Lib.SliceRun
import Derived.Laws.AppendOwnNone
import Derived.Deep.RegionLaw
import Derived.Deep.CutRange
import Derived.Laws.CopyOwn
namespace Go.Proofs.Ythgbngnhlgaioaa
open Go.RowKit
set_option linter.unusedVariables false

theorem below_drewN {B : Nat} {a w : World} (h : Below B a w) (q : Nat) : Below B a (w.drewN q) := ⟨h.os, h.tape, h.output, h.size, h.block⟩
/-- Cells of bytes. -/
def vb (l : List Int) : Array Value := (bs l).toArray
theorem vb_size (l : List Int) : (vb l).size = l.length := by simp [vb, bs]
theorem vb_get {l : List Int} {i : Nat} (h : i < l.length) : (vb l)[i]? = some (.int .u8 (l.getD i 0)) := by
  simp [vb, bs, List.getElem?_map, List.getElem?_eq_getElem h, List.getD]
theorem vb_set (l : List Int) (i : Nat) (x : Int) : (vb l).setIfInBounds i (.int .u8 x) = vb (l.set i x) := by simp [vb, bs]
theorem Try_info8 : (Try.prog.info? 5).map (fun i => (i.zero, i.size, i.bytes)) = some (some (.int .u8 0), 1, 1) := by kernel_rfl
theorem made_bytes (n : Nat) : madeCells #[Value.int .u8 0] n = vb (List.replicate n 0) := by
  apply Array.ext_getElem?
  intro i
  by_cases hi : i < n
  · rw [vb_get (by simpa using hi)]
    simp [madeCells, hi, Nat.mod_one, List.getD]
  · rw [Array.getElem?_eq_none (by rw [size_madeCells]; omega), Array.getElem?_eq_none (by rw [vb_size]; simp; omega)]
theorem run_make_bytes (n : Nat) (h : n ≤ 281474976710656) (W : World) :
    (Instr.makeSlice 29 (.int .i64 (n : Int)) (.int .i64 (n : Int))).run Try.prog W = .ok (.slice (some ⟨W.heap.size, 0, none⟩) n n) (W.alloc (.cells (vb (List.replicate n 0)) 5)) := by
  rw [← made_bytes]
  exact run_make_row' 29 5 (.int .u8 0) 1 Try.underlying29 Try_info8 rfl .i64 .i64 n (by omega) (by omega) W
/-- A row that the call owns: its slice reads as these bytes, and may be written. -/
def Own (w W : World) (A : Option Addr) (n c : Nat) (l : List Int) : Prop := W.ownsRow w.heap.size 5 1 (.slice A n c) n (bs l) ∧ Below w.heap.size w W
theorem own_of_made (w : World) {n : Nat} {l : List Int} (h : l.length = n) (hn : n ≤ maxLen) : Own w (w.alloc (.cells (vb l) 5)) (some ⟨w.heap.size, 0, none⟩) n n l :=
  ⟨⟨by rw [bs_len, h, Nat.mul_one], .inr ⟨w.heap.size, n, vb l, rfl, Nat.le_refl _, heap_alloc_new _ _, Nat.le_refl _, hn, by rw [vb_size, h, Nat.mul_one], by rw [show (vb l).toList = bs l by simp [vb]]; exact List.take_of_length_le (by rw [bs_len]; omega)⟩⟩, (Below.refl _ _).alloc (Nat.le_refl _) _⟩
theorem Own.len {w W : World} {A : Option Addr} {n c : Nat} {l : List Int} (h : Own w W A n c l) : l.length = n := by have := h.1.1; simpa [bs] using this
theorem Own.cap {w W : World} {A : Option Addr} {n c : Nat} {l : List Int} (h : Own w W A n c l) : n ≤ c ∧ c ≤ maxLen := by
  rcases h.1.2 with ⟨h1, h2⟩ | ⟨g, cap, cur, h1, _, _, h2, h3, _⟩
  · simp only [Value.slice.injEq] at h1
    obtain ⟨_, h1, h3⟩ := h1
    exact ⟨by omega, by subst h3; exact Nat.zero_le _⟩
  · simp only [Value.slice.injEq] at h1
    obtain ⟨_, _, rfl⟩ := h1
    exact ⟨h2, h3⟩
theorem row_of_own {W : World} {base : Nat} {A : Option Addr} {n c : Nat} {l : List Int} (h : W.ownsRow base 5 1 (.slice A n c) n (bs l)) : Row W A (bs l) := fun i v hv => by
  rcases id h.2 with ⟨_, h0⟩ | ⟨g, cap, cur, hv2, _⟩
  · have := h.1
    have h1 := (List.getElem?_eq_some_iff.1 hv).1
    omega
  · simp only [Value.slice.injEq] at hv2
    obtain ⟨rfl, _, _⟩ := hv2
    exact ⟨_, rfl, h.cells (g := g) rfl i v hv⟩
theorem Own.row {w W : World} {A : Option Addr} {n c : Nat} {l : List Int} (h : Own w W A n c l) : Row W A (bs l) := row_of_own h.1
theorem bnext' {w a b : World} (h : Below w.heap.size w a) (k : Below a.heap.size a b) : Below w.heap.size w b := h.trans (k.mono h.size)
theorem Own.next {w W W' : World} {A : Option Addr} {n c : Nat} {l : List Int} (h : Own w W A n c l) (hb : Below W.heap.size W W') : Own w W' A n c l :=
  ⟨h.1.kept (row := none) ⟨hb.os, hb.tape, hb.output, hb.size, fun k hk _ => hb.block k hk⟩ (by cases hv : Value.ownBlock (.slice A n c) <;> simp), bnext' h.2 hb⟩
theorem Own.drew {w W : World} {A : Option Addr} {n c : Nat} {l : List Int} (h : Own w W A n c l) : Own w W.drew A n c l := ⟨h.1, h.2.drew⟩
theorem bcells {w : World} {a : Addr} {l : List Value} (h : Row w (some a) l) : ∀ j u, l[j]? = some u → w.cell? (a.add j) = some u := fun j u hu => by
  obtain ⟨b, hb, hc⟩ := h j u hu
  injection hb with hb
  subst hb
  exact hc
theorem Row.take {w : World} {A : Option Addr} {l : List Value} (h : Row w A l) (k : Nat) : Row w A (l.take k) := fun i v hv => by
  rw [List.getElem?_take] at hv
  split at hv
  · exact h i v hv
  · cases hv
theorem cut0 (A : Option Addr) (c : Nat) : cutA A c 0 = A := by
  unfold cutA
  split
  · rfl
  · cases A <;> simp [Addr.add]
theorem bs_one (l : List Int) : ∀ u ∈ bs l, u.oneCell' = true := fun u hu => by
  obtain ⟨x, _, rfl⟩ := List.mem_map.1 hu
  rfl
theorem bs_app (l m : List Int) : bs l ++ bs m = bs (l ++ m) := by simp [bs]
theorem own_form {w : World} {base : Nat} {e : TypeId} {s : Nat} {v : Value} {n : Nat} {xs : List Value} (h : w.ownsRow base e s v n xs) : ∃ A c, v = .slice A n c := by
  rcases h.2 with ⟨rfl, rfl⟩ | ⟨g, cap, _, rfl, _⟩
  · exact ⟨none, 0, rfl⟩
  · exact ⟨_, _, rfl⟩
theorem own_nil (w : World) : Own w w none 0 0 [] := ⟨World.ownsRow_nil _ _ _ _, Below.refl _ _⟩
set_option maxRecDepth 100000 in
set_option maxHeartbeats 400000 in
theorem clone_big (A : Option Addr) (n c : Nat) (l : List Int) (w : World) (hl : l.length = n) (hn : n ≤ 1000000000) (hr : Row w A (bs l)) :
    Calls Try.prog 37 #[.slice A n c] w fun e w' => ∃ A' c', e = .returned (.slice A' n c') ∧ Own w w' A' n c' l := by
  rcases A with _ | a
  · have h0 : l = [] := by
      rcases l with _ | ⟨x, l⟩
      · rfl
      · obtain ⟨a, ha, _⟩ := Row.byte hr (k := 0) (by simp)
        cases ha
    subst h0
    obtain rfl : n = 0 := by simpa using hl.symm
    clear hr hl
    have hnil := fun W : World => Lib.run_eql_slice_nil (P := Try.prog) W 29 5 none 0 c 0 0 Try.underlying29
    go_enter Try.func37, Try.ntmps37
    go_wp2
    go_ret
    exact ⟨none, 0, rfl, own_nil _⟩
  · obtain ⟨i0, hi0, hz0, hz1, hz2⟩ := info_parts Try_info8
    have HI := Lib.hid hi0
    have HZ0 := Lib.hid hz0
    have HZ1 := Lib.hid hz1
    have HZ2 := Lib.hid hz2
    have HR := Lib.hid hr
    have HN := Lib.hid hn
    clear hi0 hz0 hz1 hz2 hr hn
    have hnil := fun W : World => Lib.run_eql_slice_nil (P := Try.prog) W 29 5 (some a) n c 0 0 Try.underlying29
    have HL := Lib.hid hl
    clear hl
    go_enter Try.func37, Try.ntmps37
    go_wp2_with (at_builtin; refine wpList_append_own _ rfl (.tmp 5) (.tmp 6) 29 rfl w.heap.size 5 i0 (.int .u8 0) 1 1 Try.underlying29 HI.out HZ0.out HZ1.out HZ2.out rfl (by omega) _ 0 [] rfl (World.ownsRow_made w #[] 0 (Nat.le_refl _) (by decide) rfl) a n c (bs l) rfl (by rw [bs_len, HL.out]; omega) (bcells (HR.out.alloc _)) (bs_one l) (by have := HN.out; unfold maxLen; omega) (by have := HN.out; omega) (by simp) ?_; intro v' w2 hown hgr hv)
    rw [Nat.zero_add, List.nil_append] at hown
    obtain ⟨A', c', rfl⟩ := own_form hown
    go_wp2
    go_ret
    exact ⟨A', c', rfl, hown, ((Below.refl _ _).alloc (Nat.le_refl _) _).grown hgr (by simp) fun k hk => by injection hk with hk; exact Nat.le_of_eq hk⟩
theorem clone_any (A : Option Addr) (n c : Nat) (l : List Int) (w : World) (hl : l.length = n) (hn : n ≤ 100000) (hr : Row w A (bs l)) :
    Calls Try.prog 37 #[.slice A n c] w fun e w' => ∃ A' c', e = .returned (.slice A' n c') ∧ Own w w' A' n c' l := clone_big A n c l w hl (by omega) hr
theorem own_base {W : World} {b b' : Nat} {e : TypeId} {s : Nat} {v : Value} {n : Nat} {xs : List Value} (h : W.ownsRow b e s v n xs) (hb : b' ≤ b) : W.ownsRow b' e s v n xs := by
  refine ⟨h.1, ?_⟩
  rcases h.2 with h2 | ⟨g, cap, cur, hv, hg, r⟩
  · exact Or.inl h2
  · exact Or.inr ⟨g, cap, cur, hv, Nat.le_trans hb hg, r⟩
theorem own_below {W W' : World} {b : Nat} {e : TypeId} {s : Nat} {v : Value} {n : Nat} {xs : List Value} (h : W.ownsRow b e s v n xs) (hb : Below W.heap.size W W') : W'.ownsRow b e s v n xs :=
  h.kept (row := none) ⟨hb.os, hb.tape, hb.output, hb.size, fun k hk _ => hb.block k hk⟩ (by cases v.ownBlock <;> simp)
theorem own_cells {W : World} {base g n c : Nat} {l : List Int} (h : W.ownsRow base 5 1 (.slice (some ⟨g, 0, none⟩) n c) n (bs l)) :
    ∃ cur : List Value, W.heap[g]? = some (.cells cur.toArray 5 (0, 0)) ∧ cur.length = c ∧ cur.take n = bs l ∧ base ≤ g ∧ n ≤ c ∧ c ≤ maxLen := by
  rcases h.2 with ⟨h1, _⟩ | ⟨g', cap, cur, hv, hb, hg, h1, h2, h3, h4⟩
  · cases h1
  · simp only [Value.slice.injEq, Option.some.injEq, Addr.mk.injEq] at hv
    obtain ⟨⟨rfl, _, _⟩, _, rfl⟩ := hv
    exact ⟨cur.toList, by simpa using hg, by simpa using h3, by simpa using h4, hb, h1, h2⟩
theorem row_of_block {W : World} {g n : Nat} {cur : List Value} {l : List Int} (h : W.heap[g]? = some (.cells cur.toArray 5 (0, 0))) (ht : cur.take n = bs l) : Row W (some ⟨g, 0, none⟩) (bs l) := fun i v hv => by
  refine ⟨_, rfl, ?_⟩
  have e : (⟨g, 0, none⟩ : Addr).add i = ⟨g, i, none⟩ := by unfold Addr.add; split <;> simp_all
  rw [e, cell_of_row _ _ _ _ _ _ h]
  rw [← ht, List.getElem?_take] at hv
  split at hv
  · simpa using hv
  · cases hv
theorem row_drop {W : World} {A : Option Addr} {l : List Int} {n c k : Nat} (hl : l.length = n) (hnc : n ≤ c) (hr : Row W A (bs l)) : Row W (cutA A c k) (bs (l.drop k)) := by
  have := hr.cut (c := c) (lo := k) hnc
  rw [List.take_of_length_le (by simp [bs]; omega)] at this
  simpa [bs] using this
theorem app_step {w : World} {ops : Array Oper} {rest : List Oper} {o : Oper} {a : Act} {Q : Exit → Act → World → Prop} (hgd : o.guard = none) (s x : Operand)
    (ho : o.op = .call { callee := .builtin .append, args := #[s, x], argTypes := #[29, 29] }) (base : Nat) (A0 : Option Addr) (n c0 : Nat) (l : List Int) (hs : a.eval s = .slice A0 n c0) (hown : w.ownsRow base 5 1 (.slice A0 n c0) n (bs l))
    (A : Option Addr) (m c : Nat) (l2 : List Int) (hx : a.eval x = .slice A m c) (hl : l2.length = m) (hr : Row w A (bs l2)) (hz : A = none → m = 0 ∧ c = 0) (hb : n + m ≤ 140737488355328) (hbase : base ≤ w.heap.size)
    (h : ∀ A' n' c' w', n' = n + m → w'.ownsRow base 5 1 (.slice A' n' c') n' (bs (l ++ l2)) → Below base w w' → wpList Try.prog ops Q rest (a.put o.dst (.slice A' n' c')) w') : wpList Try.prog ops Q (o :: rest) a w := by
  obtain ⟨i0, hi0, hz0, hz1, hz2⟩ := info_parts Try_info8
  cases A with
  | none =>
    obtain ⟨rfl, rfl⟩ := hz rfl
    obtain rfl := List.eq_nil_of_length_eq_zero hl
    refine wpList_append_own_none hgd s x 29 ho base 5 i0 1 Try.underlying29 hi0 _ n (bs l) hs hown hx ?_
    exact h A0 n c0 w rfl (by simpa using hown) (Below.refl _ _)
  | some ad =>
    refine wpList_append_own _ hgd s x 29 ho base 5 i0 (.int .u8 0) 1 1 Try.underlying29 hi0 hz0 hz1 hz2 rfl (by omega) _ n (bs l) hs hown ad m c (bs l2) hx (by rw [bs_len, hl]; omega) (bcells hr) (bs_one _) (by unfold maxLen; omega) (by omega) hbase ?_
    intro v' w2 ho2 hg2 _
    obtain ⟨A', c', rfl⟩ := own_form ho2
    refine h A' (n + m) c' w2 rfl (by rw [← bs_app]; exact ho2) ?_
    exact (Below.refl base w).grown hg2 hbase (fun k hk => (hown.lt k hk).1)
/-- .. as a step of a region that draws its order. -/
theorem app_reg {w : World} {ops : Array Oper} {o : Oper} {a : Act} {K : Act → World → Prop} {Q : Exit → Act → World → Prop} {E : Prop} (hgd : o.guard = none) (s x : Operand)
    (ho : o.op = .call { callee := .builtin .append, args := #[s, x], argTypes := #[29, 29] }) (B : Nat) (A0 : Option Addr) (n c0 : Nat) (l : List Int) (hs : a.eval s = .slice A0 n c0) (hown : w.ownsRow B 5 1 (.slice A0 n c0) n (bs l))
    (A : Option Addr) (m c : Nat) (l2 : List Int) (hx : a.eval x = .slice A m c) (hl : l2.length = m) (hr : Row w A (bs l2)) (hz : A = none → m = 0 ∧ c = 0) (N : Nat) (hN : n + m = N) (hb : N ≤ 140737488355328) (hbase : B ≤ w.heap.size)
    (h : ∀ A' c' w', w'.ownsRow B 5 1 (.slice A' N c') N (bs (l ++ l2)) → w.grownBy w' (Value.slice A0 n c0).ownBlock → K (a.put o.dst (.slice A' N c')) w') :
    if Region.wanted o (yielded ops a.tmps) = true then Oper.wp Try.prog o a w K Q else E := by
  obtain ⟨i0, hi0, hz0, hz1, hz2⟩ := info_parts Try_info8
  rw [if_pos (by simp [Region.wanted, hgd])]
  subst hN
  cases A with
  | none =>
    obtain ⟨rfl, rfl⟩ := hz rfl
    obtain rfl := List.eq_nil_of_length_eq_zero hl
    have hrun := run_append_owned_none (P := Try.prog) (w := w) B 29 o.type 5 i0 1 Try.underlying29 hi0 _ n (bs l) hown
    unfold Oper.wp
    simp [execOp, ho, resolve, invoke, builtin, hs, hx, hrun, Result.andThen]
    exact h A0 c0 w (by simpa using hown) ⟨rfl, rfl, rfl, Nat.le_refl _, fun _ _ _ => rfl⟩
  | some ad =>
    refine wp_append_own w s x 29 ho B 5 i0 (.int .u8 0) 1 1 Try.underlying29 hi0 hz0 hz1 hz2 rfl (by omega) _ n (bs l) hs hown ad m c (bs l2) hx (by rw [bs_len, hl]; omega) (bcells hr) (bs_one _) (by unfold maxLen; omega) (by omega) hbase ?_
    intro v' w2 ho2 hg2 _
    obtain ⟨A', c', rfl⟩ := own_form ho2
    exact h A' c' w2 (by rw [← bs_app]; exact ho2) hg2
end Go.Proofs.Ythgbngnhlgaioaa
