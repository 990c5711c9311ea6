/-
  Rows of bytes that a call owns; bytes.Clone; the document's Bytes and Number.
-/
import Derived.Test.YtjlemghkaodkkaaWire
import Derived.BigQuiet
import Derived.BigRegion
import Derived.Deep.QuietTactic
import Derived.Outline
import Derived.Handy
import Derived.Deep.OwnRows
import Derived.OwnWalk
import Derived.Deep.RegionWith
import Derived.Deep.AppendLies
import Derived.Lib.SliceRun
import Derived.Laws.AppendOwnNone
import Derived.Deep.RegionLaw
import Derived.Deep.CutRange
import Derived.Laws.CopyOwn
namespace Go.Proofs.Ytjlemghkaodkkaa
open Go.RowKit Wire

theorem below_drewN {B : Nat} {a w : World} (h : Below B a w) (q : Nat) : Below B a (w.drewN q) := ⟨h.os, h.tape, h.output, h.size, h.block⟩
theorem nu_small {l : List Int} {k : Nat} (hb : Byt l) (hk : k ≤ 4) : nu (l.take k) < 4294967296 := by
  have h := nu_lt (l.take k).length (l.take k) rfl (Byt.take hb k)
  have h2 : 256 ^ (l.take k).length ≤ 256 ^ 4 := Nat.pow_le_pow_right (by omega) (by simp; omega)
  omega
set_option maxRecDepth 100000 in
set_option maxHeartbeats 400000 in
theorem rnumber_any (A : Option Addr) (n c : Nat) (l : List Int) (w : World) (hl : l.length = n) (h4 : n ≤ 4) (hb : Byt l) (hr : Row w A (bs l)) :
    Calls Try.prog 52 #[.slice A n c] w fun e w' => e = .returned (.int .u64 (nu l : Nat)) ∧ w' = w := by
  have HL := Lib.hid hl
  have HB := Lib.hid hb
  have HR := Lib.hid hr
  clear hl hb hr
  go_enter Try.func52, Try.ntmps52
  go_wp2
  go_loop [3, 4] (fun x i => ∃ k : Nat, k ≤ n ∧ i = .int .i64 k ∧ x = .int .u64 (nu (l.take k) : Nat)) (fun _ i => n - (intOf i).toNat)
  case atStart => exact ⟨0, by omega, rfl, rfl⟩
  case round =>
    obtain ⟨k, hk, rfl, rfl⟩ := hrel
    have hx : nu (l.take k) < 4294967296 := nu_small HB.out (by omega)
    by_cases hlt : k < n
    · have hkl : k < l.length := by rw [HL.out]; exact hlt
      obtain ⟨a, rfl, hc⟩ := Row.byte HR.out hkl
      obtain ⟨u, hu, hu8⟩ := Byt.at HB.out hkl
      have HT := Lib.hid (nu_take hkl)
      rw [hu] at hc
      have HU := Lib.hid hu
      clear hu
      generalize nu (l.take k) = x at HT hx
      go_wp2
      go_round
      case rel => exact ⟨k + 1, by omega, by go_num, by rw [HT.out, HU.out]; congr 1⟩
      case measure => simp [intOf] <;> omega
    · go_wp2
      go_ret
      have hkn : l.take k = l := List.take_of_length_le (by rw [HL.out]; omega)
      exact ⟨by simp [hkn], rfl⟩
/-- Cells of bytes. -/
def vb (l : List Int) : Array Value := (bs l).toArray
theorem vb_size (l : List Int) : (vb l).size = l.length := by simp [vb, bs]
theorem vb_get {l : List Int} {i : Nat} (h : i < l.length) : (vb l)[i]? = some (.int .u8 (l.getD i 0)) := by
  simp [vb, bs, List.getElem?_map, List.getElem?_eq_getElem h, List.getD]
theorem vb_set (l : List Int) (i : Nat) (x : Int) : (vb l).setIfInBounds i (.int .u8 x) = vb (l.set i x) := by simp [vb, bs]
theorem Try_info8 : (Try.prog.info? 5).map (fun i => (i.zero, i.size, i.bytes)) = some (some (.int .u8 0), 1, 1) := by kernel_rfl
theorem made_bytes (n : Nat) : madeCells #[Value.int .u8 0] n = vb (List.replicate n 0) := by
  apply Array.ext_getElem?
  intro i
  by_cases hi : i < n
  · rw [vb_get (by simpa using hi)]
    simp [madeCells, hi, Nat.mod_one, List.getD]
  · rw [Array.getElem?_eq_none (by rw [size_madeCells]; omega), Array.getElem?_eq_none (by rw [vb_size]; simp; omega)]
theorem run_make_bytes (n : Nat) (h : n ≤ 281474976710656) (W : World) :
    (Instr.makeSlice 24 (.int .i64 (n : Int)) (.int .i64 (n : Int))).run Try.prog W = .ok (.slice (some ⟨W.heap.size, 0, none⟩) n n) (W.alloc (.cells (vb (List.replicate n 0)) 5)) := by
  rw [← made_bytes]
  exact run_make_row' 24 5 (.int .u8 0) 1 Try.underlying24 Try_info8 rfl .i64 .i64 n (by omega) (by omega) W
/-- A row that the call owns: its slice reads as these bytes, and may be written. -/
def Own (w W : World) (A : Option Addr) (n c : Nat) (l : List Int) : Prop := W.ownsRow w.heap.size 5 1 (.slice A n c) n (bs l) ∧ Below w.heap.size w W
theorem own_of_made (w : World) {n : Nat} {l : List Int} (h : l.length = n) (hn : n ≤ maxLen) : Own w (w.alloc (.cells (vb l) 5)) (some ⟨w.heap.size, 0, none⟩) n n l :=
  ⟨⟨by rw [bs_len, h, Nat.mul_one], .inr ⟨w.heap.size, n, vb l, rfl, Nat.le_refl _, heap_alloc_new _ _, Nat.le_refl _, hn, by rw [vb_size, h, Nat.mul_one], by rw [show (vb l).toList = bs l by simp [vb]]; exact List.take_of_length_le (by rw [bs_len]; omega)⟩⟩, (Below.refl _ _).alloc (Nat.le_refl _) _⟩
theorem Own.len {w W : World} {A : Option Addr} {n c : Nat} {l : List Int} (h : Own w W A n c l) : l.length = n := by have := h.1.1; simpa [bs] using this
theorem Own.cap {w W : World} {A : Option Addr} {n c : Nat} {l : List Int} (h : Own w W A n c l) : n ≤ c ∧ c ≤ maxLen := by
  rcases h.1.2 with ⟨h1, h2⟩ | ⟨g, cap, cur, h1, _, _, h2, h3, _⟩
  · simp only [Value.slice.injEq] at h1
    obtain ⟨_, h1, h3⟩ := h1
    exact ⟨by omega, by subst h3; exact Nat.zero_le _⟩
  · simp only [Value.slice.injEq] at h1
    obtain ⟨_, _, rfl⟩ := h1
    exact ⟨h2, h3⟩
theorem row_of_own {W : World} {base : Nat} {A : Option Addr} {n c : Nat} {l : List Int} (h : W.ownsRow base 5 1 (.slice A n c) n (bs l)) : Row W A (bs l) := fun i v hv => by
  rcases id h.2 with ⟨_, h0⟩ | ⟨g, cap, cur, hv2, _⟩
  · have := h.1
    have h1 := (List.getElem?_eq_some_iff.1 hv).1
    omega
  · simp only [Value.slice.injEq] at hv2
    obtain ⟨rfl, _, _⟩ := hv2
    exact ⟨_, rfl, h.cells (g := g) rfl i v hv⟩
theorem Own.row {w W : World} {A : Option Addr} {n c : Nat} {l : List Int} (h : Own w W A n c l) : Row W A (bs l) := row_of_own h.1
theorem bnext' {w a b : World} (h : Below w.heap.size w a) (k : Below a.heap.size a b) : Below w.heap.size w b := h.trans (k.mono h.size)
theorem Own.next {w W W' : World} {A : Option Addr} {n c : Nat} {l : List Int} (h : Own w W A n c l) (hb : Below W.heap.size W W') : Own w W' A n c l :=
  ⟨h.1.kept (row := none) ⟨hb.os, hb.tape, hb.output, hb.size, fun k hk _ => hb.block k hk⟩ (by cases hv : Value.ownBlock (.slice A n c) <;> simp), bnext' h.2 hb⟩
theorem Own.drew {w W : World} {A : Option Addr} {n c : Nat} {l : List Int} (h : Own w W A n c l) : Own w W.drew A n c l := ⟨h.1, h.2.drew⟩
theorem set_rep (m : Nat) (c : Int) (tl : List Int) : (List.replicate (m + 1) 0 ++ tl).set m c = List.replicate m 0 ++ c :: tl := by
  rw [List.replicate_succ', List.append_assoc, List.set_append_right _ _ (by simp)]
  simp
set_option maxRecDepth 100000 in
set_option maxHeartbeats 400000 in
theorem bytes_any (x n : Nat) (w : World) (hx : x < 4294967296) (hn : n ≤ 4) :
    Calls Try.prog 44 #[.int .u64 (x : Int), .int .i64 (n : Int)] w fun e w' => e = .returned (.slice (some ⟨w.heap.size, 0, none⟩) n n) ∧ Own w w' (some ⟨w.heap.size, 0, none⟩) n n (be n x) := by
  have hmk := fun W => run_make_bytes n (by omega) W
  have h0 : be n x = be n x ++ [] := by simp
  have H0 := Lib.hid h0
  clear h0
  go_enter Try.func44, Try.ntmps44
  go_wp2
  clear hmk
  go_loopw [0, 6] (fun y i wr => ∃ (m x' : Nat) (tl : List Int), m ≤ n ∧ i = .int .i64 ((m : Int) - 1) ∧ y = .int .u64 (x' : Int) ∧ x' < 4294967296 ∧ Hid (be n x = be m x' ++ tl) ∧ Hid (tl.length = n - m) ∧ wr = w.alloc (.cells (vb (List.replicate m 0 ++ tl)) 5)) (fun _ i _ => (intOf i + 1).toNat)
  case atStart => exact ⟨n, x, [], by omega, rfl, rfl, hx, H0, Lib.hid (by simp), by simp⟩
  case round =>
    obtain ⟨m, x', tl, hm, rfl, rfl, hx', hbe, htl, rfl⟩ := hrel
    by_cases h0 : m = 0
    · subst h0
      go_wp2
      go_ret
      have e : tl = be n x := by rw [hbe.out]; simp [be]
      exact ⟨rfl, by rw [e]; exact own_of_made w (be_len _ _) (by unfold maxLen; omega)⟩
    · obtain ⟨p, rfl⟩ : ∃ p, m = p + 1 := ⟨m - 1, by omega⟩
      have e1 : ((p + 1 : Nat) : Int) - 1 = p := by omega
      rw [e1]
      have hc := vb_get (l := List.replicate (p + 1) 0 ++ tl) (i := p) (by simp; omega)
      have hs := set_rep p ((x' % 256 : Nat) : Int) tl
      have HS := Lib.hid hs
      have hbs : be (p + 1) x' = be p (x' / 256) ++ [((x' % 256 : Nat) : Int)] := rfl
      have HBS := Lib.hid hbs
      have hm1 : ((x' : Int) % 256) = ((x' % 256 : Nat) : Int) := by omega
      have HM := Lib.hid hm1
      clear hs e1 hbs hm1
      generalize (List.replicate (p + 1) 0 ++ tl) = row at hc HS
      generalize row.getD p 0 = old at hc
      go_wp2
      go_roundw
      case rel => exact ⟨p, x' / 256, ((x' % 256 : Nat) : Int) :: tl, by omega, by go_num, by go_num, by omega, Lib.hid (by rw [hbe.out, HBS.out]; simp), Lib.hid (by rw [List.length_cons, htl.out]; omega), by rw [← HS.out, ← vb_set, HM.out]⟩
      case measure => simp [intOf] <;> omega
theorem bcells {w : World} {a : Addr} {l : List Value} (h : Row w (some a) l) : ∀ j u, l[j]? = some u → w.cell? (a.add j) = some u := fun j u hu => by
  obtain ⟨b, hb, hc⟩ := h j u hu
  injection hb with hb
  subst hb
  exact hc
theorem Row.take {w : World} {A : Option Addr} {l : List Value} (h : Row w A l) (k : Nat) : Row w A (l.take k) := fun i v hv => by
  rw [List.getElem?_take] at hv
  split at hv
  · exact h i v hv
  · cases hv
theorem cut0 (A : Option Addr) (c : Nat) : cutA A c 0 = A := by
  unfold cutA
  split
  · rfl
  · cases A <;> simp [Addr.add]
theorem bs_one (l : List Int) : ∀ u ∈ bs l, u.oneCell' = true := fun u hu => by
  obtain ⟨x, _, rfl⟩ := List.mem_map.1 hu
  rfl
theorem bs_app (l m : List Int) : bs l ++ bs m = bs (l ++ m) := by simp [bs]
theorem own_form {w : World} {base : Nat} {e : TypeId} {s : Nat} {v : Value} {n : Nat} {xs : List Value} (h : w.ownsRow base e s v n xs) : ∃ A c, v = .slice A n c := by
  rcases h.2 with ⟨rfl, rfl⟩ | ⟨g, cap, _, rfl, _⟩
  · exact ⟨none, 0, rfl⟩
  · exact ⟨_, _, rfl⟩
theorem own_nil (w : World) : Own w w none 0 0 [] := ⟨World.ownsRow_nil _ _ _ _, Below.refl _ _⟩
set_option maxRecDepth 100000 in
set_option maxHeartbeats 400000 in
theorem clone_any (A : Option Addr) (n c : Nat) (l : List Int) (w : World) (hl : l.length = n) (hn : n ≤ 100000) (hr : Row w A (bs l)) :
    Calls Try.prog 54 #[.slice A n c] w fun e w' => ∃ A' c', e = .returned (.slice A' n c') ∧ Own w w' A' n c' l := by
  rcases A with _ | a
  · have h0 : l = [] := by
      rcases l with _ | ⟨x, l⟩
      · rfl
      · obtain ⟨a, ha, _⟩ := Row.byte hr (k := 0) (by simp)
        cases ha
    subst h0
    obtain rfl : n = 0 := by simpa using hl.symm
    clear hr hl
    have hnil := fun W : World => Lib.run_eql_slice_nil (P := Try.prog) W 24 5 none 0 c 0 0 Try.underlying24
    go_enter Try.func54, Try.ntmps54
    go_wp2
    go_ret
    exact ⟨none, 0, rfl, own_nil _⟩
  · obtain ⟨i0, hi0, hz0, hz1, hz2⟩ := info_parts Try_info8
    have HI := Lib.hid hi0
    have HZ0 := Lib.hid hz0
    have HZ1 := Lib.hid hz1
    have HZ2 := Lib.hid hz2
    have HR := Lib.hid hr
    have HN := Lib.hid hn
    clear hi0 hz0 hz1 hz2 hr hn
    have hnil := fun W : World => Lib.run_eql_slice_nil (P := Try.prog) W 24 5 (some a) n c 0 0 Try.underlying24
    have HL := Lib.hid hl
    clear hl
    go_enter Try.func54, Try.ntmps54
    go_wp2_with (at_builtin; refine wpList_append_own _ rfl (.tmp 5) (.tmp 6) 24 rfl w.heap.size 5 i0 (.int .u8 0) 1 1 Try.underlying24 HI.out HZ0.out HZ1.out HZ2.out rfl (by omega) _ 0 [] rfl (World.ownsRow_made w #[] 0 (Nat.le_refl _) (by decide) rfl) a n c (bs l) rfl (by rw [bs_len, HL.out]; omega) (bcells (HR.out.alloc _)) (bs_one l) (by have := HN.out; unfold maxLen; omega) (by have := HN.out; omega) (by simp) ?_; intro v' w2 hown hgr hv)
    rw [Nat.zero_add, List.nil_append] at hown
    obtain ⟨A', c', rfl⟩ := own_form hown
    go_wp2
    go_ret
    exact ⟨A', c', rfl, hown, ((Below.refl _ _).alloc (Nat.le_refl _) _).grown hgr (by simp) fun k hk => by injection hk with hk; exact Nat.le_of_eq hk⟩
theorem own_base {W : World} {b b' : Nat} {e : TypeId} {s : Nat} {v : Value} {n : Nat} {xs : List Value} (h : W.ownsRow b e s v n xs) (hb : b' ≤ b) : W.ownsRow b' e s v n xs := by
  refine ⟨h.1, ?_⟩
  rcases h.2 with h2 | ⟨g, cap, cur, hv, hg, r⟩
  · exact Or.inl h2
  · exact Or.inr ⟨g, cap, cur, hv, Nat.le_trans hb hg, r⟩
theorem own_below {W W' : World} {b : Nat} {e : TypeId} {s : Nat} {v : Value} {n : Nat} {xs : List Value} (h : W.ownsRow b e s v n xs) (hb : Below W.heap.size W W') : W'.ownsRow b e s v n xs :=
  h.kept (row := none) ⟨hb.os, hb.tape, hb.output, hb.size, fun k hk _ => hb.block k hk⟩ (by cases v.ownBlock <;> simp)
theorem own_cells {W : World} {base g n c : Nat} {l : List Int} (h : W.ownsRow base 5 1 (.slice (some ⟨g, 0, none⟩) n c) n (bs l)) :
    ∃ cur : List Value, W.heap[g]? = some (.cells cur.toArray 5 (0, 0)) ∧ cur.length = c ∧ cur.take n = bs l ∧ base ≤ g ∧ n ≤ c ∧ c ≤ maxLen := by
  rcases h.2 with ⟨h1, _⟩ | ⟨g', cap, cur, hv, hb, hg, h1, h2, h3, h4⟩
  · cases h1
  · simp only [Value.slice.injEq, Option.some.injEq, Addr.mk.injEq] at hv
    obtain ⟨⟨rfl, _, _⟩, _, rfl⟩ := hv
    exact ⟨cur.toList, by simpa using hg, by simpa using h3, by simpa using h4, hb, h1, h2⟩
theorem row_of_block {W : World} {g n : Nat} {cur : List Value} {l : List Int} (h : W.heap[g]? = some (.cells cur.toArray 5 (0, 0))) (ht : cur.take n = bs l) : Row W (some ⟨g, 0, none⟩) (bs l) := fun i v hv => by
  refine ⟨_, rfl, ?_⟩
  have e : (⟨g, 0, none⟩ : Addr).add i = ⟨g, i, none⟩ := by unfold Addr.add; split <;> simp_all
  rw [e, cell_of_row _ _ _ _ _ _ h]
  rw [← ht, List.getElem?_take] at hv
  split at hv
  · simpa using hv
  · cases hv
theorem row_drop {W : World} {A : Option Addr} {l : List Int} {n c k : Nat} (hl : l.length = n) (hnc : n ≤ c) (hr : Row W A (bs l)) : Row W (cutA A c k) (bs (l.drop k)) := by
  have := hr.cut (c := c) (lo := k) hnc
  rw [List.take_of_length_le (by simp [bs]; omega)] at this
  simpa [bs] using this
end Go.Proofs.Ytjlemghkaodkkaa
