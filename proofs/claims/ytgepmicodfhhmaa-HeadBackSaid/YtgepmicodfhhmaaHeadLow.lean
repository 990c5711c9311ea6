/-
  What the small functions of layer 3 do: numbers of the wire read and laid, on both sides.
-/
import Derived.Test.YtgepmicodfhhmaaHeadPlain
import Derived.Test.YtgepmicodfhhmaaCrcMore
import Derived.BigQuiet
import Derived.BigRegion
import Derived.Deep.QuietTactic
import Derived.Outline
import Derived.Handy
import Derived.Deep.OwnRows
import Derived.OwnWalk
namespace Go.Proofs.Ytgepmicodfhhmaa
open Go.RowKit Crc Head

theorem or_app {a b k : Nat} (hb : b < 2 ^ k) : a * 2 ^ k ||| b = a * 2 ^ k + b := by
  rw [Nat.mul_comm a, Nat.two_pow_add_eq_or_of_lt hb]
theorem number_val {u0 u1 u2 u3 : Nat} (b0 : u0 < 256) (b1 : u1 < 256) (b2 : u2 < 256) (b3 : u3 < 256) :
    bits .or .u32 (bits .or .u32 (bits .or .u32 ((u0 : Int) * 16777216) ((u1 : Int) * 65536)) ((u2 : Int) * 256)) (u3 : Int) =
      ((256 * (256 * (256 * u0 + u1) + u2) + u3 : Nat) : Int) := by
  have e0 : (u0 : Int) * 16777216 = ((u0 * 2 ^ 24 : Nat) : Int) := by omega
  have e1 : (u1 : Int) * 65536 = ((u1 * 2 ^ 16 : Nat) : Int) := by omega
  have e2 : (u2 : Int) * 256 = ((u2 * 2 ^ 8 : Nat) : Int) := by omega
  rw [e0, e1, e2, u32_or_nat _ _ (by omega) (by omega), or_app (by omega)]
  rw [show u0 * 2 ^ 24 + u1 * 2 ^ 16 = (u0 * 256 + u1) * 2 ^ 16 by omega, u32_or_nat _ _ (by omega) (by omega), or_app (by omega)]
  rw [show (u0 * 256 + u1) * 2 ^ 16 + u2 * 2 ^ 8 = ((u0 * 256 + u1) * 256 + u2) * 2 ^ 8 by omega, u32_or_nat _ _ (by omega) (by omega), or_app (by omega)]
  omega
set_option maxRecDepth 100000 in
set_option maxHeartbeats 1000000 in
theorem number_any (A : Option Addr) (n c : Nat) (l : List Int) (w : World) (hl : l.length = n) (h4 : 4 ≤ n) (hb : Byt l) (hr : Row w A (bs l)) :
    Calls Try.prog 15 #[.slice A n c] w fun e w' => e = .returned (.int .u32 (nu (l.take 4) : Nat)) ∧ ∃ q, w' = w.drewN q := by
  subst hl
  obtain ⟨a, rfl, c0⟩ := Row.byte hr (show 0 < l.length by omega)
  obtain ⟨a1, e1, c1⟩ := Row.byte hr (show 1 < l.length by omega)
  obtain ⟨a2, e2, c2⟩ := Row.byte hr (show 2 < l.length by omega)
  obtain ⟨a3, e3, c3⟩ := Row.byte hr (show 3 < l.length by omega)
  injection e1 with e1; injection e2 with e2; injection e3 with e3
  subst e1; subst e2; subst e3
  obtain ⟨u0, h0, b0⟩ := Byt.at hb (show 0 < l.length by omega)
  obtain ⟨u1, h1, b1⟩ := Byt.at hb (show 1 < l.length by omega)
  obtain ⟨u2, h2, b2⟩ := Byt.at hb (show 2 < l.length by omega)
  obtain ⟨u3, h3, b3⟩ := Byt.at hb (show 3 < l.length by omega)
  have hv : nu (l.take 4) = 256 * (256 * (256 * u0 + u1) + u2) + u3 := by
    rw [nu_take (by omega), nu_take (by omega), nu_take (by omega), nu_take (by omega), h0, h1, h2, h3]
    simp [nu]
  have HV := Lib.hid hv
  rw [h0] at c0
  rw [h1] at c1
  rw [h2] at c2
  rw [h3] at c3
  have n0 : 0 < l.length := by omega
  have n1 : (0 : Int) < (l.length : Int) := by omega
  have n2 : (1 : Int) < (l.length : Int) := by omega
  have n3 : (2 : Int) < (l.length : Int) := by omega
  have n4 : (3 : Int) < (l.length : Int) := by omega
  have c0' : w.cell? a = some (.int .u8 (u0 : Int)) := by rw [← c0]; congr 1
  have c1' : w.cell? { block := a.block, off := a.off + 1 } = some (.int .u8 (u1 : Int)) := by rw [← c1]; congr 1
  have c2' : w.cell? { block := a.block, off := a.off + 2 } = some (.int .u8 (u2 : Int)) := by rw [← c2]; congr 1
  have c3' : w.cell? { block := a.block, off := a.off + 3 } = some (.int .u8 (u3 : Int)) := by rw [← c3]; congr 1
  have hw := number_val b0 b1 b2 b3
  have HW := Lib.hid hw
  clear c0 c1 c2 c3 hw
  clear h0 h1 h2 h3 hv hr hb
  generalize nu (l.take 4) = z at HV
  generalize l.length = n at *
  go_enter Try.func15, Try.ntmps15
  go_wp2_with fail
  go_quiet (fail)
  go_wp2_with fail
  go_ret
  exact ⟨ret_eq (by rw [HW.out, HV.out]), _, rfl⟩

theorem nu_small {l : List Int} {k : Nat} (hb : Byt l) (hk : k ≤ 4) : nu (l.take k) < 4294967296 := by
  have h := nu_lt (l.take k).length (l.take k) rfl (Byt.take hb k)
  have h2 : 256 ^ (l.take k).length ≤ 256 ^ 4 := Nat.pow_le_pow_right (by omega) (by simp; omega)
  omega
set_option maxRecDepth 100000 in
set_option maxHeartbeats 400000 in
theorem rnumber_any (A : Option Addr) (n c : Nat) (l : List Int) (w : World) (hl : l.length = n) (h4 : n ≤ 4) (hb : Byt l) (hr : Row w A (bs l)) :
    Calls Try.prog 17 #[.slice A n c] w fun e w' => e = .returned (.int .u64 (nu l : Nat)) ∧ w' = w := by
  have HL := Lib.hid hl
  have HB := Lib.hid hb
  have HR := Lib.hid hr
  clear hl hb hr
  go_enter Try.func17, Try.ntmps17
  go_wp2
  go_loop [3, 4] (fun x i => ∃ k : Nat, k ≤ n ∧ i = .int .i64 k ∧ x = .int .u64 (nu (l.take k) : Nat)) (fun _ i => n - (intOf i).toNat)
  case atStart => exact ⟨0, by omega, rfl, rfl⟩
  case round =>
    obtain ⟨k, hk, rfl, rfl⟩ := hrel
    have hx : nu (l.take k) < 4294967296 := nu_small HB.out (by omega)
    by_cases hlt : k < n
    · have hkl : k < l.length := by rw [HL.out]; exact hlt
      obtain ⟨a, rfl, hc⟩ := Row.byte HR.out hkl
      obtain ⟨u, hu, hu8⟩ := Byt.at HB.out hkl
      have HT := Lib.hid (nu_take hkl)
      rw [hu] at hc
      have HU := Lib.hid hu
      clear hu
      generalize nu (l.take k) = x at HT hx
      go_wp2
      go_round
      case rel => exact ⟨k + 1, by omega, by go_num, by rw [HT.out, HU.out]; congr 1⟩
      case measure => simp [intOf] <;> omega
    · go_wp2
      go_ret
      have hkn : l.take k = l := List.take_of_length_le (by rw [HL.out]; omega)
      exact ⟨by simp [hkn], rfl⟩

/-- Cells of bytes. -/
def vb (l : List Int) : Array Value := (bs l).toArray
theorem vb_size (l : List Int) : (vb l).size = l.length := by simp [vb, bs]
theorem vb_get {l : List Int} {i : Nat} (h : i < l.length) : (vb l)[i]? = some (.int .u8 (l.getD i 0)) := by
  simp [vb, bs, List.getElem?_map, List.getElem?_eq_getElem h, List.getD]
theorem vb_set (l : List Int) (i : Nat) (x : Int) : (vb l).setIfInBounds i (.int .u8 x) = vb (l.set i x) := by simp [vb, bs]
theorem Try_info8 : (Try.prog.info? 5).map (fun i => (i.zero, i.size, i.bytes)) = some (some (.int .u8 0), 1, 1) := by kernel_rfl
theorem made_bytes (n : Nat) : madeCells #[Value.int .u8 0] n = vb (List.replicate n 0) := by
  apply Array.ext_getElem?
  intro i
  by_cases hi : i < n
  · rw [vb_get (by simpa using hi)]
    simp [madeCells, hi, Nat.mod_one, List.getD]
  · rw [Array.getElem?_eq_none (by rw [size_madeCells]; omega), Array.getElem?_eq_none (by rw [vb_size]; simp; omega)]
theorem run_make_bytes (n : Nat) (h : n ≤ 281474976710656) (W : World) :
    (Instr.makeSlice 26 (.int .i64 (n : Int)) (.int .i64 (n : Int))).run Try.prog W = .ok (.slice (some ⟨W.heap.size, 0, none⟩) n n) (W.alloc (.cells (vb (List.replicate n 0)) 5)) := by
  rw [← made_bytes]
  exact run_make_row' 26 5 (.int .u8 0) 1 Try.underlying26 Try_info8 rfl .i64 .i64 n (by omega) (by omega) W
/-- A row that the call owns: its slice reads as these bytes, and may be written. -/
def Own (w W : World) (A : Option Addr) (n c : Nat) (l : List Int) : Prop := W.ownsRow w.heap.size 5 1 (.slice A n c) n (bs l) ∧ Below w.heap.size w W
theorem own_of_made (w : World) {n : Nat} {l : List Int} (h : l.length = n) (hn : n ≤ maxLen) : Own w (w.alloc (.cells (vb l) 5)) (some ⟨w.heap.size, 0, none⟩) n n l :=
  ⟨⟨by rw [bs_len, h, Nat.mul_one], .inr ⟨w.heap.size, n, vb l, rfl, Nat.le_refl _, heap_alloc_new _ _, Nat.le_refl _, hn, by rw [vb_size, h, Nat.mul_one], by rw [show (vb l).toList = bs l by simp [vb]]; exact List.take_of_length_le (by rw [bs_len]; omega)⟩⟩, (Below.refl _ _).alloc (Nat.le_refl _) _⟩
theorem Own.len {w W : World} {A : Option Addr} {n c : Nat} {l : List Int} (h : Own w W A n c l) : l.length = n := by have := h.1.1; simpa [bs] using this
theorem Own.cap {w W : World} {A : Option Addr} {n c : Nat} {l : List Int} (h : Own w W A n c l) : n ≤ c ∧ c ≤ maxLen := by
  rcases h.1.2 with ⟨h1, h2⟩ | ⟨g, cap, cur, h1, _, _, h2, h3, _⟩
  · simp only [Value.slice.injEq] at h1
    obtain ⟨_, h1, h3⟩ := h1
    exact ⟨by omega, by subst h3; exact Nat.zero_le _⟩
  · simp only [Value.slice.injEq] at h1
    obtain ⟨_, _, rfl⟩ := h1
    exact ⟨h2, h3⟩
theorem row_of_own {W : World} {base : Nat} {A : Option Addr} {n c : Nat} {l : List Int} (h : W.ownsRow base 5 1 (.slice A n c) n (bs l)) : Row W A (bs l) := fun i v hv => by
  rcases id h.2 with ⟨_, h0⟩ | ⟨g, cap, cur, hv2, _⟩
  · have := h.1
    have h1 := (List.getElem?_eq_some_iff.1 hv).1
    omega
  · simp only [Value.slice.injEq] at hv2
    obtain ⟨rfl, _, _⟩ := hv2
    exact ⟨_, rfl, h.cells (g := g) rfl i v hv⟩
theorem Own.row {w W : World} {A : Option Addr} {n c : Nat} {l : List Int} (h : Own w W A n c l) : Row W A (bs l) := row_of_own h.1
theorem bnext' {w a b : World} (h : Below w.heap.size w a) (k : Below a.heap.size a b) : Below w.heap.size w b := h.trans (k.mono h.size)
theorem Own.next {w W W' : World} {A : Option Addr} {n c : Nat} {l : List Int} (h : Own w W A n c l) (hb : Below W.heap.size W W') : Own w W' A n c l :=
  ⟨h.1.kept (row := none) ⟨hb.os, hb.tape, hb.output, hb.size, fun k hk _ => hb.block k hk⟩ (by cases hv : Value.ownBlock (.slice A n c) <;> simp), bnext' h.2 hb⟩
theorem Own.drew {w W : World} {A : Option Addr} {n c : Nat} {l : List Int} (h : Own w W A n c l) : Own w W.drew A n c l := ⟨h.1, h.2.drew⟩

theorem set_rep (m : Nat) (c : Int) (tl : List Int) : (List.replicate (m + 1) 0 ++ tl).set m c = List.replicate m 0 ++ c :: tl := by
  rw [List.replicate_succ', List.append_assoc, List.set_append_right _ _ (by simp)]
  simp
set_option maxRecDepth 100000 in
set_option maxHeartbeats 400000 in
theorem bytes_any (x n : Nat) (w : World) (hx : x < 4294967296) (hn : n ≤ 4) :
    Calls Try.prog 20 #[.int .u64 (x : Int), .int .i64 (n : Int)] w fun e w' => e = .returned (.slice (some ⟨w.heap.size, 0, none⟩) n n) ∧ Own w w' (some ⟨w.heap.size, 0, none⟩) n n (be n x) := by
  have hmk := fun W => run_make_bytes n (by omega) W
  have h0 : be n x = be n x ++ [] := by simp
  have H0 := Lib.hid h0
  clear h0
  go_enter Try.func20, Try.ntmps20
  go_wp2
  clear hmk
  go_loopw [0, 6] (fun y i wr => ∃ (m x' : Nat) (tl : List Int), m ≤ n ∧ i = .int .i64 ((m : Int) - 1) ∧ y = .int .u64 (x' : Int) ∧ x' < 4294967296 ∧ Hid (be n x = be m x' ++ tl) ∧ Hid (tl.length = n - m) ∧ wr = w.alloc (.cells (vb (List.replicate m 0 ++ tl)) 5)) (fun _ i _ => (intOf i + 1).toNat)
  case atStart => exact ⟨n, x, [], by omega, rfl, rfl, hx, H0, Lib.hid (by simp), by simp⟩
  case round =>
    obtain ⟨m, x', tl, hm, rfl, rfl, hx', hbe, htl, rfl⟩ := hrel
    by_cases h0 : m = 0
    · subst h0
      go_wp2
      go_ret
      have e : tl = be n x := by rw [hbe.out]; simp [be]
      exact ⟨rfl, by rw [e]; exact own_of_made w (be_len _ _) (by unfold maxLen; omega)⟩
    · obtain ⟨p, rfl⟩ : ∃ p, m = p + 1 := ⟨m - 1, by omega⟩
      have e1 : ((p + 1 : Nat) : Int) - 1 = p := by omega
      rw [e1]
      have hc := vb_get (l := List.replicate (p + 1) 0 ++ tl) (i := p) (by simp; omega)
      have hs := set_rep p ((x' % 256 : Nat) : Int) tl
      have HS := Lib.hid hs
      have hbs : be (p + 1) x' = be p (x' / 256) ++ [((x' % 256 : Nat) : Int)] := rfl
      have HBS := Lib.hid hbs
      have hm1 : ((x' : Int) % 256) = ((x' % 256 : Nat) : Int) := by omega
      have HM := Lib.hid hm1
      clear hs e1 hbs hm1
      generalize (List.replicate (p + 1) 0 ++ tl) = row at hc HS
      generalize row.getD p 0 = old at hc
      go_wp2
      go_roundw
      case rel => exact ⟨p, x' / 256, ((x' % 256 : Nat) : Int) :: tl, by omega, by go_num, by go_num, by omega, Lib.hid (by rw [hbe.out, HBS.out]; simp), Lib.hid (by rw [List.length_cons, htl.out]; omega), by rw [← HS.out, ← vb_set, HM.out]⟩
      case measure => simp [intOf] <;> omega
end Go.Proofs.Ytgepmicodfhhmaa
