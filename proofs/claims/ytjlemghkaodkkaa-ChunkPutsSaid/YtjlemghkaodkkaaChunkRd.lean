/-
  The reader of layer 5: how it lies in memory, what its small methods do.
-/
import Derived.Test.YtjlemghkaodkkaaChunkNum2
namespace Go.Proofs.Ytjlemghkaodkkaa
open Go.RowKit Wire Tlv Chunk

/-- A reader: what is left, the chunk so far, whether it is bad. -/
structure Rt where
  l : List Int
  c : Ck
  bad : Bool
/-- Two bytes are read, and four. -/
def Rt.n2 (r : Rt) : Nat × Rt := if r.l.length < 2 then (0, { r with l := [], bad := true }) else (nu (r.l.take 2), { r with l := r.l.drop 2 })
def Rt.n4 (r : Rt) : Nat × Rt := (r.n2.1 * 65536 + r.n2.2.n2.1, r.n2.2.n2.2)
theorem Rt.n2_lt {r : Rt} (h : Byt r.l) : r.n2.1 < 65536 := by
  unfold Rt.n2
  split
  · show 0 < 65536; omega
  · exact nu_lt 2 _ (by simp; omega) (Byt.take h 2)
theorem Rt.n2_byt {r : Rt} (h : Byt r.l) : Byt r.n2.2.l := by
  unfold Rt.n2
  split
  · intro c hc; simp at hc
  · exact Byt.drop h 2
theorem Rt.n4_lt {r : Rt} (h : Byt r.l) : r.n4.1 < 4294967296 := by
  have h1 := Rt.n2_lt h
  have h2 := Rt.n2_lt (Rt.n2_byt h)
  show r.n2.1 * 65536 + r.n2.2.n2.1 < _
  omega
theorem Rt.n2_c (r : Rt) : r.n2.2.c = r.c := by unfold Rt.n2; split <;> rfl
theorem Rt.n4_c (r : Rt) : r.n4.2.c = r.c := by show r.n2.2.n2.2.c = _; rw [Rt.n2_c, Rt.n2_c]
def rv (A : Option Addr) (n cap : Nat) (c : Ck) (s : Ls) (bad : Bool) : Array Value := #[.slice A n cap, .int .u8 (c.kd : Int), .int .u8 (c.fl : Int), .int .u32 (c.tag : Int), .int .u32 (c.rw : Int), .int .u32 (c.tsn : Int), .int .u16 (c.out : Int), .int .u16 (c.inn : Int), .int .u16 (c.sid : Int), .int .u16 (c.ssn : Int), .int .u32 (c.ppid : Int), .slice s.dA s.dn s.dc, .slice s.aA s.an s.ac, .slice s.gA s.gn s.gc, .slice s.uA s.un s.uc, .slice s.cA s.cn s.cc, .bool bad]
theorem Bk.r0 {W : World} {b : Nat} {A : Option Addr} {n cap : Nat} {c : Ck} {s : Ls} {bad : Bool} {t : TypeId} (h : Bk W b (rv A n cap c s bad) t) : W.cell? ⟨b, 0, none⟩ = some (.slice A n cap) := h.cell 0
theorem Bk.r1 {W : World} {b : Nat} {A : Option Addr} {n cap : Nat} {c : Ck} {s : Ls} {bad : Bool} {t : TypeId} (h : Bk W b (rv A n cap c s bad) t) : W.cell? ⟨b, 1, none⟩ = some (.int .u8 (c.kd : Int)) := h.cell 1
theorem Bk.r2 {W : World} {b : Nat} {A : Option Addr} {n cap : Nat} {c : Ck} {s : Ls} {bad : Bool} {t : TypeId} (h : Bk W b (rv A n cap c s bad) t) : W.cell? ⟨b, 2, none⟩ = some (.int .u8 (c.fl : Int)) := h.cell 2
theorem Bk.r3 {W : World} {b : Nat} {A : Option Addr} {n cap : Nat} {c : Ck} {s : Ls} {bad : Bool} {t : TypeId} (h : Bk W b (rv A n cap c s bad) t) : W.cell? ⟨b, 3, none⟩ = some (.int .u32 (c.tag : Int)) := h.cell 3
theorem Bk.r4 {W : World} {b : Nat} {A : Option Addr} {n cap : Nat} {c : Ck} {s : Ls} {bad : Bool} {t : TypeId} (h : Bk W b (rv A n cap c s bad) t) : W.cell? ⟨b, 4, none⟩ = some (.int .u32 (c.rw : Int)) := h.cell 4
theorem Bk.r5 {W : World} {b : Nat} {A : Option Addr} {n cap : Nat} {c : Ck} {s : Ls} {bad : Bool} {t : TypeId} (h : Bk W b (rv A n cap c s bad) t) : W.cell? ⟨b, 5, none⟩ = some (.int .u32 (c.tsn : Int)) := h.cell 5
theorem Bk.r6 {W : World} {b : Nat} {A : Option Addr} {n cap : Nat} {c : Ck} {s : Ls} {bad : Bool} {t : TypeId} (h : Bk W b (rv A n cap c s bad) t) : W.cell? ⟨b, 6, none⟩ = some (.int .u16 (c.out : Int)) := h.cell 6
theorem Bk.r7 {W : World} {b : Nat} {A : Option Addr} {n cap : Nat} {c : Ck} {s : Ls} {bad : Bool} {t : TypeId} (h : Bk W b (rv A n cap c s bad) t) : W.cell? ⟨b, 7, none⟩ = some (.int .u16 (c.inn : Int)) := h.cell 7
theorem Bk.r8 {W : World} {b : Nat} {A : Option Addr} {n cap : Nat} {c : Ck} {s : Ls} {bad : Bool} {t : TypeId} (h : Bk W b (rv A n cap c s bad) t) : W.cell? ⟨b, 8, none⟩ = some (.int .u16 (c.sid : Int)) := h.cell 8
theorem Bk.r9 {W : World} {b : Nat} {A : Option Addr} {n cap : Nat} {c : Ck} {s : Ls} {bad : Bool} {t : TypeId} (h : Bk W b (rv A n cap c s bad) t) : W.cell? ⟨b, 9, none⟩ = some (.int .u16 (c.ssn : Int)) := h.cell 9
theorem Bk.r10 {W : World} {b : Nat} {A : Option Addr} {n cap : Nat} {c : Ck} {s : Ls} {bad : Bool} {t : TypeId} (h : Bk W b (rv A n cap c s bad) t) : W.cell? ⟨b, 10, none⟩ = some (.int .u32 (c.ppid : Int)) := h.cell 10
theorem Bk.r11 {W : World} {b : Nat} {A : Option Addr} {n cap : Nat} {c : Ck} {s : Ls} {bad : Bool} {t : TypeId} (h : Bk W b (rv A n cap c s bad) t) : W.cell? ⟨b, 11, none⟩ = some (.slice s.dA s.dn s.dc) := h.cell 11
theorem Bk.r12 {W : World} {b : Nat} {A : Option Addr} {n cap : Nat} {c : Ck} {s : Ls} {bad : Bool} {t : TypeId} (h : Bk W b (rv A n cap c s bad) t) : W.cell? ⟨b, 12, none⟩ = some (.slice s.aA s.an s.ac) := h.cell 12
theorem Bk.r13 {W : World} {b : Nat} {A : Option Addr} {n cap : Nat} {c : Ck} {s : Ls} {bad : Bool} {t : TypeId} (h : Bk W b (rv A n cap c s bad) t) : W.cell? ⟨b, 13, none⟩ = some (.slice s.gA s.gn s.gc) := h.cell 13
theorem Bk.r14 {W : World} {b : Nat} {A : Option Addr} {n cap : Nat} {c : Ck} {s : Ls} {bad : Bool} {t : TypeId} (h : Bk W b (rv A n cap c s bad) t) : W.cell? ⟨b, 14, none⟩ = some (.slice s.uA s.un s.uc) := h.cell 14
theorem Bk.r15 {W : World} {b : Nat} {A : Option Addr} {n cap : Nat} {c : Ck} {s : Ls} {bad : Bool} {t : TypeId} (h : Bk W b (rv A n cap c s bad) t) : W.cell? ⟨b, 15, none⟩ = some (.slice s.cA s.cn s.cc) := h.cell 15
theorem Bk.r16 {W : World} {b : Nat} {A : Option Addr} {n cap : Nat} {c : Ck} {s : Ls} {bad : Bool} {t : TypeId} (h : Bk W b (rv A n cap c s bad) t) : W.cell? ⟨b, 16, none⟩ = some (.bool bad) := h.cell 16
/-- The reader in block b, in a call that began at w. -/
structure Rr (w : World) (b : Nat) (r : Rt) (s : Ls) (A : Option Addr) (n cap : Nat) (W : World) : Prop where
  bk : Bk W b (rv A n cap r.c s r.bad) 58
  lo : w.heap.size ≤ b
  bl : Below w.heap.size w W
  row : Row w A (bs r.l)
  len : r.l.length = n
  le : n ≤ cap
  cm : cap ≤ maxLen
  byt : Byt r.l
  sm : n ≤ 65531
/-- Only block b, and what is new, is otherwise. -/
def Ot (W W' : World) (b : Nat) : Prop := W.grownBy W' (some b)
theorem Ot.refl (W : World) (b : Nat) : Ot W W b := ⟨rfl, rfl, rfl, Nat.le_refl _, fun _ _ _ => rfl⟩
theorem Ot.trans {A B C : World} {b : Nat} (h : Ot A B b) (k : Ot B C b) : Ot A C b := ⟨k.os.trans h.os, k.tape.trans h.tape, k.output.trans h.output, Nat.le_trans h.size k.size, fun i hi hne => (k.block i (Nat.lt_of_lt_of_le hi h.size) hne).trans (h.block i hi hne)⟩
theorem Ot.drewN {W W' : World} {b : Nat} (h : Ot W W' b) (q : Nat) : Ot W (W'.drewN q) b := ⟨h.os, h.tape, h.output, h.size, h.block⟩
theorem Ot.drew {W W' : World} {b : Nat} (h : Ot W W' b) : Ot W W'.drew b := ⟨h.os, h.tape, h.output, h.size, h.block⟩
theorem Ot.set {W W' : World} {b : Nat} (h : Ot W W' b) (i : Nat) (v : Value) : Ot W (W'.setCell ⟨b, i, none⟩ v) b :=
  h.trans ⟨rfl, rfl, rfl, by simp [World.setCell], fun k _ hk => Below.heap_setCell _ _ _ k (fun e => hk (by rw [e]))⟩
theorem Ot.below {W W' : World} (b : Nat) (h : Below W.heap.size W W') : Ot W W' b := ⟨h.os, h.tape, h.output, h.size, fun k hk _ => h.block k hk⟩
theorem below_ot {B b : Nat} {w W W' : World} (h : Below B w W) (k : Ot W W' b) (hB : B ≤ W.heap.size) (hb : B ≤ b) : Below B w W' := h.grown k hB (fun j hj => by injection hj with hj; omega)
theorem owns_ot {W W' : World} {base s b : Nat} {e : TypeId} {v : Value} {n : Nat} {xs : List Value} (h : W.ownsRow base e s v n xs) (k : Ot W W' b) (hne : v.ownBlock ≠ some b) : W'.ownsRow base e s v n xs := h.kept k (.inr hne)
theorem Rr.drewN {w W : World} {b : Nat} {r : Rt} {s : Ls} {A : Option Addr} {n cap : Nat} (h : Rr w b r s A n cap W) (q : Nat) : Rr w b r s A n cap (W.drewN q) := ⟨h.bk, h.lo, below_drewN h.bl q, h.row, h.len, h.le, h.cm, h.byt, h.sm⟩
theorem Rr.drew {w W : World} {b : Nat} {r : Rt} {s : Ls} {A : Option Addr} {n cap : Nat} (h : Rr w b r s A n cap W) : Rr w b r s A n cap W.drew := ⟨h.bk, h.lo, h.bl.drew, h.row, h.len, h.le, h.cm, h.byt, h.sm⟩
theorem Rr.next {w W W' : World} {b : Nat} {r : Rt} {s : Ls} {A : Option Addr} {n cap : Nat} (h : Rr w b r s A n cap W) (hb : Below W.heap.size W W') : Rr w b r s A n cap W' := ⟨h.bk.next hb, h.lo, bnext' h.bl hb, h.row, h.len, h.le, h.cm, h.byt, h.sm⟩
/-- The chunk's field, or a slice, is stored. -/
theorem Rr.put {w W : World} {b : Nat} {r : Rt} {s s' : Ls} {A : Option Addr} {n cap : Nat} (h : Rr w b r s A n cap W) (i : Nat) (v : Value) (c' : Ck) (he : (rv A n cap r.c s r.bad).setIfInBounds i v = rv A n cap c' s' r.bad) : Rr w b ⟨r.l, c', r.bad⟩ s' A n cap (W.setCell ⟨b, i, none⟩ v) :=
  ⟨by have := h.bk.set i v; rw [he] at this; exact this, h.lo, h.bl.setCell (p := ⟨b, i, none⟩) h.lo v, h.row, h.len, h.le, h.cm, h.byt, h.sm⟩
theorem Rr.rest {w W : World} {b : Nat} {r : Rt} {s : Ls} {A : Option Addr} {n cap : Nat} (h : Rr w b r s A n cap W) (A' : Option Addr) (n' cap' : Nat) (l' : List Int) (hr : Row w A' (bs l')) (hl : l'.length = n') (hle : n' ≤ cap') (hm : cap' ≤ maxLen) (hb : Byt l') (hs : n' ≤ 65531) :
    Rr w b ⟨l', r.c, r.bad⟩ s A' n' cap' (W.setCell ⟨b, 0, none⟩ (.slice A' n' cap')) :=
  ⟨by have := h.bk.set 0 (.slice A' n' cap'); simpa [rv] using this, h.lo, h.bl.setCell (p := ⟨b, 0, none⟩) h.lo _, hr, hl, hle, hm, hb, hs⟩
theorem Rr.no {w W : World} {b : Nat} {r : Rt} {s : Ls} {A : Option Addr} {n cap : Nat} (h : Rr w b r s A n cap W) : Rr w b ⟨[], r.c, r.bad⟩ s none 0 0 (W.setCell ⟨b, 0, none⟩ (.slice none 0 0)) :=
  h.rest none 0 0 [] (Row.nil_ _ _) rfl (Nat.le_refl _) (Nat.zero_le _) (fun c hc => by simp at hc) (by omega)
theorem Rr.bad_ {w W : World} {b : Nat} {r : Rt} {s : Ls} {A : Option Addr} {n cap : Nat} (h : Rr w b r s A n cap W) (v : Bool) : Rr w b ⟨r.l, r.c, v⟩ s A n cap (W.setCell ⟨b, 16, none⟩ (.bool v)) :=
  ⟨by have := h.bk.set 16 (.bool v); simpa [rv] using this, h.lo, h.bl.setCell (p := ⟨b, 16, none⟩) h.lo _, h.row, h.len, h.le, h.cm, h.byt, h.sm⟩
theorem u16_word {u0 u1 : Nat} (h0 : u0 < 256) (h1 : u1 < 256) : bits .or .u16 ((u0 : Int) * 256) (u1 : Int) = ((256 * u0 + u1 : Nat) : Int) := by
  rw [show (u0 : Int) * 256 = ((u0 * 2 ^ 8 : Nat) : Int) by omega, u16_or_nat _ _ (by omega) (by omega), or_app (by omega)]
  omega
theorem u32_word {x y : Nat} (h0 : x < 65536) (h1 : y < 65536) : bits .or .u32 ((x : Int) * 65536) (y : Int) = ((x * 65536 + y : Nat) : Int) := by
  rw [show (x : Int) * 65536 = ((x * 2 ^ 16 : Nat) : Int) by omega, u32_or_nat _ _ (by omega) (by omega), or_app (by omega)]
/-- What a method leaves that takes a number. -/
def NOut (w : World) (b : Nat) (r' : Rt) (s : Ls) (v : Value) (W : World) (e : Ending) (W' : World) : Prop := ∃ A n cap, e = .returned v ∧ Rr w b r' s A n cap W' ∧ Ot W W' b
set_option maxRecDepth 100000 in
set_option maxHeartbeats 1000000 in
theorem two_r (w W : World) (b : Nat) (r : Rt) (s : Ls) (A : Option Addr) (n cap : Nat) (h : Rr w b r s A n cap W) :
    Calls Try.prog 62 #[.pointer (some ⟨b, 0, none⟩)] W (NOut w b r.n2.2 s (.int .u16 (r.n2.1 : Nat)) W) := by
  have HR := Lib.hid h
  have g0 := h.bk.r0
  have hsm := h.sm
  by_cases hs : n < 2
  · have hn : r.n2 = (0, { r with l := [], bad := true }) := by unfold Rt.n2; rw [if_pos (by rw [h.len]; exact hs)]
    rw [hn]
    have f0 := h.bk.frozen 0
    have f16 := h.bk.frozen 16
    have g16 := h.bk.r16
    have HN := Lib.hid ((h.no).bad_ true)
    have HO := Lib.hid (((Ot.refl W b).set 0 (.slice none 0 0)).set 16 (.bool true))
    clear h hn
    go_enter Try.func62, Try.ntmps62
    go_wp2_with fail
    go_ret
    exact ⟨_, _, _, rfl, HN.out, HO.out⟩
  · have hn : r.n2 = (nu (r.l.take 2), { r with l := r.l.drop 2 }) := by unfold Rt.n2; rw [if_neg (by rw [h.len]; exact hs)]
    rw [hn]
    have hl2 : 2 ≤ r.l.length := by rw [h.len]; omega
    obtain ⟨a, rfl, c0⟩ := Row.byte h.row (show 0 < r.l.length by omega)
    obtain ⟨a1, e1, c1⟩ := Row.byte h.row (show 1 < r.l.length by omega)
    injection e1 with e1
    subst e1
    obtain ⟨u0, h0, b0⟩ := Byt.at h.byt (show 0 < r.l.length by omega)
    obtain ⟨u1, h1, b1⟩ := Byt.at h.byt (show 1 < r.l.length by omega)
    have hv : nu (r.l.take 2) = 256 * u0 + u1 := by
      rw [nu_take (by omega), nu_take (by omega), h0, h1]
      simp [nu]
    rw [h0] at c0
    rw [h1] at c1
    have k0 : W.cell? a = some (.int .u8 (u0 : Int)) := (h.bl.cell (block_lt_of_cell (show w.cell? a = _ by rw [← c0]; congr 1))).trans (by rw [← c0]; congr 1)
    have k1 : W.cell? { block := a.block, off := a.off + 1 } = some (.int .u8 (u1 : Int)) := (h.bl.cell (block_lt_of_cell (show w.cell? { block := a.block, off := a.off + 1 } = _ by rw [← c1]; congr 1))).trans (by rw [← c1]; congr 1)
    have n0 : 0 < n := by omega
    have n1 : (0 : Int) < (n : Int) := by omega
    have n2 : (1 : Int) < (n : Int) := by omega
    have q2 : ∀ W, (Instr.slice 24 (.slice (some a) n cap) (some (.int .i64 2)) none none).run Try.prog W = .ok (.slice (cutA (some a) cap 2) (n - 2) (cap - 2)) W := fun W => run_cut_l (P := Try.prog) Try.underlying24 sz8 (k := .i64) (some a) n cap 2 (by omega) W
    have ws : IntKind.u16.wrap ((u0 : Int) * 256) = (u0 : Int) * 256 := by rw [IntKind.wrap_u16]; omega
    have HV := Lib.hid hv
    have HW := Lib.hid (u16_word b0 b1)
    have f0 := h.bk.frozen 0
    have hle := h.le
    have HN : Hid (∀ q, Rr w b ⟨r.l.drop 2, r.c, r.bad⟩ s (cutA (some a) cap 2) (n - 2) (cap - 2) ((W.drewN q).setCell ⟨b, 0, none⟩ (.slice (cutA (some a) cap 2) (n - 2) (cap - 2)))) := Lib.hid fun q =>
      (h.drewN q).rest _ _ _ (r.l.drop 2) (row_drop h.len h.le h.row) (by rw [List.length_drop, h.len]) (by have := h.le; omega) (by have := h.cm; omega) (Byt.drop h.byt 2) (by have := h.sm; omega)
    have HO := Lib.hid fun q => ((Ot.refl W b).drewN q).set 0 (.slice (cutA (some a) cap 2) (n - 2) (cap - 2))
    clear h hn hl2 h0 h1 hv c0 c1 hle
    go_enter Try.func62, Try.ntmps62
    go_wp2_with fail
    go_quiet (fail)
    go_wp2_with fail
    go_ret
    exact ⟨_, _, _, by rw [HW.out, HV.out]; rfl, HN.out _, HO.out _⟩
end Go.Proofs.Ytjlemghkaodkkaa
