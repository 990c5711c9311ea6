/-
  A slice of messages with their Ssn and size that came in: opened.
-/
import Derived.Test.YthgbngnhlgaioaaFgPcs
import Derived.Test.YthgbngnhlgaioaaFgBackL
import Derived.Test.YthgbngnhlgaioaaRows
import Derived.Lib.SmallJoins
namespace Go.Proofs.Ythgbngnhlgaioaa
set_option maxRecDepth 4000
open Go.RowKit Go.ChangeShapes Go.WideShapes Go.Deep Go.Joins
open Fg
set_option linter.unusedVariables false
set_option linter.unusedSimpArgs false

structure Sq where
  s : Nat
  u : Bool
  p : Nat
  A : Option Addr
  k : Nat
  c : Nat
  d : List Int
  n : Nat
  z : Int
def scl (q : Sq) : List Value := [.int .u16 (q.s : Int), .bool q.u, .int .u32 (q.p : Int), .slice q.A q.k q.c, .int .u16 (q.n : Int), .int .i64 q.z]
def sf (qs : List Sq) : List Value := qs.flatMap scl
structure SIn (W : World) (B : Nat) (q : Sq) : Prop where
  s : q.s < 65536
  p : q.p < 4294967296
  n : q.n < 65536
  z : (Lit.int .i64 q.z).wf = true
  len : q.d.length = q.k
  cap : q.k ≤ q.c
  row : Row W q.A (bs q.d)
  byt : Byt q.d
  bulk : q.k ≤ B
def SsIn (B : Nat) (W : World) (A : Option Addr) (n c : Nat) (qs : List Sq) : Prop := qs.length = n ∧ n ≤ c ∧ c ≤ maxLen ∧ Row W A (sf qs) ∧ ∀ q ∈ qs, SIn W B q
theorem sf_get : ∀ {qs : List Sq} {i : Nat} (h : i < qs.length) (k : Nat), k < 6 → (sf qs)[i * 6 + k]? = (scl qs[i])[k]?
  | q :: qs, 0, _, k, hk => by
    have e : sf (q :: qs) = scl q ++ sf qs := by simp [sf]
    rw [e, List.getElem?_append_left (by simp [scl]; omega)]
    simp
  | q :: qs, i + 1, h, k, hk => by
    have ih := sf_get (qs := qs) (i := i) (by simpa using h) k hk
    have e : sf (q :: qs) = scl q ++ sf qs := by simp [sf]
    have hl : (scl q).length = 6 := rfl
    rw [e, List.getElem?_append_right (by omega), hl, show (i + 1) * 6 + k - 6 = i * 6 + k by omega]
    exact ih
theorem sf_len (qs : List Sq) : (sf qs).length = qs.length * 6 := by
  induction qs with
  | nil => rfl
  | cons q qs ih =>
    have e : sf (q :: qs) = scl q ++ sf qs := by simp [sf]
    have hl : (scl q).length = 6 := rfl
    rw [e, List.length_append, hl, ih, List.length_cons]
    omega
theorem sf_cell : ∀ {qs : List Sq} {i : Nat} {v : Value}, (sf qs)[i]? = some v → ∃ h : i / 6 < qs.length, (scl qs[i / 6])[i % 6]? = some v := fun {qs i v} h => by
  have hi := (List.getElem?_eq_some_iff.1 h).1
  rw [sf_len] at hi
  have h6 : i / 6 < qs.length := by omega
  refine ⟨h6, ?_⟩
  have := sf_get h6 (i % 6) (Nat.mod_lt _ (by omega))
  rw [show i / 6 * 6 + i % 6 = i by omega] at this
  rw [← this]
  exact h
theorem sf_at {W : World} {A : Option Addr} {qs : List Sq} (h : Row W A (sf qs)) {i : Nat} (hi : i < qs.length) :
    ∃ a, A = some a ∧ W.cell? (a.add (i * 6)) = some (.int .u16 (qs[i].s : Int)) ∧ W.cell? { block := (a.add (i * 6)).block, off := (a.add (i * 6)).off + 1 } = some (.bool qs[i].u) ∧
      W.cell? { block := (a.add (i * 6)).block, off := (a.add (i * 6)).off + 2 } = some (.int .u32 (qs[i].p : Int)) ∧ W.cell? { block := (a.add (i * 6)).block, off := (a.add (i * 6)).off + 3 } = some (.slice qs[i].A qs[i].k qs[i].c) ∧
      W.cell? { block := (a.add (i * 6)).block, off := (a.add (i * 6)).off + 4 } = some (.int .u16 (qs[i].n : Int)) ∧ W.cell? { block := (a.add (i * 6)).block, off := (a.add (i * 6)).off + 5 } = some (.int .i64 qs[i].z) := by
  have g := fun k hk => sf_get hi k hk
  obtain ⟨a, ha, k0⟩ := h (i * 6) _ ((g 0 (by omega)).trans rfl)
  have hc : ∀ k v, 0 < k → k < 6 → (scl qs[i])[k]? = some v → W.cell? { block := (a.add (i * 6)).block, off := (a.add (i * 6)).off + k } = some v := fun k v h0 h6 hv => by
    obtain ⟨b, hb, kc⟩ := h (i * 6 + k) v ((g k h6).trans hv)
    rw [ha] at hb
    injection hb with hb
    subst hb
    rw [← add_off a (i * 6) k h0]
    exact kc
  exact ⟨a, ha, k0, hc 1 _ (by omega) (by omega) rfl, hc 2 _ (by omega) (by omega) rfl, hc 3 _ (by omega) (by omega) rfl, hc 4 _ (by omega) (by omega) rfl, hc 5 _ (by omega) (by omega) rfl⟩
section
variable {H : Type} {enc : TypeId × Value → H} {W : World} {base : Nat} {held : Bool}
theorem bulk_pos (d : DataW H) : 1 ≤ Rows.uptoBulk d := by
  cases d with
  | lit l => cases l <;> simp [Rows.uptoBulk]
  | _ => simp [Rows.uptoBulk]
theorem bulk_mem {d : DataW H} : ∀ {l : List (DataW H)}, d ∈ l → Rows.uptoBulk d ≤ Rows.uptoBulkAll l
  | x :: l, h => by
    simp only [Rows.uptoBulkAll]
    rcases List.mem_cons.1 h with rfl | h
    · omega
    · have := bulk_mem h
      omega
theorem bulk_len : ∀ (l : List (DataW H)), l.length ≤ Rows.uptoBulkAll l
  | [] => Nat.zero_le _
  | x :: l => by
    have h1 := bulk_pos x
    have h2 := bulk_len l
    simp only [Rows.uptoBulkAll, List.length_cons]
    omega
theorem open_sent {fuel : Nat} {cs : List Value} {dd : DataW H} {pl : List MemPlace} (h : DataW.trod enc Try.prog W base (fun _ => true) held fuel 33 cs = some (dd, pl)) :
    ∃ q : Sq, cs = scl q ∧ SIn W (Rows.uptoBulk dd) q := by
  obtain ⟨z0, z1, z2, n, hx, hl, h0, h1, h2⟩ := trod_struct3 Try.underlying33 h
  rw [show Try.prog.cellsOf 33 = 6 by kernel_rfl] at hl
  have c0 : Try.prog.cellsOf 28 = 1 := by kernel_rfl
  have c1 : Try.prog.cellsOf 5 = 1 := by kernel_rfl
  have cb : Try.prog.cellsOf 4 = 1 := by kernel_rfl
  have ci : Try.prog.cellsOf 3 = 1 := by kernel_rfl
  have c2 : Try.prog.cellsOf 29 = 1 := by kernel_rfl
  have c3 : Try.prog.cellsOf 23 = 1 := by kernel_rfl
  have c4 : Try.prog.cellsOf 31 = 4 := by kernel_rfl
  match cs, hl with
  | [v0, v1, v2, v3, v4, v5], _ =>
    have k0 : DataW.trod enc Try.prog W base (fun _ => true) held n 31 [v0, v1, v2, v3] = some z0 := by simpa [c4] using h0
    have k1 : DataW.trod enc Try.prog W base (fun _ => true) held n 28 [v4] = some z1 := by simpa [c0] using h1
    have k2 : DataW.trod enc Try.prog W base (fun _ => true) held n 3 [v5] = some z2 := by simpa [ci] using h2
    obtain ⟨y0, y1, y2, y3, n', hx', _, f0, f1, f2, f3⟩ := trod_struct4 Try.underlying31 k0
    have g0 : DataW.trod enc Try.prog W base (fun _ => true) held n' 28 [v0] = some y0 := by simpa [c0] using f0
    have g1 : DataW.trod enc Try.prog W base (fun _ => true) held n' 4 [v1] = some y1 := by simpa [cb] using f1
    have g2 : DataW.trod enc Try.prog W base (fun _ => true) held n' 23 [v2] = some y2 := by simpa [c3] using f2
    have g3 : DataW.trod enc Try.prog W base (fun _ => true) held n' 29 [v3] = some y3 := by simpa [c2] using f3
    obtain ⟨s, e0, _, w0⟩ := DataW.trod_int Try.underlying28 g0
    obtain ⟨u, e1, _⟩ := DataW.trod_bool Try.underlying4 g1
    obtain ⟨p, e2, _, w2⟩ := DataW.trod_int Try.underlying23 g2
    obtain ⟨m, e4, _, w4⟩ := DataW.trod_int Try.underlying28 k1
    obtain ⟨z, e5, _, w5⟩ := DataW.trod_int Try.underlying3 k2
    obtain rfl : v0 = _ := by simpa using e0
    obtain rfl : v1 = _ := by simpa using e1
    obtain rfl : v2 = _ := by simpa using e2
    obtain rfl : v4 = _ := by simpa using e4
    obtain rfl : v5 = _ := by simpa using e5
    have j0 := wf_u16 w0
    have j2 := wf_u32 w2
    have j4 := wf_u16 w4
    obtain ⟨s, rfl⟩ : ∃ a : Nat, s = a := ⟨s.toNat, by omega⟩
    obtain ⟨p, rfl⟩ : ∃ a : Nat, p = a := ⟨p.toNat, by omega⟩
    obtain ⟨m, rfl⟩ : ∃ a : Nat, m = a := ⟨m.toNat, by omega⟩
    obtain ⟨A, len, cap, zs, rfl, hz, hbk⟩ : ∃ A len cap zs, v3 = .slice A len cap ∧ IsRow .u8 W A len cap zs ∧ len ≤ Rows.uptoBulk y3.1 := by
      rcases open_ints Try.underlying29 Try.underlying5 c1 g3 with ⟨hcs, _⟩ | ⟨x, len, cap, zs, hcs, _, hlc, hm, hz, hy, hcell, hwz⟩
      · exact ⟨none, 0, 0, [], by simpa using hcs, .inl ⟨rfl, rfl, rfl, rfl⟩, Nat.zero_le _⟩
      · refine ⟨some x, len, cap, zs, by simpa using hcs, .inr ⟨x, rfl, hlc, hm, by simpa using hz, hcell, hwz⟩, ?_⟩
        simp only [if_true] at hz
        rw [hy]
        simp only [Rows.uptoBulk]
        have := bulk_len (lits (H := H) .u8 (zs.take len))
        simp [lits] at this ⊢
        omega
    obtain ⟨l, hll, h3, h4, hb, hr⟩ := hz.bytes
    refine ⟨⟨s, u, p, A, len, cap, l, m, z⟩, rfl, ⟨by show s < _; omega, by show p < _; omega, by show m < _; omega, w5, hll, h3, hr, hb, ?_⟩⟩
    show len ≤ _
    obtain ⟨z01, z02⟩ := z0
    simp only [Prod.mk.injEq] at hx hx'
    rw [hx.1, hx'.1]
    simp only [Rows.uptoBulk, Rows.uptoBulkAll]
    omega
theorem SIn.up {B B' : Nat} {q : Sq} (h : SIn W B q) (hb : B ≤ B') : SIn W B' q := ⟨h.s, h.p, h.n, h.z, h.len, h.cap, h.row, h.byt, Nat.le_trans h.bulk hb⟩
theorem open_sents {a : Option Addr} {len cap : Nat} {d : DataW H} {pl : List MemPlace} (h : DataW.Trod enc Try.prog W base (fun _ => true) held 22 (.slice a len cap) d pl) :
    ∃ qs, SsIn (Rows.uptoBulk d) W a len cap qs := by
  obtain ⟨fuel, hf⟩ := h
  have c3 : Try.prog.cellsOf 33 = 6 := by kernel_rfl
  rcases open_slice Try.underlying22 hf with ⟨hcs, _⟩ | ⟨x, l, c, m, n, D, Pl, hcs, _, hl, hm, hmm, hx, hr⟩
  · simp [Value.cells] at hcs
    obtain ⟨rfl, rfl, rfl⟩ := hcs
    exact ⟨[], rfl, Nat.le_refl _, Nat.zero_le _, fun i v h => by simp [sf] at h, fun q hq => by simp at hq⟩
  · simp [Value.cells] at hcs
    obtain ⟨rfl, rfl, rfl⟩ := hcs
    rw [c3] at hr
    have hml : len ≤ m := by
      split at hmm <;> omega
    have hbk : ∀ i, i < len → Rows.uptoBulk (D i) ≤ Rows.uptoBulk d := fun i hi => by
      simp only [Prod.mk.injEq] at hx
      rw [hx.1]
      have h1 := bulk_mem (d := D i) (l := (List.range len).map D) (List.mem_map.2 ⟨i, List.mem_range.2 hi, rfl⟩)
      simp only [Rows.uptoBulk]
      omega
    have each : ∀ i, i < len → ∃ q : Sq, W.cells? base (x.add (i * 6)) 6 = some (scl q) ∧ SIn W (Rows.uptoBulk d) q := by
      intro i hi
      obtain ⟨cs', k1, k2⟩ := hr i (by omega)
      obtain ⟨q, rfl, hv⟩ := open_sent k2
      exact ⟨q, k1, hv.up (hbk i hi)⟩
    haveI : Inhabited Sq := ⟨⟨0, false, 0, none, 0, 0, [], 0, 0⟩⟩
    obtain ⟨q, hq⟩ := choose_lt each
    refine ⟨(List.range len).map q, by simp, hl, hm, fun i v hv => ⟨x, rfl, ?_⟩, fun p hp => ?_⟩
    · obtain ⟨h2, h3⟩ := sf_cell hv
      simp only [List.length_map, List.length_range] at h2
      simp only [List.getElem_map, List.getElem_range] at h3
      obtain ⟨_, _, hc⟩ := World.cells?_some (hq (i / 6) h2).1
      have e := hc (i % 6) (Nat.mod_lt _ (by omega))
      rw [h3, add_add, show i / 6 * 6 + i % 6 = i by omega] at e
      exact e
    · obtain ⟨i, hi, rfl⟩ := List.mem_map.1 hp
      exact (hq i (List.mem_range.1 hi)).2
end
end Go.Proofs.Ythgbngnhlgaioaa
