/-
  How a chunk lies in memory: the struct's value, what its slices read as.
-/
import Derived.Test.YtjlemghkaodkkaaChunkLow
namespace Go.Proofs.Ytjlemghkaodkkaa
open Go.RowKit Wire Tlv Chunk

/-- The slices of a chunk's value. -/
structure Ls where
  dA : Option Addr
  dn : Nat
  dc : Nat
  aA : Option Addr
  an : Nat
  ac : Nat
  gA : Option Addr
  gn : Nat
  gc : Nat
  uA : Option Addr
  un : Nat
  uc : Nat
  cA : Option Addr
  cn : Nat
  cc : Nat
  cq : List Value
/-- A chunk by value. -/
def cv (c : Ck) (s : Ls) : Array Value := #[.int .u8 (c.kd : Int), .int .u8 (c.fl : Int), .int .u32 (c.tag : Int), .int .u32 (c.rw : Int), .int .u32 (c.tsn : Int), .int .u16 (c.out : Int), .int .u16 (c.inn : Int), .int .u16 (c.sid : Int), .int .u16 (c.ssn : Int), .int .u32 (c.ppid : Int),
  .slice s.dA s.dn s.dc, .slice s.aA s.an s.ac, .slice s.gA s.gn s.gc, .slice s.uA s.un s.uc, .slice s.cA s.cn s.cc]
/-- A chunk's zero value, written out. -/
abbrev zlit : Array Value := #[.int .u8 0, .int .u8 0, .int .u32 0, .int .u32 0, .int .u32 0, .int .u16 0, .int .u16 0, .int .u16 0, .int .u16 0, .int .u32 0, .slice none 0 0, .slice none 0 0, .slice none 0 0, .slice none 0 0, .slice none 0 0]
def nol : Ls := ⟨none, 0, 0, none, 0, 0, none, 0, 0, none, 0, 0, none, 0, 0, []⟩
theorem cv_zero : cv zero nol = zlit := rfl
theorem cv_size (c : Ck) (s : Ls) : (cv c s).size = 15 := rfl
theorem cv_one (c : Ck) (s : Ls) : (cv c s).all (·.oneCell') = true := by simp [cv, Value.oneCell']
theorem ckinfo : (Try.prog.info? 29).map (·.size) = some 15 := by kernel_rfl
theorem cv_info (c : Ck) (s : Ls) : (Try.prog.info? 29).map (·.size) = some (cv c s).size := ckinfo
theorem Bk.c0 {W : World} {b : Nat} {c : Ck} {s : Ls} {t : TypeId} (h : Bk W b (cv c s) t) : W.cell? ⟨b, 0, none⟩ = some (.int .u8 (c.kd : Int)) := h.cell 0
theorem Bk.c1 {W : World} {b : Nat} {c : Ck} {s : Ls} {t : TypeId} (h : Bk W b (cv c s) t) : W.cell? ⟨b, 1, none⟩ = some (.int .u8 (c.fl : Int)) := h.cell 1
theorem Bk.c2 {W : World} {b : Nat} {c : Ck} {s : Ls} {t : TypeId} (h : Bk W b (cv c s) t) : W.cell? ⟨b, 2, none⟩ = some (.int .u32 (c.tag : Int)) := h.cell 2
theorem Bk.c3 {W : World} {b : Nat} {c : Ck} {s : Ls} {t : TypeId} (h : Bk W b (cv c s) t) : W.cell? ⟨b, 3, none⟩ = some (.int .u32 (c.rw : Int)) := h.cell 3
theorem Bk.c4 {W : World} {b : Nat} {c : Ck} {s : Ls} {t : TypeId} (h : Bk W b (cv c s) t) : W.cell? ⟨b, 4, none⟩ = some (.int .u32 (c.tsn : Int)) := h.cell 4
theorem Bk.c5 {W : World} {b : Nat} {c : Ck} {s : Ls} {t : TypeId} (h : Bk W b (cv c s) t) : W.cell? ⟨b, 5, none⟩ = some (.int .u16 (c.out : Int)) := h.cell 5
theorem Bk.c6 {W : World} {b : Nat} {c : Ck} {s : Ls} {t : TypeId} (h : Bk W b (cv c s) t) : W.cell? ⟨b, 6, none⟩ = some (.int .u16 (c.inn : Int)) := h.cell 6
theorem Bk.c7 {W : World} {b : Nat} {c : Ck} {s : Ls} {t : TypeId} (h : Bk W b (cv c s) t) : W.cell? ⟨b, 7, none⟩ = some (.int .u16 (c.sid : Int)) := h.cell 7
theorem Bk.c8 {W : World} {b : Nat} {c : Ck} {s : Ls} {t : TypeId} (h : Bk W b (cv c s) t) : W.cell? ⟨b, 8, none⟩ = some (.int .u16 (c.ssn : Int)) := h.cell 8
theorem Bk.c9 {W : World} {b : Nat} {c : Ck} {s : Ls} {t : TypeId} (h : Bk W b (cv c s) t) : W.cell? ⟨b, 9, none⟩ = some (.int .u32 (c.ppid : Int)) := h.cell 9
theorem Bk.c10 {W : World} {b : Nat} {c : Ck} {s : Ls} {t : TypeId} (h : Bk W b (cv c s) t) : W.cell? ⟨b, 10, none⟩ = some (.slice s.dA s.dn s.dc) := h.cell 10
theorem Bk.c11 {W : World} {b : Nat} {c : Ck} {s : Ls} {t : TypeId} (h : Bk W b (cv c s) t) : W.cell? ⟨b, 11, none⟩ = some (.slice s.aA s.an s.ac) := h.cell 11
theorem Bk.c12 {W : World} {b : Nat} {c : Ck} {s : Ls} {t : TypeId} (h : Bk W b (cv c s) t) : W.cell? ⟨b, 12, none⟩ = some (.slice s.gA s.gn s.gc) := h.cell 12
theorem Bk.c13 {W : World} {b : Nat} {c : Ck} {s : Ls} {t : TypeId} (h : Bk W b (cv c s) t) : W.cell? ⟨b, 13, none⟩ = some (.slice s.uA s.un s.uc) := h.cell 13
theorem Bk.c14 {W : World} {b : Nat} {c : Ck} {s : Ls} {t : TypeId} (h : Bk W b (cv c s) t) : W.cell? ⟨b, 14, none⟩ = some (.slice s.cA s.cn s.cc) := h.cell 14
theorem Bk.row_ {W : World} {b : Nat} {cs : Array Value} {t : TypeId} (h : Bk W b cs t) (cs' : Array Value) : Bk (W.setRow b cs') b cs' t := setRow_heap _ _ _ _ _ _ h
theorem Bk.rowO {W : World} {b g : Nat} {cs : Array Value} {t : TypeId} (h : Bk W b cs t) (hne : b ≠ g) (cs' : Array Value) : Bk (W.setRow g cs') b cs t := (setRow_other W g b cs' hne).trans h
def us (l : List Nat) : List Value := l.map fun (a : Nat) => Value.int .u32 (a : Int)
def gs (l : List (Nat × Nat)) : List Value := l.flatMap fun (g : Nat × Nat) => [.int .u16 (g.1 : Int), .int .u16 (g.2 : Int)]
def cs : List (Nat × List Int) → List Value → List Value
  | x :: l, v :: q => .int .u16 (x.1 : Int) :: v :: cs l q
  | _, _ => []
/-- The bytes that a slice has. -/
def Vb (W : World) (l : List Int) (v : Value) : Prop := ∃ A n c, v = .slice A n c ∧ l.length = n ∧ n ≤ c ∧ c ≤ maxLen ∧ n ≤ 140737488351232 ∧ Row W A (bs l) ∧ (A = none → n = 0 ∧ c = 0)
theorem Vb.next {W W' : World} {l : List Int} {v : Value} (h : Vb W l v) (hb : Below W.heap.size W W') : Vb W' l v := by
  obtain ⟨A, n, c, h1, h2, h3, h4, h8, h6, h7⟩ := h
  exact ⟨A, n, c, h1, h2, h3, h4, h8, h6.below hb, h7⟩
/-- The sizes of a chunk's slices. -/
structure Lz (c : Ck) (s : Ls) : Prop where
  d : c.da.length = s.dn
  a : c.ad.length = s.an
  g : c.ga.length = s.gn
  u : c.du.length = s.un
  c : c.ca.length = s.cn
  dm : s.dn ≤ 140737488351232
  am : s.an * 4 ≤ 140737488351232
  gm : s.gn * 4 ≤ 140737488351232
  um : s.un * 4 ≤ 140737488351232
  cm : s.cn * 32 ≤ 140737488351232
/-- A chunk's value reads as the chunk. -/
structure Ch (W : World) (c : Ck) (s : Ls) : Prop where
  ok : c.ok
  z : Lz c s
  dr : Vb W c.da (.slice s.dA s.dn s.dc)
  ar : Row W s.aA (us c.ad)
  gr : Row W s.gA (gs c.ga)
  ur : Row W s.uA (us c.du)
  cr : Row W s.cA (cs c.ca s.cq)
  cl : s.cq.length = c.ca.length
  cd : ∀ (i : Nat) x v, c.ca[i]? = some x → s.cq[i]? = some v → Vb W x.2 v
theorem Ch.next {W W' : World} {c : Ck} {s : Ls} (h : Ch W c s) (hb : Below W.heap.size W W') : Ch W' c s :=
  ⟨h.ok, h.z, h.dr.next hb, h.ar.below hb, h.gr.below hb, h.ur.below hb, h.cr.below hb, h.cl, fun i x v h1 h2 => (h.cd i x v h1 h2).next hb⟩
theorem Ch.alloc {W : World} {c : Ck} {s : Ls} (h : Ch W c s) (o : Obj) : Ch (W.alloc o) c s := h.next ((Below.refl _ _).alloc (Nat.le_refl _) _)
theorem Ch.drew {W : World} {c : Ck} {s : Ls} (h : Ch W c s) : Ch W.drew c s := h.next (Below.refl _ _).drew
theorem us_len (l : List Nat) : (us l).length = l.length := by simp [us]
theorem gs_len (l : List (Nat × Nat)) : (gs l).length = 2 * l.length := by
  induction l with
  | nil => rfl
  | cons g l ih => simp [gs] at ih ⊢; omega
theorem us_get {l : List Nat} {i : Nat} (h : i < l.length) : (us l)[i]? = some (.int .u32 (l[i] : Int)) := by
  simp [us, List.getElem?_map, List.getElem?_eq_getElem h]
theorem gs_get : ∀ {l : List (Nat × Nat)} {i : Nat} (h : i < l.length), (gs l)[i * 2]? = some (.int .u16 (l[i].1 : Int)) ∧ (gs l)[i * 2 + 1]? = some (.int .u16 (l[i].2 : Int))
  | g :: l, 0, _ => by simp [gs]
  | g :: l, i + 1, h => by
    have ih := gs_get (l := l) (i := i) (by simpa using h)
    have e : gs (g :: l) = [.int .u16 (g.1 : Int), .int .u16 (g.2 : Int)] ++ gs l := by simp [gs]
    rw [e, List.getElem?_append_right (by simp; omega), List.getElem?_append_right (by simp; omega)]
    simp only [List.length_cons, List.length_nil]
    rw [show (i + 1) * 2 - (0 + 1 + 1) = i * 2 by omega, show (i + 1) * 2 + 1 - (0 + 1 + 1) = i * 2 + 1 by omega]
    exact ih
theorem cs_get : ∀ {l : List (Nat × List Int)} {q : List Value} {i : Nat} (h : i < l.length) (hq : i < q.length), (cs l q)[i * 2]? = some (.int .u16 (l[i].1 : Int)) ∧ (cs l q)[i * 2 + 1]? = some q[i]
  | x :: l, v :: q, 0, _, _ => by simp [cs]
  | x :: l, v :: q, i + 1, h, hq => by
    have ih := cs_get (l := l) (q := q) (i := i) (by simpa using h) (by simpa using hq)
    have e : cs (x :: l) (v :: q) = [.int .u16 (x.1 : Int), v] ++ cs l q := by simp [cs]
    rw [e, List.getElem?_append_right (by simp; omega), List.getElem?_append_right (by simp; omega)]
    simp only [List.length_cons, List.length_nil]
    rw [show (i + 1) * 2 - (0 + 1 + 1) = i * 2 by omega, show (i + 1) * 2 + 1 - (0 + 1 + 1) = i * 2 + 1 by omega]
    exact ih
/-- A gap's two cells. -/
theorem gap_at {W : World} {A : Option Addr} {l : List (Nat × Nat)} (h : Row W A (gs l)) {i : Nat} (hi : i < l.length) :
    ∃ a, A = some a ∧ W.cell? (a.add (i * 2)) = some (.int .u16 (l[i].1 : Int)) ∧ W.cell? { block := (a.add (i * 2)).block, off := (a.add (i * 2)).off + 1 } = some (.int .u16 (l[i].2 : Int)) := by
  obtain ⟨g0, g1⟩ := gs_get hi
  obtain ⟨a, hA, k0⟩ := h _ _ g0
  obtain ⟨a1, e1, k1⟩ := h _ _ g1
  rw [hA] at e1
  injection e1 with e1
  subst e1
  rw [← add_add] at k1
  exact ⟨a, hA, k0, by rw [← k1]; rfl⟩
theorem num_at {W : World} {A : Option Addr} {l : List Nat} (h : Row W A (us l)) {i : Nat} (hi : i < l.length) : ∃ a, A = some a ∧ W.cell? (a.add i) = some (.int .u32 (l[i] : Int)) := h _ _ (us_get hi)
/-- A cause's two cells. -/
theorem cause_at {W : World} {A : Option Addr} {l : List (Nat × List Int)} {q : List Value} (h : Row W A (cs l q)) {i : Nat} (hi : i < l.length) (hq : i < q.length) :
    ∃ a, A = some a ∧ W.cell? (a.add (i * 2)) = some (.int .u16 (l[i].1 : Int)) ∧ W.cell? { block := (a.add (i * 2)).block, off := (a.add (i * 2)).off + 1 } = some q[i] := by
  obtain ⟨g0, g1⟩ := cs_get hi hq
  obtain ⟨a, hA, k0⟩ := h _ _ g0
  obtain ⟨a1, e1, k1⟩ := h _ _ g1
  rw [hA] at e1
  injection e1 with e1
  subst e1
  rw [← add_add] at k1
  exact ⟨a, hA, k0, by rw [← k1]; rfl⟩
theorem u32_or_nat (a b : Nat) (ha : a < 4294967296) (hb : b < 4294967296) : bits .or .u32 (a : Int) (b : Int) = ((a ||| b : Nat) : Int) := by
  have hx : a ||| b < 2 ^ 32 := Nat.or_lt_two_pow (by omega) (by omega)
  show IntKind.u32.wrap ((BitVec.ofInt 32 (a : Int) ||| BitVec.ofInt 32 (b : Int)).toNat : Int) = _
  have h2 : ∀ x : Nat, x < 4294967296 → (BitVec.ofInt 32 (x : Int)).toNat = x := fun x hx => by rw [BitVec.ofInt_natCast, BitVec.toNat_ofNat]; exact Nat.mod_eq_of_lt (by omega)
  rw [BitVec.toNat_or, h2 a ha, h2 b hb, IntKind.wrap_u32]
  omega
theorem u16_or_nat (a b : Nat) (ha : a < 65536) (hb : b < 65536) : bits .or .u16 (a : Int) (b : Int) = ((a ||| b : Nat) : Int) := by
  have hx : a ||| b < 2 ^ 16 := Nat.or_lt_two_pow (by omega) (by omega)
  show IntKind.u16.wrap ((BitVec.ofInt 16 (a : Int) ||| BitVec.ofInt 16 (b : Int)).toNat : Int) = _
  have h2 : ∀ x : Nat, x < 65536 → (BitVec.ofInt 16 (x : Int)).toNat = x := fun x hx => by rw [BitVec.ofInt_natCast, BitVec.toNat_ofNat]; exact Nat.mod_eq_of_lt (by omega)
  rw [BitVec.toNat_or, h2 a ha, h2 b hb, IntKind.wrap_u16]
  omega
/-- The chunk without what is told of its kind. -/
def unt (c : Ck) : Ck :=
  if c.kd = 0 then { c with tsn := 0, sid := 0, ssn := 0, ppid := 0, da := [] }
  else if c.kd = 1 then { c with tag := 0, rw := 0, out := 0, inn := 0, tsn := 0, ad := [] }
  else if c.kd = 2 then { c with tag := 0, rw := 0, out := 0, inn := 0, tsn := 0, ad := [], da := [] }
  else if c.kd = 3 then { c with tsn := 0, rw := 0, ga := [], du := [] }
  else if c.kd = 6 ∨ c.kd = 9 then { c with ca := [] }
  else if c.kd = 7 then { c with tsn := 0 }
  else if c.kd = 8 ∨ c.kd = 11 ∨ c.kd = 14 then c
  else { c with da := [] }
def uns (k : Nat) (s : Ls) : Ls :=
  if k = 0 then { s with dA := none, dn := 0, dc := 0 }
  else if k = 1 then { s with aA := none, an := 0, ac := 0 }
  else if k = 2 then { s with aA := none, an := 0, ac := 0, dA := none, dn := 0, dc := 0 }
  else if k = 3 then { s with gA := none, gn := 0, gc := 0, uA := none, un := 0, uc := 0 }
  else if k = 6 ∨ k = 9 then { s with cA := none, cn := 0, cc := 0 }
  else if k = 7 ∨ k = 8 ∨ k = 11 ∨ k = 14 then s
  else { s with dA := none, dn := 0, dc := 0 }
theorem unt_z {c : Ck} {s : Ls} (h : Lz c s) : Lz (unt c) (uns c.kd s) := by
  obtain ⟨h1, h2, h3, h4, h5, h6, h7, h8, h9, h10⟩ := h
  unfold unt uns
  repeat' split
  all_goals first
    | (exfalso; omega)
    | (constructor <;> first | assumption | rfl | (simp; done))
theorem unt_ok {c : Ck} (h : c.ok) : (unt c).ok := by
  obtain ⟨h1, h2, h3, h4, h5, h6, h7, h8, h9, h10, h11, h12, h13, h14, h15⟩ := h
  unfold unt
  repeat' split
  all_goals (constructor <;> first | assumption | (show 0 < _; omega) | (intro c hc; simp at hc; done))
/-- Has a chunk nothing beside its kind and flags. -/
def Noth (c : Ck) : Prop := c.tag = 0 ∧ c.rw = 0 ∧ c.tsn = 0 ∧ c.ppid = 0 ∧ c.out = 0 ∧ c.inn = 0 ∧ c.sid = 0 ∧ c.ssn = 0 ∧ c.da.length = 0 ∧ c.ad.length = 0 ∧ c.ga.length = 0 ∧ c.du.length = 0 ∧ c.ca.length = 0
instance (c : Ck) : Decidable (Noth c) := by unfold Noth; infer_instance
end Go.Proofs.Ytjlemghkaodkkaa
