/-
  Plain words of layer 5: a chunk, whether it may be, its value's bytes, the chunk of a thing. Nothing of the program is imported.
-/
import Derived.Test.YtjlemghkaodkkaaTlvPlain
namespace Go.Proofs.Ytjlemghkaodkkaa
namespace Chunk
open Wire Tlv

/-- A chunk. -/
structure Ck where
  kd : Nat
  fl : Nat
  tag : Nat
  rw : Nat
  tsn : Nat
  out : Nat
  inn : Nat
  sid : Nat
  ssn : Nat
  ppid : Nat
  da : List Int
  ad : List Nat
  ga : List (Nat × Nat)
  du : List Nat
  ca : List (Nat × List Int)
  deriving DecidableEq
structure Ck.ok (c : Ck) : Prop where
  kd : c.kd < 256
  fl : c.fl < 256
  tag : c.tag < 4294967296
  rw : c.rw < 4294967296
  tsn : c.tsn < 4294967296
  out : c.out < 65536
  inn : c.inn < 65536
  sid : c.sid < 65536
  ssn : c.ssn < 65536
  ppid : c.ppid < 4294967296
  da : Byt c.da
  ad : ∀ a ∈ c.ad, a < 4294967296
  ga : ∀ g ∈ c.ga, g.1 < 65536 ∧ g.2 < 65536
  du : ∀ a ∈ c.du, a < 4294967296
  ca : ∀ x ∈ c.ca, x.1 < 65536 ∧ Byt x.2
def zero : Ck := ⟨0, 0, 0, 0, 0, 0, 0, 0, 0, 0, [], [], [], [], []⟩
/-- Is the kind known by name. -/
def kn (k : Nat) : Bool := decide (k < 12 ∨ k = 14)
/-- The flags that a kind may have. -/
def flg (k : Nat) : Nat := if k = 0 then 7 else if k = 6 ∨ k = 14 then 1 else if kn k then 0 else 255
theorem flg_lt (k : Nat) : flg k < 256 := by unfold flg; repeat' split
                                             all_goals omega
/-- Which fields a kind has. -/
def hTsn (k : Nat) : Prop := k ≤ 3 ∨ k = 7
def hRw (k : Nat) : Prop := k = 1 ∨ k = 2 ∨ k = 3
def hDa (k : Nat) : Prop := ¬ (k = 1 ∨ k = 3 ∨ k = 6 ∨ k = 7 ∨ k = 8 ∨ k = 9 ∨ k = 11 ∨ k = 14)
def hPc (k : Nat) : Prop := k = 0
def hIn (k : Nat) : Prop := k = 1 ∨ k = 2
def hGp (k : Nat) : Prop := k = 3
def hCa (k : Nat) : Prop := k = 6 ∨ k = 9
/-- Is each gap one, and one at least that did not come ahead of it. -/
def apart : Nat → List (Nat × Nat) → Bool
  | _, [] => true
  | e, g :: l => decide (e + 2 ≤ g.1 ∧ g.1 ≤ g.2) && apart g.2 l
/-- May the chunk be, the gaps aside. -/
structure Fits (c : Ck) : Prop where
  fl : c.fl ≤ flg c.kd
  tsn : hTsn c.kd ∨ c.tsn = 0
  rw : hRw c.kd ∨ c.rw = 0
  da : hDa c.kd ∨ c.da.length = 0
  pc : hPc c.kd ∨ (c.sid = 0 ∧ c.ssn = 0 ∧ c.ppid = 0)
  inn : hIn c.kd ∨ (c.tag = 0 ∧ c.out = 0 ∧ c.inn = 0 ∧ c.ad.length = 0)
  gp : hGp c.kd ∨ (c.ga.length = 0 ∧ c.du.length = 0)
  ca : hCa c.kd ∨ c.ca.length = 0
  ad3 : c.ad.length ≤ 3
  ga64 : c.ga.length ≤ 64
  du16 : c.du.length ≤ 16
  has : (c.kd = 0 ∨ c.kd = 2) → c.da.length ≠ 0
def may (c : Ck) : Prop := Fits c ∧ apart 0 c.ga = true
noncomputable def mayB (c : Ck) : Bool := @decide (may c) (Classical.propDecidable _)
theorem mayB_true {c : Ck} (h : may c) : mayB c = true := by simp [mayB, h]
theorem mayB_false {c : Ck} (h : ¬ may c) : mayB c = false := by simp [mayB, h]
/-- The bytes of gaps, and of numbers. -/
def gb (l : List (Nat × Nat)) : List Int := l.flatMap fun g => be 2 g.1 ++ be 2 g.2
def ub (l : List Nat) : List Int := l.flatMap fun a => be 4 a
/-- What a value begins with. -/
def nums (c : Ck) : List Int :=
  if c.kd = 0 then be 4 c.tsn ++ (be 2 c.sid ++ (be 2 c.ssn ++ be 4 c.ppid))
  else if c.kd = 1 ∨ c.kd = 2 then be 4 c.tag ++ (be 4 c.rw ++ (be 2 c.out ++ (be 2 c.inn ++ be 4 c.tsn)))
  else if c.kd = 3 then be 4 c.tsn ++ (be 4 c.rw ++ (be 2 c.ga.length ++ (be 2 c.du.length ++ (gb c.ga ++ ub c.du))))
  else if c.kd = 7 then be 4 c.tsn else []
def body (c : Ck) : List Int := nums c ++ if c.kd = 2 then [] else c.da
/-- The parameters that a value ends with. -/
def pars (c : Ck) : List Tv := c.ad.map (fun a => ⟨5, 0, be 4 a⟩) ++ ((if c.kd = 2 then [⟨7, 0, c.da⟩] else []) ++ c.ca.map (fun x => ⟨x.1, 0, x.2⟩))
def val (c : Ck) : List Int := body c ++ cat false (pars c)
/-- What putting answers. -/
noncomputable def cput (c : Ck) : List Int × Int :=
  @ite _ (may c) (Classical.propDecidable _) (if 65531 < (val c).length then ([], 3) else (tb true ⟨c.kd, c.fl, val c⟩, 0)) ([], 50)
theorem gb_snoc (l : List (Nat × Nat)) (g : Nat × Nat) : gb (l ++ [g]) = gb l ++ (be 2 g.1 ++ be 2 g.2) := by simp [gb]
theorem ub_snoc (l : List Nat) (a : Nat) : ub (l ++ [a]) = ub l ++ be 4 a := by simp [ub]
theorem gb_len (l : List (Nat × Nat)) : (gb l).length = 4 * l.length := by
  induction l with
  | nil => rfl
  | cons g l ih => simp [gb, be_len] at ih ⊢; omega
theorem ub_len (l : List Nat) : (ub l).length = 4 * l.length := by
  induction l with
  | nil => rfl
  | cons g l ih => simp [ub, be_len] at ih ⊢; omega
theorem gb_byt (l : List (Nat × Nat)) : Byt (gb l) := fun c h => by
  obtain ⟨g, _, hg⟩ := List.mem_flatMap.1 h
  exact byt_app (be_byt _ _) (be_byt _ _) c hg
theorem ub_byt (l : List Nat) : Byt (ub l) := fun c h => by
  obtain ⟨g, _, hg⟩ := List.mem_flatMap.1 h
  exact be_byt _ _ c hg
theorem nums_byt (c : Ck) : Byt (nums c) := by
  unfold nums
  have h := be_byt
  have hn : Byt [] := fun c h => by simp at h
  repeat' split
  all_goals first
    | exact hn
    | (repeat' (first | exact be_byt _ _ | exact gb_byt _ | exact ub_byt _ | with_reducible refine byt_app ?_ ?_))
theorem cat_byt {xs : List Tv} (h : ∀ x ∈ xs, x.ok ∧ fit false x) : Byt (cat false xs) := fun c hc => by
  obtain ⟨x, hx, hm⟩ := List.mem_flatMap.1 hc
  exact tb_byt (h x hx).1 (h x hx).2 c hm
theorem pars_ok {c : Ck} (h : c.ok) : ∀ x ∈ pars c, x.ok ∧ fit false x := fun x hx => by
  unfold pars at hx
  rw [List.mem_append, List.mem_append] at hx
  rcases hx with hx | hx | hx
  · obtain ⟨a, _, rfl⟩ := List.mem_map.1 hx
    exact ⟨⟨by show 5 < 65536; omega, by show 0 < 256; omega, be_byt _ _⟩, by simp [fit]⟩
  · split at hx
    · simp at hx
      subst hx
      exact ⟨⟨by show 7 < 65536; omega, by show 0 < 256; omega, h.da⟩, by simp [fit]⟩
    · simp at hx
  · obtain ⟨a, ha, rfl⟩ := List.mem_map.1 hx
    have := h.ca a ha
    exact ⟨⟨this.1, by show 0 < 256; omega, this.2⟩, by simp [fit]⟩
theorem body_byt {c : Ck} (h : c.ok) : Byt (body c) := by
  unfold body
  refine byt_app (nums_byt c) ?_
  split
  · intro c hc; simp at hc
  · exact h.da
theorem val_byt {c : Ck} (h : c.ok) : Byt (val c) := byt_app (body_byt h) (cat_byt (pars_ok h))
/-- The number that stands at a place; 0, if there are too few bytes. -/
def nn (v : List Int) (at_ sz : Nat) : Nat := if at_ + sz ≤ v.length then nu ((v.drop at_).take sz) else 0
/-- What the parameters of a CkInit or CkInitAck add; none: they are none. -/
def prr (c : Ck) : List (Tv × Int) → Option Ck
  | [] => some c
  | (x, e) :: l => if e ≠ 0 then none
    else if x.k = 5 then (if x.v.length ≠ 4 ∨ c.ad.length = 3 then none else prr { c with ad := c.ad ++ [nu x.v] } l)
    else if x.k = 7 then (if c.kd = 1 ∨ c.da ≠ [] ∨ x.v = [] then none else prr { c with da := x.v } l)
    else if x.k < 32768 then some c else prr c l
/-- The chunk of a kind with nothing. -/
def bare (x : Tv) : Ck := { zero with kd := x.k, fl := x.f }
/-- What is read of a value. -/
def raw (x : Tv) : Option Ck :=
  if x.k = 0 then (if 12 < x.v.length then some { bare x with tsn := nn x.v 0 4, sid := nn x.v 4 2, ssn := nn x.v 6 2, ppid := nn x.v 8 4, da := x.v.drop 12 } else none)
  else if x.k = 1 ∨ x.k = 2 then (if 16 ≤ x.v.length then prr { bare x with tag := nn x.v 0 4, rw := nn x.v 4 4, out := nn x.v 8 2, inn := nn x.v 10 2, tsn := nn x.v 12 4 } (ev false (x.v.drop 16)) else none)
  else if x.k = 3 then (if x.v.length = 12 + 4 * nn x.v 8 2 + 4 * nn x.v 10 2 then some { bare x with tsn := nn x.v 0 4, rw := nn x.v 4 4, ga := (List.range (nn x.v 8 2)).map (fun i => (nn x.v (12 + 4 * i) 2, nn x.v (14 + 4 * i) 2)), du := (List.range (nn x.v 10 2)).map (fun i => nn x.v (12 + 4 * nn x.v 8 2 + 4 * i) 4) } else none)
  else if x.k = 6 ∨ x.k = 9 then (if (tl false x.v).2 then some { bare x with ca := (tl false x.v).1.map (fun y => (y.k, y.v)) } else none)
  else if x.k = 7 then (if x.v.length = 4 then some { bare x with tsn := nn x.v 0 4 } else none)
  else if x.k = 8 ∨ x.k = 11 ∨ x.k = 14 then (if x.v.length = 0 then some (bare x) else none)
  else some { bare x with da := x.v }
noncomputable def take (x : Tv) : Option Ck := if 255 < x.k then none else (raw x).bind fun c => @ite _ (may c) (Classical.propDecidable _) (some c) none
end Chunk
end Go.Proofs.Ytjlemghkaodkkaa
