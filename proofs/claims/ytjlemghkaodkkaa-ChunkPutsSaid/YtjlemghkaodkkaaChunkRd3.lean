/-
  The reader of layer 5: reading, last, piece, nothing.
-/
import Derived.Test.YtjlemghkaodkkaaChunkRd2
namespace Go.Proofs.Ytjlemghkaodkkaa
open Go.RowKit Wire Tlv Chunk

/-- Which method reads a kind. -/
def rk (k : Nat) : Nat := if k = 0 then 45 else if k = 1 ∨ k = 2 then 46 else if k = 3 then 47 else if k = 6 ∨ k = 9 then 48 else if k = 7 then 49
  else if k = 8 ∨ k = 11 ∨ k = 14 then 50 else 51
set_option maxRecDepth 100000 in
set_option maxHeartbeats 1000000 in
theorem reading_any (w : World) (b : Nat) (k : Nat) (hc : w.cell? ⟨b, 1, none⟩ = some (.int .u8 (k : Int))) :
    Calls Try.prog 33 #[.pointer (some ⟨b, 0, none⟩)] w fun e w' => e = .returned (.func (.func (rk k)) #[.pointer (some ⟨b, 0, none⟩)] #[]) ∧ w = w' := by
  by_cases h : k = 0 ∨ k = 1 ∨ k = 2 ∨ k = 3 ∨ k = 6 ∨ k = 9 ∨ k = 7 ∨ k = 8 ∨ k = 11 ∨ k = 14
  · rcases h with rfl | rfl | rfl | rfl | rfl | rfl | rfl | rfl | rfl | rfl
    all_goals
      go_enter Try.func33, Try.ntmps33
      go_wp2
      go_ret
      exact ⟨rfl, rfl⟩
  · have hf : rk k = 51 := by
      unfold rk
      repeat rw [if_neg (by omega)]
    rw [hf]
    have d0 : ((k : Int) == 0) = false := by simp; omega
    have d1 : ((k : Int) == 1) = false := by simp; omega
    have d2 : ((k : Int) == 2) = false := by simp; omega
    have d3 : ((k : Int) == 3) = false := by simp; omega
    have d6 : ((k : Int) == 6) = false := by simp; omega
    have d7 : ((k : Int) == 7) = false := by simp; omega
    have d8 : ((k : Int) == 8) = false := by simp; omega
    have d9 : ((k : Int) == 9) = false := by simp; omega
    have d11 : ((k : Int) == 11) = false := by simp; omega
    have d14 : ((k : Int) == 14) = false := by simp; omega
    clear h hf
    go_enter Try.func33, Try.ntmps33
    go_wp2
    go_ret
    exact ⟨rfl, rfl⟩
/-- A chunk whose rows lie in blocks from lo on. -/
def ChF (lo : Nat) (W : World) (c : Ck) (s : Ls) : Prop := ∀ W', (∀ k, lo ≤ k → k < W.heap.size → W'.heap[k]? = W.heap[k]?) → Ch W' c s
theorem ChF.ch {lo : Nat} {W : World} {c : Ck} {s : Ls} (h : ChF lo W c s) : Ch W c s := h W fun _ _ _ => rfl
theorem ChF.next {lo : Nat} {W W' : World} {c : Ck} {s : Ls} (h : ChF lo W c s) (hb : Below W.heap.size W W') : ChF lo W' c s := fun W2 h2 => h W2 fun k h3 h4 => (h2 k h3 (Nat.lt_of_lt_of_le h4 hb.size)).trans (hb.block k h4)
theorem ChF.lower {lo lo' : Nat} {W : World} {c : Ck} {s : Ls} (h : ChF lo W c s) (hl : lo' ≤ lo) : ChF lo' W c s := fun W2 h2 => h W2 fun k h3 h4 => h2 k (by omega) h4
/-- What is made of a reader in the end. -/
noncomputable def fin (r : Rt) : Option Ck := if r.bad = true ∨ r.l ≠ [] then none else @ite _ (may r.c) (Classical.propDecidable _) (some r.c) none
/-- What a method leaves that reads a value. -/
def FOut (w : World) (b : Nat) (x : Tv) (W : World) (e : Ending) (W' : World) : Prop := e = .returned (.tuple #[]) ∧ ∃ (r : Rt) (s : Ls) (A : Option Addr) (n cap : Nat), Rr w b r s A n cap W' ∧ Ot W W' b ∧ (r.bad = false → r.l = [] → ChF W.heap.size W' r.c s) ∧ fin r = take x
/-- The reader at its beginning. -/
def r0 (x : Tv) : Rt := ⟨x.v, bare x, false⟩
theorem bare_ok {x : Tv} (h : x.ok) (hk : x.k ≤ 255) : (bare x).ok := by
  constructor
  all_goals first
    | (show x.k < 256; omega)
    | exact h.2.1
    | (show 0 < _; omega)
    | (intro c hc; simp [bare, zero] at hc)
/-- A chunk whose only slice, if any, is the call's own row of bytes. -/
theorem ch_data {W : World} {B : Nat} {c : Ck} {A : Option Addr} {n cap : Nat} (hok : c.ok) (ho : W.ownsRow B 5 1 (.slice A n cap) n (bs c.da)) (ha : c.ad = []) (hg : c.ga = []) (hu : c.du = []) (hc : c.ca = []) (hn : n ≤ 100000) : ChF B W c (putD nol A n cap) := fun W2 h2 => by
  have h := owns_same ho h2
  have hz := owns_none h
  have hl : c.da.length = n := by have := h.1; simpa [bs] using this
  refine ⟨hok, ?_, ⟨A, n, cap, rfl, hl, hz.2.1, hz.2.2, by omega, row_of_own h, hz.1⟩, ?_, ?_, ?_, ?_, ?_, ?_⟩
  · constructor
    all_goals simp [putD, nol, ha, hg, hu, hc, hl]
    all_goals omega
  · rw [ha]; intro i v hv; simp [us] at hv
  · rw [hg]; intro i v hv; simp [gs] at hv
  · rw [hu]; intro i v hv; simp [us] at hv
  · rw [hc]; intro i v hv; simp [cs] at hv
  · rw [hc]; rfl
  · rw [hc]; intro i x v h1; simp at h1
theorem ch_none (B : Nat) {W : World} {c : Ck} (hok : c.ok) (hd : c.da = []) (ha : c.ad = []) (hg : c.ga = []) (hu : c.du = []) (hc : c.ca = []) : ChF B W c nol := by
  have := ch_data (W := W) (B := B) (c := c) (A := none) (n := 0) (cap := 0) hok (by rw [hd]; exact World.ownsRow_nil _ _ _ _) ha hg hu hc (by omega)
  exact this
theorem Rt.n2_eq (r : Rt) : r.n2 = ((if r.l.length < 2 then 0 else nu (r.l.take 2)), ⟨r.l.drop 2, r.c, r.bad || decide (r.l.length < 2)⟩) := by
  unfold Rt.n2
  split
  · rename_i h
    rw [List.drop_of_length_le (by omega)]
    simp [h]
  · rename_i h
    simp [h]
theorem nu_app : ∀ (b a : List Int), nu (a ++ b) = nu a * 256 ^ b.length + nu b
  | [], a => by simp [nu]
  | c :: b, a => by
    have e1 : a ++ c :: b = (a ++ [c]) ++ b := by simp
    have e2 : nu (c :: b) = nu ([c] ++ b) := rfl
    rw [e1, nu_app b (a ++ [c]), e2, nu_app b [c], nu_snoc, nu_one, List.length_cons, Nat.pow_succ]
    generalize 256 ^ b.length = p
    rw [Nat.add_mul, Nat.add_assoc, Nat.mul_comm 256 (nu a), Nat.mul_assoc, Nat.mul_comm 256 p]
theorem Rt.n4_eq (r : Rt) : r.n4.2 = ⟨r.l.drop 4, r.c, r.bad || decide (r.l.length < 4)⟩ ∧ (4 ≤ r.l.length → r.n4.1 = nu (r.l.take 4)) := by
  unfold Rt.n4
  rw [Rt.n2_eq r]
  simp only
  rw [Rt.n2_eq]
  simp only [List.drop_drop, List.length_drop]
  refine ⟨?_, fun h => ?_⟩
  · congr 1
    rw [Bool.or_assoc]
    congr 1
    rw [Bool.eq_iff_iff]
    simp
    omega
  · rw [if_neg (by omega), if_neg (by omega)]
    have e : r.l.take 4 = r.l.take 2 ++ (r.l.drop 2).take 2 := by rw [show 4 = 2 + 2 from rfl, List.take_add]
    rw [e, nu_app _ _]
    have : ((r.l.drop 2).take 2).length = 2 := by simp; omega
    rw [this]
theorem nn_at {v : List Int} {at_ sz : Nat} (h : at_ + sz ≤ v.length) : nn v at_ sz = nu ((v.drop at_).take sz) := by unfold nn; rw [if_pos h]
theorem fin_bad {r : Rt} (h : r.bad = true) : fin r = none := by unfold fin; rw [if_pos (.inl h)]
theorem fin_left {r : Rt} (h : r.l ≠ []) : fin r = none := by unfold fin; rw [if_pos (.inr h)]
theorem fin_ok {r : Rt} (hb : r.bad = false) (hl : r.l = []) : fin r = @ite _ (may r.c) (Classical.propDecidable _) (some r.c) none := by unfold fin; rw [if_neg (by simp [hb, hl])]
theorem take_raw {x : Tv} (h : x.k ≤ 255) : take x = (raw x).bind fun c => @ite _ (may c) (Classical.propDecidable _) (some c) none := by unfold take; rw [if_neg (by omega)]
theorem raw_shut {x : Tv} (h : x.k = 7) : raw x = if x.v.length = 4 then some { bare x with tsn := nn x.v 0 4 } else none := by simp [raw, h]
theorem raw_none {x : Tv} (h : x.k = 8 ∨ x.k = 11 ∨ x.k = 14) : raw x = if x.v.length = 0 then some (bare x) else none := by
  unfold raw
  rw [if_neg (by omega), if_neg (by omega), if_neg (by omega), if_neg (by omega), if_neg (by omega), if_pos h]
theorem raw_data {x : Tv} (h : ¬ (x.k = 0 ∨ x.k = 1 ∨ x.k = 2 ∨ x.k = 3 ∨ x.k = 6 ∨ x.k = 9 ∨ x.k = 7 ∨ x.k = 8 ∨ x.k = 11 ∨ x.k = 14)) : raw x = some { bare x with da := x.v } := by
  unfold raw
  rw [if_neg (by omega), if_neg (by omega), if_neg (by omega), if_neg (by omega), if_neg (by omega), if_neg (by omega)]
theorem raw_piece {x : Tv} (h : x.k = 0) : raw x = if 12 < x.v.length then some { bare x with tsn := nn x.v 0 4, sid := nn x.v 4 2, ssn := nn x.v 6 2, ppid := nn x.v 8 4, da := x.v.drop 12 } else none := by simp [raw, h]
theorem rv_tsn (A : Option Addr) (n cap : Nat) (c : Ck) (s : Ls) (bad : Bool) (x : Nat) : (rv A n cap c s bad).setIfInBounds 5 (.int .u32 (x : Int)) = rv A n cap { c with tsn := x } s bad := by simp [rv]
theorem rv_sid (A : Option Addr) (n cap : Nat) (c : Ck) (s : Ls) (bad : Bool) (x : Nat) : (rv A n cap c s bad).setIfInBounds 8 (.int .u16 (x : Int)) = rv A n cap { c with sid := x } s bad := by simp [rv]
theorem rv_ssn (A : Option Addr) (n cap : Nat) (c : Ck) (s : Ls) (bad : Bool) (x : Nat) : (rv A n cap c s bad).setIfInBounds 9 (.int .u16 (x : Int)) = rv A n cap { c with ssn := x } s bad := by simp [rv]
theorem rv_ppid (A : Option Addr) (n cap : Nat) (c : Ck) (s : Ls) (bad : Bool) (x : Nat) : (rv A n cap c s bad).setIfInBounds 10 (.int .u32 (x : Int)) = rv A n cap { c with ppid := x } s bad := by simp [rv]
set_option maxRecDepth 100000 in
set_option maxHeartbeats 1000000 in
theorem last_f (w W : World) (b : Nat) (x : Tv) (A : Option Addr) (n cap : Nat) (hx : x.ok) (hk : x.k = 7) (h : Rr w b (r0 x) nol A n cap W) :
    Calls Try.prog 49 #[.pointer (some ⟨b, 0, none⟩)] W (FOut w b x W) := by
  have HR := Lib.hid h
  have H4 := Lib.hid (four_r w W b (r0 x) nol A n cap h)
  obtain ⟨e1, e2⟩ := Rt.n4_eq (r0 x)
  have hlt := Rt.n4_lt h.byt
  have htk : ∀ v, v = (r0 x).n4.1 → fin ⟨(r0 x).n4.2.l, { bare x with tsn := v }, (r0 x).n4.2.bad⟩ = take x := fun v hv => by
    rw [e1, take_raw (by omega), raw_shut hk]
    by_cases hl : x.v.length = 4
    · rw [if_pos hl, hv, e2 (by show 4 ≤ x.v.length; omega), fin_ok (by simp [r0, hl]) (by show x.v.drop 4 = []; exact List.drop_of_length_le (by omega)), nn_at (by omega), List.drop_zero]
      rfl
    · rw [if_neg hl]
      by_cases hs : x.v.length < 4
      · rw [fin_bad (by simp [r0, hs])]
        rfl
      · rw [fin_left (by show x.v.drop 4 ≠ []; intro e; have := congrArg List.length e; simp at this; omega)]
        rfl
  have HTK := Lib.hid htk
  have HCE : Hid ((r0 x).n4.2.c = bare x) := Lib.hid (by rw [e1]; rfl)
  have HBO := Lib.hid (bare_ok hx (by omega))
  clear h e1 e2 htk
  generalize hv : (r0 x).n4.1 = v at *
  generalize (r0 x).n4.2 = r4 at *
  have HV := Lib.hid hv
  clear hv
  go_enter Try.func49, Try.ntmps49
  go_wp2_with fail
  (with_reducible refine H4.out.mono ?_)
  rintro e W1 ⟨A1, n1, c1, rfl, hr1, ho1⟩
  have f5 := hr1.bk.frozen 5
  have g5 := hr1.bk.r5
  have HF := Lib.hid (hr1.put 5 (.int .u32 (v : Int)) _ (rv_tsn _ _ _ _ _ _ v))
  have HOT := Lib.hid (ho1.set 5 (.int .u32 (v : Int)))
  clear hr1 ho1
  go_wp2_with fail
  go_end0
  refine ⟨rfl, _, _, _, _, _, HF.out, HOT.out, fun _ _ => ?_, by rw [HCE.out]; exact HTK.out _ rfl⟩
  refine ch_none _ ?_ ?_ ?_ ?_ ?_ ?_
  · show Ck.ok { r4.c with tsn := v }
    rw [HCE.out]
    have := HBO.out
    exact { this with tsn := hlt }
  all_goals (show _ = []; rw [HCE.out]; rfl)
end Go.Proofs.Ytjlemghkaodkkaa
