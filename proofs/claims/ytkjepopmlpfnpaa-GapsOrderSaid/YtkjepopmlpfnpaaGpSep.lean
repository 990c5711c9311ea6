/-
  What a world holds in blocks apart: sets, rows; and what becomes of it behind a change of one.
-/
import Derived.Test.YtkjepopmlpfnpaaGpRAdd3
import Derived.Test.YtkjepopmlpfnpaaGpGaps
import Derived.Test.YtkjepopmlpfnpaaGpSame
namespace Go.Proofs.Ytkjepopmlpfnpaa
open Go.RowKit Go.Maps
set_option linter.unusedVariables false

/-- It is kept where its blocks are kept, and its blocks are there. -/
structure Fr (R : World → (Nat → Prop) → Prop) : Prop where
  frame : ∀ (w w' : World) (F G : Nat → Prop), R w G → Kp w w' F → (∀ b, G b → ¬ F b) → R w' G
  bound : ∀ (w : World) (F : Nat → Prop), R w F → ∀ k, F k → k < w.heap.size
def emp (_w : World) (F : Nat → Prop) : Prop := ∀ k, ¬ F k
theorem emp_fr : Fr emp := ⟨fun _ _ _ _ h _ _ => h, fun _ _ h k hk => absurd hk (h k)⟩
def star (R1 R2 : World → (Nat → Prop) → Prop) (w : World) (F : Nat → Prop) : Prop :=
  ∃ F1 F2, R1 w F1 ∧ R2 w F2 ∧ (∀ k, F1 k → ¬ F2 k) ∧ (∀ k, F1 k → F k) ∧ (∀ k, F2 k → F k) ∧ ∀ k, F k → k < w.heap.size
theorem star_fr {R1 R2 : World → (Nat → Prop) → Prop} (h1 : Fr R1) (h2 : Fr R2) : Fr (star R1 R2) :=
  ⟨fun w w' F G ⟨F1, F2, r1, r2, hd, i1, i2, hb⟩ hk hg => ⟨F1, F2, h1.frame w w' F F1 r1 hk (fun b hb => hg b (i1 b hb)), h2.frame w w' F F2 r2 hk (fun b hb => hg b (i2 b hb)), hd, i1, i2, fun k hk2 => Nat.lt_of_lt_of_le (hb k hk2) hk.size⟩,
    fun w F ⟨F1, F2, r1, r2, hd, i1, i2, hb⟩ => hb⟩
/-- In w, since W: R holds of blocks that are new since then; what was there is as it was. -/
def Now (W w : World) (R : World → (Nat → Prop) → Prop) : Prop := ∃ F, R w F ∧ (∀ k, F k → W.heap.size ≤ k) ∧ (∀ k, F k → k < w.heap.size) ∧ Below W.heap.size W w
theorem Now.below {W w : World} {R : World → (Nat → Prop) → Prop} (h : Now W w R) : Below W.heap.size W w := h.choose_spec.2.2.2
theorem Now.emp (W w : World) (h : Below W.heap.size W w) : Now W w emp := ⟨fun _ => False, fun _ h => h, fun _ h => h.elim, fun _ h => h.elim, h⟩
theorem Now.comm {W w : World} {R1 R2 : World → (Nat → Prop) → Prop} (h : Now W w (star R1 R2)) : Now W w (star R2 R1) := by
  obtain ⟨F, ⟨F1, F2, r1, r2, hd, i1, i2, hb⟩, h1, h2, h3⟩ := h
  exact ⟨F, ⟨F2, F1, r2, r1, fun k h2 h1 => hd k h1 h2, i2, i1, hb⟩, h1, h2, h3⟩
theorem Now.rot {W w : World} {R1 R2 R3 : World → (Nat → Prop) → Prop} (h : Now W w (star R1 (star R2 R3))) : Now W w (star R2 (star R3 R1)) := by
  obtain ⟨F, ⟨F1, F2, r1, ⟨F3, F4, r3, r4, hd2, j1, j2, hb2⟩, hd, i1, i2, hb⟩, h1, h2, h3⟩ := h
  refine ⟨F, ⟨F3, fun k => F4 k ∨ F1 k, r3, ⟨F4, F1, r4, r1, fun k h4 h1 => hd k h1 (j2 k h4), fun k h => .inl h, fun k h => .inr h, fun k hk => ?_⟩, fun k h3' hk => ?_, fun k h => i2 k (j1 k h), fun k hk => ?_, hb⟩, h1, h2, h3⟩
  · rcases hk with h | h
    · exact hb2 k (j2 k h)
    · exact hb k (i1 k h)
  · rcases hk with h | h
    · exact hd2 k h3' h
    · exact hd k h (j1 k h3')
  · rcases hk with h | h
    · exact i2 k (j2 k h)
    · exact i1 k h
theorem Now.right {W w : World} {R1 R2 : World → (Nat → Prop) → Prop} (h : Now W w (star R1 R2)) : Now W w R2 := by
  obtain ⟨F, ⟨F1, F2, r1, r2, hd, i1, i2, hb⟩, h1, h2, h3⟩ := h
  exact ⟨F2, r2, fun k hk => h1 k (i2 k hk), fun k hk => hb k (i2 k hk), h3⟩
theorem Now.left {W w : World} {R1 R2 : World → (Nat → Prop) → Prop} (h : Now W w (star R1 R2)) : Now W w R1 := h.comm.right
/-- Reads, and new blocks. -/
theorem Now.next {W w w' : World} {R : World → (Nat → Prop) → Prop} (h : Now W w R) (hR : Fr R) (hb : Below w.heap.size w w') : Now W w' R := by
  obtain ⟨F, r, h1, h2, h3⟩ := h
  exact ⟨F, hR.frame w w' (fun _ => False) F r (Kp.below hb) (fun _ _ e => e), h1, fun k hk => Nat.lt_of_lt_of_le (h2 k hk) hb.size, bnext h3 hb⟩
/-- One part is opened, and turned. -/
theorem Now.part {W w : World} {R1 R2 : World → (Nat → Prop) → Prop} (h : Now W w (star R1 R2)) (hR : Fr R2) :
    ∃ F1, R1 w F1 ∧ ∀ (w' : World) (F1' : Nat → Prop) (R1' : World → (Nat → Prop) → Prop), Mv w F1 w' F1' → R1' w' F1' → (∀ k, F1' k → k < w'.heap.size) → Now W w' (star R1' R2) := by
  obtain ⟨F, ⟨F1, F2, r1, r2, hd, i1, i2, hb⟩, h1, h2, h3⟩ := h
  refine ⟨F1, r1, fun w' F1' R1' hm r1' hb' => ⟨fun k => F1' k ∨ F2 k, ⟨F1', F2, r1', hR.frame w w' F1 F2 r2 hm.1 (fun b hb2 hb1 => hd b hb1 hb2), fun k hk hk2 => ?_, fun k h => .inl h, fun k h => .inr h, fun k hk => ?_⟩, fun k hk => ?_, fun k hk => ?_, ?_⟩⟩
  · rcases hm.2 k hk with h | h
    · exact hd k h hk2
    · have := hb k (i2 k hk2); omega
  · rcases hk with h | h
    · exact hb' k h
    · exact Nat.lt_of_lt_of_le (hb k (i2 k h)) hm.1.size
  · rcases hk with h | h
    · rcases hm.2 k h with h | h
      · exact h1 k (i1 k h)
      · exact Nat.le_trans h3.size h
    · exact h1 k (i2 k h)
  · rcases hk with h | h
    · exact hb' k h
    · exact Nat.lt_of_lt_of_le (hb k (i2 k h)) hm.1.size
  · exact Kp.to_below h3 hm.1 (fun k hk => h1 k (i1 k hk)) h3.size
/-- Something more, in new blocks. -/
theorem Now.more {W w w' : World} {R R1 : World → (Nat → Prop) → Prop} (h : Now W w R) (hR : Fr R) (hb : Below w.heap.size w w') {F1 : Nat → Prop} (r1 : R1 w' F1) (hn : ∀ k, F1 k → w.heap.size ≤ k) (hl : ∀ k, F1 k → k < w'.heap.size) : Now W w' (star R1 R) := by
  obtain ⟨F, r, h1, h2, h3⟩ := h
  refine ⟨fun k => F1 k ∨ F k, ⟨F1, F, r1, hR.frame w w' (fun _ => False) F r (Kp.below hb) (fun _ _ e => e), fun k hk hf => ?_, fun k h => .inl h, fun k h => .inr h, fun k hk => ?_⟩, fun k hk => ?_, fun k hk => ?_, bnext h3 hb⟩
  · have := hn k hk; have := h2 k hf; omega
  · rcases hk with h | h
    · exact hl k h
    · exact Nat.lt_of_lt_of_le (h2 k h) hb.size
  · rcases hk with h | h
    · exact Nat.le_trans h3.size (hn k h)
    · exact h1 k h
  · rcases hk with h | h
    · exact hl k h
    · exact Nat.lt_of_lt_of_le (h2 k h) hb.size

def PA (s : Nat) (st : St) (w : World) (F : Nat → Prop) : Prop := PSet w F s st
def DA (s : Nat) (st : St) (w : World) (F : Nat → Prop) : Prop := DSet w F s st
/-- A row that was taken out of a set. -/
def RA (A : Option Addr) (l : List Value) (R : World → (Nat → Prop) → Prop) (w : World) (F : Nat → Prop) : Prop := R w F ∧ Row w A l ∧ ∀ a, A = some a → F a.block
theorem PA_fr (s : Nat) (st : St) : Fr (PA s st) := ⟨fun w w' F G h hk hd => PSet.frame h hk hd, fun w F h => by obtain ⟨⟨m, v, D, _, _, _, _, _, _, _, f4⟩, _⟩ := h; exact f4⟩
theorem DA_fr (s : Nat) (st : St) : Fr (DA s st) := ⟨fun w w' F G h hk hd => DSet.frame h hk hd, fun w F h => by obtain ⟨vw, v, _, _, _, _, _, _, f4, _⟩ := h; exact f4⟩
theorem RA_fr {A : Option Addr} {l : List Value} {R : World → (Nat → Prop) → Prop} (hR : Fr R) : Fr (RA A l R) :=
  ⟨fun w w' F G ⟨h, hr, ha⟩ hk hd => ⟨hR.frame w w' F G h hk hd, Row.frame hr hk (fun a e => hd _ (ha a e)), ha⟩, fun w F h => hR.bound w F h.1⟩
theorem Now.unrow {W w : World} {A : Option Addr} {l : List Value} {R R2 : World → (Nat → Prop) → Prop} (h : Now W w (star (RA A l R) R2)) : Now W w (star R R2) := by
  obtain ⟨F, ⟨F1, F2, r1, r2, hd, i1, i2, hb⟩, h1, h2, h3⟩ := h
  exact ⟨F, ⟨F1, F2, r1.1, r2, hd, i1, i2, hb⟩, h1, h2, h3⟩
theorem Now.row {W w : World} {A : Option Addr} {l : List Value} {R R2 : World → (Nat → Prop) → Prop} (h : Now W w (star (RA A l R) R2)) : Row w A l := by
  obtain ⟨F, ⟨F1, F2, r1, r2, hd, i1, i2, hb⟩, h1, h2, h3⟩ := h
  exact r1.2.1

section
variable {W w : World} {s : Nat} {st : St} {R : World → (Nat → Prop) → Prop}
theorem s_new (c : Nat) (h : Now W w R) (hR : Fr R) (hc : c < 4294967296) :
    Calls Try.prog 7 #[.int .u32 (c : Int)] w fun e w' => ∃ s, e = .returned (.pointer (some ⟨s, 0, none⟩)) ∧ Now W w' (star (PA s ⟨c, [], []⟩) R) :=
  (new_any c w hc).mono fun e w' ⟨s, F, he, hp, hn, hb⟩ => ⟨s, he, h.more hR hb hp hn ((PA_fr s _).bound w' F hp)⟩
theorem s_add (t : Nat) (h : Now W w (star (PA s st) R)) (hR : Fr R) (ht : t < 4294967296) :
    Calls Try.prog 8 #[.pointer (some ⟨s, 0, none⟩), .int .u32 (t : Int)] w fun e w' => e = .returned (.int .u8 ((st.add t).2 : Nat)) ∧ Now W w' (star (PA s (st.add t).1) R) := by
  obtain ⟨F, r, hh⟩ := h.part hR
  exact (add_any w F s t st r ht).mono fun e w' ⟨F', he, hp, hm⟩ => ⟨he, hh w' F' _ hm hp ((PA_fr s _).bound w' F' hp)⟩
theorem s_radd (t : Nat) (h : Now W w (star (DA s st) R)) (hR : Fr R) (ht : t < 4294967296) :
    Calls Try.prog 9 #[.pointer (some ⟨s, 0, none⟩), .int .u32 (t : Int)] w fun e w' => e = .returned (.int .u8 ((st.add t).2 : Nat)) ∧ Now W w' (star (DA s (st.add t).1) R) := by
  obtain ⟨F, r, hh⟩ := h.part hR
  exact (radd_any w F s t st r ht).mono fun e w' ⟨F', he, hp, hm⟩ => ⟨he, hh w' F' _ hm hp ((DA_fr s _).bound w' F' hp)⟩
theorem s_dups (h : Now W w (star (PA s st) R)) (hR : Fr R) :
    Calls Try.prog 11 #[.pointer (some ⟨s, 0, none⟩)] w fun e w' => ∃ A c, e = .returned (.slice A st.ds.length c) ∧ Now W w' (star (RA A (ns .u32 st.ds) (PA s { st with ds := [] })) R) := by
  obtain ⟨F, r, hh⟩ := h.part hR
  exact (dups_any w F s st r).mono fun e w' ⟨A, c, he, hr, ha, hp, hk⟩ => ⟨A, c, he, hh w' F _ ⟨hk, fun k h => .inl h⟩ ⟨hp, hr, ha⟩ ((PA_fr s _).bound w' F hp)⟩
theorem s_take (h : Now W w (star (DA s st) R)) (hR : Fr R) :
    Calls Try.prog 12 #[.pointer (some ⟨s, 0, none⟩)] w fun e w' => ∃ A c, e = .returned (.slice A st.ds.length c) ∧ Now W w' (star (RA A (ns .u32 st.ds) (DA s { st with ds := [] })) R) := by
  obtain ⟨F, r, hh⟩ := h.part hR
  exact (rtake_any w F s st r).mono fun e w' ⟨A, c, he, hr, ha, hp, hk⟩ => ⟨A, c, he, hh w' F _ ⟨hk, fun k h => .inl h⟩ ⟨hp, hr, ha⟩ ((DA_fr s _).bound w' F hp)⟩
theorem s_copy (h : Now W w (star (PA s st) R)) (hR : Fr R) :
    Calls Try.prog 13 #[.pointer (some ⟨s, 0, none⟩)] w fun e w' => ∃ s', e = .returned (.pointer (some ⟨s', 0, none⟩)) ∧ Now W w' (star (PA s' st) (star (PA s st) R)) := by
  obtain ⟨F, r, hh⟩ := h.part hR
  exact (copy_any w F s st r).mono fun e w' ⟨s', F', he, hp, hn, hb⟩ => ⟨s', he, h.more (star_fr (PA_fr s st) hR) hb hp hn ((PA_fr s' _).bound w' F' hp)⟩
theorem s_cum (h : Now W w (star (PA s st) R)) :
    Calls Try.prog 14 #[.pointer (some ⟨s, 0, none⟩)] w fun e w' => e = .returned (.int .u32 (st.cum : Int)) ∧ w = w' := by
  obtain ⟨F, ⟨F1, F2, r1, r2, _⟩, _⟩ := h
  exact cum_any w F1 s st r1
theorem s_len (h : Now W w (star (PA s st) R)) :
    Calls Try.prog 18 #[.pointer (some ⟨s, 0, none⟩)] w fun e w' => e = .returned (.int .i64 (st.ws.length : Int)) ∧ w = w' := by
  obtain ⟨F, ⟨F1, F2, r1, r2, _⟩, _⟩ := h
  exact len_any w F1 s st r1
theorem s_next (t : Nat) (h : Now W w (star (PA s st) R)) (ht : t < 4294967296) :
    Calls Try.prog 21 #[.pointer (some ⟨s, 0, none⟩), .int .u32 (t : Int)] w fun e w' => e = .returned (.bool ((t : Int) == ((up st.cum 1 : Nat) : Int))) ∧ w = w' := by
  obtain ⟨F, ⟨F1, F2, r1, r2, _⟩, _⟩ := h
  exact next_any w F1 s t st r1 ht
theorem s_has (t : Nat) (h : Now W w (star (PA s st) R)) (hR : Fr R) (ht : t < 4294967296) :
    Calls Try.prog 19 #[.pointer (some ⟨s, 0, none⟩), .int .u32 (t : Int)] w fun e w' => e = .returned (.bool (st.has t)) ∧ Now W w' (star (PA s st) R) := by
  have hn := h
  obtain ⟨F, ⟨F1, F2, r1, r2, _⟩, _⟩ := h
  exact (has_any w F1 s t st r1 ht).mono fun e w' ⟨he, hb⟩ => ⟨he, hn.next (star_fr (PA_fr s st) hR) hb⟩
theorem s_rhas (t : Nat) (h : Now W w (star (DA s st) R)) (ht : t < 4294967296) :
    Calls Try.prog 20 #[.pointer (some ⟨s, 0, none⟩), .int .u32 (t : Int)] w fun e w' => e = .returned (.bool (st.has t)) ∧ w = w' := by
  obtain ⟨F, ⟨F1, F2, r1, r2, _⟩, _⟩ := h
  exact rhas_any w F1 s t st r1 ht
theorem s_gaps (h : Now W w (star (PA s st) R)) (hR : Fr R) :
    Calls Try.prog 16 #[.pointer (some ⟨s, 0, none⟩)] w fun e w' => ∃ A c, e = .returned (.slice A st.gaps.length c) ∧ Row w' A (gs st.gaps) ∧ Below w.heap.size w w' ∧ Now W w' (star (PA s st) R) := by
  have hn := h
  obtain ⟨F, ⟨F1, F2, r1, r2, _⟩, _⟩ := h
  exact (gaps_any w F1 s st r1).mono fun e w' ⟨A, c, he, hr, hb⟩ => ⟨A, c, he, hr, hb, hn.next (star_fr (PA_fr s st) hR) hb⟩
theorem s_rgaps (h : Now W w (star (DA s st) R)) (hR : Fr R) :
    Calls Try.prog 17 #[.pointer (some ⟨s, 0, none⟩)] w fun e w' => ∃ A c, e = .returned (.slice A st.gaps.length c) ∧ Row w' A (gs st.gaps) ∧ Below w.heap.size w w' ∧ Now W w' (star (DA s st) R) := by
  have hn := h
  obtain ⟨F, ⟨F1, F2, r1, r2, _⟩, _⟩ := h
  exact (rgaps_any w F1 s st r1).mono fun e w' ⟨A, c, he, hr, hb⟩ => ⟨A, c, he, hr, hb, hn.next (star_fr (DA_fr s st) hR) hb⟩
theorem gaps_len (st : St) : st.gaps.length ≤ 64 := by unfold St.gaps; simp; omega
end
end Go.Proofs.Ytkjepopmlpfnpaa
