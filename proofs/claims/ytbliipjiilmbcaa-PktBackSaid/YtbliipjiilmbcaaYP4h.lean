/-
  For PktBack: the blocks of the call in its loop over the chunks.
-/
import Derived.Test.YtbliipjiilmbcaaYP1h
import Derived.Test.YtbliipjiilmbcaaYP2f
import Derived.Test.YtbliipjiilmbcaaYP1f
import Derived.Test.YtbliipjiilmbcaaYChunkRVal2
namespace Go.Proofs.Ytbliipjiilmbcaa
open Go.RowKit Wire Tlv Chunk Pkt

/-- The blocks: the packet that came in, what is wanted of it, with its chunks, and the bytes. -/
structure Wq (w : World) (f t g : Nat) (A : Option Addr) (n c : Nat) (B gp : Nat) (Aw : Option Addr) (nw cw : Nat) (wk : List Cq) (bA : Option Addr) (bn bc : Nat) (L : List Int) (W : World) : Prop where
  bx : Bk W w.heap.size (pkl f t g A n c) 52
  pk : Bk W gp (pkl f t g Aw nw cw) 52
  ow : W.ownsRow B 32 15 (.slice Aw nw cw) nw (kcs wk)
  bo : W.ownsRow w.heap.size 5 1 (.slice bA bn bc) bn (bs L)
  bl : Below w.heap.size w W
  ne : w.heap.size < gp
  gb : gp < B
  bw : B ≤ W.heap.size
section
variable {w : World} {f t g : Nat} {A : Option Addr} {n c B gp : Nat} {Aw : Option Addr} {nw cw : Nat} {wk : List Cq} {bA : Option Addr} {bn bc : Nat} {L : List Int}
theorem Wq.next {W W' : World} (h : Wq w f t g A n c B gp Aw nw cw wk bA bn bc L W) (hb : Below W.heap.size W W') : Wq w f t g A n c B gp Aw nw cw wk bA bn bc L W' :=
  { h with bx := h.bx.next hb, pk := h.pk.next hb, ow := own_below h.ow hb, bo := own_below h.bo hb, bl := bnext' h.bl hb, bw := Nat.le_trans h.bw hb.size }
theorem Wq.snoc {W W' : World} {A' : Option Addr} {c' : Nat} {q : Cq} (h : Wq w f t g A n c B gp Aw nw cw wk bA bn bc L W) (ho : W'.ownsRow B 32 15 (.slice A' (nw + 1) c') (nw + 1) (kcs wk ++ (cv q.1 q.2).toList)) (hg : W.grownBy W' (Value.slice Aw nw cw).ownBlock) :
    Wq w f t g A n c B gp A' (nw + 1) c' (wk ++ [q]) bA bn bc L (W'.setCell ⟨gp, 3, none⟩ (.slice A' (nw + 1) c')) := by
  have hlt : ∀ j, (Value.slice Aw nw cw).ownBlock = some j → B ≤ j := fun j e => (h.ow.lt j e).1
  have h1 := (hg.block _ h.bx.lt (fun e => by have := hlt _ e.symm; have := h.ne; have := h.gb; omega)).trans h.bx
  have h2 : Bk W' gp (pkl f t g Aw nw cw) 52 := (hg.block _ h.pk.lt (fun e => by have := hlt _ e.symm; have := h.gb; omega)).trans h.pk
  have h3 := h2.set 3 (.slice A' (nw + 1) c')
  simp only [pkl, List.setIfInBounds_toArray, List.set_cons_succ, List.set_cons_zero] at h3
  have hne := h.ne
  have hbl : Below w.heap.size w W' := h.bl.grown hg h.bl.size (fun j e => by have := hlt j e; have := h.gb; omega)
  have hbo := h.bo.kept hg (own_apart h.bo h.ow (by decide))
  exact { bx := Bk.other h1 (by omega) 3 _, pk := h3, ow := by rw [kcs_snoc]; exact owns_set ho h2 (by decide) 3, bo := owns_set hbo h2 (by decide) 3, bl := below_ot hbl ((Ot.refl W' gp).set 3 _) hbl.size (by omega), ne := h.ne, gb := h.gb, bw := by simpa using Nat.le_trans h.bw hg.size }
theorem Wq.start {W : World} (bx : Bk W w.heap.size (pkl f t g A n c) 52) (bo : W.ownsRow w.heap.size 5 1 (.slice bA bn bc) bn (bs L)) (bl : Below w.heap.size w W) :
    Wq w f t g A n c (W.heap.size + 1) W.heap.size none 0 0 [] bA bn bc L ((W.alloc (.cells (pkl f t g A n c) 52)).setCell ⟨W.heap.size, 3, none⟩ (.slice none 0 0)) := by
  have hlt := bx.lt
  have hal : Below W.heap.size W (W.alloc (.cells (pkl f t g A n c) 52)) := (Below.refl _ _).alloc (Nat.le_refl _) _
  have h2 : Bk (W.alloc (.cells (pkl f t g A n c) 52)) W.heap.size (pkl f t g A n c) 52 := Bk.new _ _ _
  have h3 := h2.set 3 (.slice none 0 0)
  simp only [pkl, List.setIfInBounds_toArray, List.set_cons_succ, List.set_cons_zero] at h3
  have hbl := bnext' bl hal
  exact { bx := Bk.other (bx.next hal) (by omega) 3 _, pk := h3, ow := World.ownsRow_nil _ _ _ _, bo := owns_set (own_below bo hal) h2 (by decide) 3, bl := below_ot hbl ((Ot.refl _ W.heap.size).set 3 _) hbl.size (by omega), ne := hlt, gb := by omega, bw := by simp }
end
theorem pput_may {f t g : Nat} {ks : List Ck} (h : (pput f t g ks).2 = 0) : mayP g ks = true := by
  unfold pput at h
  split at h
  · assumption
  · cases h
theorem cput_le (c : Ck) : (cput c).1.length ≤ 65540 := by
  by_cases h : (cput c).2 = 0
  · exact Nat.le_trans (cput_mod h).2 (by decide)
  · have : cput c = ([], (cput c).2) := by
      unfold cput at h ⊢
      split
      · rename_i h1
        rw [if_pos h1] at h
        split
        · rfl
        · rename_i h2
          rw [if_neg h2] at h
          exact absurd rfl h
      · rfl
    rw [this]
    exact Nat.zero_le _
/-- How many bytes chunks have. -/
noncomputable def szs (l : List Cq) : Nat := (l.map fun q => (cput q.1).1.length).sum
theorem szs_snoc {ks : List Cq} {k : Nat} (hk : k < ks.length) : szs (ks.take (k + 1)) = szs (ks.take k) + (cput ks[k].1).1.length := by
  rw [List.take_succ_eq_append_getElem hk]
  simp only [szs, List.map_append, List.sum_append, List.map_cons, List.map_nil, List.sum_cons, List.sum_nil, Nat.add_zero]
theorem szs_all (ks : List Cq) : szs ks = ((ks.map (·.1)).map fun c => (cput c).1.length).sum := by simp [szs, List.map_map, Function.comp_def]
theorem upto_drop {ks : List Cq} {k : Nat} (hk : k < ks.length) : upto ((ks.drop k).map (·.1)) = if ends ks[k].1.kd = true then [] else ks[k].1 :: upto ((ks.drop (k + 1)).map (·.1)) := by
  rw [List.drop_eq_getElem_cons hk, List.map_cons, upto]
/-- What the taking of a packet that was put tells. -/
theorem ptk_back {f t g : Nat} {ks : List Ck} (hf : f < 65536) (ht : t < 65536) (hg : g < 4294967296) (hok : ∀ c ∈ ks, c.ok) (h0 : (pput f t g ks).2 = 0) :
    (upto ks = [] → ptk (pput f t g ks).1 = ⟨0, 0, 0, [], 60⟩) ∧ (upto ks ≠ [] → ptk (pput f t g ks).1 = ⟨f, t, g, upto ks, 0⟩) := by
  have h1 := ptk_pput hf ht hg hok h0
  rw [may_upto (pput_may h0)] at h1
  constructor
  · intro e
    rw [h1, e, if_neg (by simp)]
  · intro e
    rw [h1, if_pos (by cases hu : upto ks with | nil => exact absurd hu e | cons x l => rfl)]
theorem owns_blk {W : World} {B : Nat} {e : TypeId} {z : Nat} {bA : Option Addr} {bn bc : Nat} {xs : List Value} (h : W.ownsRow B e z (.slice bA bn bc) bn xs) (h0 : 0 < bn) : ∃ b, bA = some ⟨b, 0, none⟩ := by
  rcases h.2 with ⟨h', _⟩ | ⟨b, cap, cur, h', _⟩
  · simp at h'
    omega
  · simp at h'
    exact ⟨b, h'.1⟩
end Go.Proofs.Ytbliipjiilmbcaa
