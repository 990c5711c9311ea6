/-
  What chunk.two, chunk.four and chunk.numbers do.
-/
import Derived.Test.YtjlemghkaodkkaaChunkMay2
namespace Go.Proofs.Ytjlemghkaodkkaa
open Go.RowKit Wire Tlv Chunk

theorem be2 (x : Nat) : be 2 x = [((x / 256 % 256 : Nat) : Int), ((x % 256 : Nat) : Int)] := rfl
theorem be4 (x : Nat) : be 4 x = be 2 (x / 65536) ++ be 2 (x % 65536) := by
  simp only [be, List.nil_append, List.cons_append]
  rw [show x / 256 / 256 / 256 % 256 = x / 65536 / 256 % 256 by omega, show x / 256 / 256 % 256 = x / 65536 % 256 by omega, show x / 256 % 256 = x % 65536 / 256 % 256 by omega, show x % 65536 % 256 = x % 256 by omega]
/-- A chain of appends: all blocks but the row's own are as they were; the row is the old one or new. -/
def Gr (W W' : World) (v v' : Value) : Prop := W.grownBy W' v.ownBlock ∧ ∀ g, v'.ownBlock = some g → v.ownBlock = some g ∨ W.heap.size ≤ g
theorem Gr.trans {W W1 W2 : World} {v v1 v2 : Value} (h : Gr W W1 v v1) (k : Gr W1 W2 v1 v2) : Gr W W2 v v2 := by
  refine ⟨⟨k.1.os.trans h.1.os, k.1.tape.trans h.1.tape, k.1.output.trans h.1.output, Nat.le_trans h.1.size k.1.size, fun j hj hne => ?_⟩, fun g hg => ?_⟩
  · rw [k.1.block j (Nat.lt_of_lt_of_le hj h.1.size) (fun e => by
      rcases h.2 j e.symm with h2 | h2
      · exact hne h2.symm
      · omega), h.1.block j hj hne]
  · rcases k.2 g hg with h2 | h2
    · exact h.2 g h2
    · exact .inr (Nat.le_trans h.1.size h2)
theorem Gr.alloc (W : World) (v : Value) (o : Obj) : Gr W (W.alloc o) v v := ⟨World.grownBy_alloc W o _, fun _ h => .inl h⟩
theorem Gr.lies {W w' : World} {o : Obj} {v : Value} {g H n c : Nat} (h : (W.alloc o).grownBy w' v.ownBlock) (k : v.ownBlock = some g ∨ g = H) (hH : H = (W.alloc o).heap.size) : Gr W w' v (.slice (some ⟨g, 0, none⟩) n c) :=
  (Gr.alloc W v o).trans ⟨h, fun q hq => by
    have e : g = q := by simpa [Value.ownBlock] using hq
    subst e
    rcases k with k | k
    · exact .inl k
    · right
      rw [k, hH]
      exact Nat.le_refl _⟩
theorem Gr.refl (W : World) (v : Value) : Gr W W v v := ⟨⟨rfl, rfl, rfl, Nat.le_refl _, fun _ _ _ => rfl⟩, fun _ h => .inl h⟩
theorem Bk.gr {W W' : World} {b : Nat} {cs : Array Value} {t : TypeId} {v v' : Value} (h : Bk W b cs t) (k : Gr W W' v v') (hne : v.ownBlock ≠ some b) : Bk W' b cs t := (k.1.block b h.lt (fun e => hne e.symm)).trans h
theorem Row.gr {W W' : World} {A : Option Addr} {l : List Value} {v v' : Value} (h : Row W A l) (k : Gr W W' v v') (hne : ∀ a, A = some a → v.ownBlock ≠ some a.block) : Row W' A l := fun i u hu => by
  obtain ⟨a, rfl, hc⟩ := h i u hu
  exact ⟨a, rfl, k.1.cell hc (fun e => hne a rfl (by rw [← e]; unfold Addr.add; split <;> rfl))⟩
set_option maxRecDepth 100000 in
set_option maxHeartbeats 400000 in
theorem two_any (w W : World) (A : Option Addr) (n c x m : Nat) (l : List Int) (hm : n + 2 = m) (hn : n ≤ 140737488355000) (ho : Own w W A n c l) :
    Calls Try.prog 60 #[.slice A n c, .int .u16 (x : Int)] W fun e w' => ∃ A' c', e = .returned (.slice A' m c') ∧ Own w w' A' m c' (l ++ be 2 x) ∧ Gr W w' (.slice A n c) (.slice A' m c') := by
  subst hm
  obtain ⟨i0, hi0, hz0, hz1, hz2⟩ := info_parts Try_info8
  have HI := Lib.hid hi0
  have HZ0 := Lib.hid hz0
  have HZ1 := Lib.hid hz1
  have HZ2 := Lib.hid hz2
  have HO := Lib.hid ho
  clear hi0 hz0 hz1 hz2 ho
  have w1 : IntKind.u8.wrap ((x : Int) / 256) = ((x / 256 % 256 : Nat) : Int) := by rw [IntKind.wrap_u8]; omega
  have w2 : IntKind.u8.wrap (x : Int) = ((x % 256 : Nat) : Int) := by rw [IntKind.wrap_u8]; omega
  go_enter Try.func60, Try.ntmps60
  go_wp2_with (at_builtin; refine wpList_append_lies _ rfl (.tmp 5) (.tmp 11) 24 rfl w.heap.size 5 i0 (.int .u8 0) 1 1 Try.underlying24 HI.out HZ0.out HZ1.out HZ2.out rfl (by decide) _ _ _ rfl (HO.out.1.alloc _) ⟨W.heap.size, 0, none⟩ 2 2 (bs (be 2 x)) rfl rfl (bcells (Row.new W (bs (be 2 x)) _ _)) (bs_one _) (by omega) (by unfold maxLen; omega) (by omega) (by have := HO.out.2.size; simp; omega) _ rfl ?_; intro b5 cap5 w5 hown5 hgrow5 hat5 _)
  rw [bs_app] at hown5
  have hb : Below w.heap.size w w5 := (HO.out.2.alloc HO.out.2.size _).grown hgrow5 (by have := HO.out.2.size; simp; omega) (fun k hk => (HO.out.1.lt k hk).1)
  have HN : Hid (Own w w5 (some ⟨b5, 0, none⟩) (n + 2) cap5 (l ++ be 2 x)) := ⟨hown5, hb⟩
  have HG : Hid (Gr W w5 (.slice A n c) (.slice (some ⟨b5, 0, none⟩) (n + 2) cap5)) := Lib.hid (Gr.lies hgrow5 hat5 (by simp))
  clear hown5 hgrow5 hb hat5
  go_wp2_with fail
  go_ret
  exact ⟨_, _, rfl, HN.out, HG.out⟩
set_option maxRecDepth 100000 in
set_option maxHeartbeats 400000 in
theorem four_any (w W : World) (A : Option Addr) (n c x m : Nat) (l : List Int) (hx : x < 4294967296) (hm : n + 4 = m) (hn : n ≤ 140737488354000) (ho : Own w W A n c l) :
    Calls Try.prog 59 #[.slice A n c, .int .u32 (x : Int)] W fun e w' => ∃ A' c', e = .returned (.slice A' m c') ∧ Own w w' A' m c' (l ++ be 4 x) ∧ Gr W w' (.slice A n c) (.slice A' m c') := by
  have hb4 := Lib.hid (be4 x)
  obtain ⟨p, hp⟩ : ∃ p : Nat, x / 65536 = p := ⟨_, rfl⟩
  obtain ⟨q, hq⟩ : ∃ q : Nat, x % 65536 = q := ⟨_, rfl⟩
  rw [hp, hq] at hb4
  have w1 : IntKind.u16.wrap ((x : Int) / 65536) = (p : Int) := by rw [IntKind.wrap_u16]; omega
  have w2 : IntKind.u16.wrap (x : Int) = (q : Int) := by rw [IntKind.wrap_u16]; omega
  have H1 := Lib.hid (two_any w W A n c p (n + 2) l rfl (by omega) ho)
  have H2 := Lib.hid fun W A c ho => two_any w W A (n + 2) c q m (l ++ be 2 p) (by omega) (by omega) ho
  clear ho hp hq hm
  go_enter Try.func59, Try.ntmps59
  go_wp2_with fail
  (with_reducible refine H1.out.mono ?_)
  rintro e w1 ⟨A1, c1, rfl, ho1, hg1⟩
  have HO1 := Lib.hid ho1
  have HG1 := Lib.hid hg1
  clear ho1 hg1
  go_wp2_with fail
  (with_reducible refine (H2.out _ _ _ HO1.out).mono ?_)
  rintro e w2 ⟨A2, c2, rfl, ho2, hg2⟩
  have HO2 := Lib.hid ho2
  have HG2 := Lib.hid (HG1.out.trans hg2)
  clear ho2 hg2
  go_wp2_with fail
  go_ret
  refine ⟨_, _, rfl, ?_, HG2.out⟩
  have := HO2.out
  rw [List.append_assoc, ← hb4.out] at this
  exact this
end Go.Proofs.Ytjlemghkaodkkaa
