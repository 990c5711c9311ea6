/-
  The statements' 'known' of layer 10 answers true.
-/
import Derived.Test.YtednkcjmlpgipaaYP1a
import Derived.Test.YtednkcjmlpgipaaYIxSack
import Derived.Test.YtednkcjmlpgipaaYIxNil
import Derived.Test.YtednkcjmlpgipaaYP1h
import Derived.Test.YtednkcjmlpgipaaYIxNew
import Derived.Test.YtednkcjmlpgipaaYP1c
namespace Go.Proofs.Ytednkcjmlpgipaa
set_option maxRecDepth 4000
open Go.RowKit Go.Maps
namespace Ix
set_option linter.unusedVariables false
set_option linter.unusedSimpArgs false
open Fg (Pc Ms mv JA JA_fr)

section
variable {W w w' : World} {x : Nat} {b : Ib} {L : List Me}
theorem IX.more (h : IX W w x b L []) (hb : Below w.heap.size w w') {A : Option Addr} {l : List Value} (hr : Row w' A l) (hn : ∀ a, A = some a → w.heap.size ≤ a.block) : IX W w' x b L [RwA A l] := by
  obtain ⟨i, hN, hf⟩ := h
  exact ⟨i, (row_more hN hb hr hn).perm (by unfold Iv.parts; exact List.perm_middle (l₁ := [_, _, _, _, _, _, _]).symm), hf⟩
/-- The law's own piece is made. -/
theorem one_ix (h : IX W w x b L []) (t s n : Nat) (sb : ByteArray) (l : List Int) (hl : strOf l = sb) (hb : Byt l) (m : Nat) (hm : l.length = m) :
    Calls Try.prog 45 #[.int .u32 (t : Int), .int .u16 (s : Int), .int .u16 (n : Int), .string sb] w fun e w' => ∃ A c, e = .returned (.agg #[.int .u32 (t : Int), .int .u8 3, .int .u16 (s : Int), .int .u16 (n : Int), .int .u32 0, .slice A m c]) ∧ IX W w' x b L [RwA A (bs l)] :=
  (one_any t s n sb l w hl hb).mono fun e w' ⟨A, k, c, he, hk, hr, hbel, hn⟩ => ⟨A, c, by rw [he, ← hm, hk], h.more hbel hr hn⟩
/-- .. and comes. -/
theorem add_ix {A : Option Addr} {c : Nat} (t s n : Nat) (l : List Int) (h : IX W w x b L [RwA A (bs l)]) (ok : b.Ok) (hq : (⟨t, 3, s, n, 0, l⟩ : Pc).Ok) (m : Nat) (hm : l.length = m) (hk : m ≤ 4000000) (b' : Ib) (r : Nat) (hr : b.add ⟨t, 3, s, n, 0, l⟩ = (b', r)) :
    Calls Try.prog 11 #[.pointer (some ⟨x, 0, none⟩), .agg #[.int .u32 (t : Int), .int .u8 3, .int .u16 (s : Int), .int .u16 (n : Int), .int .u32 0, .slice A m c]] w fun e w' => e = .returned (.int .i64 (r : Int)) ∧ ∃ L', IX W w' x b' L' [] :=
  (add_any h ok ⟨t, 3, s, n, 0, l⟩ A m c hq hm hk (fun w2 h2 => by
    obtain ⟨F, hp, _⟩ := h2.at (k := 0) rfl
    exact hp.1)).mono fun e w' ⟨he, L', h', _⟩ => by
      rw [hr] at he h'
      exact ⟨he, L', IW.unbox h'⟩
theorem add_bare (h : IX W w x b L []) (ok : b.Ok) (t : Nat) (ht : t < 4294967296) (b' : Ib) (r : Nat) (hr : b.add ⟨t, 0, 0, 0, 0, []⟩ = (b', r)) :
    Calls Try.prog 11 #[.pointer (some ⟨x, 0, none⟩), .agg #[.int .u32 (t : Int), .int .u8 0, .int .u16 0, .int .u16 0, .int .u32 0, .slice none 0 0]] w fun e w' => e = .returned (.int .i64 (r : Int)) ∧ ∃ L', IX W w' x b' L' [] :=
  (add_any h ok ⟨t, 0, 0, 0, 0, []⟩ none 0 0 ⟨ht, by show 0 < 256; omega, by show 0 < 65536; omega, by show 0 < 65536; omega, by show 0 < 4294967296; omega, by unfold Byt; simp⟩ rfl (by omega) (fun w2 h2 i v hi => by simp [bs] at hi)).mono fun e w' ⟨he, L', h', _⟩ => by
      rw [hr] at he h'
      exact ⟨he, L', h'⟩
end
theorem q1 : p1.Ok := ⟨by decide, by decide, by decide, by decide, by decide, by unfold Byt p1; decide⟩
theorem q2 : p2.Ok := ⟨by decide, by decide, by decide, by decide, by decide, by unfold Byt p2; decide⟩
theorem q3 : p3.Ok := ⟨by decide, by decide, by decide, by decide, by decide, by unfold Byt p3; decide⟩
theorem q4 : p4.Ok := ⟨by decide, by decide, by decide, by decide, by decide, by unfold Byt p4; decide⟩
theorem ok1 : b1.Ok := by have := (add_ok o0 q1).1; rwa [a1] at this
theorem ok2 : b2.Ok := by have := (add_ok ok1 q3).1; rwa [a3] at this
theorem ok3 : b3.Ok := (recv_ok ok2).1
theorem ok4 : b4.Ok := (recv_ok ok3).1
theorem ok5 : b5.Ok := by have := (add_ok ok4 q3).1; rwa [a4] at this
theorem ok6 : b6.Ok := by have := (add_ok ok4 q4).1; rwa [a5] at this
theorem sab : strOf [97, 98] = { data := #[97, 98] } := by decide +kernel
theorem sxy : strOf [120, 121] = { data := #[120, 121] } := by decide +kernel
theorem scg : strOf [99, 100, 101, 102, 103] = { data := #[99, 100, 101, 102, 103] } := by decide +kernel
theorem sq : strOf [113] = { data := #[113] } := by decide +kernel
theorem sa : strOf [97] = { data := #[97] } := by decide +kernel
theorem yab : Byt [97, 98] := by unfold Byt; decide
theorem yxy : Byt [120, 121] := by unfold Byt; decide
theorem ycg : Byt [99, 100, 101, 102, 103] := by unfold Byt; decide
theorem yq : Byt [113] := by unfold Byt; decide
theorem ya : Byt [97] := by unfold Byt; decide
theorem b0_is : (⟨bnd 10, bnd 4, ⟨0, [], []⟩, [], List.replicate 2 0, [], []⟩ : Ib) = b0 := by rfl
theorem tsns_is (A B : Option Addr) (n c d : Nat) (l : List Nat) (W : World) (hl : l.length = n) (hn : n ≤ 100000) (ha : Row W A (ns .u32 l)) (hb : Row W B (ns .u32 l)) :
    Calls Try.prog 19 #[.slice A n c, .slice B n d] W fun e w' => e = .returned (.bool true) ∧ Below W.heap.size W w' :=
  (Gp.tsns_any A B n n c d l l W hl hl hn hn ha hb).mono fun e w' ⟨he, hb⟩ => ⟨by rw [he, decide_eq_true rfl], hb⟩
theorem fieldz (w : World) : (Instr.field 47 (.agg #[.int .u8 0, .int .u8 0, .int .u32 0, .int .u32 0, .int .u32 0, .int .u16 0, .int .u16 0, .int .u16 0, .int .u16 0, .int .u32 0, .slice none 0 0, .slice none 0 0, .slice none 0 0, .slice none 0 0, .slice none 0 0]) 0).run Try.prog w = .ok (.int .u8 0) w := by kernel_rfl
set_option maxRecDepth 100000 in
set_option maxHeartbeats 4000000 in
theorem known_any (w : World) : Calls Try.prog 7 #[] w fun e w' => e = .returned (.bool true) ∧ Below w.heap.size w w' := by
  go_enter Try.func7, Try.ntmps7
  go_wp2_with fail
  refine (new_any (Nw.start w) 2 10 4 0 (by omega) (by omega)).mono ?_
  rintro e w1 ⟨x, rfl, h1⟩
  rw [b0_is] at h1
  have H := Lib.hid h1
  clear h1
  go_wp2_with fail
  refine (one_ix H.out 2 0 1 _ [97, 98] sab yab 2 rfl).mono ?_
  rintro e w2 ⟨A, c, rfl, h2⟩
  clear H
  have H := Lib.hid h2
  clear h2
  go_wp2_with fail
  refine (add_ix 2 0 1 [97, 98] H.out o0 q1 2 rfl (by omega) b1 0 a1).mono ?_
  rintro e w3 ⟨rfl, L, h2⟩
  clear H
  have H := Lib.hid h2
  clear h2
  have C1 : Hid (∀ w2, Below w3.heap.size w3 w2 → Calls Try.prog 21 #[.pointer (some ⟨x, 0, none⟩)] w2 fun e w' => e = .returned (.int .i64 0) ∧ w2 = w') := Lib.hid fun w2 hb => ready_any (H.out.next hb)
  go_wp2_with fail
  refine (C1.out _ (Below.refl _ _)).mono ?_
  rintro e w ⟨rfl, rfl⟩
  clear C1
  have C1 : Hid (Calls Try.prog 22 #[.pointer (some ⟨x, 0, none⟩)] w3 fun e w' => e = .returned (.int .i64 2) ∧ Below w3.heap.size w3 w') := Lib.hid (held_any H.out ok1)
  go_wp2_with fail
  refine C1.out.mono ?_
  rintro e wq ⟨rfl, hb⟩
  have H2 := Lib.hid (H.out.next hb)
  clear H hb C1
  have C1 : Hid (Calls Try.prog 24 #[.pointer (some ⟨x, 0, none⟩)] wq fun e w' => e = .returned (.int .u32 4) ∧ Below wq.heap.size wq w') := Lib.hid (rwnd_any H2.out ok1)
  go_wp2_with fail
  refine C1.out.mono ?_
  rintro e wq ⟨rfl, hb⟩
  have H := Lib.hid (H2.out.next hb)
  clear H2 hb C1
  go_wp2_with fail
  refine (one_ix H.out 3 0 2 _ [99, 100, 101, 102, 103] scg ycg 5 rfl).mono ?_
  rintro e wq ⟨A, c, rfl, h2⟩
  clear H
  have H := Lib.hid h2
  clear h2
  go_wp2_with fail
  refine (add_ix 3 0 2 [99, 100, 101, 102, 103] H.out ok1 q2 5 rfl (by omega) b1 7 a2).mono ?_
  rintro e wq ⟨rfl, L, h2⟩
  clear H
  have H := Lib.hid h2
  clear h2
  go_wp2_with fail
  refine (one_ix H.out 1 0 0 _ [120, 121] sxy yxy 2 rfl).mono ?_
  rintro e wq ⟨A, c, rfl, h2⟩
  clear H
  have H := Lib.hid h2
  clear h2
  go_wp2_with fail
  refine (add_ix 1 0 0 [120, 121] H.out ok1 q3 2 rfl (by omega) b2 0 a3).mono ?_
  rintro e wq ⟨rfl, L, h2⟩
  clear H
  have H := Lib.hid h2
  clear h2
  go_wp2_with fail
  refine (is_some H.out ok2 xy [ab] _ rfl sxy (by decide +kernel)).mono ?_
  rintro e wq ⟨rfl, h2⟩
  clear H
  have H : Hid (IX _ wq x b3 L []) := Lib.hid h2
  clear h2
  go_wp2_with fail
  refine (is_some H.out ok3 ab [] _ rfl sab (by decide +kernel)).mono ?_
  rintro e wq ⟨rfl, h2⟩
  clear H
  have H : Hid (IX _ wq x b4 L []) := Lib.hid h2
  clear h2
  go_wp2_with fail
  refine (is_none H.out ok4 rfl).mono ?_
  rintro e wq ⟨rfl, h2⟩
  clear H
  have H := Lib.hid h2
  clear h2
  go_wp2_with fail
  refine (one_ix H.out 1 0 0 _ [120, 121] sxy yxy 2 rfl).mono ?_
  rintro e wq ⟨A, c, rfl, h2⟩
  clear H
  have H := Lib.hid h2
  clear h2
  go_wp2_with fail
  refine (add_ix 1 0 0 [120, 121] H.out ok4 q3 2 rfl (by omega) b5 4 a4).mono ?_
  rintro e wq ⟨rfl, L, h2⟩
  clear H
  have H := Lib.hid h2
  clear h2
  go_wp2_with fail
  have CS : Hid (Calls Try.prog 16 #[.pointer (some ⟨x, 0, none⟩)] wq fun e w' => ∃ A1 c1 A2 c2, e = .returned (.agg #[.int .u8 3, .int .u8 0, .int .u32 0, .int .u32 6, .int .u32 2, .int .u16 0, .int .u16 0, .int .u16 0, .int .u16 0, .int .u32 0, .slice none 0 0, .slice none 0 0, .slice A1 0 c1, .slice A2 1 c2, .slice none 0 0]) ∧ Row w' A2 (ns .u32 [1]) ∧ IX w w' x b4 L []) := Lib.hid ((sack_any H.out ok5).mono fun e w' ⟨A1, c1, A2, c2, he, _, h2, h3⟩ => ⟨A1, c1, A2, c2, he, h2, h3⟩)
  refine CS.out.mono ?_
  rintro e wq ⟨A1, c1, A2, c2, rfl, hr2, h2⟩
  clear H CS
  have H := Lib.hid h2
  have HR2 := Lib.hid hr2
  clear h2 hr2
  go_wp2_with fail
  have HRA : Hid (Row ((wq.alloc (.cells #[.int .u8 3, .int .u8 0, .int .u32 0, .int .u32 6, .int .u32 2, .int .u16 0, .int .u16 0, .int .u16 0, .int .u16 0, .int .u32 0, .slice none 0 0, .slice none 0 0, .slice A1 0 c1, .slice A2 1 c2, .slice none 0 0] 47)).alloc (.cells #[.int .u32 1] 23)) A2 (ns .u32 [1])) := Lib.hid ((HR2.out.alloc _).alloc _)
  have HRB : Hid (Row ((wq.alloc (.cells #[.int .u8 3, .int .u8 0, .int .u32 0, .int .u32 6, .int .u32 2, .int .u16 0, .int .u16 0, .int .u16 0, .int .u16 0, .int .u32 0, .slice none 0 0, .slice none 0 0, .slice A1 0 c1, .slice A2 1 c2, .slice none 0 0] 47)).alloc (.cells #[.int .u32 1] 23)) (some ⟨wq.heap.size + 1, 0, none⟩) (ns .u32 [1])) := Lib.hid (by
    have := Row.new (wq.alloc (.cells #[.int .u8 3, .int .u8 0, .int .u32 0, .int .u32 6, .int .u32 2, .int .u16 0, .int .u16 0, .int .u16 0, .int .u16 0, .int .u32 0, .slice none 0 0, .slice none 0 0, .slice A1 0 c1, .slice A2 1 c2, .slice none 0 0] 47)) [.int .u32 1] 23 (0, 0)
    simpa [ns] using this)
  have H9 : Hid (IX w ((wq.alloc (.cells #[.int .u8 3, .int .u8 0, .int .u32 0, .int .u32 6, .int .u32 2, .int .u16 0, .int .u16 0, .int .u16 0, .int .u16 0, .int .u32 0, .slice none 0 0, .slice none 0 0, .slice A1 0 c1, .slice A2 1 c2, .slice none 0 0] 47)).alloc (.cells #[.int .u32 1] 23)) x b4 L []) := Lib.hid (H.out.next (((Below.refl _ _).alloc (Nat.le_refl _) _).alloc (by simp) _))
  clear H HR2
  generalize (wq.alloc (.cells #[.int .u8 3, .int .u8 0, .int .u32 0, .int .u32 6, .int .u32 2, .int .u16 0, .int .u16 0, .int .u16 0, .int .u16 0, .int .u32 0, .slice none 0 0, .slice none 0 0, .slice A1 0 c1, .slice A2 1 c2, .slice none 0 0] 47)).alloc (.cells #[.int .u32 1] 23) = W9 at HRA HRB H9 ⊢
  generalize wq.heap.size = z at HRB ⊢
  refine (tsns_is A2 _ 1 c2 1 [1] W9 rfl (by omega) HRA.out HRB.out).mono ?_
  rintro e wq ⟨rfl, hb⟩
  have H := Lib.hid (H9.out.next hb)
  clear H9 HRA HRB hb
  go_wp2_with fail
  refine (one_ix H.out 3 2 0 _ [113] sq yq 1 rfl).mono ?_
  rintro e wq ⟨A, c, rfl, h2⟩
  clear H
  have H := Lib.hid h2
  clear h2
  go_wp2_with fail
  refine (add_ix 3 2 0 [113] H.out ok4 q4 1 rfl (by omega) b6 100 a5).mono ?_
  rintro e wq ⟨rfl, L, h2⟩
  clear H
  have H := Lib.hid h2
  clear h2
  go_wp2_with fail
  have CC : Hid (Calls Try.prog 20 #[.pointer (some ⟨x, 0, none⟩)] wq fun e w' => e = .returned (.int .u32 3) ∧ wq = w') := Lib.hid (cum_any H.out)
  refine CC.out.mono ?_
  rintro e w ⟨rfl, rfl⟩
  clear CC
  go_wp2_with fail
  refine (add_bare H.out ok6 4 (by omega) b6 2 (a6 4 0 0 0 0)).mono ?_
  rintro e wq ⟨rfl, L, h2⟩
  clear H
  have H := Lib.hid h2
  clear h2
  go_wp2_with fail
  refine (one_ix H.out 1 0 0 _ [97] sa ya 1 rfl).mono ?_
  rintro e wq ⟨A, c, rfl, h2⟩
  clear H
  have H := Lib.hid h2
  clear h2
  have HB := Lib.hid H.out.below
  clear H
  go_wp2_with fail
  refine (add_nil ⟨1, 3, 0, 0, 0, [97]⟩ A 1 c wq).mono ?_
  rintro e wa ⟨rfl, hb⟩
  have HB2 := Lib.hid (bnext HB.out hb)
  clear HB hb
  go_wp2_with fail
  refine (is_nil wa).mono ?_
  rintro e wb ⟨rfl, hb⟩
  have HB := Lib.hid (bnext HB2.out hb)
  clear HB2 hb
  go_wp2_with (first
    | (go_at_call 21; (with_reducible refine (ready_nil _).mono ?_); rintro e w ⟨rfl, rfl⟩)
    | (go_at_call 22; (with_reducible refine (held_nil _).mono ?_); rintro e w ⟨rfl, rfl⟩)
    | (go_at_call 24; (with_reducible refine (rwnd_nil _).mono ?_); rintro e w ⟨rfl, rfl⟩)
    | (go_at_call 20; (with_reducible refine (cum_nil _).mono ?_); rintro e w ⟨rfl, rfl⟩))
  refine (sack_nil wb).mono ?_
  rintro e wc ⟨rfl, hb⟩
  have HB2 := Lib.hid (bnext HB.out hb)
  clear HB hb
  have hfd := fieldz wc
  go_wp2_with fail
  go_ret
  exact ⟨rfl, HB2.out⟩
end Ix
end Go.Proofs.Ytednkcjmlpgipaa
