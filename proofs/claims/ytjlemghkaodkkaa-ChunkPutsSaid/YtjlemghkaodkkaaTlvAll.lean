/-
  What the document's All does: the things in a slice of their own.
-/
import Derived.Test.YtjlemghkaodkkaaTlvOne
namespace Go.Proofs.Ytjlemghkaodkkaa
open Go.RowKit Wire Tlv

theorem Try_infoTlv : (Try.prog.info? 36).map (fun i => (i.zero, i.size, i.bytes)) = some (some (.agg #[.int .u16 0, .int .u8 0, .slice none 0 0]), 3, 32) := by kernel_rfl
theorem row_of_owns {W : World} {base s : Nat} {e : TypeId} {A : Option Addr} {n c : Nat} {xs : List Value} (h : W.ownsRow base e s (.slice A n c) n xs) : Row W A xs := fun i v hv => by
  rcases id h.2 with ⟨_, h0⟩ | ⟨g, cap, cur, hv2, _⟩
  · have := h.1
    have h1 := (List.getElem?_eq_some_iff.1 hv).1
    rw [h0, Nat.zero_mul] at this
    omega
  · simp only [Value.slice.injEq] at hv2
    obtain ⟨rfl, _, _⟩ := hv2
    exact ⟨_, rfl, h.cells (g := g) rfl i v hv⟩
theorem owns_none {W : World} {base s : Nat} {e : TypeId} {A : Option Addr} {n c : Nat} {xs : List Value} (h : W.ownsRow base e s (.slice A n c) n xs) : (A = none → n = 0 ∧ c = 0) ∧ n ≤ c ∧ c ≤ maxLen := by
  rcases h.2 with ⟨h1, h2⟩ | ⟨g, cap, cur, h1, _, _, h2, h3, _⟩
  · simp only [Value.slice.injEq] at h1
    obtain ⟨_, h1, h3⟩ := h1
    exact ⟨fun _ => ⟨h1, h3⟩, by omega, by subst h3; exact Nat.zero_le _⟩
  · simp only [Value.slice.injEq] at h1
    obtain ⟨rfl, _, rfl⟩ := h1
    exact ⟨(fun h => by cases h), h2, h3⟩
/-- Rows of unlike types lie apart. -/
theorem own_apart {W : World} {b b' s s' : Nat} {e e' : TypeId} {v v' : Value} {n n' : Nat} {xs xs' : List Value} (h : W.ownsRow b e s v n xs) (h' : W.ownsRow b' e' s' v' n' xs') (hne : e ≠ e') : v.ownBlock = none ∨ v.ownBlock ≠ v'.ownBlock := by
  rcases h.2 with ⟨rfl, _⟩ | ⟨g, cap, cur, rfl, _, hg, _⟩
  · exact .inl rfl
  · refine .inr fun e1 => ?_
    rcases h'.2 with ⟨rfl, _⟩ | ⟨g', cap', cur', rfl, _, hg', _⟩
    · cases e1
    · simp only [Value.ownBlock, Option.some.injEq] at e1
      rw [e1, hg'] at hg
      simp at hg
      exact hne hg.2.symm
/-- The thing's value lies in bytes of the call's own. -/
def Vo (B : Nat) (W : World) (q : Q) : Prop := q.1.ok ∧ ∃ A n c, q.2 = .slice A n c ∧ n ≤ 100000 ∧ W.ownsRow B 5 1 (.slice A n c) n (bs q.1.v)
theorem Vo.vl {B : Nat} {W : World} {q : Q} (h : Vo B W q) : Vl W q := by
  obtain ⟨h1, A, n, c, h2, h3, h4⟩ := h
  obtain ⟨g1, g2, g3⟩ := owns_none h4
  exact ⟨A, n, c, h2, by have := h4.1; simpa [bs] using this, g2, g3, by omega, h1, row_of_owns h4, g1⟩
theorem Vo.next {B : Nat} {W W' : World} {q : Q} (h : Vo B W q) (hb : Below W.heap.size W W') : Vo B W' q := by
  obtain ⟨h1, A, n, c, h2, h3, h4⟩ := h
  exact ⟨h1, A, n, c, h2, h3, own_below h4 hb⟩
theorem Vo.kept {B : Nat} {W W' : World} {q : Q} {e : TypeId} {b s : Nat} {v : Value} {n : Nat} {xs : List Value} (h : Vo B W q) (ho : W.ownsRow b e s v n xs) (hne : 5 ≠ e) (hg : W.grownBy W' v.ownBlock) : Vo B W' q := by
  obtain ⟨h1, A, n, c, h2, h3, h4⟩ := h
  exact ⟨h1, A, n, c, h2, h3, h4.kept hg (own_apart h4 ho hne)⟩
/-- A row of things that the call owns. -/
def To (w : World) (qs : List Q) (A : Option Addr) (n c : Nat) (W : World) : Prop := qs.length = n ∧ W.ownsRow w.heap.size 36 3 (.slice A n c) n (tf qs) ∧ (∀ q ∈ qs, Vo w.heap.size W q) ∧ Below w.heap.size w W
theorem To.nil (w : World) : To w [] none 0 0 w := ⟨rfl, World.ownsRow_nil _ _ _ _, fun q h => by simp at h, Below.refl _ _⟩
theorem To.next {w W W' : World} {qs : List Q} {A : Option Addr} {n c : Nat} (h : To w qs A n c W) (hb : Below W.heap.size W W') : To w qs A n c W' :=
  ⟨h.1, own_below h.2.1 hb, fun q hq => (h.2.2.1 q hq).next hb, bnext' h.2.2.2 hb⟩
theorem To.ths {w W : World} {qs : List Q} {A : Option Addr} {n c : Nat} (h : To w qs A n c W) : Ths W A qs := ⟨row_of_owns h.2.1, fun q hq => (h.2.2.1 q hq).vl⟩
theorem To.snoc {w W W' : World} {qs : List Q} {A A' : Option Addr} {n c c' : Nat} {q : Q} (h : To w qs A n c W) (hq : Vo w.heap.size W q) (ho : W'.ownsRow w.heap.size 36 3 (.slice A' (n + 1) c') (n + 1) (tf qs ++ tc q)) (hg : W.grownBy W' (Value.slice A n c).ownBlock) : To w (qs ++ [q]) A' (n + 1) c' W' := by
  refine ⟨by simp [h.1], by rw [tf_snoc]; exact ho, fun p hp => ?_, h.2.2.2.grown hg h.2.2.2.size (fun k hk => (h.2.1.lt k hk).1)⟩
  rcases List.mem_append.1 hp with hp | hp
  · exact (h.2.2.1 p hp).kept h.2.1 (by decide) hg
  · simp at hp
    subst hp
    exact hq.kept h.2.1 (by decide) hg
theorem tc_one (q : Q) (h : q.2.oneCell' = true) : ∀ u ∈ tc q, u.oneCell' = true := fun u hu => by
  simp only [tc, List.mem_cons, List.not_mem_nil, or_false] at hu
  rcases hu with rfl | rfl | rfl
  · rfl
  · rfl
  · exact h
theorem one_any (ch : Bool) (A : Option Addr) (n c : Nat) (l : List Int) (at_ : Nat) (w : World) (hl : l.length = n) (hn : n ≤ 100000) (hnc : n ≤ c) (hcm : c ≤ maxLen) (hb : Byt l) (hr : Row w A (bs l)) (h4 : at_ ≤ n) :
    Calls Try.prog 53 #[.bool ch, .slice A n c, .int .i64 (at_ : Int)] w (OneOut w at_ (t1 ch (l.drop at_))) := by
  by_cases h : n < at_ + 4
  · have e : t1 ch (l.drop at_) = none := by
      unfold t1
      rw [if_pos (by simp; omega)]
    rw [e]
    exact one_short ch A n c at_ w hn h4 h
  · exact one_long ch A n c l at_ w hl hn hnc hcm hb hr (by omega)

/-- What a call that tells all things leaves. -/
def AllOut (w : World) (xs : List Tv) (f : Value → Value) (e : Ending) (w' : World) : Prop := ∃ A n c qs, e = .returned (f (.slice A n c)) ∧ qs.map (·.1) = xs ∧ To w qs A n c w'
set_option maxRecDepth 100000 in
set_option maxHeartbeats 2000000 in
theorem rall_any (ch : Bool) (A : Option Addr) (n c : Nat) (l : List Int) (w : World) (hl : l.length = n) (hn : n ≤ 100000) (hnc : n ≤ c) (hcm : c ≤ maxLen) (hb : Byt l) (hr : Row w A (bs l)) :
    Calls Try.prog 37 #[.bool ch, .slice A n c] w (AllOut w (tl ch l).1 (fun v => .tuple #[v, .bool (tl ch l).2])) := by
  obtain ⟨i0, hi0, hz0, hz1, hz2⟩ := info_parts Try_infoTlv
  have HI := Lib.hid hi0
  have HZ0 := Lib.hid hz0
  have HZ1 := Lib.hid hz1
  have HZ2 := Lib.hid hz2
  have HL := Lib.hid hl
  have HR := Lib.hid hr
  have HB := Lib.hid hb
  have hlt := tl_len ch l.length l (Nat.le_refl _)
  have HO := Lib.hid fun (k : Nat) (hk : k ≤ n) W (hW : Below w.heap.size w W) => one_any ch A n c l k W hl hn hnc hcm hb (hr.below hW) hk
  rw [hl] at hlt
  clear hl hr hb hi0 hz0 hz1 hz2
  obtain ⟨R, hR⟩ : ∃ R, tl ch l = R := ⟨_, rfl⟩
  rw [hR]
  have HT := Lib.hid hR
  rw [hR] at hlt
  clear hR
  go_enter Try.func37, Try.ntmps37
  go_wp2_with fail
  go_loopw [6, 7] (fun v i wr => ∃ (k : Nat) (qs : List Q) (A' : Option Addr) (n' c' : Nat), k ≤ n ∧ i = .int .i64 k ∧ v = .slice A' n' c' ∧ n' ≤ 100000 ∧ Hid (R = (qs.map (·.1) ++ (tl ch (l.drop k)).1, (tl ch (l.drop k)).2)) ∧ Hid (To w qs A' n' c' wr)) (fun _ i _ => n - (intOf i).toNat)
  case atStart => exact ⟨0, [], none, 0, 0, by omega, rfl, rfl, by omega, Lib.hid (by rw [← HT.out]; simp), Lib.hid (To.nil w)⟩
  case round =>
    obtain ⟨k, qs, A', n', c', hk, rfl, rfl, hn', hR, hto⟩ := hrel
    by_cases hlt2 : k < n
    · have hone := HO.out k hk wr hto.out.2.2.2
      cases ht : t1 ch (l.drop k) with
      | none =>
        rw [ht] at hone
        have HONE := Lib.hid hone
        have hRe : R = (qs.map (·.1), false) := by
          rw [hR.out, tl_none (by rw [List.length_drop, HL.out]; omega) ht]
          simp
        have HRE := Lib.hid hRe
        clear hone ht hRe
        go_wp2_with fail
        (with_reducible refine HONE.out.mono ?_)
        rintro e w3 ⟨rfl, hb3⟩
        have hto3 := hto.out.next hb3
        have hto4 := Lib.hid (hto3.next ((Below.refl _ _).alloc (Nat.le_refl _) (.cells #[.int .u16 0, .int .u8 0, .slice none 0 0] 36)))
        clear hto3 hb3
        go_wp2_with fail
        go_ret2
        refine ⟨A', n', c', qs, ?_, by rw [HRE.out], hto4.out⟩
        rw [HRE.out]
        rfl
      | some p =>
        obtain ⟨x, s⟩ := p
        rw [ht] at hone
        have HONE := Lib.hid hone
        have hts := t1_lt ht
        have hxo := (tb_t1 (Byt.drop HB.out k) ht)
        have hRe : R = ((qs.map (·.1) ++ [x]) ++ (tl ch (l.drop (k + s))).1, (tl ch (l.drop (k + s))).2) := by
          rw [hR.out, tl_some ht]
          simp [List.drop_drop]
        have HRE := Lib.hid hRe
        have HXO := Lib.hid hxo
        have hks : k + s ≤ n := by have := hts.2; simp [HL.out] at this; omega
        clear hone ht hRe hxo
        go_wp2_with fail
        (with_reducible refine HONE.out.mono ?_)
        rintro e w3 ⟨A3, n3, c3, rfl, ho3⟩
        go_upto_region 7 with fail
        have hvo : Vo w.heap.size w3 (x, .slice A3 n3 c3) := ⟨HXO.out.1, A3, n3, c3, rfl, by have := ho3.len; have := HXO.out.2.2.1; omega, own_base ho3.1 hto.out.2.2.2.size⟩
        have hto3 := hto.out.next ho3.2
        have hq := (hvo.next ((Below.refl _ _).alloc (Nat.le_refl _) (.cells #[.int .u16 (x.k : Int), .int .u8 (x.f : Int), .slice A3 n3 c3] 36))).next ((Below.refl _ _).alloc (Nat.le_refl _) (.cells #[.int .u16 (x.k : Int), .int .u8 (x.f : Int), .slice A3 n3 c3] 36))
        have ht4 := (hto3.next ((Below.refl _ _).alloc (Nat.le_refl _) (.cells #[.int .u16 (x.k : Int), .int .u8 (x.f : Int), .slice A3 n3 c3] 36))).next ((Below.refl _ _).alloc (Nat.le_refl _) (.cells #[.int .u16 (x.k : Int), .int .u8 (x.f : Int), .slice A3 n3 c3] 36))
        have HQ := Lib.hid hq
        have HT4 := Lib.hid ht4
        have HN := Lib.hid (bcells (Row.new (w3.alloc (.cells #[.int .u16 (x.k : Int), .int .u8 (x.f : Int), .slice A3 n3 c3] 36)) (tc (x, .slice A3 n3 c3)) 36 (0, 0)))
        have hsz := hto3.2.2.2.size
        clear hq ht4 hvo hto3 ho3
        go_upto_region 8 with (at_builtin; refine wpList_append_lies _ rfl (.tmp 26) (.tmp 28) 42 rfl w.heap.size 36 i0 _ 3 32 Try.underlying42 HI.out HZ0.out HZ1.out HZ2.out rfl (by decide) _ _ _ rfl HT4.out.2.1 ⟨w3.heap.size + 1, 0, none⟩ 1 1 (tc (x, .slice A3 n3 c3)) rfl rfl (by have := HN.out; rwa [World.size_alloc] at this) (tc_one _ rfl) (by omega) (by unfold maxLen; omega) (by omega) (by simp; omega) _ rfl ?_; intro b7 cap7 w7 hown7 hgrow7 _ _)
        have HT7 := Lib.hid (HT4.out.snoc HQ.out hown7 hgrow7)
        clear hown7 hgrow7
        go_wp2_with fail
        go_roundw
        case rel => exact ⟨k + s, qs ++ [(x, .slice A3 n3 c3)], _, n' + 1, cap7, hks, by go_num, rfl, (by have := congrArg (fun r : List Tv × Bool => r.1.length) HRE.out; simp at this; have := hto.out.1; omega), Lib.hid (by rw [HRE.out]; simp), HT7⟩
        case measure => simp [intOf]; omega
    · have hRe : R = (qs.map (·.1), true) := by
        rw [hR.out, List.drop_of_length_le (by rw [HL.out]; omega), tl_nil]
        simp
      have HRE := Lib.hid hRe
      clear hRe
      go_wp2_with fail
      go_ret2
      refine ⟨A', n', c', qs, ?_, by rw [HRE.out], hto.out⟩
      rw [HRE.out]
      rfl
end Go.Proofs.Ytjlemghkaodkkaa
