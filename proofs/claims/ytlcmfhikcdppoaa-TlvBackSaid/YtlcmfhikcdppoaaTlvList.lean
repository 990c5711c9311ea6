/-
  What tlv.List does.
-/
import Derived.Test.YtlcmfhikcdppoaaTlvIter
namespace Go.Proofs.Ytlcmfhikcdppoaa
open Go.RowKit Wire Tlv Go.Shelf
attribute [local go_sem] Oper.semAt_some

theorem Bk.calm {B : Nat} {W W' : World} {b : Nat} {cs : Array Value} {t : TypeId} (h : Bk W b cs t) (hc : Calm B W W') : Bk W' b cs t := hc.2 b _ h rfl
theorem owns_calm {B : Nat} {W W' : World} {base s : Nat} {e : TypeId} {v : Value} {n : Nat} {xs : List Value} (h : W.ownsRow base e s v n xs) (hc : Calm B W W') : W'.ownsRow base e s v n xs := by
  refine ⟨h.1, ?_⟩
  rcases h.2 with h2 | ⟨g, cap, cur, hv, hg, hh, r⟩
  · exact .inl h2
  · exact .inr ⟨g, cap, cur, hv, hg, hc.2 g _ hh rfl, r⟩
theorem Vo.calm {B b : Nat} {W W' : World} {q : Q} (h : Vo b W q) (hc : Calm B W W') : Vo b W' q := by
  obtain ⟨h1, A, n, c, h2, h3, h4⟩ := h
  exact ⟨h1, A, n, c, h2, h3, owns_calm h4 hc⟩
/-- A row of things in blocks from B on. -/
def Tb (B : Nat) (qs : List Q) (A : Option Addr) (n c : Nat) (W : World) : Prop := qs.length = n ∧ W.ownsRow B 25 3 (.slice A n c) n (tf qs) ∧ ∀ q ∈ qs, Vo B W q
theorem Tb.calm {B b : Nat} {qs : List Q} {A : Option Addr} {n c : Nat} {W W' : World} (h : Tb b qs A n c W) (hc : Calm B W W') : Tb b qs A n c W' := ⟨h.1, owns_calm h.2.1 hc, fun q hq => (h.2.2 q hq).calm hc⟩
theorem Tb.next {b : Nat} {qs : List Q} {A : Option Addr} {n c : Nat} {W W' : World} (h : Tb b qs A n c W) (hb : Below W.heap.size W W') : Tb b qs A n c W' := ⟨h.1, own_below h.2.1 hb, fun q hq => (h.2.2 q hq).next hb⟩
theorem Vo.lower {B b : Nat} {W : World} {q : Q} (h : Vo B W q) (hb : b ≤ B) : Vo b W q := by
  obtain ⟨h1, A, n, c, h2, h3, h4⟩ := h
  exact ⟨h1, A, n, c, h2, h3, own_base h4 hb⟩
theorem Tb.to {B : Nat} {qs : List Q} {A : Option Addr} {n c : Nat} {w W : World} (h : Tb B qs A n c W) (hb : w.heap.size ≤ B) (hw : Below w.heap.size w W) : To w qs A n c W :=
  ⟨h.1, own_base h.2.1 hb, fun q hq => (h.2.2 q hq).lower hb, hw⟩

/-- Between two rounds of the list's loop. -/
def Li (w : World) (hi : Nat) (pre : List Ev) (W : World) : Prop := (∀ x ∈ pre, x.2 = 0) ∧ ∃ A n c, Bk W w.heap.size #[.slice none 0 0] 32 ∧ Bk W (w.heap.size + 1) #[.int .i64 0] 27 ∧
  Bk W (w.heap.size + 1 + 1) #[.slice A n c] 32 ∧ Tb hi (pre.map (·.1)) A n c W ∧ Below w.heap.size w W ∧ hi ≤ W.heap.size
/-- A round has left. -/
def Lx (w : World) (pre : List Ev) (W : World) : Prop := ∃ z : Int, (∃ x ∈ pre, x.2 = z ∧ z ≠ 0) ∧ Bk W w.heap.size #[.slice none 0 0] 32 ∧ Bk W (w.heap.size + 1) #[.int .i64 z] 27 ∧ Below w.heap.size w W
theorem Li.calm {w : World} {hi B : Nat} {pre : List Ev} {W W' : World} (h : Li w hi pre W) (hw : w.heap.size ≤ B) (hc : Calm B W W') : Li w hi pre W' := by
  obtain ⟨h0, A, n, c, h1, h2, h3, h4, h5, h6⟩ := h
  exact ⟨h0, A, n, c, h1.calm hc, h2.calm hc, h3.calm hc, h4.calm hc, h5.trans (hc.1.mono hw), Nat.le_trans h6 hc.1.size⟩
theorem Lx.calm {w : World} {B : Nat} {pre : List Ev} {W W' : World} (h : Lx w pre W) (hw : w.heap.size ≤ B) (hc : Calm B W W') : Lx w pre W' := by
  obtain ⟨z, h0, h1, h2, h3⟩ := h
  exact ⟨z, h0, h1.calm hc, h2.calm hc, h3.trans (hc.1.mono hw)⟩
/-- A block of another type is not the row's own. -/
theorem Bk.not_own {W : World} {b : Nat} {cs : Array Value} {t e : TypeId} {base s : Nat} {v : Value} {n : Nat} {xs : List Value} (h : Bk W b cs t) (hr : W.ownsRow base e s v n xs) (hne : t ≠ e) : some b ≠ v.ownBlock := by
  rcases hr.2 with ⟨rfl, _⟩ | ⟨g, cap, cur, rfl, _, hg, _⟩
  · simp [Value.ownBlock]
  · intro e1
    simp only [Value.ownBlock, Option.some.injEq] at e1
    subst e1
    rw [show W.heap[b]? = _ from h] at hg
    simp at hg
    exact hne hg.2
theorem Bk.grown {W W' : World} {b : Nat} {cs : Array Value} {t e : TypeId} {base s : Nat} {v : Value} {n : Nat} {xs : List Value} (h : Bk W b cs t) (hr : W.ownsRow base e s v n xs) (hne : t ≠ e) (hg : W.grownBy W' v.ownBlock) : Bk W' b cs t :=
  (hg.block b h.lt (h.not_own hr hne)).trans h
theorem row_cells {W : World} {base s : Nat} {e : TypeId} {v : Value} {n : Nat} {xs : List Value} (hr : W.ownsRow base e s v n xs) : ∀ (j : Nat) (o : Obj), v.ownBlock = some j → W.heap[j]? = some o → o.isCells = true := fun j o hj ho => by
  rcases hr.2 with ⟨rfl, _⟩ | ⟨g, cap, cur, rfl, _, hg, _⟩
  · simp [Value.ownBlock] at hj
  · simp only [Value.ownBlock, Option.some.injEq] at hj
    subst hj
    rw [hg] at ho
    injection ho with ho
    rw [← ho]
    rfl
theorem owns_set {W : World} {base s b : Nat} {e t : TypeId} {v u : Value} {n : Nat} {xs : List Value} {cs : Array Value} (h : W.ownsRow base e s v n xs) (hb : Bk W b cs t) (hne : t ≠ e) (i : Nat) : (W.setCell ⟨b, i, none⟩ u).ownsRow base e s v n xs :=
  h.kept (row := some b) ⟨rfl, rfl, rfl, by simp [World.setCell], fun k _ hk => Below.heap_setCell _ _ _ k (fun e => hk (by rw [e]))⟩ (.inr (hb.not_own h hne).symm)
theorem Vo.set {B b : Nat} {W : World} {q : Q} {cs : Array Value} {t : TypeId} (h : Vo B W q) (hb : Bk W b cs t) (hne : t ≠ 5) (i : Nat) (u : Value) : Vo B (W.setCell ⟨b, i, none⟩ u) q := by
  obtain ⟨h1, A, n, c, h2, h3, h4⟩ := h
  exact ⟨h1, A, n, c, h2, h3, owns_set h4 hb hne i⟩
/-- What 'l = append(l, x)' leaves, l a variable in a block. -/
theorem appended {w W w2 : World} {lo hi b : Nat} {A A' : Option Addr} {n c c' : Nat} {qs : List Q} {q : Q} {o : Obj} (hb : Bk W b #[.slice A n c] 32) (hlo : b < lo) (hlh : lo ≤ hi) (hW : hi ≤ W.heap.size) (hT : Tb hi qs A n c W) (hq : Vo hi W q)
    (ho : w2.ownsRow hi 25 3 (.slice A' (n + 1) c') (n + 1) (tf qs ++ tc q)) (hg : (W.alloc o).grownBy w2 (Value.slice A n c).ownBlock) (hbw : w.heap.size ≤ b) (hw : Below w.heap.size w W) :
    Bk w2 b #[.slice A n c] 32 ∧ KeepsOthers W (w2.setCell ⟨b, 0, none⟩ (.slice A' (n + 1) c')) ∧ Kept lo hi W (w2.setCell ⟨b, 0, none⟩ (.slice A' (n + 1) c')) ∧ Bk (w2.setCell ⟨b, 0, none⟩ (.slice A' (n + 1) c')) b #[.slice A' (n + 1) c'] 32 ∧
      Tb hi (qs ++ [q]) A' (n + 1) c' (w2.setCell ⟨b, 0, none⟩ (.slice A' (n + 1) c')) ∧ (∀ d cs t, Bk W d cs t → d ≠ b → t ≠ 25 → Bk (w2.setCell ⟨b, 0, none⟩ (.slice A' (n + 1) c')) d cs t) ∧
      Below w.heap.size w (w2.setCell ⟨b, 0, none⟩ (.slice A' (n + 1) c')) ∧ hi ≤ (w2.setCell ⟨b, 0, none⟩ (.slice A' (n + 1) c')).heap.size := by
  have hr := hT.2.1.alloc o
  have hb2 : Bk w2 b #[.slice A n c] 32 := (hb.alloc o).grown hr (by decide) hg
  have hsz : W.heap.size ≤ w2.heap.size := Nat.le_trans (by simp) hg.size
  have hvo : ∀ p, Vo hi W p → Vo hi (w2.setCell ⟨b, 0, none⟩ (.slice A' (n + 1) c')) p := fun p hp => ((hp.next ((Below.refl _ _).alloc (Nat.le_refl _) o)).kept hr (by decide) hg).set hb2 (by decide) 0 _
  refine ⟨hb2, ((KeepsOthers.alloc W o).trans (KeepsOthers.of_grownBy hg (row_cells hr))).trans (KeepsOthers.setCell _ _ _), ?_, ?_, ⟨by simp [hT.1], by rw [tf_snoc]; exact owns_set ho hb2 (by decide) 0, fun p hp => ?_⟩, fun d cs t hd hne ht => ?_, ?_, ?_⟩
  · refine ((Kept.of_below ((Below.refl _ _).alloc (Nat.le_refl _) o) hW).trans (Kept.of_grown hg (by simp; omega) (fun k hk => .inr (hT.2.1.lt k hk).1))).trans (Kept.of_set _ (.inl hlo))
  · have := hb2.set 0 (.slice A' (n + 1) c')
    simpa using this
  · rcases List.mem_append.1 hp with hp | hp
    · exact hvo p (hT.2.2 p hp)
    · simp at hp
      subst hp
      exact hvo _ hq
  · exact ((hd.alloc o).grown hr ht hg).other hne 0 _
  · exact ((hw.alloc hw.size o).grown hg (by have := hw.size; simp; omega) (fun k hk => Nat.le_trans (by have := hw.size; omega) (hT.2.1.lt k hk).1)).setCell (p := ⟨b, 0, none⟩) hbw _
  · simp [World.setCell]; omega
theorem ev_len (ch : Bool) (l : List Int) : 4 * (ev ch l).length ≤ l.length + 4 := by
  have := tl_len ch l.length l (Nat.le_refl _)
  unfold ev
  split <;> simp <;> omega
theorem ev_err {ch : Bool} {l : List Int} {x : Tv × Int} (h : x ∈ ev ch l) (hx : x.2 ≠ 0) : x.2 = 40 ∧ (tl ch l).2 = false := by
  unfold ev at h
  rcases List.mem_append.1 h with h | h
  · obtain ⟨y, _, rfl⟩ := List.mem_map.1 h
    exact absurd rfl hx
  · split at h
    · cases h
    · rename_i hf
      simp at h
      subst h
      exact ⟨rfl, by simpa using hf⟩
theorem ev_ok {ch : Bool} {l : List Int} {xs : List (Tv × Int)} (h : xs = ev ch l) (h0 : ∀ x ∈ xs, x.2 = 0) : (tl ch l).2 = true ∧ xs.map (·.1) = (tl ch l).1 := by
  subst h
  unfold ev at h0 ⊢
  cases ht : (tl ch l).2
  · rw [ht] at h0
    have := h0 (none_, 40) (by simp)
    cases this
  · simp [Function.comp_def]
/-- In the middle of a round. -/
def La (w : World) (ch : Bool) (l : List Int) (hi : Nat) (A : Option Addr) (n c : Nat) (F : Value) (pre : List Ev) (x : Ev) (a : Act) (W : World) : Prop := ∃ Bx, Bk W Bx #[.int .u16 (x.1.1.k : Int), .int .u8 (x.1.1.f : Int), x.1.2] 25 ∧ Li w hi pre W ∧ Vev ch l hi pre x W ∧
  a = { tmps := #[.bool ch, .slice A n c, undef, undef, .pointer (some ⟨w.heap.size, 0, none⟩), .pointer (some ⟨w.heap.size + 1, 0, none⟩), .pointer (some ⟨w.heap.size + 1 + 1, 0, none⟩), .pointer (some ⟨Bx, 0, none⟩), .int .i64 x.2, .bool ch, .slice A n c, F,
    .agg #[.int .u16 (x.1.1.k : Int), .int .u8 (x.1.1.f : Int), x.1.2], .int .i64 x.2, undef, undef, undef, undef, undef, undef, undef, undef], defers := [] }
set_option maxRecDepth 100000 in
set_option maxHeartbeats 2000000 in
theorem list_any (ch : Bool) (A : Option Addr) (n c : Nat) (l : List Int) (w : World) (hl : l.length = n) (hn : n ≤ 100000) (hb : Byt l) (hr : Row w A (bs l)) :
    Calls Try.prog 13 #[.bool ch, .slice A n c] w (AllOut w (tlist ch l).1 (fun v => .tuple #[v, .int .i64 (tlist ch l).2])) := by
  have cA : ∀ W, Below w.heap.size w W → Calls Try.prog 11 #[.bool ch, .slice A n c] W (AllIt W ch l) := fun W h => tall_any ch A n c l W hl hn (hr.below h)
  have CA := Lib.hid cA
  clear cA
  refine calls_marks Try.func13 rfl ?_
  simp only [Try.ntmps13, List.size_toArray, List.length_cons, List.length_nil, Nat.reduceAdd, Nat.reduceSub, Array.replicate_succ, Array.replicate_zero, List.push_toArray, List.append_toArray, List.nil_append, List.cons_append]
  go_wp2_with fail
  (with_reducible refine (CA.out _ ?_).mono ?_)
  · exact (((Below.refl _ w).alloc (Nat.le_refl _) _).alloc (by simp) _).alloc (by simp; omega) _
  rintro e w1 ⟨A1, n1, c1, ob, rfl, hI1, hob, hob2, hb1⟩
  simp only [World.size_alloc] at hI1 hob hb1
  have hn1 : n1 ≤ 100000 := by have := hI1.2.2.1; rw [bs_len, hl] at this; omega
  have hB0 : Below w.heap.size w w1 := ((((Below.refl _ w).alloc (Nat.le_refl _) _).alloc (by simp) _).alloc (by simp; omega) _).trans (hb1.mono (by omega))
  have hk4 : Bk w1 w.heap.size #[.slice none 0 0] 32 := (((Bk.new w _ _).alloc (.cells #[.int .i64 0] 27)).alloc (.cells #[.slice none 0 0] 32)).nextB hb1 (by omega)
  have hk5 : Bk w1 (w.heap.size + 1) #[.int .i64 0] 27 := by
    have := ((Bk.new (w.alloc (.cells #[.slice none 0 0] 32)) #[.int .i64 0] 27).alloc (.cells #[.slice none 0 0] 32)).nextB hb1 (by simp)
    simpa using this
  have hk6 : Bk w1 (w.heap.size + 1 + 1) #[.slice none 0 0] 32 := by
    have := (Bk.new ((w.alloc (.cells #[.slice none 0 0] 32)).alloc (.cells #[.int .i64 0] 27)) #[.slice none 0 0] 32).nextB hb1 (by simp)
    simpa using this
  have hLi : Li w w1.heap.size [] w1 := ⟨fun x h => by simp at h, none, 0, 0, hk4, hk5, hk6, ⟨rfl, World.ownsRow_nil _ _ _ _, fun q h => by simp at h⟩, hB0, Nat.le_refl _⟩
  have hseq := iter_seq ch A1 n1 c1 l (w.heap.size + 1 + 1 + 1) ob (w.heap.size + 1 + 1 + 1) w1 hn1 hb hI1 ⟨Nat.le_refl _, by omega⟩ ⟨by omega, hob2⟩
  have hws := hB0.size
  have HS := Lib.hid hseq
  have HLI := Lib.hid hLi
  obtain ⟨i0, hi0, hz0, hz1, hz2⟩ := info_parts Try_infoTlv
  have HI := Lib.hid hi0
  have HZ0 := Lib.hid hz0
  have HZ1 := Lib.hid hz1
  have HZ2 := Lib.hid hz2
  have HEL := Lib.hid (ev_len ch l)
  have HL := Lib.hid hl
  have hh : w.heap.size + 1 + 1 + 1 < w1.heap.size := by omega
  clear hseq hLi hk4 hk5 hk6 hB0 hI1 hb1 hb hr hi0 hz0 hz1 hz2 hl CA
  go_wp2_with fail
  refine (wpIn_wide (n := 9)).1 ?_
  refine range_wpIn (gf := 19) (lb := #[.pointer (some ⟨ob, 0, none⟩), .pointer (some ⟨w.heap.size + 1 + 1 + 1, 0, none⟩)]) rfl (enters_of Try.func19 (by kernel_rfl) rfl) HS.out (Nat.le_refl _) (fun _ => rfl)
    (fun pre W => Li w w1.heap.size pre W) (fun c pre W => c = .ret ∧ Lx w pre W) (fun pre A B h hc => h.calm hws hc) (fun c pre A B h hc => ⟨h.1, h.2.calm hws hc⟩) HLI.out
    (La w ch l w1.heap.size A n c (.func (.func 19) #[] #[.pointer (some ⟨ob, 0, none⟩), .pointer (some ⟨w.heap.size + 1 + 1 + 1, 0, none⟩)]))
    (fun pre x a₁ A B ⟨Bx, h1, h2, h3, h4⟩ hc => ⟨Bx, h1.calm hc, h2.calm hws hc, ⟨h3.1, h3.2.calm hc⟩, h4⟩) ?assign ?body ?done ?stop
  case assign =>
    intro y pre x W K hi hv hK
    obtain ⟨A2, n2, c2, hx2, _⟩ := hv.2.2
    have hbel : Below W.heap.size W (W.alloc (.cells #[.int .u16 (x.1.1.k : Int), .int .u8 (x.1.1.f : Int), x.1.2] 25)) := (Below.refl _ _).alloc (Nat.le_refl _) _
    have hla := hK _ _ hbel ⟨W.heap.size, Bk.new _ _ _, hi.calm hws (Calm.of_below hbel (by obtain ⟨_, _, _, _, _, _, _, _, _, h⟩ := hi; exact h)), ⟨hv.1, hv.2.next hbel⟩, rfl⟩
    rw [hx2] at hla
    have HLA := Lib.hid hla
    obtain ⟨⟨xt, xv⟩, xe⟩ := x
    simp only at hx2
    subst hx2
    clear hi hv hK hbel hla
    simp only [enc]
    gi_wp2
    exact HLA.out
  case body =>
    rintro y pre ⟨⟨xt, xv⟩, xe⟩ a₁ W hsize ⟨Bx, hx, ⟨h0, A', n', c', h4, h5, h6, hT, hB, hhi⟩, hv, rfl⟩
    obtain ⟨A2, n2, c2, hx2, _⟩ := hv.2.2
    simp only at hx2
    subst hx2
    simp only at hx
    have hn' : n' ≤ 30000 := by
      obtain ⟨t, ht⟩ := hv.1
      have := HEL.out
      rw [ht, HL.out] at this
      have := hT.1
      simp at *
      omega
    by_cases he : xe = 0
    · have d1 : (xe != 0) = false := by simpa using he
      have HE := Lib.hid he
      have r6 := h6.cell 0
      have x0 := hx.cell 0
      have x1 := hx.cell 1
      have x2 := hx.cell 2
      simp at r6 x0 x1 x2
      have H4 := Lib.hid h4
      have H5 := Lib.hid h5
      have H6 := Lib.hid h6
      have HT := Lib.hid hT
      have HQ := Lib.hid hv.2
      have HB := Lib.hid hB
      have H0 := Lib.hid h0
      have hrow := Lib.hid (hT.2.1.alloc (.cells (tc (xt, .slice A2 n2 c2)).toArray 25))
      have hnew := Lib.hid (bcells (Row.new W (tc (xt, .slice A2 n2 c2)) 25 (0, 0)))
      clear he h0 h4 h5 h6 hT hv hB hx
      gi_wp2_with (gi_at_builtin; refine wpListIn_append_own _ rfl (.tmp 17) (.tmp 19) 32 rfl w1.heap.size 25 i0 _ 3 32 Try.underlying32 HI.out HZ0.out HZ1.out HZ2.out rfl (by decide) _ _ _ rfl hrow.out ⟨W.heap.size, 0, none⟩ 1 1 (tc (xt, .slice A2 n2 c2)) rfl rfl hnew.out (tc_one _ rfl) (by unfold maxLen; omega) (by omega) (by simp; omega) ?_; intro v' w2 hown' hgrow _; obtain ⟨A9, c9, rfl⟩ := own_form hown'; have hap := appended (lo := w.heap.size + 1 + 1 + 1) (w := w) H6.out (by omega) (by omega) hhi HT.out HQ.out hown' hgrow (by omega) HB.out; have q6 := hap.1.cell 0; have f6 := hap.1.frozen 0; simp at q6; have HAP := Lib.hid hap; clear hap hown' hgrow)
      obtain ⟨_, k1, k2, k3, k4, k5, k6, k7⟩ := HAP.out
      exact ⟨k1.from _, k2, fun p hp => by
        rcases List.mem_append.1 hp with hp | hp
        · exact H0.out p hp
        · simp at hp
          subst hp
          exact HE.out, A9, n' + 1, c9, k5 _ _ _ H4.out (by omega) (by decide), k5 _ _ _ H5.out (by omega) (by decide), k3, by rw [List.map_append]; exact k4, k6, k7⟩
    · have d1 : (xe != 0) = true := by simpa using he
      have HE := Lib.hid he
      have r4 := h4.cell 0
      have r5 := h5.cell 0
      simp at r4 r5
      have f4 := h4.frozen 0
      have f5 := h5.frozen 0
      have hfin : Hid (Bk ((W.setCell ⟨w.heap.size, 0, none⟩ (.slice none 0 0)).setCell ⟨w.heap.size + 1, 0, none⟩ (.int .i64 xe)) w.heap.size #[.slice none 0 0] 32 ∧ Bk ((W.setCell ⟨w.heap.size, 0, none⟩ (.slice none 0 0)).setCell ⟨w.heap.size + 1, 0, none⟩ (.int .i64 xe)) (w.heap.size + 1) #[.int .i64 xe] 27 ∧
          Below w.heap.size w ((W.setCell ⟨w.heap.size, 0, none⟩ (.slice none 0 0)).setCell ⟨w.heap.size + 1, 0, none⟩ (.int .i64 xe)) ∧ KeepsOthers W ((W.setCell ⟨w.heap.size, 0, none⟩ (.slice none 0 0)).setCell ⟨w.heap.size + 1, 0, none⟩ (.int .i64 xe))) := by
        have e4 := h4.set 0 (.slice none 0 0)
        have e5 := (h5.other (c := w.heap.size) (by omega) 0 (.slice none 0 0)).set 0 (.int .i64 xe)
        simp at e4 e5
        exact ⟨e4.other (by omega) 0 _, e5, (hB.setCell (p := ⟨w.heap.size, 0, none⟩) (Nat.le_refl _) _).setCell (p := ⟨w.heap.size + 1, 0, none⟩) (by simp) _, (KeepsOthers.setCell _ _ _).trans (KeepsOthers.setCell _ _ _)⟩
      clear he h0 h4 h5 h6 hT hv hB hx
      gi_wp2
      exact ⟨hfin.out.2.2.2.from _, rfl, xe, ⟨_, List.mem_append_right _ (List.mem_singleton.2 rfl), rfl, HE.out⟩, hfin.out.1, hfin.out.2.1, hfin.out.2.2.1⟩
  case done =>
    rintro D xs W hD hS ⟨h0, A', n', c', h4, h5, h6, hT, hB, hhi⟩ hK
    obtain ⟨o1, o2⟩ := ev_ok hS (fun p hp => by obtain ⟨x, hx, rfl⟩ := List.mem_map.1 hp; exact h0 x hx)
    have r4 := h4.cell 0
    have r5 := h5.cell 0
    have r6 := h6.cell 0
    simp at r4 r5 r6
    have f4 := h4.frozen 0
    have f5 := h5.frozen 0
    have hfin : Hid (∀ W9, W9 = ((W.setCell ⟨w.heap.size, 0, none⟩ (.slice A' n' c')).setCell ⟨w.heap.size + 1, 0, none⟩ (.int .i64 0)) → (W9.heap[D]? = some (.deferred (some [])) ∧ Bk (W9.putObj D (.deferred none)) w.heap.size #[.slice A' n' c'] 32 ∧ Bk (W9.putObj D (.deferred none)) (w.heap.size + 1) #[.int .i64 0] 27 ∧ To w (xs.map (·.1)) A' n' c' (W9.putObj D (.deferred none)))) := Lib.hid fun W9 e => by
      subst e
      have e4 := h4.set 0 (.slice A' n' c')
      have e5 := (h5.other (c := w.heap.size) (by omega) 0 (.slice A' n' c')).set 0 (.int .i64 0)
      simp at e4 e5
      have hK' := ((KeepsOthers.setCell W ⟨w.heap.size, 0, none⟩ (.slice A' n' c')).trans (KeepsOthers.setCell _ ⟨w.heap.size + 1, 0, none⟩ (.int .i64 0))).same D _ hK rfl
      have hcalm : Calm w.heap.size ((W.setCell ⟨w.heap.size, 0, none⟩ (.slice A' n' c')).setCell ⟨w.heap.size + 1, 0, none⟩ (.int .i64 0)) _ := Calm.of_put (.deferred none) hK' rfl (by omega)
      refine ⟨hK', (e4.other (by omega) 0 _).calm hcalm, e5.calm hcalm, ?_⟩
      have hT2 : Tb w1.heap.size (xs.map (·.1)) A' n' c' ((W.setCell ⟨w.heap.size, 0, none⟩ (.slice A' n' c')).setCell ⟨w.heap.size + 1, 0, none⟩ (.int .i64 0)) :=
        ⟨hT.1, owns_set (owns_set hT.2.1 h4 (by decide) 0) (h5.other (by omega) 0 _) (by decide) 0, fun q hq => ((hT.2.2 q hq).set h4 (by decide) 0 _).set (h5.other (by omega) 0 _) (by decide) 0 _⟩
      exact (hT2.calm hcalm).to hws (((hB.setCell (p := ⟨w.heap.size, 0, none⟩) (Nat.le_refl _) _).setCell (p := ⟨w.heap.size + 1, 0, none⟩) (by simp) _).trans hcalm.1)
    have hlist : tlist ch l = ((tl ch l).1, 0) := by unfold tlist; rw [if_pos o1]
    have HLS := Lib.hid hlist
    have HO2 := Lib.hid o2
    clear h0 h4 h5 h6 hT hB o1 o2 hS hlist hK
    go_wp2_with fail
    obtain ⟨k1, k2, k3, k4⟩ := hfin.out _ rfl
    have g0 := k2.cell 0
    have g1 := k3.cell 0
    simp only [List.getElem?_toArray, List.getElem?_cons_zero] at g0 g1
    generalize World.setCell (World.setCell W _ _) _ _ = W9 at k1 k2 k3 k4 g0 g1 ⊢
    refine ⟨by simp, .inl ⟨_, _, rfl, run_takeDeferred k1, ?_⟩⟩
    refine ⟨.tuple #[.slice A' n' c', .int .i64 0], by simp [results, Try.results13, go_sem, g0, g1], A', n', c', xs.map (·.1), by rw [HLS.out], by rw [HLS.out, ← HO2.out]; simp [Function.comp_def, pl], k4⟩
  case stop =>
    rintro D c pre W hD ⟨t, ht⟩ ⟨rfl, z, ⟨x, hx, hxz, hz⟩, h4, h5, hB⟩ hK
    obtain ⟨o1, o2⟩ := ev_err (ch := ch) (l := l) (x := pl x) (by rw [ht]; exact List.mem_append_left _ (List.mem_map.2 ⟨x, hx, rfl⟩)) (by show x.2 ≠ 0; rw [hxz]; exact hz)
    have hz40 : z = 40 := by rw [← hxz]; exact o1
    subst hz40
    have hlist : tlist ch l = ([], 40) := by unfold tlist; rw [if_neg (by rw [o2]; decide)]
    have hcalm : Calm w.heap.size W _ := Calm.of_put (.deferred none) hK rfl (by omega)
    have g0 := (h4.calm hcalm).cell 0
    have g1 := (h5.calm hcalm).cell 0
    simp only [List.getElem?_toArray, List.getElem?_cons_zero] at g0 g1
    have HB := Lib.hid (hB.trans hcalm.1)
    have HLS := Lib.hid hlist
    have HK := Lib.hid hK
    clear h4 h5 hB hlist hcalm ht hx hxz hz o1 o2 hK
    gi_wp2
    refine ⟨by simp, .inl ⟨_, _, rfl, run_takeDeferred HK.out, ?_⟩⟩
    refine ⟨.tuple #[.slice none 0 0, .int .i64 40], by simp [results, Try.results13, go_sem, g0, g1], none, 0, 0, [], by rw [HLS.out], by rw [HLS.out]; rfl, rfl, World.ownsRow_nil _ _ _ _, fun q h => by simp at h, HB.out⟩
end Go.Proofs.Ytlcmfhikcdppoaa
