/-
  What sip.Of does: the sum of all parts' bytes, one part behind the other.
-/
import Derived.Test.YtgjobmhpghgnfaaSipRef
namespace Go.Proofs.Ytgjobmhpghgnfaa
open Go.RowKit Sip

set_option maxRecDepth 100000 in
set_option maxHeartbeats 1000000 in
theorem begin_any (k : List Int) (w : World) (hk : k.length = 16) (hkb : Byt k) :
    Calls Try.prog 9 #[.agg (kv k)] w fun e w' => e = .returned (.agg (vs (init k))) ∧ Below w.heap.size w w' := by
  have hks : (kv k).size = 16 := by rw [kv_size, hk]
  have hkr := kv_row w k 23 (0, 0)
  have hkr1 := hkr.alloc (.cells #[.int .u64 0, .int .u64 0, .int .u64 0, .int .u64 0] 36)
  have h1 := fun W hr => word_any (some ⟨w.heap.size, 0, none⟩) 8 16 (k.take 8) W (by simp; omega) (by omega) (Byt.take hkb 8) hr
  have h2 := fun W hr => word_any (some ⟨w.heap.size, 8, none⟩) 8 8 (k.drop 8) W (by simp; omega) (by omega) (Byt.drop hkb 8) hr
  obtain ⟨k0, k1, y1, y2, y3, y4, hk0, hk1, x1, x2, x3, x4, hinit⟩ := init_way hk hkb
  rw [← hk0] at h1
  rw [← hk1] at h2
  have HI := Lib.hid hinit
  have HK := Lib.hid fun q => (key_lo hkr1).drewN q
  have HK2 := Lib.hid fun q => (key_hi hk hkr1).drewN q
  have H1 := Lib.hid h1
  have H2 := Lib.hid h2
  clear hkr hkr1 h1 h2 hkb hk hk0 hk1 hinit
  generalize kv k = C at hks HK HK2
  go_enter Try.func9, Try.ntmps9
  go_wp2
  go_quiet (first | (go_at_call 14; (with_reducible refine Calls.quiet_of_same (H1.out _ ?_)); exact HK.out _) | (go_at_call 14; (with_reducible refine Calls.quiet_of_same (H2.out _ ?_)); exact HK2.out _))
  go_wp2
  go_returns
  exact ⟨by rw [HI.out]; rfl, by go_grown; exact below_drewN (((Below.refl _ _).alloc (Nat.le_refl _) _).alloc (by simp) _) _⟩

theorem Try_keysize : (Try.prog.info? 23).map (·.size) = some 16 := by kernel_rfl
/-- A part: a slice and its bytes. -/
def Part (W : World) (q : Value × List Int) : Prop := ∃ A n c, q.1 = .slice A n c ∧ q.2.length = n ∧ n ≤ 1000000 ∧ Byt q.2 ∧ Row W A (bs q.2)
theorem Part.below {W W' : World} {q : Value × List Int} (h : Part W q) (hb : Below W.heap.size W W') : Part W' q := by
  obtain ⟨A, n, c, h1, h2, h3, h4, h5⟩ := h
  exact ⟨A, n, c, h1, h2, h3, h4, h5.below hb⟩
theorem Part.drewN {W : World} {q : Value × List Int} (h : Part W q) (m : Nat) : Part (W.drewN m) q := by
  obtain ⟨A, n, c, h1, h2, h3, h4, h5⟩ := h
  exact ⟨A, n, c, h1, h2, h3, h4, h5.drewN m⟩
/-- All parts. -/
def Parts (W : World) (P : Option Addr) (ps : List (Value × List Int)) : Prop := Row W P (ps.map (·.1)) ∧ ∀ q ∈ ps, Part W q
theorem Parts.below {W W' : World} {P : Option Addr} {ps : List (Value × List Int)} (h : Parts W P ps) (hb : Below W.heap.size W W') : Parts W' P ps :=
  ⟨h.1.below hb, fun q hq => (h.2 q hq).below hb⟩
theorem Parts.drewN {W : World} {P : Option Addr} {ps : List (Value × List Int)} (h : Parts W P ps) (m : Nat) : Parts (W.drewN m) P ps :=
  ⟨h.1.drewN m, fun q hq => (h.2 q hq).drewN m⟩
/-- All parts' bytes, one part behind the other. -/
def flat (ps : List (Value × List Int)) : List Int := (ps.map (·.2)).flatten
theorem flat_byt {W : World} {P : Option Addr} {ps : List (Value × List Int)} (h : Parts W P ps) : Byt (flat ps) := by
  intro c hc
  obtain ⟨l, hl, hc⟩ := List.mem_flatten.1 hc
  obtain ⟨q, hq, rfl⟩ := List.mem_map.1 hl
  obtain ⟨A, n, c', h1, h2, h3, h4, h5⟩ := h.2 q hq
  exact h4 c hc
theorem Parts.at {W : World} {P : Option Addr} {ps : List (Value × List Int)} (h : Parts W P ps) {k : Nat} (hk : k < ps.length) :
    ∃ a A n c l, P = some a ∧ W.cell? (a.add k) = some (.slice A n c) ∧ ps[k] = (.slice A n c, l) ∧ l.length = n ∧ n ≤ 1000000 ∧ Byt l ∧ Row W A (bs l) := by
  obtain ⟨a, hP, hc⟩ := h.1 k ps[k].1 (by rw [List.getElem?_map, List.getElem?_eq_getElem hk]; rfl)
  obtain ⟨A, n, c, h1, h2, h3, h4, h5⟩ := h.2 ps[k] (List.getElem_mem hk)
  exact ⟨a, A, n, c, ps[k].2, hP, by rw [hc, h1], by rw [← h1], h2, h3, h4, h5⟩
theorem Parts.row_of {W : World} {P : Option Addr} {ps : List (Value × List Int)} (h : Parts W P ps) {k : Nat} (hk : k < ps.length) {A : Option Addr} {n c : Nat} {l : List Int} (he : ps[k] = (.slice A n c, l)) : Row W A (bs l) := by
  obtain ⟨A', n', c', h1, h2, h3, h4, h5⟩ := h.2 ps[k] (List.getElem_mem hk)
  rw [he] at h1 h5
  simp only [Value.slice.injEq] at h1
  rw [h1.1]
  exact h5
theorem feed_take {t : T} {l : List Int} {j : Nat} {u : Nat} (hj : j < l.length) (hu : l.getD j 0 = (u : Int)) : feed t (l.take (j + 1)) = one (feed t (l.take j)) (u : Int) := by
  rw [List.take_add_one, List.getElem?_eq_getElem hj]
  rw [show l.getD j 0 = l[j] by simp [List.getD, List.getElem?_eq_getElem hj]] at hu
  rw [← hu]
  exact feed_snoc _ _ _
theorem flat_take_le {ps : List (Value × List Int)} (k : Nat) : (flat (ps.take k)).length ≤ (flat ps).length := by
  conv => rhs; rw [← List.take_append_drop k ps]
  unfold flat
  rw [List.map_append, List.flatten_append, List.length_append]
  omega
theorem flat_byt_take {ps : List (Value × List Int)} (h : Byt (flat ps)) (k : Nat) : Byt (flat (ps.take k)) := by
  intro c hc
  apply h c
  rw [← List.take_append_drop k ps]
  unfold flat at hc ⊢
  simp only [List.map_append, List.flatten_append, List.mem_append]
  exact Or.inl hc
theorem flat_take_succ {ps : List (Value × List Int)} {k : Nat} (hk : k < ps.length) {v : Value} {l : List Int} (h : ps[k] = (v, l)) : flat (ps.take (k + 1)) = flat (ps.take k) ++ l := by
  unfold flat
  rw [List.take_add_one, List.getElem?_eq_getElem hk, h]
  simp
theorem or_val {x u r : Nat} (hx : x < 256 ^ r) (hr : r < 8) (hu : u < 256) :
    bits .or .u64 (x : Int) (IntKind.u64.wrap ((u : Int) * 2 ^ (r * 8))) = ((x ||| u * 2 ^ (r * 8) : Nat) : Int) := by
  have hlt : u * 2 ^ (r * 8) < 18446744073709551616 := by
    have h1 : u * 2 ^ (r * 8) < 256 * 2 ^ (r * 8) := Nat.mul_lt_mul_of_pos_right hu (Nat.two_pow_pos _)
    have h2 : 256 * 2 ^ (r * 8) = 256 ^ (r + 1) := by rw [Nat.pow_succ, p256, Nat.mul_comm, Nat.mul_comm r 8]
    have h3 := pow8_le (j := r + 1) (by omega)
    omega
  have hw : IntKind.u64.wrap ((u : Int) * 2 ^ (r * 8)) = ((u * 2 ^ (r * 8) : Nat) : Int) := by
    have : ((u * 2 ^ (r * 8) : Nat) : Int) = (u : Int) * 2 ^ (r * 8) := by push_cast; rfl
    rw [IntKind.wrap_u64, ← this]
    generalize u * 2 ^ (r * 8) = y at hlt ⊢
    omega
  rw [hw, u64_or_nat _ _ (Nat.lt_of_lt_of_le hx (pow8_le (by omega))) hlt]

theorem one_zero {t : T} {u : Nat} (h : (t.n + 1) % 8 = 0) : one t (u : Int) = ⟨tk t.v (t.w ||| u * 2 ^ (t.n % 8 * 8)), 0, t.n + 1⟩ := by
  unfold one; simp only [Int.toNat_natCast]; rw [if_pos h]
theorem one_more {t : T} {u : Nat} (h : ¬ (t.n + 1) % 8 = 0) : one t (u : Int) = ⟨t.v, t.w ||| u * 2 ^ (t.n % 8 * 8), t.n + 1⟩ := by
  unfold one; simp only [Int.toNat_natCast]; rw [if_neg h]

set_option maxRecDepth 100000 in
set_option maxHeartbeats 4000000 in
theorem of_any (k : List Int) (P : Option Addr) (np cp : Nat) (ps : List (Value × List Int)) (w : World) (hk : k.length = 16) (hkb : Byt k) (hl : ps.length = np) (hnp : np ≤ 1000000) (hm : (flat ps).length ≤ 1000000) (hp : Parts w P ps) :
    Calls Try.prog 6 #[.agg (kv k), .slice P np cp] w fun e w' => e = .returned (.int .u64 (sip k (flat ps) : Nat)) ∧ Below w.heap.size w w' := by
  have hks : (kv k).size = 16 := by rw [kv_size, hk]
  have hB := begin_any k (w.alloc (.cells (kv k) 23)) hk hkb
  have hsk : sip k (flat ps) = done (feed ⟨init k, 0, 0⟩ (flat ps)) := rfl
  have hst := start_ok hk hkb
  have HP := Lib.hid hp
  have HB := Lib.hid hB
  have HF := Lib.hid (flat_byt hp)
  have HL := Lib.hid hl
  have HM := Lib.hid hm
  have HSK := Lib.hid hsk
  have HST := Lib.hid hst
  clear hp hB hl hm hk hkb hsk hst
  generalize kv k = C at hks HB
  generalize sip k (flat ps) = z at HSK
  have hvs : vs (init k) = #[.int .u64 ((init k).a : Int), .int .u64 ((init k).b : Int), .int .u64 ((init k).c : Int), .int .u64 ((init k).d : Int)] := rfl
  rw [hvs] at HB
  clear hvs
  generalize init k = v0 at HSK HST HB
  go_enter Try.func6, Try.ntmps6
  go_wp2_with (first
   | (refine wpList_load_row rfl 23 (.tmp 2) rfl (w.heap.size) rfl 23 C (0, 0) _ (heap_alloc_new _ _) Try.underlying23 rfl (by rw [hks]; exact Try_keysize) ?_))
  refine HB.out.mono ?_
  rintro e w1 ⟨rfl, hb1⟩
  go_wp2_with fail
  obtain ⟨g, hg⟩ : ∃ g, g = w1.heap.size := ⟨_, rfl⟩
  rw [← hg]
  have hs0 : St 36 (w1.alloc (.cells #[.int .u64 (v0.a : Int), .int .u64 (v0.b : Int), .int .u64 (v0.c : Int), .int .u64 (v0.d : Int)] 36)) g v0 := st_new w1 g v0 hg
  have hb0 : Below w.heap.size w (w1.alloc (.cells #[.int .u64 (v0.a : Int), .int .u64 (v0.b : Int), .int .u64 (v0.c : Int), .int .u64 (v0.d : Int)] 36)) :=
    (((Below.refl _ _).alloc (Nat.le_refl _) _).trans (hb1.mono (by simp))).alloc (Nat.le_trans (by simp) hb1.size) _
  have hgN : w.heap.size ≤ g := by rw [hg]; exact Nat.le_trans (by simp) hb1.size
  have HS0 := Lib.hid hs0
  have HGN := Lib.hid hgN
  have HB0 := Lib.hid hb0
  clear hs0 hb0 hgN hb1 hg
  generalize w1.alloc (.cells #[.int .u64 (v0.a : Int), .int .u64 (v0.b : Int), .int .u64 (v0.c : Int), .int .u64 (v0.d : Int)] 36) = W0 at HS0 HB0
  go_loopw [6, 7, 16] (fun x m i W => ∃ (q : Nat) (t : T), q ≤ np ∧ i = .int .i64 q ∧ x = .int .u64 (t.w : Int) ∧ m = .int .u64 (t.n : Int) ∧ Hid (t = feed ⟨v0, 0, 0⟩ (flat (ps.take q))) ∧ St 36 W g t.v ∧ Below w.heap.size w W) (fun _ _ i _ => np - (intOf i).toNat)
  case atStart => exact ⟨0, ⟨v0, 0, 0⟩, by omega, rfl, rfl, rfl, Lib.hid rfl, HS0.out, HB0.out⟩
  case round =>
    obtain ⟨q, t, hq, rfl, rfl, rfl, ht, hS, hBw⟩ := hrel
    by_cases hlt : q < np
    · obtain ⟨a, A, n, c, l, rfl, hc, he, hll, hln, hlb, hlr⟩ := (HP.out.below hBw).at (k := q) (by rw [HL.out]; exact hlt)
      have HE := Lib.hid (flat_take_succ (by rw [HL.out]; exact hlt) he)
      have HE0 := Lib.hid he
      have HLL := Lib.hid hll
      have HLB := Lib.hid hlb
      have hfl := Nat.le_trans (flat_take_le (ps := ps) (q + 1)) HM.out
      rw [HE.out, List.length_append, hll] at hfl
      have HOK := Lib.hid (feed_ok (flat_byt_take HF.out q) HST.out)
      have htn : (feed ⟨v0, 0, 0⟩ (flat (ps.take q))).n = (flat (ps.take q)).length := by rw [feed_n]; simp
      rw [← ht.out] at htn HOK
      have HFL := Lib.hid hfl
      have HTN := Lib.hid htn
      clear he hll hlb hlr hfl htn
      go_wp2_with fail
      go_loopw [6, 7, 22] (fun x m i W => ∃ (j : Nat) (t' : T), j ≤ n ∧ i = .int .i64 j ∧ x = .int .u64 (t'.w : Int) ∧ m = .int .u64 (t'.n : Int) ∧ Hid (t' = feed t (l.take j)) ∧ St 36 W g t'.v ∧ Below w.heap.size w W) (fun _ _ i _ => n - (intOf i).toNat)
      case atStart => exact ⟨0, t, by omega, rfl, rfl, rfl, Lib.hid rfl, hS, hBw⟩
      case round =>
        clear hS hBw hc
        obtain ⟨j, t', hj, rfl, rfl, rfl, ht', hS, hBw⟩ := hrel
        by_cases hjn : j < n
        · have hjl : j < l.length := by rw [HLL.out]; exact hjn
          obtain ⟨a2, rfl, hc⟩ := Row.byte ((HP.out.below hBw).row_of (by rw [HL.out]; exact hlt) HE0.out) hjl
          obtain ⟨u, hu, hu8⟩ := Byt.at HLB.out hjl
          have hnext := feed_take (t := t) hjl hu
          rw [← ht'.out] at hnext
          rw [hu] at hc
          have hok' : t'.ok := by rw [ht'.out]; exact feed_ok (Byt.take HLB.out j) HOK.out
          have htn' : t'.n = t.n + j := by rw [ht'.out, feed_n, List.length_take, HLL.out, Nat.min_eq_left hj]
          have hbig : t'.n < 1000000 := by rw [htn', HTN.out]; have := HFL.out; omega
          obtain ⟨r, hr⟩ : ∃ r, r = t'.n % 8 := ⟨_, rfl⟩
          have hr8 : r < 8 := by omega
          have hr3 : (t'.n : Int) % 8 = (r : Int) := by omega
          have hov := or_val (u := u) (by rw [hr]; exact hok'.2) hr8 hu8
          have hx := one_lt hok' hu8
          rw [← hr] at hx
          have hx2 := Nat.lt_of_lt_of_le hx (pow8_le (j := r + 1) (by omega))
          by_cases h0 : (t'.n + 1) % 8 = 0
          · have hone := one_zero (u := u) h0
            rw [← hr] at hone
            have C := Lib.hid (fun W h => take_any g _ t'.v W hok'.1 h hx2)
            have HN := Lib.hid (hnext.trans hone)
            clear hnext hone hx hx2 hok' htn' hr hu
            generalize t'.w ||| u * 2 ^ (r * 8) = y at hov C HN
            have HS := Lib.hid hS
            clear hS
            generalize t'.n = tn at *
            generalize t'.w = tw at *
            go_wp2_with fail
            (with_reducible refine (C.out _ HS.out).mono ?_)
            rintro e w2 ⟨rfl, hs2, hb2⟩
            go_wp2_with fail
            go_roundw
            case rel => exact ⟨j + 1, ⟨tk t'.v y, 0, tn + 1⟩, by omega, by go_num, rfl, by go_num, Lib.hid HN.out.symm, hs2, hBw.trans (hb2.mono HGN.out)⟩
            case measure => simp [intOf]; omega
          · have hone := one_more (u := u) h0
            rw [← hr] at hone
            have HN := Lib.hid (hnext.trans hone)
            clear hnext hone hx hx2 hok' htn' hr hu
            generalize t'.w ||| u * 2 ^ (r * 8) = y at hov HN
            have HS := Lib.hid hS
            clear hS
            generalize t'.n = tn at *
            generalize t'.w = tw at *
            go_wp2_with fail
            go_roundw
            case rel => exact ⟨j + 1, ⟨t'.v, y, tn + 1⟩, by omega, by go_num, rfl, by go_num, Lib.hid HN.out.symm, HS.out, hBw⟩
            case measure => simp [intOf]; omega
        · have hjn' : j = n := by omega
          subst hjn'
          have HT := Lib.hid (show t' = feed ⟨v0, 0, 0⟩ (flat (ps.take (q + 1))) by rw [HE.out, feed_append, ← ht.out, ht'.out, List.take_of_length_le (by rw [HLL.out]; omega)])
          go_wp2_with fail
          go_roundw
          case rel => exact ⟨q + 1, t', by omega, by go_num, rfl, rfl, HT, hS, hBw⟩
          case measure => simp [intOf]; omega
    · have hqn : q = np := by omega
      subst hqn
      have ht2 : t = feed ⟨v0, 0, 0⟩ (flat ps) := by rw [ht.out, List.take_of_length_le (by rw [HL.out]; omega)]
      have hok : t.ok := by rw [ht2]; exact feed_ok HF.out HST.out
      have hz := HSK.out
      rw [← ht2] at hz
      have htn : t.n ≤ 1000000 := by
        have e : t.n = (flat ps).length := by rw [ht2, feed_n]; simp
        have := HM.out
        omega
      have hw := Nat.lt_of_lt_of_le hok.2 (pow8_le (j := t.n % 8) (by omega))
      have hov : bits .or .u64 (t.w : Int) (IntKind.u64.wrap ((t.n : Int) * 72057594037927936)) = ((t.w ||| t.n * 72057594037927936 % 18446744073709551616 : Nat) : Int) := by
        rw [show IntKind.u64.wrap ((t.n : Int) * 72057594037927936) = ((t.n * 72057594037927936 % 18446744073709551616 : Nat) : Int) by rw [IntKind.wrap_u64]; omega]
        exact u64_or_nat _ _ hw (Nat.mod_lt _ (by omega))
      have hx := or_lt hw (Nat.mod_lt (t.n * 72057594037927936) (show 18446744073709551616 > 0 by omega))
      have htk := tk_ok hok.1 hx
      have C1 := Lib.hid (fun W h => take_any g _ t.v W hok.1 h hx)
      have C2 := Lib.hid (fun W h => sum_any g _ W htk h)
      unfold done at hz
      have HZ := Lib.hid hz
      have HS := Lib.hid hS
      clear hz hx htk hok ht2 hw hS
      generalize t.w ||| t.n * 72057594037927936 % 18446744073709551616 = y at hov C1 C2 HZ
      go_wp2_with fail
      (with_reducible refine (C1.out _ HS.out).mono ?_)
      rintro e w2 ⟨rfl, hs2, hb2⟩
      go_wp2_with fail
      (with_reducible refine (C2.out _ hs2).mono ?_)
      rintro e w3 ⟨rfl, hb3⟩
      go_wp2_with fail
      go_ret
      exact ⟨by rw [HZ.out]; rfl, (hBw.trans (hb2.mono HGN.out)).trans (hb3.mono HGN.out)⟩
end Go.Proofs.Ytgjobmhpghgnfaa
