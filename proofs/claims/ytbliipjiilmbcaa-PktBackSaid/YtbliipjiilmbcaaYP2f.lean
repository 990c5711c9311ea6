/-
  A packet by value as an argument: opened.
-/
import Derived.Test.YtbliipjiilmbcaaYP2a
import Derived.Test.YtbliipjiilmbcaaYP1f
import Derived.Test.YtbliipjiilmbcaaYP2e
namespace Go.Proofs.Ytbliipjiilmbcaa
open Go.RowKit Go.ChangeShapes Go.WideShapes Go.Deep Go.Joins Wire Tlv Chunk

section
variable {H : Type} {enc : TypeId × Value → H} {P : Program} {w : World} {base : Nat} {spare : Nat → Bool} {held : Bool}
theorem open_cells15 {fuel : Nat} {t : TypeId} {f0 f1 f2 f3 f4 f5 f6 f7 f8 f9 f10 f11 f12 f13 f14 : Field} {cs : List Value} {x : DataW H × List MemPlace} (hs : P.underlying t = some (.struct #[f0, f1, f2, f3, f4, f5, f6, f7, f8, f9, f10, f11, f12, f13, f14])) (hone : oneCellFields P #[f0, f1, f2, f3, f4, f5, f6, f7, f8, f9, f10, f11, f12, f13, f14] = true) (hC : P.cellsOf t = 15)
    (h : DataW.trod enc P w base spare held fuel t cs = some x) :
    ∃ (v0 v1 v2 v3 v4 v5 v6 v7 v8 v9 v10 v11 v12 v13 v14 : Value) (y0 y1 y2 y3 y4 y5 y6 y7 y8 y9 y10 y11 y12 y13 y14 : DataW H × List MemPlace) (n : Nat), cs = [v0, v1, v2, v3, v4, v5, v6, v7, v8, v9, v10, v11, v12, v13, v14] ∧ x.1 = .agg [y0.1, y1.1, y2.1, y3.1, y4.1, y5.1, y6.1, y7.1, y8.1, y9.1, y10.1, y11.1, y12.1, y13.1, y14.1] ∧
      DataW.trod enc P w base spare held n f0.type [v0] = some y0 ∧ DataW.trod enc P w base spare held n f1.type [v1] = some y1 ∧ DataW.trod enc P w base spare held n f2.type [v2] = some y2 ∧ DataW.trod enc P w base spare held n f3.type [v3] = some y3 ∧ DataW.trod enc P w base spare held n f4.type [v4] = some y4 ∧ DataW.trod enc P w base spare held n f5.type [v5] = some y5 ∧ DataW.trod enc P w base spare held n f6.type [v6] = some y6 ∧ DataW.trod enc P w base spare held n f7.type [v7] = some y7 ∧ DataW.trod enc P w base spare held n f8.type [v8] = some y8 ∧ DataW.trod enc P w base spare held n f9.type [v9] = some y9 ∧ DataW.trod enc P w base spare held n f10.type [v10] = some y10 ∧ DataW.trod enc P w base spare held n f11.type [v11] = some y11 ∧ DataW.trod enc P w base spare held n f12.type [v12] = some y12 ∧ DataW.trod enc P w base spare held n f13.type [v13] = some y13 ∧ DataW.trod enc P w base spare held n f14.type [v14] = some y14 := by
  obtain ⟨xs, n, _, hx, hl, hlen, hg⟩ := DataW.trod_struct hs h
  rw [hC] at hl
  match cs, hl with
  | [c0, c1, c2, c3, c4, c5, c6, c7, c8, c9, c10, c11, c12, c13, c14], _ =>
    obtain ⟨o0, k0⟩ := hone_of hone 0 f0 rfl
    obtain ⟨o1, k1⟩ := hone_of hone 1 f1 rfl
    obtain ⟨o2, k2⟩ := hone_of hone 2 f2 rfl
    obtain ⟨o3, k3⟩ := hone_of hone 3 f3 rfl
    obtain ⟨o4, k4⟩ := hone_of hone 4 f4 rfl
    obtain ⟨o5, k5⟩ := hone_of hone 5 f5 rfl
    obtain ⟨o6, k6⟩ := hone_of hone 6 f6 rfl
    obtain ⟨o7, k7⟩ := hone_of hone 7 f7 rfl
    obtain ⟨o8, k8⟩ := hone_of hone 8 f8 rfl
    obtain ⟨o9, k9⟩ := hone_of hone 9 f9 rfl
    obtain ⟨o10, k10⟩ := hone_of hone 10 f10 rfl
    obtain ⟨o11, k11⟩ := hone_of hone 11 f11 rfl
    obtain ⟨o12, k12⟩ := hone_of hone 12 f12 rfl
    obtain ⟨o13, k13⟩ := hone_of hone 13 f13 rfl
    obtain ⟨o14, k14⟩ := hone_of hone 14 f14 rfl
    match xs, hlen with
    | [y0, y1, y2, y3, y4, y5, y6, y7, y8, y9, y10, y11, y12, y13, y14], _ =>
      subst hx
      exact ⟨c0, c1, c2, c3, c4, c5, c6, c7, c8, c9, c10, c11, c12, c13, c14, y0, y1, y2, y3, y4, y5, y6, y7, y8, y9, y10, y11, y12, y13, y14, n, rfl, rfl, by simpa [o0, k0] using hg 0 f0 rfl, by simpa [o1, k1] using hg 1 f1 rfl, by simpa [o2, k2] using hg 2 f2 rfl, by simpa [o3, k3] using hg 3 f3 rfl, by simpa [o4, k4] using hg 4 f4 rfl, by simpa [o5, k5] using hg 5 f5 rfl, by simpa [o6, k6] using hg 6 f6 rfl, by simpa [o7, k7] using hg 7 f7 rfl, by simpa [o8, k8] using hg 8 f8 rfl, by simpa [o9, k9] using hg 9 f9 rfl, by simpa [o10, k10] using hg 10 f10 rfl, by simpa [o11, k11] using hg 11 f11 rfl, by simpa [o12, k12] using hg 12 f12 rfl, by simpa [o13, k13] using hg 13 f13 rfl, by simpa [o14, k14] using hg 14 f14 rfl⟩
end
theorem kcs_cell : ∀ {ks : List Cq} {i : Nat} {v : Value}, (kcs ks)[i]? = some v → ∃ h : i / 15 < ks.length, (cv ks[i / 15].1 ks[i / 15].2).toList[i % 15]? = some v
  | [], i, v, h => by simp [kcs] at h
  | q :: qs, i, v, h => by
    have e : kcs (q :: qs) = (cv q.1 q.2).toList ++ kcs qs := by simp [kcs]
    have hl : (cv q.1 q.2).toList.length = 15 := by simp [cv]
    rw [e] at h
    by_cases hi : i < 15
    · rw [List.getElem?_append_left (by omega)] at h
      have e1 : i / 15 = 0 := by omega
      have e2 : i % 15 = i := by omega
      simp only [e1, e2, List.length_cons]
      exact ⟨by omega, h⟩
    · rw [List.getElem?_append_right (by omega), hl] at h
      obtain ⟨h2, h3⟩ := kcs_cell h
      have e1 : i / 15 = (i - 15) / 15 + 1 := by omega
      have e2 : i % 15 = (i - 15) % 15 := by omega
      simp only [e1, e2, List.length_cons]
      exact ⟨by omega, h3⟩
section
variable {H : Type} {enc : TypeId × Value → H} {W : World} {base : Nat} {held : Bool}
set_option maxRecDepth 10000 in
/-- A chunk's cells. -/
theorem open_chunk_cells {fuel : Nat} {cs : List Value} {x : DataW H × List MemPlace} (h : DataW.trod enc Try.prog W base (fun _ => true) held fuel 32 cs = some x) (hsz0 : ∀ n ∈ x.1.weights Try.prog 32, n ≤ reachBytes) :
    ∃ q : Cq, cs = (cv q.1 q.2).toList ∧ Ch W q.1 q.2 := by
  obtain ⟨v0, v1, v2, v3, v4, v5, v6, v7, v8, v9, v10, v11, v12, v13, v14, y0, y1, y2, y3, y4, y5, y6, y7, y8, y9, y10, y11, y12, y13, y14, n, rfl, hx, t0, t1, t2, t3, t4, t5, t6, t7, t8, t9, t10, t11, t12, t13, t14⟩ := open_cells15 Try.underlying32 (by kernel_rfl) (by kernel_rfl) h
  have hsz : ∀ n ∈ (DataW.agg [y0.1, y1.1, y2.1, y3.1, y4.1, y5.1, y6.1, y7.1, y8.1, y9.1, y10.1, y11.1, y12.1, y13.1, y14.1] : DataW H).weights Try.prog 32, n ≤ reachBytes := by rw [← hx]; exact hsz0
  obtain ⟨x0, e0, _, w0⟩ := DataW.trod_int Try.underlying5 t0
  obtain rfl : v0 = _ := by simpa using e0
  have n0 := wf_u8 w0
  obtain ⟨x1, e1, _, w1⟩ := DataW.trod_int Try.underlying5 t1
  obtain rfl : v1 = _ := by simpa using e1
  have n1 := wf_u8 w1
  obtain ⟨x2, e2, _, w2⟩ := DataW.trod_int Try.underlying27 t2
  obtain rfl : v2 = _ := by simpa using e2
  have n2 := wf_u32 w2
  obtain ⟨x3, e3, _, w3⟩ := DataW.trod_int Try.underlying27 t3
  obtain rfl : v3 = _ := by simpa using e3
  have n3 := wf_u32 w3
  obtain ⟨x4, e4, _, w4⟩ := DataW.trod_int Try.underlying27 t4
  obtain rfl : v4 = _ := by simpa using e4
  have n4 := wf_u32 w4
  obtain ⟨x5, e5, _, w5⟩ := DataW.trod_int Try.underlying22 t5
  obtain rfl : v5 = _ := by simpa using e5
  have n5 := wf_u16 w5
  obtain ⟨x6, e6, _, w6⟩ := DataW.trod_int Try.underlying22 t6
  obtain rfl : v6 = _ := by simpa using e6
  have n6 := wf_u16 w6
  obtain ⟨x7, e7, _, w7⟩ := DataW.trod_int Try.underlying22 t7
  obtain rfl : v7 = _ := by simpa using e7
  have n7 := wf_u16 w7
  obtain ⟨x8, e8, _, w8⟩ := DataW.trod_int Try.underlying22 t8
  obtain rfl : v8 = _ := by simpa using e8
  have n8 := wf_u16 w8
  obtain ⟨x9, e9, _, w9⟩ := DataW.trod_int Try.underlying27 t9
  obtain rfl : v9 = _ := by simpa using e9
  have n9 := wf_u32 w9
  have hmem : ∀ (j : Nat) (t : TypeId) (y : DataW H), [5, 5, 27, 27, 27, 22, 22, 22, 22, 27, 23, 28, 29, 28, 30][j]? = some t → [y0.1, y1.1, y2.1, y3.1, y4.1, y5.1, y6.1, y7.1, y8.1, y9.1, y10.1, y11.1, y12.1, y13.1, y14.1][j]? = some y → ∀ m ∈ y.weights Try.prog t, m ≤ reachBytes := fun j t y h1 h2 m hm => hsz m (by
    simp only [DataW.weights, Try.underlying32, List.map_cons, List.map_nil]
    exact DataW.weights_mem_each h1 h2 m hm)
  obtain ⟨dA, dn, dc, da, rfl, hda, hdv⟩ := open_fbytes t10 (hmem 10 _ _ rfl rfl)
  obtain ⟨aA, an, ac, ad, rfl, had, hal, ham, har⟩ := open_fnums t11 (hmem 11 _ _ rfl rfl)
  obtain ⟨gA, gn, gc, ga, rfl, hga, hgl, hgm, hgr⟩ := open_fgaps t12 (hmem 12 _ _ rfl rfl)
  obtain ⟨uA, un, uc, du, rfl, hdu, hul, hum, hur⟩ := open_fnums t13 (hmem 13 _ _ rfl rfl)
  obtain ⟨cA, cn, cc, ca, cq, rfl, hca, hcl, hcm, hcr, hql, hcd⟩ := open_fcauses t14 (hmem 14 _ _ rfl rfl)
  obtain ⟨A', n', c', ev, hdl, hd1, hd2, hd3, hd4, hd5⟩ := id hdv
  injection ev with ev1 ev2 ev3
  subst ev1; subst ev2; subst ev3
  refine ⟨(⟨x0.toNat, x1.toNat, x2.toNat, x3.toNat, x4.toNat, x5.toNat, x6.toNat, x7.toNat, x8.toNat, x9.toNat, da, ad, ga, du, ca⟩, ⟨dA, dn, dc, aA, an, ac, gA, gn, gc, uA, un, uc, cA, cn, cc, cq⟩), ?_, ⟨⟨by show x0.toNat < 256; omega, by show x1.toNat < 256; omega, by show x2.toNat < 4294967296; omega, by show x3.toNat < 4294967296; omega, by show x4.toNat < 4294967296; omega, by show x5.toNat < 65536; omega, by show x6.toNat < 65536; omega, by show x7.toNat < 65536; omega, by show x8.toNat < 65536; omega, by show x9.toNat < 4294967296; omega, hda, had, hga, hdu, hca⟩, ⟨hdl, hal, hgl, hul, hcl, hd3, ham, hgm, hum, hcm⟩, hdv, har, hgr, hur, hcr, hql, hcd⟩⟩
  simp only [cv, Int.toNat_of_nonneg n0.1, Int.toNat_of_nonneg n1.1, Int.toNat_of_nonneg n2.1, Int.toNat_of_nonneg n3.1, Int.toNat_of_nonneg n4.1, Int.toNat_of_nonneg n5.1, Int.toNat_of_nonneg n6.1, Int.toNat_of_nonneg n7.1, Int.toNat_of_nonneg n8.1, Int.toNat_of_nonneg n9.1]
set_option maxRecDepth 10000 in
/-- A slice of chunks among a struct's fields. -/
theorem open_fchunks {fuel : Nat} {v : Value} {y : DataW H × List MemPlace} (h : DataW.trod enc Try.prog W base (fun _ => true) held fuel 50 [v] = some y) (hsz : ∀ n ∈ y.1.weights Try.prog 50, n ≤ reachBytes) :
    ∃ A n c ks, v = .slice A n c ∧ ks.length = n ∧ n ≤ 1000000000000 ∧ Rk W A ks := by
  have c3 : Try.prog.cellsOf 32 = 15 := by kernel_rfl
  have b1 : Try.prog.bytesOf 32 = 152 := by kernel_rfl
  rcases open_slice Try.underlying50 h with ⟨hcs, _⟩ | ⟨x, len, cap, m, n, D, Pl, hcs, _, hl, hm, hmm, hx, hr⟩
  · obtain rfl : v = _ := by simpa using hcs
    exact ⟨none, 0, 0, [], rfl, rfl, Nat.zero_le _, fun i v h => by simp [kcs] at h, fun k hk => by simp at hk⟩
  · obtain rfl : v = _ := by simpa using hcs
    simp only [if_true] at hmm
    subst hmm
    rw [c3] at hr
    have hreach : len * 152 ≤ 140737488351232 := by
      subst hx
      have h9 := hsz (m * 152) (by
        simp only [DataW.weights, Try.underlying50, b1]
        refine List.mem_cons.2 (.inl ?_)
        simp
        omega)
      rw [reach_is] at h9
      omega
    have each : ∀ i, i < len → ∃ q : Cq, W.cells? base (x.add (i * 15)) 15 = some (cv q.1 q.2).toList ∧ Ch W q.1 q.2 := by
      intro i hi
      obtain ⟨cs', k1, k2⟩ := hr i (by omega)
      obtain ⟨q, rfl, hq⟩ := open_chunk_cells k2 (fun n hn => hsz n (by
        subst hx
        simp only [DataW.weights, Try.underlying50]
        exact List.mem_cons_of_mem _ (List.mem_append_left _ (weights_in (List.mem_map.2 ⟨i, List.mem_range.2 hi, rfl⟩) hn))))
      exact ⟨q, k1, hq⟩
    haveI : Inhabited Cq := ⟨(zero, nol)⟩
    obtain ⟨q, hq⟩ := choose_lt each
    refine ⟨some x, len, m, (List.range len).map q, rfl, by simp, by omega, fun i v hv => ⟨x, rfl, ?_⟩, fun p hp => ?_⟩
    · obtain ⟨h2, h3⟩ := kcs_cell hv
      simp only [List.length_map, List.length_range] at h2
      simp only [List.getElem_map, List.getElem_range] at h3
      obtain ⟨_, _, hc⟩ := World.cells?_some (hq (i / 15) h2).1
      have e := hc (i % 15) (Nat.mod_lt _ (by omega))
      rw [h3, add_add, show i / 15 * 15 + i % 15 = i by omega] at e
      exact e
    · obtain ⟨i, hi, rfl⟩ := List.mem_map.1 hp
      exact (hq i (List.mem_range.1 hi)).2
set_option maxRecDepth 10000 in
/-- A packet by value. -/
theorem open_packet {r : Reach} {b0 : Nat} {v : Value} {d : DataW H} {p : List MemPlace} (hv : Value.okWide Try.prog W r b0 52 v) (h : DataW.Trod enc Try.prog W base (fun _ => true) held 52 v d p) (hsz : ∀ n ∈ d.weights Try.prog 52, n ≤ reachBytes) :
    ∃ f t g A n c ks, v = .agg (pkl f t g A n c) ∧ f < 65536 ∧ t < 65536 ∧ g < 4294967296 ∧ ks.length = n ∧ n ≤ 1000000000000 ∧ Rk W A ks := by
  obtain ⟨cs, rfl, hs⟩ := okWide_struct Try.underlying52 hv
  obtain ⟨v0, v1, v2, v3, rfl⟩ := array4 (hs.trans (by kernel_rfl : Try.prog.cellsOf 52 = 4))
  obtain ⟨fuel, hf⟩ := h
  obtain ⟨y0, y1, n, hx, _, h0, h1⟩ := trod_struct2 Try.underlying52 hf
  have cH : Try.prog.cellsOf 49 = 3 := by kernel_rfl
  have cC : Try.prog.cellsOf 50 = 1 := by kernel_rfl
  have g0 : DataW.trod enc Try.prog W base (fun _ => true) held n 49 [v0, v1, v2] = some y0 := by simpa [cH, Value.cells] using h0
  have g1 : DataW.trod enc Try.prog W base (fun _ => true) held n 50 [v3] = some y1 := by simpa [cC, Value.cells] using h1
  obtain ⟨z0, z1, z2, m, _, _, k0, k1, k2⟩ := trod_struct3 Try.underlying49 g0
  have c0 : Try.prog.cellsOf 22 = 1 := by kernel_rfl
  have c1 : Try.prog.cellsOf 27 = 1 := by kernel_rfl
  have t0 : DataW.trod enc Try.prog W base (fun _ => true) held m 22 [v0] = some z0 := by simpa [c0] using k0
  have t1 : DataW.trod enc Try.prog W base (fun _ => true) held m 22 [v1] = some z1 := by simpa [c0] using k1
  have t2 : DataW.trod enc Try.prog W base (fun _ => true) held m 27 [v2] = some z2 := by simpa [c1] using k2
  obtain ⟨x0, e0, _, w0⟩ := DataW.trod_int Try.underlying22 t0
  obtain rfl : v0 = _ := by simpa using e0
  have n0 := wf_u16 w0
  obtain ⟨x1, e1, _, w1⟩ := DataW.trod_int Try.underlying22 t1
  obtain rfl : v1 = _ := by simpa using e1
  have n1 := wf_u16 w1
  obtain ⟨x2, e2, _, w2⟩ := DataW.trod_int Try.underlying27 t2
  obtain rfl : v2 = _ := by simpa using e2
  have n2 := wf_u32 w2
  simp only [Prod.mk.injEq] at hx
  obtain ⟨A, len, cap, ks, rfl, hl, hn, hr⟩ := open_fchunks g1 (fun q hq => hsz q (by
    rw [hx.1]
    simp only [DataW.weights, Try.underlying52, List.map_cons, List.map_nil, DataW.weightsEach, List.mem_append]
    exact .inr (.inl hq)))
  refine ⟨x0.toNat, x1.toNat, x2.toNat, A, len, cap, ks, ?_, by omega, by omega, by omega, hl, hn, hr⟩
  simp only [pkl, Int.toNat_of_nonneg n0.1, Int.toNat_of_nonneg n1.1, Int.toNat_of_nonneg n2.1]
end
end Go.Proofs.Ytbliipjiilmbcaa
/-
  What the document's Put of a packet does.
-/
namespace Go.Proofs.Ytbliipjiilmbcaa
open Go.RowKit Wire Tlv Chunk Pkt

set_option maxRecDepth 100000 in
set_option maxHeartbeats 1000000 in
theorem rput_big (f t g : Nat) (A : Option Addr) (n c : Nat) (l : List Int) (w : World) (hl : l.length = n) (h1 : n % 4 = 0) (h2 : 1488 < n) (hn : n ≤ 140737488355328) :
    Calls Try.prog 50 #[.agg #[.int .u16 (f : Int), .int .u16 (t : Int), .int .u32 (g : Int)], .slice A n c] w (HPutOut w (Head.pt f t g l)) := by
  have hpt : Head.pt f t g l = ([], 3) := by
    unfold Head.pt
    rw [if_neg (by omega), if_pos (by omega)]
  have hnb : Own w (w.alloc (.cells #[.int .u16 (f : Int), .int .u16 (t : Int), .int .u32 (g : Int)] 49)) none 0 0 [] := ⟨World.ownsRow_nil _ _ _ _, (Below.refl _ _).alloc (Nat.le_refl _) _⟩
  have HNB := Lib.hid hnb
  rw [hpt]
  have d1 : ((n : Int) % 4 != 0) = false := by simp only [bne_eq_false_iff_eq]; omega
  have d2 : decide ((1500 : Int) < (n : Int) + 12) = true := by simp; omega
  clear hpt hnb hl
  go_enter Try.func50, Try.ntmps50
  go_wp2_with fail
  go_ret2
  exact ⟨_, _, _, rfl, HNB.out⟩
theorem rput_mod (f t g : Nat) (A : Option Addr) (n c : Nat) (l : List Int) (w : World) (hf : f < 65536) (ht : t < 65536) (hg : g < 4294967296) (hl : l.length = n) (h1 : n % 4 = 0) (hn : n ≤ 140737488355328) (hb : Byt l) (hr : Row w A (bs l)) (hz : A = none → n = 0 ∧ c = 0) :
    Calls Try.prog 50 #[.agg #[.int .u16 (f : Int), .int .u16 (t : Int), .int .u32 (g : Int)], .slice A n c] w (HPutOut w (Head.pt f t g l)) := by
  by_cases h2 : 1488 < n
  · exact rput_big f t g A n c l w hl h1 h2 hn
  · exact rput_any f t g A n c l w hf ht hg hl (by omega) hb hr hz
/-- What is kept of the loop. -/
structure Pn (w : World) (f t g : Nat) (A : Option Addr) (n c k : Nat) (l : List Int) (B : Option Addr) (m e : Nat) (W : World) : Prop where
  bk : Bk W w.heap.size (pkl f t g A n c) 52
  own : W.ownsRow (w.heap.size + 1) 5 1 (.slice B m e) m (bs l)
  bl : Below w.heap.size w W
  lm : l.length % 4 = 0
  byt : Byt l
  le : l.length ≤ 65536 * k
theorem Pn.next {w W W' : World} {f t g : Nat} {A : Option Addr} {n c k : Nat} {l : List Int} {B : Option Addr} {m e : Nat} (h : Pn w f t g A n c k l B m e W) (hb : Below W.heap.size W W') : Pn w f t g A n c k l B m e W' :=
  { h with bk := h.bk.next hb, own := own_below h.own hb, bl := bnext' h.bl hb }
theorem Pn.len {w W : World} {f t g : Nat} {A : Option Addr} {n c k : Nat} {l : List Int} {B : Option Addr} {m e : Nat} (h : Pn w f t g A n c k l B m e W) : l.length = m := by have := h.own.1; simpa [bs] using this
set_option maxRecDepth 100000 in
set_option maxHeartbeats 4000000 in
theorem rpPut_any (f t g : Nat) (ks : List Cq) (A : Option Addr) (n c : Nat) (w : World) (hf : f < 65536) (ht : t < 65536) (hg : g < 4294967296) (h : Rk w A ks) (hl : ks.length = n) (hn : n ≤ 1000000) (hcn : ∀ k ∈ ks, k.2.cn ≤ 5000) :
    Calls Try.prog 23 #[.agg (pkl f t g A n c)] w (HPutOut w (pput f t g (ks.map (·.1)))) := by
  have HP0 : Hid (Pn w f t g A n c 0 [] none 0 0 (w.alloc (.cells (pkl f t g A n c) 52))) := Lib.hid { bk := Bk.new _ _ _, own := World.ownsRow_nil _ _ _ _, bl := (Below.refl _ _).alloc (Nat.le_refl _) _, lm := rfl, byt := (fun x hx => by simp at hx), le := by simp }
  have CM := Lib.hid fun W (hW : Below w.heap.size w W) => rpMay_any f t g ks A n c W (h.next hW) hl (by omega)
  have HH := Lib.hid h
  have HL := Lib.hid hl
  have HCN := Lib.hid hcn
  have CH := Lib.hid fun B m e l W (hl2 : l.length = m) (h4 : m % 4 = 0) (hm : m ≤ 140737488355328) (hb : Byt l) (hr : Row W B (bs l)) (hz : B = none → m = 0 ∧ e = 0) => rput_mod f t g B m e l W hf ht hg hl2 h4 hm hb hr hz
  have HCI : Hid (∀ c : Ck, ∀ s : Ls, (Try.prog.info? 32).map (·.size) = some (cv c s).size) := Lib.hid cv_info
  obtain ⟨p, hp⟩ : ∃ p, pput f t g (ks.map (·.1)) = p := ⟨_, rfl⟩
  rw [hp]
  have HPP := Lib.hid hp
  clear h hl hp hcn
  go_enter Try.func23, Try.ntmps23
  go_upto_region 1 with fail
  generalize World.alloc w _ = W1 at HP0 ⊢
  go_wp2_with (refine wpList_load_row rfl 52 (.tmp 1) rfl w.heap.size rfl 52 (pkl f t g A n c) (0, 0) _ HP0.out.bk Try.underlying52 rfl (by kernel_rfl) ?_)
  have hbw := HP0.out.bl
  (with_reducible refine (CM.out _ hbw).mono ?_)
  clear hbw
  rintro e W2 ⟨rfl, hb2⟩
  have HP2 := Lib.hid (HP0.out.next hb2)
  clear hb2 HP0 CM
  cases hmay : mayP g (ks.map (·.1)) with
  | false =>
    have hpe : p = ([], 60) := by rw [← HPP.out]; unfold pput; rw [if_neg (by rw [hmay]; simp)]
    subst hpe
    clear hmay
    go_wp2_with fail
    go_ret2
    exact ⟨none, 0, 0, rfl, World.ownsRow_nil _ _ _ _, HP2.out.bl⟩
  | true =>
    have hpe : p = (if (pb (ks.map (·.1))).2 ≠ 0 then ([], (pb (ks.map (·.1))).2) else Head.pt f t g (pb (ks.map (·.1))).1) := by rw [← HPP.out]; unfold pput; rw [if_pos hmay]
    have HR0 : Hid (∀ d : List Int, d = [] → p = (if (pb ((ks.drop 0).map (·.1))).2 ≠ 0 then ([], (pb ((ks.drop 0).map (·.1))).2) else Head.pt f t g (d ++ (pb ((ks.drop 0).map (·.1))).1))) := Lib.hid fun d hd => by subst hd; exact hpe
    clear hpe hmay HPP
    obtain ⟨_, k3⟩ := mem_cell HP2.out.bk
    go_wp2_with fail
    clear k3
    go_loopw [4, 5, 6, 7] (fun y i _ _ wr => ∃ (k : Nat) (l : List Int) (B : Option Addr) (m e : Nat), k ≤ n ∧ i = .int .i64 (k : Int) ∧ y = .slice B m e ∧ m ≤ 65536 * k ∧ Hid (p = (if (pb ((ks.drop k).map (·.1))).2 ≠ 0 then ([], (pb ((ks.drop k).map (·.1))).2) else Head.pt f t g (l ++ (pb ((ks.drop k).map (·.1))).1))) ∧ Hid (Pn w f t g A n c k l B m e wr)) (fun _ i _ _ _ => n - (intOf i).toNat)
    case atStart => exact ⟨0, [], none, 0, 0, by omega, rfl, rfl, by omega, Lib.hid (HR0.out [] rfl), HP2⟩
    case round =>
      clear HR0 HP2
      obtain ⟨k, l, B, m, e, hk, rfl, rfl, hm7, HR, HP⟩ := hrel
      obtain ⟨_, k3⟩ := mem_cell HP.out.bk
      by_cases hlt : k < n
      · have hkl : k < ks.length := by rw [HL.out]; exact hlt
        obtain ⟨a, rfl, hc, hch⟩ := (HH.out.next HP.out.bl).at hkl
        have hr2 : p = (if (pb (ks[k].1 :: (ks.drop (k + 1)).map (·.1))).2 ≠ 0 then ([], (pb (ks[k].1 :: (ks.drop (k + 1)).map (·.1))).2) else Head.pt f t g (l ++ (pb (ks[k].1 :: (ks.drop (k + 1)).map (·.1))).1)) := by
          have := HR.out
          rwa [List.drop_eq_getElem_cons hkl, List.map_cons] at this
        have HC := Lib.hid hc
        have HCH := Lib.hid hch
        have hcq := HCN.out ks[k] (List.getElem_mem hkl)
        generalize ks[k] = q at HC HCH hr2 hcq
        obtain ⟨qc, qs⟩ := q
        have CP := Lib.hid (rfPut_any qc qs wr HCH.out hcq)
        have hcm := cput_mod (c := qc)
        have hcb := cput_byt (c := qc) HCH.out.ok
        rw [pb_cons] at hr2
        generalize hPR : pb ((ks.drop (k + 1)).map (·.1)) = PR at hr2
        obtain ⟨⟨Lc, ec⟩, hpc⟩ : ∃ x, cput qc = x := ⟨_, rfl⟩
        rw [hpc] at CP hcm hcb hr2
        simp only at hcm hcb hr2
        clear hc hch HR hcq hpc
        go_wp2_with (refine wpList_load_at rfl 32 (.tmp 22) rfl (a.add (k * 15)) rfl (cv qc qs) _ HC.out Try.underlying32 rfl (HCI.out _ _) ?_)
        (with_reducible refine CP.out.mono ?_)
        rintro e4 W4 ⟨A4, n4, c4, rfl, ho4⟩
        have HP4 := Lib.hid (HP.out.next ho4.2)
        have HO4 := Lib.hid ho4
        clear ho4 HP HC HCH CP k3
        by_cases he : ec = 0
        case neg =>
          have d1 : (ec != 0) = true := by simpa using he
          have HT : Hid (p = ([], ec)) := Lib.hid (by rw [hr2, if_pos he]; simp only; rw [if_pos he])
          clear hr2 hcm hcb he hPR
          go_wp2_with fail
          go_ret2
          exact ⟨none, 0, 0, by rw [HT.out]; rfl, by rw [HT.out]; exact World.ownsRow_nil _ _ _ _, HP4.out.bl⟩
        subst he
        have hcm := hcm rfl
        have HCM := Lib.hid hcm
        have HCB := Lib.hid hcb
        have hl4 : Lc.length = n4 := HO4.out.len
        have hr3 : p = (if PR.2 ≠ 0 then ([], PR.2) else Head.pt f t g ((l ++ Lc) ++ PR.1)) := by
          rw [hr2]
          by_cases h2 : PR.2 = 0 <;> simp [h2]
        rw [← hPR] at hr3
        have HR3 := Lib.hid hr3
        clear hr2 hr3 hcm hcb hPR PR
        have hlm : l.length = m := HP4.out.len
        go_upto_region 10 with fail
        go_upto_region 6 with (at_builtin; refine Hid.out ?_)
        refine Lib.hid ?_
        have hlt4 : w.heap.size + 1 ≤ W4.heap.size := HP4.out.bk.lt
        refine app_step rfl (.tmp 30) (.tmp 31) rfl (w.heap.size + 1) B m e l rfl HP4.out.own A4 n4 c4 Lc rfl hl4 HO4.out.row (owns_none HO4.out.1).1 (by have := HCM.out.2; omega) hlt4 ?_
        intro A5 n5 c5 w5 hn5 ho5 hb5
        have HN : Hid (Pn w f t g (some a) n c (k + 1) (l ++ Lc) A5 n5 c5 w5) := Lib.hid
          { bk := HP4.out.bk.nextB hb5 (Nat.lt_succ_self _), own := ho5, bl := HP4.out.bl.trans (hb5.mono (Nat.le_succ _)), lm := by have := HP4.out.lm; have := HCM.out.1; simp; omega, byt := byt_app HP4.out.byt HCB.out, le := by have := HCM.out.2; have := HP4.out.le; simp; omega }
        have hn7 : n5 ≤ 65536 * (k + 1) := by have := HCM.out.2; omega
        clear hn5 ho5 hb5 hlt4 HP4 HO4 hl4 hlm
        go_wp2_with fail
        go_roundw
        case rel => exact ⟨k + 1, l ++ Lc, A5, n5, c5, by omega, by go_num, rfl, hn7, HR3, HN⟩
        case measure => simp [intOf]; omega
      · have hT : p = Head.pt f t g l := by
          rw [HR.out, List.drop_of_length_le (by rw [HL.out]; omega)]
          simp only [List.map_nil, pb]
          rw [if_neg (by simp), List.append_nil]
        have hm4 : m % 4 = 0 := by have := HP.out.lm; rw [HP.out.len] at this; exact this
        have CHH := Lib.hid (CH.out B m e l wr HP.out.len hm4 (by omega) HP.out.byt (row_of_own HP.out.own) (owns_none HP.out.own).1)
        rw [← hT] at CHH
        obtain ⟨k0, k1⟩ := mem_head HP.out.bk
        obtain ⟨k2, _⟩ := mem_cell HP.out.bk
        have HBL := Lib.hid HP.out.bl
        clear hT HR CH HP hm4
        go_wp2_with fail
        (with_reducible refine CHH.out.mono ?_)
        rintro e9 W9 ⟨A9, n9, c9, rfl, ho9⟩
        have HO9 := Lib.hid (show Own w W9 A9 n9 c9 p.1 from ⟨own_base ho9.1 HBL.out.size, bnext' HBL.out ho9.2⟩)
        clear ho9
        go_wp2_with fail
        go_ret2
        exact ⟨A9, n9, c9, rfl, HO9.out⟩
end Go.Proofs.Ytbliipjiilmbcaa
