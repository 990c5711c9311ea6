/-
  What the document's value does: a chunk of causes.
-/
import Derived.Test.YtbliipjiilmbcaaYChunkRVal2
import Derived.Deep.RegionHeld3
namespace Go.Proofs.Ytbliipjiilmbcaa
open Go.RowKit Wire Tlv Chunk

theorem bnd_big2 {k : Nat} (h : k ≤ 1048576) : bnd k ≤ 70000000000 := by unfold bnd; omega
theorem cat_mem_le {ch : Bool} {l : List Tv} {x : Tv} (h : x ∈ l) : (tb ch x).length ≤ (cat ch l).length := by
  obtain ⟨l1, l2, rfl⟩ := List.append_of_mem h
  rw [cat_app, List.length_append]
  have : cat ch (x :: l2) = tb ch x ++ cat ch l2 := by simp [cat]
  rw [this, List.length_append]
  omega
theorem cause_at' {W : World} {A : Option Addr} {l : List (Nat × List Int)} {q : List Value} (h : Row W A (cs l q)) {i : Nat} {x : Nat × List Int} {v : Value} (hx : l[i]? = some x) (hv : q[i]? = some v) :
    ∃ a, A = some a ∧ W.cell? (a.add (i * 2)) = some (.int .u16 (x.1 : Int)) ∧ W.cell? { block := (a.add (i * 2)).block, off := (a.add (i * 2)).off + 1 } = some v := by
  obtain ⟨hi, rfl⟩ := List.getElem?_eq_some_iff.1 hx
  obtain ⟨hq, rfl⟩ := List.getElem?_eq_some_iff.1 hv
  exact cause_at h hi hq
/-- What is kept in the loop over the causes. -/
def CaInv (W1 W : World) (c : Ck) (k : Nat) (v e : Value) : Prop := ∃ (A : Option Addr) (n c' : Nat) (l : List Int) (er : Int), v = .slice A n c' ∧ e = .int .i64 er ∧ Own W1 W A n c' l ∧ n ≤ bnd k ∧ ((er = 0 ∧ l = cat false ((c.ca.take k).map pc)) ∨ (er = 3 ∧ 65531 < (val c).length))
theorem ca_step {W1 V : World} {c : Ck} {k n n2 c2 : Nat} {A2 : Option Addr} {x : Nat × List Int} (hx0 : c.ca[k]? = some x) (hv : val c = cat false (c.ca.map pc))
    (ho : Own W1 V A2 n2 c2 (cat false ((c.ca.take k).map pc) ++ (tp false (pc x)).1)) (hn : n2 ≤ n + 65540) (h0 : n ≤ bnd k) :
    CaInv W1 V c (k + 1) (.slice A2 n2 c2) (.int .i64 (tp false (pc x)).2) := by
  obtain ⟨hkl, hx⟩ := List.getElem?_eq_some_iff.1 hx0
  have hxm : pc x ∈ c.ca.map pc := by rw [← hx]; exact List.mem_map_of_mem (List.getElem_mem hkl)
  by_cases hlong : 65531 < x.2.length
  · have e : tp false (pc x) = ([], 3) := tp_long (x := pc x) (by simp [fit, pc]) hlong
    rw [e] at ho ⊢
    refine ⟨_, _, _, _, _, rfl, rfl, ho, bnd_step h0 hn, .inr ⟨rfl, ?_⟩⟩
    have h1 := cat_mem_le (ch := false) hxm
    rw [hv]
    have h2 : (pc x).v = x.2 := rfl
    rw [tb_len, h2] at h1
    have := whl_le (4 + x.2.length)
    omega
  · have e : tp false (pc x) = (tb false (pc x), 0) := tp_ok (x := pc x) (by simp [fit, pc]) (by show x.2.length ≤ 65531; omega)
    rw [e] at ho ⊢
    refine ⟨_, _, _, _, _, rfl, rfl, ho, bnd_step h0 hn, .inl ⟨rfl, ?_⟩⟩
    rw [List.take_succ_eq_append_getElem hkl, List.map_append, hx]
    exact (cat_snoc _ _ _).symm
set_option maxRecDepth 100000 in
set_option maxHeartbeats 4000000 in
theorem rvalue6 (c : Ck) (s : Ls) (w : World) (hk : c.kd = 6) (hm : may c) (h : Ch w c s) (hcn : s.cn ≤ 1048576) :
    Calls Try.prog 59 #[.agg (cv c s)] w (RvOut w c) := by
  have HU : Hid (U1 w (cv c s) _) := Lib.hid (U1.new w (cv c s))
  have HC : Hid (Ch _ c s) := Lib.hid (h.alloc (.cells (cv c s) 32))
  obtain ⟨i0, hi0, hz0, hz1, hz2⟩ := info_parts Try_info8
  have HI := Lib.hid hi0
  have HZ0 := Lib.hid hz0
  have HZ1 := Lib.hid hz1
  have HZ2 := Lib.hid hz2
  clear hi0 hz0 hz1 hz2
  have hf := hm.1
  have HV := Lib.hid (val_causes (c := c) (by omega) (nil_of (by have := hf.da; simp only [hDa] at this; omega)) (nil_of (by have := hf.inn; simp only [hIn] at this; omega)))
  have HCL := Lib.hid h.z.c
  have HCQ := Lib.hid h.cl
  have HCA := Lib.hid h.ok.ca
  clear hm hf h
  go_enter Try.func59, Try.ntmps59
  go_upto_region 3 with fail
  generalize World.alloc w _ = W1 at HU HC ⊢
  have hlt := HU.out.1.lt
  have HBK := Lib.hid fun (W : World) (hW : Below W1.heap.size W1 W) => HU.out.1.nextB hW hlt
  have a0 := HU.out.1.c0
  rw [hk] at a0
  have HO0 := Lib.hid (own_nil W1)
  go_wp2_with fail
  clear a0
  go_loopw [4, 5, 9] (fun v e i wr => ∃ k : Nat, k ≤ s.cn ∧ i = .int .i64 (k : Int) ∧ Hid (CaInv W1 wr c k v e)) (fun _ _ i _ => s.cn - (intOf i).toNat)
  case atStart => exact ⟨0, by omega, rfl, Lib.hid ⟨none, 0, 0, [], 0, rfl, rfl, HO0.out, Nat.zero_le _, .inl ⟨rfl, by simp [cat]⟩⟩⟩
  case round =>
    clear HO0
    obtain ⟨k, hk1, rfl, hci⟩ := hrel
    obtain ⟨A, n, c', l, er, rfl, rfl, ho, hn, her⟩ := hci.out
    have HO := Lib.hid ho
    have hnb : n ≤ 70000000000 := Nat.le_trans hn (bnd_big2 (by omega))
    have HNB := Lib.hid hn
    have z14 := (HBK.out _ HO.out.2).c14
    clear hci ho hn
    by_cases hlt1 : k < s.cn
    · rcases her with ⟨rfl, hl⟩ | ⟨rfl, hl⟩
      · subst hl
        have hkl : k < c.ca.length := by rw [HCL.out]; exact hlt1
        have hkq : k < s.cq.length := by rw [HCQ.out]; exact hkl
        obtain ⟨x, hxe⟩ : ∃ x, c.ca[k]? = some x := ⟨_, List.getElem?_eq_getElem hkl⟩
        obtain ⟨q, hqe⟩ : ∃ q, s.cq[k]? = some q := ⟨_, List.getElem?_eq_getElem hkq⟩
        have HG := Lib.hid fun (W : World) (hW : Below W1.heap.size W1 W) => cause_at' (HC.out.cr.below hW) hxe hqe
        have HD := Lib.hid fun (W : World) (hW : Below W1.heap.size W1 W) => (HC.out.cd k _ _ hxe hqe).next hW
        have hx := HCA.out _ (List.mem_of_getElem? hxe)
        have HXE := Lib.hid hxe
        obtain ⟨a, hA, k0, k1⟩ := HG.out _ (HO.out.2.mono (Nat.le_refl _))
        obtain ⟨B, bn, bc, rfl, hl, hnc, hcm, hnr, hr, hz⟩ := HD.out _ (HO.out.2.mono (Nat.le_refl _))
        have HA := Lib.hid hA
        obtain ⟨xk, xv⟩ := x
        simp only at k0 k1 hx hl hr
        have HS : Hid (∀ W : World, Below W1.heap.size W1 W → W.cell? ⟨w.heap.size, 14, none⟩ = some (.slice (some a) s.cn s.cc) ∧ W.cell? (a.add (k * 2)) = some (.int .u16 (xk : Int)) ∧ W.cell? { block := (a.add (k * 2)).block, off := (a.add (k * 2)).off + 1 } = some (.slice B bn bc)) := Lib.hid (fun W hW => by
          obtain ⟨a2, hA2, e0, e1⟩ := HG.out W hW
          rw [HA.out] at hA2
          injection hA2 with hA2
          subst hA2
          have e14 := (HBK.out _ hW).c14
          rw [HA.out] at e14
          exact ⟨e14, e0, e1⟩)
        have HP := Lib.hid fun (W : World) (hW : Own W1 W A n c' (cat false ((c.ca.take k).map pc))) => rparam_any W1 W A n c' _ xk xv B bn bc hW (by omega) ⟨hx.1, by show 0 < 256; omega, hx.2⟩ hl (by omega) ((HD.out W hW.2 |> fun h => by
          obtain ⟨B2, n2, c2, e, _, _, _, _, r, _⟩ := h
          injection e with e1 e2 e3
          subst e1
          exact r)) hz
        have hod := HO.out.drew
        have hs := HS.out _ hod.2
        rw [hA] at z14
        clear hl hr hz hnc hcm hxe hqe hA hx hkl hkq HG HD HA
        go_upto_region 41 with fail
        first | go_region_held3 (fun W => W.cell? ⟨w.heap.size, 14, none⟩ = some (.slice (some a) s.cn s.cc) ∧ W.cell? (a.add (k * 2)) = some (.int .u16 (xk : Int)) ∧ W.cell? { block := (a.add (k * 2)).block, off := (a.add (k * 2)).off + 1 } = some (.slice B bn bc)) (first | exact hs | exact HS.out _ (by assumption)) ((go_at_call 86; (with_reducible refine (HP.out _ ?_).mono ?_); assumption; rintro e w3 ⟨A3, n3, c3, rfl, ho3, hn3⟩; have HF := Lib.hid (ca_step HXE.out HV.out ho3 hn3 HNB.out); have hb3 := ho3.2; clear ho3)) | fail
        all_goals
          go_wp2_with fail
          go_roundw
          case rel => exact ⟨k + 1, by omega, by go_num, HF⟩
          case measure => simp [intOf]; omega
      · have HL := Lib.hid hl
        clear hl
        go_wp2_with fail
        go_ret2
        exact ⟨_, _, _, _, 3, rfl, own_lift HO.out HU.out.2, .inr ⟨rfl, HL.out⟩, by omega, own_zc HO.out⟩
    · have HER := Lib.hid her
      have d1 : decide ((k : Int) < (s.cn : Int)) = false := by simp; omega
      clear her
      go_wp2_with fail
      go_ret2
      refine ⟨_, _, _, _, er, rfl, own_lift HO.out HU.out.2, ?_, by omega, own_zc HO.out⟩
      rcases HER.out with ⟨rfl, hl⟩ | ⟨rfl, hl⟩
      · exact .inl ⟨rfl, by rw [HV.out, hl, List.take_of_length_le (by rw [HCL.out]; omega)]⟩
      · exact .inr ⟨rfl, hl⟩
set_option maxRecDepth 100000 in
set_option maxHeartbeats 4000000 in
theorem rvalue9 (c : Ck) (s : Ls) (w : World) (hk : c.kd = 9) (hm : may c) (h : Ch w c s) (hcn : s.cn ≤ 1048576) :
    Calls Try.prog 59 #[.agg (cv c s)] w (RvOut w c) := by
  have HU : Hid (U1 w (cv c s) _) := Lib.hid (U1.new w (cv c s))
  have HC : Hid (Ch _ c s) := Lib.hid (h.alloc (.cells (cv c s) 32))
  obtain ⟨i0, hi0, hz0, hz1, hz2⟩ := info_parts Try_info8
  have HI := Lib.hid hi0
  have HZ0 := Lib.hid hz0
  have HZ1 := Lib.hid hz1
  have HZ2 := Lib.hid hz2
  clear hi0 hz0 hz1 hz2
  have hf := hm.1
  have HV := Lib.hid (val_causes (c := c) (by omega) (nil_of (by have := hf.da; simp only [hDa] at this; omega)) (nil_of (by have := hf.inn; simp only [hIn] at this; omega)))
  have HCL := Lib.hid h.z.c
  have HCQ := Lib.hid h.cl
  have HCA := Lib.hid h.ok.ca
  clear hm hf h
  go_enter Try.func59, Try.ntmps59
  go_upto_region 3 with fail
  generalize World.alloc w _ = W1 at HU HC ⊢
  have hlt := HU.out.1.lt
  have HBK := Lib.hid fun (W : World) (hW : Below W1.heap.size W1 W) => HU.out.1.nextB hW hlt
  have a0 := HU.out.1.c0
  rw [hk] at a0
  have HO0 := Lib.hid (own_nil W1)
  go_wp2_with fail
  clear a0
  go_loopw [4, 5, 9] (fun v e i wr => ∃ k : Nat, k ≤ s.cn ∧ i = .int .i64 (k : Int) ∧ Hid (CaInv W1 wr c k v e)) (fun _ _ i _ => s.cn - (intOf i).toNat)
  case atStart => exact ⟨0, by omega, rfl, Lib.hid ⟨none, 0, 0, [], 0, rfl, rfl, HO0.out, Nat.zero_le _, .inl ⟨rfl, by simp [cat]⟩⟩⟩
  case round =>
    clear HO0
    obtain ⟨k, hk1, rfl, hci⟩ := hrel
    obtain ⟨A, n, c', l, er, rfl, rfl, ho, hn, her⟩ := hci.out
    have HO := Lib.hid ho
    have hnb : n ≤ 70000000000 := Nat.le_trans hn (bnd_big2 (by omega))
    have HNB := Lib.hid hn
    have z14 := (HBK.out _ HO.out.2).c14
    clear hci ho hn
    by_cases hlt1 : k < s.cn
    · rcases her with ⟨rfl, hl⟩ | ⟨rfl, hl⟩
      · subst hl
        have hkl : k < c.ca.length := by rw [HCL.out]; exact hlt1
        have hkq : k < s.cq.length := by rw [HCQ.out]; exact hkl
        obtain ⟨x, hxe⟩ : ∃ x, c.ca[k]? = some x := ⟨_, List.getElem?_eq_getElem hkl⟩
        obtain ⟨q, hqe⟩ : ∃ q, s.cq[k]? = some q := ⟨_, List.getElem?_eq_getElem hkq⟩
        have HG := Lib.hid fun (W : World) (hW : Below W1.heap.size W1 W) => cause_at' (HC.out.cr.below hW) hxe hqe
        have HD := Lib.hid fun (W : World) (hW : Below W1.heap.size W1 W) => (HC.out.cd k _ _ hxe hqe).next hW
        have hx := HCA.out _ (List.mem_of_getElem? hxe)
        have HXE := Lib.hid hxe
        obtain ⟨a, hA, k0, k1⟩ := HG.out _ (HO.out.2.mono (Nat.le_refl _))
        obtain ⟨B, bn, bc, rfl, hl, hnc, hcm, hnr, hr, hz⟩ := HD.out _ (HO.out.2.mono (Nat.le_refl _))
        have HA := Lib.hid hA
        obtain ⟨xk, xv⟩ := x
        simp only at k0 k1 hx hl hr
        have HS : Hid (∀ W : World, Below W1.heap.size W1 W → W.cell? ⟨w.heap.size, 14, none⟩ = some (.slice (some a) s.cn s.cc) ∧ W.cell? (a.add (k * 2)) = some (.int .u16 (xk : Int)) ∧ W.cell? { block := (a.add (k * 2)).block, off := (a.add (k * 2)).off + 1 } = some (.slice B bn bc)) := Lib.hid (fun W hW => by
          obtain ⟨a2, hA2, e0, e1⟩ := HG.out W hW
          rw [HA.out] at hA2
          injection hA2 with hA2
          subst hA2
          have e14 := (HBK.out _ hW).c14
          rw [HA.out] at e14
          exact ⟨e14, e0, e1⟩)
        have HP := Lib.hid fun (W : World) (hW : Own W1 W A n c' (cat false ((c.ca.take k).map pc))) => rparam_any W1 W A n c' _ xk xv B bn bc hW (by omega) ⟨hx.1, by show 0 < 256; omega, hx.2⟩ hl (by omega) ((HD.out W hW.2 |> fun h => by
          obtain ⟨B2, n2, c2, e, _, _, _, _, r, _⟩ := h
          injection e with e1 e2 e3
          subst e1
          exact r)) hz
        have hod := HO.out.drew
        have hs := HS.out _ hod.2
        rw [hA] at z14
        clear hl hr hz hnc hcm hxe hqe hA hx hkl hkq HG HD HA
        go_upto_region 41 with fail
        first | go_region_held3 (fun W => W.cell? ⟨w.heap.size, 14, none⟩ = some (.slice (some a) s.cn s.cc) ∧ W.cell? (a.add (k * 2)) = some (.int .u16 (xk : Int)) ∧ W.cell? { block := (a.add (k * 2)).block, off := (a.add (k * 2)).off + 1 } = some (.slice B bn bc)) (first | exact hs | exact HS.out _ (by assumption)) ((go_at_call 86; (with_reducible refine (HP.out _ ?_).mono ?_); assumption; rintro e w3 ⟨A3, n3, c3, rfl, ho3, hn3⟩; have HF := Lib.hid (ca_step HXE.out HV.out ho3 hn3 HNB.out); have hb3 := ho3.2; clear ho3)) | fail
        all_goals
          go_wp2_with fail
          go_roundw
          case rel => exact ⟨k + 1, by omega, by go_num, HF⟩
          case measure => simp [intOf]; omega
      · have HL := Lib.hid hl
        clear hl
        go_wp2_with fail
        go_ret2
        exact ⟨_, _, _, _, 3, rfl, own_lift HO.out HU.out.2, .inr ⟨rfl, HL.out⟩, by omega, own_zc HO.out⟩
    · have HER := Lib.hid her
      have d1 : decide ((k : Int) < (s.cn : Int)) = false := by simp; omega
      clear her
      go_wp2_with fail
      go_ret2
      refine ⟨_, _, _, _, er, rfl, own_lift HO.out HU.out.2, ?_, by omega, own_zc HO.out⟩
      rcases HER.out with ⟨rfl, hl⟩ | ⟨rfl, hl⟩
      · exact .inl ⟨rfl, by rw [HV.out, hl, List.take_of_length_le (by rw [HCL.out]; omega)]⟩
      · exact .inr ⟨rfl, hl⟩
end Go.Proofs.Ytbliipjiilmbcaa
