/-
  What the document's param and Great do.
-/
import Derived.Test.YtbliipjiilmbcaaZP1b
import Derived.IntWalk
namespace Go.Proofs.Ytbliipjiilmbcaa
open Go.RowKit Wire Tlv Chunk

/-- A slice's address and capacity, where there are none. -/
def Zc (A : Option Addr) (n c : Nat) : Prop := A = none → n = 0 ∧ c = 0
theorem own_zc {w W : World} {A : Option Addr} {n c : Nat} {l : List Int} (h : Own w W A n c l) : Zc A n c := (owns_none h.1).1
set_option maxRecDepth 100000 in
set_option maxHeartbeats 1000000 in
theorem rparam_any (w W : World) (A : Option Addr) (n c : Nat) (l : List Int) (k : Nat) (v : List Int) (B : Option Addr) (bn bc : Nat) (ho : Own w W A n c l) (hn : n ≤ 140737488000000) (hx : (⟨k, 0, v⟩ : Tv).ok) (hl : v.length = bn) (hbn : bn ≤ 140737488355328) (hr : Row W B (bs v)) (hz : Zc B bn bc) :
    Calls Try.prog 86 #[.slice A n c, .int .u16 (k : Int), .slice B bn bc] W fun e w' => ∃ A' n' c', e = .returned (.tuple #[.slice A' n' c', .int .i64 (tp false ⟨k, 0, v⟩).2]) ∧ Own w w' A' n' c' (l ++ (tp false ⟨k, 0, v⟩).1) ∧ n' ≤ n + 65540 := by
  have hP : Calls Try.prog 60 #[.bool false, .agg #[.int .u16 (k : Int), .int .u8 0, .slice B bn bc]] W (PutOut W (tp false ⟨k, 0, v⟩)) := trput_any false ⟨k, 0, v⟩ B bn bc W hx hl hbn hr hz
  have htl : (tp false ⟨k, 0, v⟩).1.length ≤ 65540 := by
    by_cases h : 65531 < v.length
    · rw [tp_long (by simp [fit]) h]
      exact Nat.zero_le _
    · rw [tp_ok (by simp [fit]) (by simp only; omega)]
      have h1 := tb_len false ⟨k, 0, v⟩
      have h2 := whl_le (4 + v.length)
      simp only at h1 ⊢
      omega
  have HP := Lib.hid hP
  have HO := Lib.hid ho
  have HTL := Lib.hid htl
  obtain ⟨i0, hi0, hz0, hz1, hz2⟩ := info_parts Try_info8
  have HI := Lib.hid hi0
  have HZ0 := Lib.hid hz0
  have HZ1 := Lib.hid hz1
  have HZ2 := Lib.hid hz2
  generalize tp false ⟨k, 0, v⟩ = t at *
  clear hP ho hr hz hl hx hbn htl hi0 hz0 hz1 hz2
  go_enter Try.func86, Try.ntmps86
  go_wp2_with fail
  (with_reducible refine HP.out.mono ?_)
  rintro e W1 ⟨A1, n1, c1, rfl, ho1⟩
  have hn1 : n1 ≤ 65540 := by rw [← ho1.len]; exact HTL.out
  have HO1 := Lib.hid ho1
  have HOw := Lib.hid (HO.out.next ho1.2)
  have hsz := HOw.out.2.size
  rcases A1 with _ | a
  · obtain ⟨rfl, rfl⟩ := own_zc ho1 rfl
    have ht0 := Lib.hid (List.eq_nil_of_length_eq_zero ho1.len)
    clear ho1
    go_wp2_with (at_builtin; refine wpList_append_own_none rfl (.tmp 17) (.tmp 18) 23 rfl w.heap.size 5 i0 1 Try.underlying23 HI.out _ _ _ rfl HOw.out.1 rfl ?_)
    go_ret2
    exact ⟨_, _, _, rfl, by rw [ht0.out, List.append_nil]; exact HOw.out, by omega⟩
  · by_cases h0 : n1 = 0
    · subst h0
      have ht0 := Lib.hid (List.eq_nil_of_length_eq_zero ho1.len)
      clear ho1
      go_wp2_with (at_builtin; refine wpList_append_own _ rfl (.tmp 17) (.tmp 18) 23 rfl w.heap.size 5 i0 (.int .u8 0) 1 1 Try.underlying23 HI.out HZ0.out HZ1.out HZ2.out rfl (by decide) _ _ _ rfl HOw.out.1 a 0 c1 [] rfl rfl (fun j u h => by simp at h) (fun u h => by simp at h) (by unfold maxLen; omega) (by omega) hsz ?_; intro v' w3 hown hgr hv; obtain ⟨A', c', rfl⟩ := own_form hown; have HN : Hid (Own w w3 A' (n + 0) c' l) := Lib.hid ⟨by rw [List.append_nil] at hown; exact hown, HOw.out.2.grown hgr hsz (fun k hk => (HOw.out.1.lt k hk).1)⟩; clear hown hgr)
      go_ret2
      exact ⟨_, _, _, rfl, by rw [ht0.out, List.append_nil]; exact HN.out, by omega⟩
    · have hp : 0 < n1 := by omega
      clear ho1 h0
      go_wp2_with (at_builtin; refine wpList_append_lies _ rfl (.tmp 17) (.tmp 18) 23 rfl w.heap.size 5 i0 (.int .u8 0) 1 1 Try.underlying23 HI.out HZ0.out HZ1.out HZ2.out rfl (by decide) _ _ _ rfl HOw.out.1 a n1 c1 (bs t.1) rfl (by rw [bs_len, HO1.out.len, Nat.mul_one]) (bcells HO1.out.row) (bs_one _) hp (by unfold maxLen; omega) (by omega) hsz _ rfl ?_; intro g9 cap9 w10 hown10 hgrow10 hat10 _; have HN : Hid (Own w w10 (some ⟨g9, 0, none⟩) (n + n1) cap9 (l ++ t.1)) := Lib.hid ⟨by rw [← bs_app]; exact hown10, HOw.out.2.grown hgrow10 hsz (fun k hk => (HOw.out.1.lt k hk).1)⟩; clear hown10 hgrow10 hat10)
      go_ret2
      exact ⟨_, _, _, rfl, HN.out, by omega⟩
/-- What Great leaves. -/
def GrOut (w : World) (s : Ls) (e : Ending) (w' : World) : Prop := ∃ b : Bool, e = .returned (.bool b) ∧ (b = false → s.cn ≤ 5000) ∧ Below w.heap.size w w'
set_option maxRecDepth 100000 in
set_option maxHeartbeats 1000000 in
theorem rGreat_any (c : Ck) (s : Ls) (w : World) (h : Ch w c s) :
    Calls Try.prog 15 #[.agg (cv c s)] w (GrOut w s) := by
  have HU : Hid (U1 w (cv c s) _) := Lib.hid (U1.new w (cv c s))
  have m1 := h.z.dm
  have m2 := h.z.am
  have m3 := h.z.gm
  have m4 := h.z.um
  have m5 := h.z.cm
  have H := Lib.hid h
  clear h
  go_enter Try.func15, Try.ntmps15
  go_upto_region 1 with fail
  generalize World.alloc w _ = W1 at HU ⊢
  have g10 := HU.out.1.c10
  have g11 := HU.out.1.c11
  have g12 := HU.out.1.c12
  have g13 := HU.out.1.c13
  have g14 := HU.out.1.c14
  go_wp2_with fail
  clear g10 g11 g12 g13
  go_loop [3, 4] (fun z i => ∃ (k : Nat) (y : Nat), k ≤ s.cn ∧ s.cn ≤ y ∧ y ≤ 1000000000000000 ∧ i = .int .i64 (k : Int) ∧ z = .int .i64 (y : Int)) (fun _ i => s.cn - (intOf i).toNat)
  case atStart => exact ⟨0, s.dn / 16 + s.an + s.gn + s.un + s.cn, by omega, by omega, by omega, rfl, by go_num⟩
  case round =>
    obtain ⟨k, y, hk, hy1, hy2, rfl, rfl⟩ := hrel
    by_cases hlt : k < s.cn
    · by_cases hy : y ≤ 5000
      · have d1 : decide ((y : Int) ≤ 5000) = true := by simp; omega
        have hkl : k < c.ca.length := by rw [H.out.z.c]; exact hlt
        have hkq : k < s.cq.length := by rw [H.out.cl]; exact hkl
        obtain ⟨a, hA, k0, k1⟩ := cause_at (H.out.cr.below HU.out.2) hkl hkq
        obtain ⟨B, bn, bc, hB, _, _, _, hbn, _⟩ := H.out.cd k _ _ (List.getElem?_eq_getElem hkl) (List.getElem?_eq_getElem hkq)
        rw [hB] at k1
        have g14' := g14
        rw [hA] at g14'
        generalize (c.ca[k]).1 = xc at k0
        clear hB
        rw [hA] at g14
        go_wp2_with fail
        go_round
        case rel => exact ⟨k + 1, y + bn / 16, by omega, by omega, by omega, by go_num, by go_num⟩
        case measure => simp [intOf]; omega
      · have d1 : decide ((y : Int) ≤ 5000) = false := by simp; omega
        have d2 : decide ((5000 : Int) < (y : Int)) = true := by simp; omega
        go_wp2_with fail
        go_ret
        exact ⟨true, rfl, (fun h => by cases h), HU.out.2⟩
    · by_cases hy : y ≤ 5000
      · have d2 : decide ((5000 : Int) < (y : Int)) = false := by simp; omega
        go_wp2_with fail
        go_ret
        exact ⟨false, rfl, fun _ => by omega, HU.out.2⟩
      · have d2 : decide ((5000 : Int) < (y : Int)) = true := by simp; omega
        go_wp2_with fail
        go_ret
        exact ⟨true, rfl, (fun h => by cases h), HU.out.2⟩
end Go.Proofs.Ytbliipjiilmbcaa
