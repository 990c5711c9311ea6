/-
  The walk of CrcBursts.
-/
import Derived.Test.YtodlklfhegfcoaaCrcKnown
import Derived.Test.YtodlklfhegfcoaaCrcBits
import Derived.Deep.RegionWith
import Derived.BigRegion
namespace Go.Proofs.Ytodlklfhegfcoaa
open Go.RowKit Crc

theorem Try_info8b : (Try.prog.info? 5).map (fun i => (i.zero, i.size, i.bytes)) = some (some (.int .u8 0), 1, 1) := by kernel_rfl
/-- Behind i rounds: the row of block g has the bytes with the low i bits turned. -/
def BRel (w : World) (g cap : Nat) (l : List Int) (at_ t : Nat) (i : Nat) (wr : World) : Prop :=
  ∃ d : List Int, d.length = l.length ∧ Byt d ∧ num d = num l ^^^ 2 ^ at_ * (t % 2 ^ i) ∧
    wr.ownsRow w.heap.size 5 1 (.slice (some ⟨g, 0, none⟩) l.length cap) l.length (bs d) ∧ Below w.heap.size w wr

theorem bcells {w : World} {a : Addr} {l : List Value} (h : Row w (some a) l) : ∀ j u, l[j]? = some u → w.cell? (a.add j) = some u := fun j u hu => by
  obtain ⟨b, hb, hc⟩ := h j u hu
  injection hb with hb
  subst hb
  exact hc
theorem bs_one (l : List Int) : ∀ u ∈ bs l, u.oneCell' = true := fun u hu => by
  obtain ⟨x, _, rfl⟩ := List.mem_map.1 hu
  rfl
theorem brel_zero {w w1 w2 : World} {v : Value} {n : Nat} {l : List Int} (hb : Below w.heap.size w w1) (hn : l.length = n)
    (hown : w2.ownsRow w.heap.size 5 1 v (0 + n) ([] ++ bs l)) (hg : (w1.alloc (.cells #[] 5)).grownBy w2 (Value.slice (some ⟨w1.heap.size, 0, none⟩) 0 0).ownBlock) (hn0 : 0 < n) (hbl : Byt l) (p t : Nat) :
    ∃ g cap, v = .slice (some ⟨g, 0, none⟩) n cap ∧ BRel w g cap l p t 0 w2 := by
  rw [Nat.zero_add, List.nil_append] at hown
  rcases id hown.2 with ⟨_, h0⟩ | ⟨g, cap, _, rfl, _⟩
  · omega
  refine ⟨g, cap, rfl, l, rfl, hbl, by rw [Nat.pow_zero, Nat.mod_one]; simp, by rw [hn]; exact hown, (hb.alloc hb.size _).grown hg (by simp; exact Nat.le_succ_of_le hb.size) fun k hk => ?_⟩
  simp [Value.ownBlock] at hk
  subst hk
  exact hb.size
theorem byte_eq {u t k s : Nat} (hu : u < 256) (ht : t < 4294967296) (hs : s < 8) :
    bits .xor .u8 (u : Int) (bits .and .u32 ((t : Int) / 2 ^ k) 1 % 256 * 2 ^ s % 256) = ((u ^^^ (t / 2 ^ k % 2 * 2 ^ s) : Nat) : Int) := by
  have h1 : ((t : Int) / 2 ^ k) = ((t / 2 ^ k : Nat) : Int) := by rw [Int.natCast_ediv, Int.natCast_pow]; rfl
  have h2 : t / 2 ^ k < 4294967296 := Nat.lt_of_le_of_lt (Nat.div_le_self _ _) ht
  have h3 := u32_and_nat (t / 2 ^ k) 1 h2 (by omega)
  have h4 : t / 2 ^ k % 2 * 2 ^ s < 256 := by
    have a : t / 2 ^ k % 2 ≤ 1 := by omega
    have b : 2 ^ s ≤ 2 ^ 7 := Nat.pow_le_pow_right (by omega) (by omega)
    have := Nat.mul_le_mul a b
    omega
  rw [h1, show (1 : Int) = ((1 : Nat) : Int) from rfl, h3, Nat.and_one_is_mod]
  have h5 : ((t / 2 ^ k % 2 : Nat) : Int) % 256 * 2 ^ s % 256 = ((t / 2 ^ k % 2 * 2 ^ s : Nat) : Int) := by
    rw [show ((t / 2 ^ k % 2 : Nat) : Int) % 256 = ((t / 2 ^ k % 2 : Nat) : Int) by omega, show ((2 : Int) ^ s) = ((2 ^ s : Nat) : Int) by rw [Int.natCast_pow]; rfl, ← Int.natCast_mul]
    omega
  rw [h5]
  exact u8_xor_nat u _ hu h4
theorem brel_step {w wr : World} {g cap n p t k u : Nat} {l d : List Int} (hn : l.length = n) (hd : d.length = n) (hb : Byt d) (hu : d.getD ((p + k) / 8) 0 = u) (hu2 : u < 256) (ht : t < 4294967296)
    (hx : num (d.set ((p + k) / 8) (((d.getD ((p + k) / 8) 0).toNat ^^^ (t / 2 ^ k % 2 * 2 ^ ((p + k) % 8)) : Nat) : Int)) = num l ^^^ 2 ^ p * (t % 2 ^ (k + 1)))
    (ho : wr.ownsRow w.heap.size 5 1 (.slice (some ⟨g, 0, none⟩) n cap) n (bs d)) (hbe : Below w.heap.size w wr) :
    BRel w g cap l p t (k + 1) (wr.setCell ⟨g, (p + k) / 8, none⟩ (.int .u8 (bits .xor .u8 (u : Int) (bits .and .u32 ((t : Int) / 2 ^ k) 1 % 256 * 2 ^ ((p + k) % 8) % 256)))).drew := by
  rw [byte_eq hu2 ht (Nat.mod_lt _ (by omega))]
  rw [hu, Int.toNat_natCast] at hx
  have hs := ho.stored ((p + k) / 8) (.int .u8 ((u ^^^ (t / 2 ^ k % 2 * 2 ^ ((p + k) % 8)) : Nat) : Int))
  rw [bs_set] at hs
  have h4 : t / 2 ^ k % 2 * 2 ^ ((p + k) % 8) < 256 := by
    have a : t / 2 ^ k % 2 ≤ 1 := by omega
    have b : 2 ^ ((p + k) % 8) ≤ 2 ^ 7 := Nat.pow_le_pow_right (by omega) (by omega)
    have := Nat.mul_le_mul a b
    omega
  exact ⟨_, by rw [List.length_set, hd, hn], Byt.set hb _ (xor_lt8 hu2 h4), hx, by rw [hn]; exact hs.1.drew, (hbe.setCell (p := ⟨g, (p + k) / 8, none⟩) (ho.lt g rfl).1 _).drew⟩

set_option maxRecDepth 100000 in
set_option maxHeartbeats 400000 in
theorem crcBursts_main (a0 : Addr) (len0 cap0 : Nat) (l : List Int) (p t : Nat) (w : World) (hl : l.length = len0) (hlen : len0 ≤ 20000) (hb : Byt l) (hr : Row w (some a0) (bs l))
    (hp : p + 32 ≤ 8 * len0) (ht : 0 < t) (ht2 : t < 4294967296) :
    Calls Try.prog 5 #[.slice (some a0) len0 cap0, .int .i64 (p : Int), .int .u32 (t : Int)] w fun e w' => e = .returned (.bool true) ∧ Below w.heap.size w w' := by
  subst hl
  obtain ⟨i0, hi0, hz0, hz1, hz2⟩ := info_parts Try_info8b
  have HK := Lib.hid known_any
  have HR := Lib.hid hr
  have HB := Lib.hid hb
  have HI := Lib.hid hi0
  have HZ0 := Lib.hid hz0
  have HZ1 := Lib.hid hz1
  have HZ2 := Lib.hid hz2
  clear hr hb hi0 hz0 hz1 hz2
  have d1 : decide ((20000 : Int) < (l.length : Int)) = false := by simp; omega
  have d2 : ((t : Int) == 0) = false := by simp; omega
  have d3 : decide ((p : Int) < 0) = false := by simp
  have d4 : decide (8 * (l.length : Int) - 32 < (p : Int)) = false := by simp; omega
  generalize hn : l.length = n at hlen hp d1 d4
  have HN := Lib.hid hn
  clear hn
  go_enter Try.func5, Try.ntmps5
  go_wp2_with fail
  refine (HK.out _).mono ?_
  rintro e w1 ⟨rfl, hb1⟩
  go_wp2_with (at_builtin; refine wpList_append_own _ rfl (.tmp 30) (.tmp 31) 23 rfl w.heap.size 5 i0 (.int .u8 0) 1 1 Try.underlying23 HI.out HZ0.out HZ1.out HZ2.out rfl (by omega) _ 0 [] rfl (World.ownsRow_made w1 #[] 0 hb1.size (by decide) rfl) a0 n cap0 (bs l) rfl (by rw [bs_len, HN.out]; omega) (bcells ((HR.out.below hb1).alloc _)) (bs_one l) (by unfold maxLen; omega) (by omega) (by simp; exact Nat.le_succ_of_le hb1.size) ?_; intro v' w2 hown hgr hv)
  have h0 := brel_zero hb1 HN.out hown hgr (by omega) HB.out p t
  clear hown hgr hv
  obtain ⟨g, cap, rfl, h0⟩ := h0
  go_loopw [8, 33] (fun _ i wr => ∃ k : Nat, k ≤ 32 ∧ i = .int .i64 k ∧ BRel w g cap l p t k wr) (fun _ i _ => 32 - (intOf i).toNat)
  case atStart => exact ⟨0, by omega, rfl, h0⟩
  case round =>
    obtain ⟨k, hk, rfl, d, hdl, hdb, hdx, hown, hbw⟩ := hrel
    rw [HN.out] at hdl hown
    by_cases hlt : k < 32
    · have hj : (p + k) / 8 < n := by omega
      have hf := hown.frozenAt ((p + k) / 8)
      have hc := (hown.cellAt ((p + k) / 8) (by omega)).trans (bs_get (show (p + k) / 8 < d.length by omega))
      obtain ⟨u, hu, hu2⟩ := Byt.at hdb (show (p + k) / 8 < d.length by omega)
      have HX := Lib.hid (turn_round hdx (show (p + k) / 8 < d.length by omega))
      rw [hu] at hc
      have HU := Lib.hid hu
      have HD := Lib.hid hdl
      have HDB := Lib.hid hdb
      have HO := Lib.hid hown
      clear hu hdl hdb hdx hown
      have e1 : ((p : Int) + (k : Int)) = ((p + k : Nat) : Int) := by omega
      have E1 := Lib.hid e1
      clear e1
      go_wp2_with fail
      go_region
      go_wp2_with fail
      go_roundw
      case rel => exact ⟨k + 1, by omega, by go_num, brel_step HN.out HD.out HDB.out HU.out hu2 ht2 HX.out HO.out hbw⟩
      case measure => simp [intOf]; omega
    · have hk32 : k = 32 := by omega
      subst hk32
      have hrd : Row wr (some ⟨g, 0, none⟩) (bs d) := fun i v hv => ⟨_, rfl, hown.cells (g := g) rfl i v hv⟩
      rw [Nat.mod_eq_of_lt (show t < 2 ^ 32 by omega)] at hdx
      have hne := burst (l := l) (m := d) (at_ := p) (t := t) (by rw [hdl, HN.out]) HB.out hdb (by rw [HN.out]; exact hp) (by omega) ht2 hdx
      have H1 := Lib.hid (sum_any _ n cap d wr hdl (by unfold maxLen; omega) hdb hrd)
      have H2 := Lib.hid fun W hr => sum_any (some a0) n cap0 l W HN.out (by unfold maxLen; omega) HB.out hr
      have hr2 := Lib.hid (HR.out.below hbw)
      clear hdl hdb hdx hown hrd
      generalize more 0 d = S1 at H1 hne
      generalize more 0 l = S2 at H2 hne
      have HNE := Lib.hid hne
      clear hne
      go_wp2_with fail
      refine H1.out.mono ?_
      rintro e w3 ⟨rfl, hb3⟩
      go_wp2_with fail
      refine (H2.out _ (hr2.out.below hb3)).mono ?_
      rintro e w4 ⟨rfl, hb4⟩
      go_wp2_with fail
      go_ret
      have hn2 : ((S1 : Int) != (S2 : Int)) = true := by
        have := HNE.out
        simp only [bne_iff_ne, ne_eq]
        omega
      exact ⟨by rw [hn2]; rfl, hbw.trans ((bnext hb3 hb4).mono hbw.size)⟩

set_option maxRecDepth 100000 in
set_option maxHeartbeats 400000 in
theorem crcBursts_walk (a0 : Option Addr) (len0 cap0 : Nat) (z0 : List Int) (a1 : Int) (a2 : Int) (w : World) (w0 : IsRow .u8 w a0 len0 cap0 z0) (w1 : (Lit.int .i64 a1).wf = true) (w2 : (Lit.int .u32 a2).wf = true) :
    Calls Try.prog 5 #[.slice a0 len0 cap0, .int .i64 a1, .int .u32 a2] w fun e w' => e = .returned (.bool true) ∧ Below w.heap.size w w' := by
  obtain ⟨b1, b2⟩ := wf_i64 w1
  obtain ⟨b3, b4⟩ := wf_u32 w2
  obtain ⟨l, hl, hlc, hcm, hb, hr⟩ := w0.bytes
  obtain ⟨t, rfl⟩ := Int.eq_ofNat_of_zero_le b3
  have hlm : len0 ≤ 9223372036854775807 := by unfold maxLen at hcm; omega
  have HK := Lib.hid known_any
  by_cases h1 : (20000 : Int) < (len0 : Int)
  · clear hl hb hr hlc hcm w0 w1 w2 b1 b2 b3 b4
    go_enter Try.func5, Try.ntmps5
    go_wp2_with fail
    refine (HK.out _).mono ?_
    rintro e w1 ⟨rfl, hb1⟩
    go_wp2_with fail
    go_ret
    exact ⟨rfl, hb1⟩
  have hl2 : len0 ≤ 20000 := by omega
  by_cases h2 : t = 0
  · subst h2
    clear hl hb hr hlc hcm w0 w1 w2 b1 b2 b3 b4 h1
    go_enter Try.func5, Try.ntmps5
    go_wp2_with fail
    refine (HK.out _).mono ?_
    rintro e w1 ⟨rfl, hb1⟩
    go_wp2_with fail
    go_ret
    exact ⟨rfl, hb1⟩
  have d2 : ((t : Int) == 0) = false := by simp; omega
  by_cases h3 : a1 < 0
  · clear hl hb hr hlc hcm w0 w1 w2 b1 b2 b3 b4 h1 h2
    go_enter Try.func5, Try.ntmps5
    go_wp2_with fail
    refine (HK.out _).mono ?_
    rintro e w1 ⟨rfl, hb1⟩
    go_wp2_with fail
    go_ret
    exact ⟨rfl, hb1⟩
  by_cases h4 : 8 * (len0 : Int) - 32 < a1
  · clear hl hb hr hlc hcm w0 w1 w2 b1 b2 b3 b4 h1 h2
    go_enter Try.func5, Try.ntmps5
    go_wp2_with fail
    refine (HK.out _).mono ?_
    rintro e w1 ⟨rfl, hb1⟩
    go_wp2_with fail
    go_ret
    exact ⟨rfl, hb1⟩
  obtain ⟨p, rfl⟩ := Int.eq_ofNat_of_zero_le (show 0 ≤ a1 by omega)
  obtain ⟨a, rfl, _⟩ := Row.byte hr (k := 0) (by omega)
  exact crcBursts_main a len0 cap0 l p t w hl hl2 hb hr (by omega) (by omega) (by omega)
end Go.Proofs.Ytodlklfhegfcoaa
