/-
  What the document's Put does.
-/
import Derived.Test.YtjlemghkaodkkaaTlvPut
namespace Go.Proofs.Ytjlemghkaodkkaa
open Go.RowKit Wire Tlv

/-- The first block of the call holds the thing, and what stood before is as it was. -/
def Kx (w : World) (x : Array Value) (W : World) : Prop := Bk W w.heap.size x 36 ∧ Below w.heap.size w W
theorem Kx.new (w : World) (x : Array Value) : Kx w x (w.alloc (.cells x 36)) := ⟨Bk.new _ _ _, (Below.refl _ _).alloc (Nat.le_refl _) _⟩
theorem Kx.lt {w W : World} {x : Array Value} (h : Kx w x W) : w.heap.size + 1 ≤ W.heap.size := h.1.lt
theorem Kx.next {w W W' : World} {x : Array Value} (h : Kx w x W) (hb : Below W.heap.size W W') : Kx w x W' := ⟨h.1.next hb, bnext' h.2 hb⟩
theorem Kx.nextB {w W W' : World} {x : Array Value} (h : Kx w x W) (hb : Below (w.heap.size + 1) W W') : Kx w x W' := ⟨h.1.nextB hb (by omega), h.2.trans (hb.mono (by omega))⟩
theorem Kx.alloc {w W : World} {x : Array Value} (h : Kx w x W) (o : Obj) : Kx w x (W.alloc o) := h.next ((Below.refl _ _).alloc (Nat.le_refl _) _)
theorem Kx.drew {w W : World} {x : Array Value} (h : Kx w x W) : Kx w x W.drew := ⟨h.1, h.2.drew⟩
theorem Kx.drewN {w W : World} {x : Array Value} (h : Kx w x W) (q : Nat) : Kx w x (W.drewN q) := ⟨h.1, below_drewN h.2 q⟩
theorem Kx.grown_ {w W W' : World} {x : Array Value} {e : TypeId} {s : Nat} {v : Value} {n : Nat} {xs : List Value} (h : Kx w x W) (ho : W.ownsRow (w.heap.size + 1) e s v n xs) (hgr : W.grownBy W' v.ownBlock) : Kx w x W' :=
  h.nextB ((Below.refl _ _).grown hgr h.lt (fun k hk => (ho.lt k hk).1))

theorem own_made2 {w : World} {base : Nat} (hb : base ≤ w.heap.size) (c d : Int) : (w.alloc (.cells #[.int .u8 c, .int .u8 d] 5)).ownsRow base 5 1 (.slice (some ⟨w.heap.size, 0, none⟩) 2 2) 2 (bs [c, d]) :=
  ⟨rfl, .inr ⟨w.heap.size, 2, _, rfl, hb, heap_alloc_new _ _, Nat.le_refl _, by unfold maxLen; omega, rfl, rfl⟩⟩
theorem rep_snoc (l : List Int) (j : Nat) : l ++ List.replicate j 0 ++ [0] = l ++ List.replicate (j + 1) 0 := by rw [List.append_assoc, ← List.replicate_succ']
/-- The row so far, with zeros behind it. -/
def Zr (w : World) (l : List Int) (j : Nat) (v : Value) (W : World) : Prop := ∃ A m c, v = .slice A m c ∧ m = l.length + j ∧ W.ownsRow w.heap.size 5 1 (.slice A m c) m (bs (l ++ List.replicate j 0)) ∧ Below w.heap.size w W
def lenOf : Value → Nat | .slice _ m _ => m | _ => 0
theorem bytes2_any (z : Int) (y : Nat) (w : World) (hz : z = y) (hy : y < 4294967296) :
    Calls Try.prog 44 #[.int .u64 z, .int .i64 2] w fun e w' => ∃ g, e = .returned (.slice (some ⟨g, 0, none⟩) 2 2) ∧ Own w w' (some ⟨g, 0, none⟩) 2 2 (be 2 y) := by
  subst hz
  exact (bytes_any y 2 w hy (by omega)).mono fun _ _ ⟨he, ho⟩ => ⟨_, he, ho⟩
set_option maxRecDepth 100000 in
set_option maxHeartbeats 1000000 in
theorem trput_bad (ch : Bool) (x : Tv) (A : Option Addr) (n c : Nat) (w : World) (hx : x.ok) (hl : x.v.length = n) (hn : n ≤ 140737488355328) (hbad : ¬ fit ch x ∨ 65531 < n) :
    Calls Try.prog 25 #[.bool ch, .agg #[.int .u16 (x.k : Int), .int .u8 (x.f : Int), .slice A n c]] w (PutOut w (tp ch x)) := by
  have hk := hx.1
  have hf := hx.2.1
  have HNB : Hid (Own w (w.alloc (.cells #[.int .u16 (x.k : Int), .int .u8 (x.f : Int), .slice A n c] 36)) none 0 0 []) := ⟨World.ownsRow_nil _ _ _ _, (Below.refl _ _).alloc (Nat.le_refl _) _⟩
  by_cases h1 : fit ch x
  · have h2 : 65531 < n := hbad.resolve_left (fun h => h h1)
    have htp : tp ch x = ([], 3) := by unfold tp; rw [if_neg (by simpa using h1), if_pos (by omega)]
    rw [htp]
    have d1 : decide ((65531 : Int) < (n : Int)) = true := by simp; omega
    unfold fit at h1
    clear htp hbad hl hx
    generalize x.k = k at *
    generalize x.f = f at *
    cases ch
    · simp only [Bool.false_eq_true, if_false] at h1
      have d2 : decide (0 < f) = false := by simp; omega
      clear h1
      go_enter Try.func25, Try.ntmps25
      go_wp2_with fail
      go_ret2
      exact ⟨_, _, _, rfl, HNB.out⟩
    · simp only [if_true] at h1
      have d2 : decide ((255 : Int) < (k : Int)) = false := by simp; omega
      clear h1
      go_enter Try.func25, Try.ntmps25
      go_wp2_with fail
      go_ret2
      exact ⟨_, _, _, rfl, HNB.out⟩
  · have htp : tp ch x = ([], 2) := by unfold tp; rw [if_pos (by simpa using h1)]
    rw [htp]
    unfold fit at h1
    clear htp hbad hl hx
    generalize x.k = k at *
    generalize x.f = f at *
    cases ch
    · simp only [Bool.false_eq_true, if_false] at h1
      have d2 : decide (0 < f) = true := by simp; omega
      clear h1
      go_enter Try.func25, Try.ntmps25
      go_wp2_with fail
      go_ret2
      exact ⟨_, _, _, rfl, HNB.out⟩
    · simp only [if_true] at h1
      have d2 : decide ((255 : Int) < (k : Int)) = true := by simp; omega
      clear h1
      go_enter Try.func25, Try.ntmps25
      go_wp2_with fail
      go_ret2
      exact ⟨_, _, _, rfl, HNB.out⟩

set_option maxRecDepth 100000 in
set_option maxHeartbeats 2000000 in
theorem trput_good (ch : Bool) (x : Tv) (A : Option Addr) (n c : Nat) (w : World) (hx : x.ok) (hl : x.v.length = n) (hn : n ≤ 65531) (hfit : fit ch x) (hr : Row w A (bs x.v)) (hz : A = none → n = 0 ∧ c = 0) :
    Calls Try.prog 25 #[.bool ch, .agg #[.int .u16 (x.k : Int), .int .u8 (x.f : Int), .slice A n c]] w (PutOut w (tp ch x)) := by
  have hk := hx.1
  have hf := hx.2.1
  have htp : tp ch x = (tb ch x, 0) := by unfold tp; rw [if_neg (by simpa using hfit), if_neg (by omega)]
  rw [htp]
  have htb : tb ch x = (hd ch x.k x.f ++ be 2 (n + 4) ++ x.v) ++ List.replicate (whl (4 + n) - (4 + n)) 0 := by unfold tb; rw [hl]; simp [List.append_assoc]
  have hw := whl_le (4 + n)
  have hp0 : Hid (Kx w #[.int .u16 (x.k : Int), .int .u8 (x.f : Int), .slice A n c] (w.alloc (.cells #[.int .u16 (x.k : Int), .int .u8 (x.f : Int), .slice A n c] 36))) := Kx.new _ _
  obtain ⟨i0, hi0, hz0, hz1, hz2⟩ := info_parts Try_info8
  have HI := Lib.hid hi0
  have HZ0 := Lib.hid hz0
  have HZ1 := Lib.hid hz1
  have HZ2 := Lib.hid hz2
  have HTB := Lib.hid htb
  have HL := Lib.hid hl
  have HR := Lib.hid hr
  have HZ := Lib.hid hz
  have d1 : decide ((65531 : Int) < (n : Int)) = false := by simp; omega
  unfold fit at hfit
  clear hx htp htb hl hr hz hi0 hz0 hz1 hz2
  obtain ⟨k, hke⟩ : ∃ k, x.k = k := ⟨_, rfl⟩
  obtain ⟨f, hfe⟩ : ∃ f, x.f = f := ⟨_, rfl⟩
  obtain ⟨l, hle⟩ : ∃ l, x.v = l := ⟨_, rfl⟩
  rw [hke, hfe] at hp0 
  rw [hke] at hk hfit
  rw [hfe] at hf hfit
  rw [hke, hfe, hle] at HTB
  rw [hke, hfe]
  rw [hle] at HL HR
  generalize tb ch x = tbx at HTB ⊢
  clear hke hfe hle
  have wk : IntKind.u64.wrap (k : Int) = (k : Int) := by rw [IntKind.wrap_u64]; omega
  have wn : IntKind.u64.wrap ((n : Int) + 4) = (n : Int) + 4 := by rw [IntKind.wrap_u64]; omega
  cases ch
  · simp only [Bool.false_eq_true, if_false] at hfit
    have d2 : decide (0 < f) = false := by simp; omega
    clear hfit
    go_enter Try.func25, Try.ntmps25
    go_wp2_with fail
    (with_reducible refine (bytes2_any _ k _ rfl (by omega)).mono ?_)
    rintro e w1 ⟨g, rfl, ho1⟩
    have HO : Hid (w1.ownsRow (w.heap.size + 1) 5 1 (.slice (some ⟨g, 0, none⟩) 2 2) 2 (bs (hd false k f))) := own_base ho1.1 (by simp)
    have HK := Lib.hid (hp0.out.next ho1.2)
    clear ho1 hp0
    go_upto_region 10 with fail
    have p2 := HK.out.1.cell 2
    simp at p2
    go_wp2_with fail
    (with_reducible refine (bytes2_any _ (n + 4) _ (by omega) (by omega)).mono ?_)
    rintro e w4 ⟨b4, rfl, ho4⟩
    have HO4 := Lib.hid ho4
    have HK4 := Lib.hid (HK.out.next ho4.2)
    have HOd := Lib.hid (own_below HO.out ho4.2)
    clear ho4 p2
    go_upto_region 11 with (at_builtin; refine wpList_append_lies _ rfl (.tmp 35) (.tmp 41) 24 rfl (w.heap.size + 1) 5 i0 (.int .u8 0) 1 1 Try.underlying24 HI.out HZ0.out HZ1.out HZ2.out rfl (by decide) _ _ _ rfl HOd.out ⟨b4, 0, none⟩ 2 2 (bs (be 2 (n + 4))) rfl (by rw [bs_len, be_len]) (bcells HO4.out.row) (bs_one _) (by omega) (by unfold maxLen; omega) (by omega) HK4.out.lt _ rfl ?_; intro b5 cap5 w5 hown5 hgrow5 _ _)
    rw [bs_app] at hown5
    have HO5 := Lib.hid hown5
    have HK5 := Lib.hid (HK4.out.grown_ HOd.out hgrow5)
    have HR5 := Lib.hid (HR.out.below HK5.out.2)
    have p2 := HK5.out.1.cell 2
    simp at p2
    clear hown5 hgrow5
    have hlen4 : (hd false k f ++ be 2 (n + 4) ++ l).length = 4 + n := by simp [hd_len, be_len, HL.out]; omega
    have HLEN := Lib.hid hlen4
    clear hlen4
    go_cut [6] from 47 to 54 (fun v6 W => Zr w (hd false k f ++ be 2 (n + 4) ++ l) 0 v6 W)
    case first =>
      rcases A with _ | a
      · obtain ⟨rfl, rfl⟩ := HZ.out rfl
        have hl0 : l = [] := List.eq_nil_of_length_eq_zero HL.out
        subst hl0
        go_wp2_with (at_builtin; refine wpList_append_own_none rfl (.tmp 43) (.tmp 45) 24 rfl (w.heap.size + 1) 5 i0 1 Try.underlying24 HI.out _ _ _ rfl HO5.out rfl ?_)
        go_wp2_with fail
        go_meet
        case rel => exact ⟨_, _, _, rfl, by rw [HLEN.out], by simpa using own_base HO5.out (Nat.le_succ _), HK5.out.2⟩
      · go_wp2_with (at_builtin; refine wpList_append_own _ rfl (.tmp 43) (.tmp 45) 24 rfl (w.heap.size + 1) 5 i0 (.int .u8 0) 1 1 Try.underlying24 HI.out HZ0.out HZ1.out HZ2.out rfl (by decide) _ _ _ rfl HO5.out a n c (bs l) rfl (by rw [bs_len, HL.out]; omega) (bcells HR5.out) (bs_one l) (by unfold maxLen; omega) (by omega) HK5.out.lt ?_; intro v' w8 hown hgr hv)
        rw [bs_app] at hown
        have HK8 := Lib.hid (HK5.out.grown_ HO5.out hgr)
        have HO8 := Lib.hid hown
        clear hown hgr hv
        obtain ⟨A', c', rfl⟩ := own_form HO8.out
        go_wp2_with fail
        go_meet
        case rel => exact ⟨_, _, _, rfl, by rw [HLEN.out]; omega, by simpa using own_base HO8.out (Nat.le_succ _), HK8.out.2⟩
    case rest =>
      obtain ⟨A6, m6, c6, rfl, hm6, ho6, hb6⟩ := hcut
      have HZr : Hid (Zr w (hd false k f ++ be 2 (n + 4) ++ l) 0 (.slice A6 m6 c6) wc) := ⟨_, _, _, rfl, hm6, ho6, hb6⟩
      clear hm6 ho6 hb6 HK5 HO5 HO4 HK4 HOd HO HK HR5 p2
      generalize hd false k f ++ be 2 (n + 4) ++ l = L at HTB HZr HLEN
      go_wp2_with fail
      go_loopw [6] (fun v wr => ∃ (j m : Nat) (A' : Option Addr) (c' : Nat), j ≤ whl (4 + n) - (4 + n) ∧ v = .slice A' m c' ∧ Hid (m = 4 + n + j) ∧ Hid (Zr w L j (.slice A' m c') wr)) (fun v _ => 70000 - lenOf v)
      case atStart => exact ⟨0, m6, A6, c6, by omega, rfl, by obtain ⟨_, _, _, h1, h2, _⟩ := HZr.out; injection h1 with _ h1 _; rw [HLEN.out] at h2; exact Lib.hid (by omega), HZr⟩
      case round =>
        clear HZr
        obtain ⟨j, m, A', c', hj, rfl, hm, hzr⟩ := hrel
        by_cases hlt : j < whl (4 + n) - (4 + n)
        · have dm : decide ((0 : Int) < (m : Int) % 4) = true := by have := hm.out; simp; omega
          have hmb : m ≤ 65540 := by have := hm.out; omega
          obtain ⟨A'', m'', c'', h1, h2, ho, hb⟩ := hzr.out
          injection h1 with h1 h3 h4
          subst h1; subst h3; subst h4
          have HO9 := Lib.hid (ho.alloc (.cells #[.int .u8 0] 5))
          have HO9' := Lib.hid ho
          have HB9 := Lib.hid hb
          have HM2 := Lib.hid h2
          have hsz := hb.size
          clear ho hb h2
          go_wp2_with (at_builtin; refine wpList_append_lies _ rfl (.tmp 51) (.tmp 52) 24 rfl w.heap.size 5 i0 (.int .u8 0) 1 1 Try.underlying24 HI.out HZ0.out HZ1.out HZ2.out rfl (by decide) _ _ _ rfl HO9.out ⟨wr.heap.size, 0, none⟩ 1 1 (bs [0]) rfl rfl (bcells (Row.new wr _ _ _)) (bs_one _) (by omega) (by unfold maxLen; omega) (by omega) (by simp; omega) _ rfl ?_; intro b7 cap7 w7 hown7 hgrow7 _ _)
          rw [bs_app, rep_snoc] at hown7
          have hb7 : Below w.heap.size w w7 := (HB9.out.alloc (by omega) _).grown hgrow7 (by simp; omega) (fun k hk => (HO9'.out.lt k hk).1)
          have HN : Hid (Zr w L (j + 1) (.slice (some ⟨b7, 0, none⟩) (m + 1) cap7) w7) := ⟨_, _, _, rfl, by have := HM2.out; omega, hown7, hb7⟩
          clear hown7 hgrow7 hb7
          go_wp2_with fail
          go_roundw
          case rel => exact ⟨j + 1, m + 1, _, _, by omega, rfl, Lib.hid (by have := hm.out; omega), HN⟩
          case measure => simp [lenOf]; omega
        · have dm : decide ((0 : Int) < (m : Int) % 4) = false := by have := hm.out; simp; omega
          obtain ⟨A'', m'', c'', h1, h2, ho, hb⟩ := hzr.out
          injection h1 with h1 h3 h4
          subst h1; subst h3; subst h4
          have hjj : j = whl (4 + n) - (4 + n) := by omega
          rw [hjj, ← HTB.out] at ho
          have HO9 : Hid (Own w wr A' m c' tbx) := ⟨ho, hb⟩
          clear ho hb h2 hjj
          go_wp2_with fail
          go_ret2
          exact ⟨_, _, _, rfl, HO9.out⟩
  · simp only [if_true] at hfit
    have d2 : decide ((255 : Int) < (k : Int)) = false := by simp; omega
    have wf : IntKind.u8.wrap (k : Int) = (k : Int) := by rw [IntKind.wrap_u8]; omega
    clear hfit
    go_enter Try.func25, Try.ntmps25
    go_wp2_with fail
    (with_reducible refine (bytes2_any _ k _ rfl (by omega)).mono ?_)
    rintro e w1 ⟨g, rfl, ho1⟩
    have hk1 := hp0.out.next ho1.2
    have hO : ∀ W, W = w1.alloc (.cells #[.int .u8 (k : Int), .int .u8 (f : Int)] 5) → Hid (W.ownsRow (w.heap.size + 1) 5 1 (.slice (some ⟨w1.heap.size, 0, none⟩) 2 2) 2 (bs (hd true k f))) ∧ Hid (Kx w #[.int .u16 (k : Int), .int .u8 (f : Int), .slice A n c] W) := fun W e => by
      subst e
      exact ⟨own_made2 hk1.lt _ _, hk1.alloc _⟩
    have HO0 := Lib.hid hO
    have p0 := hk1.1.cell 0
    have p1 := hk1.1.cell 1
    simp at p0 p1
    clear ho1 hp0 hO hk1
    go_upto_region 10 with fail
    clear p0 p1
    obtain ⟨HO, HK⟩ := HO0.out _ rfl
    obtain ⟨g, hg⟩ : ∃ g, w1.heap.size = g := ⟨_, rfl⟩
    rw [hg] at HO ⊢
    generalize w1.alloc (.cells #[.int .u8 (k : Int), .int .u8 (f : Int)] 5) = w1 at HO HK ⊢
    clear hg HO0
    have p2 := HK.out.1.cell 2
    simp at p2
    go_wp2_with fail
    (with_reducible refine (bytes2_any _ (n + 4) _ (by omega) (by omega)).mono ?_)
    rintro e w4 ⟨b4, rfl, ho4⟩
    have HO4 := Lib.hid ho4
    have HK4 := Lib.hid (HK.out.next ho4.2)
    have HOd := Lib.hid (own_below HO.out ho4.2)
    clear ho4 p2
    go_upto_region 11 with (at_builtin; refine wpList_append_lies _ rfl (.tmp 35) (.tmp 41) 24 rfl (w.heap.size + 1) 5 i0 (.int .u8 0) 1 1 Try.underlying24 HI.out HZ0.out HZ1.out HZ2.out rfl (by decide) _ _ _ rfl HOd.out ⟨b4, 0, none⟩ 2 2 (bs (be 2 (n + 4))) rfl (by rw [bs_len, be_len]) (bcells HO4.out.row) (bs_one _) (by omega) (by unfold maxLen; omega) (by omega) HK4.out.lt _ rfl ?_; intro b5 cap5 w5 hown5 hgrow5 _ _)
    rw [bs_app] at hown5
    have HO5 := Lib.hid hown5
    have HK5 := Lib.hid (HK4.out.grown_ HOd.out hgrow5)
    have HR5 := Lib.hid (HR.out.below HK5.out.2)
    have p2 := HK5.out.1.cell 2
    simp at p2
    clear hown5 hgrow5
    have hlen4 : (hd true k f ++ be 2 (n + 4) ++ l).length = 4 + n := by simp [hd_len, be_len, HL.out]; omega
    have HLEN := Lib.hid hlen4
    clear hlen4
    go_cut [6] from 47 to 54 (fun v6 W => Zr w (hd true k f ++ be 2 (n + 4) ++ l) 0 v6 W)
    case first =>
      rcases A with _ | a
      · obtain ⟨rfl, rfl⟩ := HZ.out rfl
        have hl0 : l = [] := List.eq_nil_of_length_eq_zero HL.out
        subst hl0
        go_wp2_with (at_builtin; refine wpList_append_own_none rfl (.tmp 43) (.tmp 45) 24 rfl (w.heap.size + 1) 5 i0 1 Try.underlying24 HI.out _ _ _ rfl HO5.out rfl ?_)
        go_wp2_with fail
        go_meet
        case rel => exact ⟨_, _, _, rfl, by rw [HLEN.out], by simpa using own_base HO5.out (Nat.le_succ _), HK5.out.2⟩
      · go_wp2_with (at_builtin; refine wpList_append_own _ rfl (.tmp 43) (.tmp 45) 24 rfl (w.heap.size + 1) 5 i0 (.int .u8 0) 1 1 Try.underlying24 HI.out HZ0.out HZ1.out HZ2.out rfl (by decide) _ _ _ rfl HO5.out a n c (bs l) rfl (by rw [bs_len, HL.out]; omega) (bcells HR5.out) (bs_one l) (by unfold maxLen; omega) (by omega) HK5.out.lt ?_; intro v' w8 hown hgr hv)
        rw [bs_app] at hown
        have HK8 := Lib.hid (HK5.out.grown_ HO5.out hgr)
        have HO8 := Lib.hid hown
        clear hown hgr hv
        obtain ⟨A', c', rfl⟩ := own_form HO8.out
        go_wp2_with fail
        go_meet
        case rel => exact ⟨_, _, _, rfl, by rw [HLEN.out]; omega, by simpa using own_base HO8.out (Nat.le_succ _), HK8.out.2⟩
    case rest =>
      obtain ⟨A6, m6, c6, rfl, hm6, ho6, hb6⟩ := hcut
      have HZr : Hid (Zr w (hd true k f ++ be 2 (n + 4) ++ l) 0 (.slice A6 m6 c6) wc) := ⟨_, _, _, rfl, hm6, ho6, hb6⟩
      clear hm6 ho6 hb6 HK5 HO5 HO4 HK4 HOd HO HK HR5 p2
      generalize hd true k f ++ be 2 (n + 4) ++ l = L at HTB HZr HLEN
      go_wp2_with fail
      go_loopw [6] (fun v wr => ∃ (j m : Nat) (A' : Option Addr) (c' : Nat), j ≤ whl (4 + n) - (4 + n) ∧ v = .slice A' m c' ∧ Hid (m = 4 + n + j) ∧ Hid (Zr w L j (.slice A' m c') wr)) (fun v _ => 70000 - lenOf v)
      case atStart => exact ⟨0, m6, A6, c6, by omega, rfl, by obtain ⟨_, _, _, h1, h2, _⟩ := HZr.out; injection h1 with _ h1 _; rw [HLEN.out] at h2; exact Lib.hid (by omega), HZr⟩
      case round =>
        clear HZr
        obtain ⟨j, m, A', c', hj, rfl, hm, hzr⟩ := hrel
        by_cases hlt : j < whl (4 + n) - (4 + n)
        · have dm : decide ((0 : Int) < (m : Int) % 4) = true := by have := hm.out; simp; omega
          have hmb : m ≤ 65540 := by have := hm.out; omega
          obtain ⟨A'', m'', c'', h1, h2, ho, hb⟩ := hzr.out
          injection h1 with h1 h3 h4
          subst h1; subst h3; subst h4
          have HO9 := Lib.hid (ho.alloc (.cells #[.int .u8 0] 5))
          have HO9' := Lib.hid ho
          have HB9 := Lib.hid hb
          have HM2 := Lib.hid h2
          have hsz := hb.size
          clear ho hb h2
          go_wp2_with (at_builtin; refine wpList_append_lies _ rfl (.tmp 51) (.tmp 52) 24 rfl w.heap.size 5 i0 (.int .u8 0) 1 1 Try.underlying24 HI.out HZ0.out HZ1.out HZ2.out rfl (by decide) _ _ _ rfl HO9.out ⟨wr.heap.size, 0, none⟩ 1 1 (bs [0]) rfl rfl (bcells (Row.new wr _ _ _)) (bs_one _) (by omega) (by unfold maxLen; omega) (by omega) (by simp; omega) _ rfl ?_; intro b7 cap7 w7 hown7 hgrow7 _ _)
          rw [bs_app, rep_snoc] at hown7
          have hb7 : Below w.heap.size w w7 := (HB9.out.alloc (by omega) _).grown hgrow7 (by simp; omega) (fun k hk => (HO9'.out.lt k hk).1)
          have HN : Hid (Zr w L (j + 1) (.slice (some ⟨b7, 0, none⟩) (m + 1) cap7) w7) := ⟨_, _, _, rfl, by have := HM2.out; omega, hown7, hb7⟩
          clear hown7 hgrow7 hb7
          go_wp2_with fail
          go_roundw
          case rel => exact ⟨j + 1, m + 1, _, _, by omega, rfl, Lib.hid (by have := hm.out; omega), HN⟩
          case measure => simp [lenOf]; omega
        · have dm : decide ((0 : Int) < (m : Int) % 4) = false := by have := hm.out; simp; omega
          obtain ⟨A'', m'', c'', h1, h2, ho, hb⟩ := hzr.out
          injection h1 with h1 h3 h4
          subst h1; subst h3; subst h4
          have hjj : j = whl (4 + n) - (4 + n) := by omega
          rw [hjj, ← HTB.out] at ho
          have HO9 : Hid (Own w wr A' m c' tbx) := ⟨ho, hb⟩
          clear ho hb h2 hjj
          go_wp2_with fail
          go_ret2
          exact ⟨_, _, _, rfl, HO9.out⟩
end Go.Proofs.Ytjlemghkaodkkaa
