/-
  What chunk.Put does.
-/
import Derived.Test.YtbliipjiilmbcaaYP1b
import Derived.Test.YtbliipjiilmbcaaYChunkMay4
import Derived.BigRegion
import Derived.Test.YtbliipjiilmbcaaYTlvIter
namespace Go.Proofs.Ytbliipjiilmbcaa
open Go.RowKit Wire Tlv Chunk

theorem body_le {c : Ck} (h : may c) (hp : pars c ≠ []) : (body c).length ≤ 400 := by
  have hn := nums_le h.1.ga64 h.1.du16
  obtain ⟨⟨f1, f2, f3, f4, f5, f6, f7, f8, f9, f10, f11, f12⟩, _⟩ := h
  simp only [hDa, hIn, hCa] at f4 f6 f8
  unfold body
  by_cases h2 : c.kd = 2
  · rw [if_pos h2, List.append_nil]
    exact hn
  · rw [if_neg h2, List.length_append]
    have : c.da.length = 0 := by
      rcases f4 with f4 | f4
      · exfalso
        apply hp
        unfold pars
        rw [if_neg h2]
        have e1 : c.ad.length = 0 := by omega
        have e2 : c.ca.length = 0 := by omega
        rw [List.eq_nil_of_length_eq_zero e1, List.eq_nil_of_length_eq_zero e2]
        rfl
      · exact f4
    omega
theorem cput_no {c : Ck} (h : ¬ may c) : cput c = ([], 50) := by unfold cput; rw [if_neg h]
theorem cput_long {c : Ck} (h : may c) (hl : 65531 < (val c).length) : cput c = ([], 3) := by unfold cput; rw [if_pos h, if_pos hl]
theorem cput_ok {c : Ck} (h : may c) (hl : ¬ 65531 < (val c).length) : cput c = (tb true ⟨c.kd, c.fl, val c⟩, 0) := by unfold cput; rw [if_pos h, if_neg hl]
theorem tp_true {k f : Nat} {l : List Int} (hk : k < 256) : tp true ⟨k, f, l⟩ = if 65531 < l.length then ([], 3) else (tb true ⟨k, f, l⟩, 0) := by
  unfold tp
  rw [if_neg (by simp [fit]; omega)]
theorem tp_cput {c : Ck} (h : may c) (hok : c.ok) : tp true ⟨c.kd, c.fl, val c⟩ = cput c := by
  rw [tp_true hok.kd]
  split
  · rename_i hl
    rw [cput_long h hl]
  · rename_i hl
    rw [cput_ok h hl]
set_option maxRecDepth 100000 in
set_option maxHeartbeats 1000000 in
theorem ckPut_any (c : Ck) (s : Ls) (w : World) (h : Ch w c s) :
    Calls Try.prog 16 #[.agg (cv c s)] w (PutOut w (cput c)) := by
  have HU : Hid (U1 w (cv c s) _) := Lib.hid (U1.new w (cv c s))
  have HC : Hid (Ch _ c s) := Lib.hid (h.alloc (.cells (cv c s) 32))
  have HCI := Lib.hid (cv_info c s)
  by_cases hm : may c
  · have CM := Lib.hid fun W (hW : Ch W c s) => ckMay_any c s W hW
    rw [mayB_true hm] at CM
    have hf := hm.1
    have hz := h.z
    have CV := Lib.hid fun W (hW : Ch W c s) => value_any c s W hW (by have := hf.ad3; have := hz.a; omega) (by have := hf.ga64; have := hz.g; omega) (by have := hf.du16; have := hz.u; omega) (body_le hm)
    have HM := Lib.hid hm
    have HOK := Lib.hid h.ok
    have wk : IntKind.u16.wrap (c.kd : Int) = (c.kd : Int) := by rw [IntKind.wrap_u16]; have := h.ok.kd; omega
    clear hm hf hz h
    go_enter Try.func16, Try.ntmps16
    go_upto_region 1 with fail
    generalize World.alloc w _ = W1 at HU HC ⊢
    have hlt := HU.out.1.lt
    go_wp2_with ((refine wpList_load_row rfl 32 (.tmp 1) rfl w.heap.size rfl 32 (cv c s) (0, 0) _ HU.out.1 Try.underlying32 rfl HCI.out ?_))
    (with_reducible refine (CM.out _ HC.out).mono ?_)
    rintro e W2 ⟨rfl, hb2⟩
    have HC2 := Lib.hid (HC.out.next hb2)
    have HU2 := Lib.hid (HU.out.next hb2)
    clear hb2
    go_wp2_with ((refine wpList_load_row rfl 32 (.tmp 1) rfl w.heap.size rfl 32 (cv c s) (0, 0) _ HU2.out.1 Try.underlying32 rfl HCI.out ?_))
    (with_reducible refine (CV.out _ HC2.out).mono ?_)
    rintro e W3 ⟨A, n, c', l, er, rfl, ho, her, hn⟩
    have HU3 := Lib.hid (HU2.out.next ho.2)
    rcases her with ⟨rfl, hl⟩ | ⟨rfl, hl⟩
    · have hP := tput_any true ⟨c.kd, c.fl, l⟩ A n c' W3 ⟨by have := HOK.out.kd; show c.kd < 65536; omega, HOK.out.fl, by rw [hl]; exact val_byt HOK.out⟩ ho.len (by omega) ho.row
      have hk : Hid (tp true ⟨c.kd, c.fl, l⟩ = cput c) := Lib.hid (by rw [hl]; exact tp_cput HM.out HOK.out)
      rw [hk.out] at hP
      have HP := Lib.hid hP
      have g0 := HU3.out.1.c0
      have g1 := HU3.out.1.c1
      clear hP hk hl ho
      go_wp2_with fail
      (with_reducible refine HP.out.mono ?_)
      rintro e W4 ⟨A4, n4, c4, rfl, ho4⟩
      have HO4 : Hid (Own w W4 A4 n4 c4 (cput c).1) := Lib.hid ⟨own_base ho4.1 HU3.out.2.size, HU3.out.2.trans (ho4.2.mono HU3.out.2.size)⟩
      clear ho4 g0 g1
      go_wp2_with fail
      go_ret2
      exact ⟨_, _, _, rfl, HO4.out⟩
    · have hk := Lib.hid (cput_long HM.out hl)
      clear hl ho
      go_wp2_with fail
      go_ret2
      refine ⟨none, 0, 0, ?_, ?_⟩
      · rw [hk.out]
        rfl
      · rw [hk.out]
        exact ⟨World.ownsRow_nil _ _ _ _, HU3.out.2⟩
  · have CM := Lib.hid fun W (hW : Ch W c s) => ckMay_any c s W hW
    rw [mayB_false hm] at CM
    have hk := Lib.hid (cput_no hm)
    clear hm h
    go_enter Try.func16, Try.ntmps16
    go_upto_region 1 with fail
    generalize World.alloc w _ = W1 at HU HC ⊢
    go_wp2_with ((refine wpList_load_row rfl 32 (.tmp 1) rfl w.heap.size rfl 32 (cv c s) (0, 0) _ HU.out.1 Try.underlying32 rfl HCI.out ?_))
    (with_reducible refine (CM.out _ HC.out).mono ?_)
    rintro e W2 ⟨rfl, hb2⟩
    have HU2 := Lib.hid (HU.out.next hb2)
    clear hb2
    go_wp2_with fail
    go_ret2
    refine ⟨none, 0, 0, ?_, ?_⟩
    · rw [hk.out]
      rfl
    · rw [hk.out]
      exact ⟨World.ownsRow_nil _ _ _ _, HU2.out.2⟩
end Go.Proofs.Ytbliipjiilmbcaa
/-
  What chunk.Take does, given what the method that reads does.
-/
namespace Go.Proofs.Ytbliipjiilmbcaa
open Go.RowKit Wire Tlv Chunk

/-- What taking leaves. -/
def TakeOut (w : World) (o : Option Ck) (e : Ending) (w' : World) : Prop :=
  match o with
  | none => e = .returned (.tuple #[.agg (cv zero nol), .int .i64 50]) ∧ Below w.heap.size w w'
  | some c => ∃ s, e = .returned (.tuple #[.agg (cv c s), .int .i64 0]) ∧ ChF w.heap.size w' c s ∧ Below w.heap.size w w'
/-- The blocks of the call: the thing, the answer. -/
def T2 (w : World) (xv z : Array Value) (W : World) : Prop := Bk W w.heap.size xv 25 ∧ Bk W (w.heap.size + 1) z 32 ∧ Below w.heap.size w W
theorem T2.new (w : World) (xv z : Array Value) : T2 w xv z ((w.alloc (.cells xv 25)).alloc (.cells z 32)) := by
  refine ⟨(Bk.new w xv _).alloc _, ?_, ((Below.refl _ _).alloc (Nat.le_refl _) _).alloc (by simp) _⟩
  have := Bk.new (w.alloc (.cells xv 25)) z 32
  rw [World.size_alloc] at this
  exact this
theorem T2.next {w W W' : World} {xv z : Array Value} (h : T2 w xv z W) (hb : Below W.heap.size W W') : T2 w xv z W' := ⟨h.1.next hb, h.2.1.next hb, bnext' h.2.2 hb⟩
theorem T2.ot {w W W' : World} {xv z : Array Value} {b : Nat} (h : T2 w xv z W) (k : Ot W W' b) (hb : w.heap.size + 1 < b) : T2 w xv z W' :=
  ⟨(k.block _ h.1.lt (by simp; omega)).trans h.1, (k.block _ h.2.1.lt (by simp; omega)).trans h.2.1, below_ot h.2.2 k h.2.2.size (by omega)⟩
theorem T2.row {w W : World} {xv z : Array Value} (h : T2 w xv z W) (z' : Array Value) : T2 w xv z' (W.setRow (w.heap.size + 1) z') :=
  ⟨h.1.rowO (by omega) _, h.2.1.row_ _, below_setRow h.2.2 (by omega) _⟩
theorem zlit_one : zlit.all (·.oneCell') = true := by simp [zlit, Value.oneCell']
theorem zlit_info : (Try.prog.info? 32).map (·.size) = some zlit.size := ckinfo
set_option maxRecDepth 100000 in
set_option maxHeartbeats 1000000 in
theorem ckTake_no (x : Tv) (A : Option Addr) (n cp : Nat) (w : World) (hk : 255 < x.k) :
    Calls Try.prog 12 #[.agg #[.int .u16 (x.k : Int), .int .u8 (x.f : Int), .slice A n cp]] w (TakeOut w (take x)) := by
  have ht : take x = none := by unfold take; rw [if_pos hk]
  rw [ht]
  have HT : Hid (T2 w #[.int .u16 (x.k : Int), .int .u8 (x.f : Int), .slice A n cp] zlit _) := Lib.hid (T2.new w _ zlit)
  have d : decide ((255 : Int) < (x.k : Int)) = true := by simp; omega
  have HI := Lib.hid zlit_info
  have HO := Lib.hid zlit_one
  generalize x.k = k at *
  generalize x.f = f at *
  clear hk ht
  go_enter Try.func12, Try.ntmps12
  go_upto_region 1 with fail
  generalize World.alloc (World.alloc w _) _ = W1 at HT ⊢
  have g0 := HT.out.1.cell 0
  simp at g0
  go_wp2_with ((refine wpList_store_row rfl 32 (.tmp 2) (.tmp 15) rfl (w.heap.size + 1) zlit rfl rfl 32 zlit HT.out.2.1 HI.out rfl HO.out ?_))
  have hT2 := HT.out.row zlit
  generalize W1.setRow _ _ = W2 at hT2 ⊢
  have hz : Bk W2 (w.heap.size + 1) (cv zero nol) 32 := hT2.2.1
  refine bodyPost_ret (v := .tuple #[.agg (cv zero nol), .int .i64 50]) (by simp [results, Try.results12, go_sem, hz.c0, hz.c1, hz.c2, hz.c3, hz.c4, hz.c5, hz.c6, hz.c7, hz.c8, hz.c9, hz.c10, hz.c11, hz.c12, hz.c13, hz.c14, cv]) rfl ⟨rfl, hT2.2.2⟩
end Go.Proofs.Ytbliipjiilmbcaa
/-
  What chunk.Take does, given what the method 'any' does.
-/
namespace Go.Proofs.Ytbliipjiilmbcaa
open Go.RowKit Wire Tlv Chunk

theorem ckMay_lit (c : Ck) (s : Ls) (w : World) (h : Ch w c s) :
    Calls Try.prog 18 #[.agg #[.int .u8 (c.kd : Int), .int .u8 (c.fl : Int), .int .u32 (c.tag : Int), .int .u32 (c.rw : Int), .int .u32 (c.tsn : Int), .int .u16 (c.out : Int), .int .u16 (c.inn : Int), .int .u16 (c.sid : Int), .int .u16 (c.ssn : Int), .int .u32 (c.ppid : Int),
  .slice s.dA s.dn s.dc, .slice s.aA s.an s.ac, .slice s.gA s.gn s.gc, .slice s.uA s.un s.uc, .slice s.cA s.cn s.cc]] w fun e w' => e = .returned (.bool (mayB c)) ∧ Below w.heap.size w w' := ckMay_any c s w h
/-- The blocks of the call, the reader too. -/
def T3 (w : World) (x : Tv) (A : Option Addr) (n cp : Nat) (W : World) : Prop := T2 w #[.int .u16 (x.k : Int), .int .u8 (x.f : Int), .slice A n cp] zlit W ∧ Bk W (w.heap.size + 1 + 1) (rv A n cp zero nol false) 65
/-- A reader with nothing but what is left to read, written out. -/
abbrev rlit (A : Option Addr) (n cp : Nat) : Array Value := #[.slice A n cp, .int .u8 0, .int .u8 0, .int .u32 0, .int .u32 0, .int .u32 0, .int .u16 0, .int .u16 0, .int .u16 0, .int .u16 0, .int .u32 0, .slice none 0 0, .slice none 0 0, .slice none 0 0, .slice none 0 0, .slice none 0 0, .bool false]
theorem T3.new (w : World) (x : Tv) (A : Option Addr) (n cp : Nat) : T3 w x A n cp (((w.alloc (.cells #[.int .u16 (x.k : Int), .int .u8 (x.f : Int), .slice A n cp] 25)).alloc (.cells zlit 32)).alloc (.cells (rlit A n cp) 65)) := by
  refine ⟨(T2.new w _ _).next ((Below.refl _ _).alloc (Nat.le_refl _) _), ?_⟩
  have := Bk.new ((w.alloc (.cells #[.int .u16 (x.k : Int), .int .u8 (x.f : Int), .slice A n cp] 25)).alloc (.cells zlit 32)) (rv A n cp zero nol false) 65
  rw [World.size_alloc, World.size_alloc] at this
  exact this
theorem rv_kd (A : Option Addr) (n cap : Nat) (c : Ck) (s : Ls) (bad : Bool) (x : Nat) : (rv A n cap c s bad).setIfInBounds 1 (.int .u8 (x : Int)) = rv A n cap { c with kd := x } s bad := by simp [rv]
theorem rv_fl (A : Option Addr) (n cap : Nat) (c : Ck) (s : Ls) (bad : Bool) (x : Nat) : (rv A n cap c s bad).setIfInBounds 2 (.int .u8 (x : Int)) = rv A n cap { c with fl := x } s bad := by simp [rv]
theorem T3.set {w W : World} {x : Tv} {A : Option Addr} {n cp : Nat} (h : T3 w x A n cp W) : T2 w #[.int .u16 (x.k : Int), .int .u8 (x.f : Int), .slice A n cp] zlit ((W.setCell ⟨w.heap.size + 1 + 1, 1, none⟩ (.int .u8 (x.k : Int))).setCell ⟨w.heap.size + 1 + 1, 2, none⟩ (.int .u8 (x.f : Int))).drew ∧
    Bk ((W.setCell ⟨w.heap.size + 1 + 1, 1, none⟩ (.int .u8 (x.k : Int))).setCell ⟨w.heap.size + 1 + 1, 2, none⟩ (.int .u8 (x.f : Int))).drew (w.heap.size + 1 + 1) (rv A n cp (bare x) nol false) 65 := by
  refine ⟨h.1.ot ((((Ot.refl W _).set 1 _).set 2 _).drew) (by omega), ?_⟩
  have := (h.2.set 1 (.int .u8 (x.k : Int))).set 2 (.int .u8 (x.f : Int))
  rw [rv_kd, rv_fl] at this
  exact this
theorem cv_range {W : World} {b : Nat} {A : Option Addr} {n cp : Nat} {c : Ck} {s : Ls} {bad : Bool} {t : TypeId} (h : Bk W b (rv A n cp c s bad) t) : W.rangeAt b 1 (cv c s).toList := fun j v hj => by
  rw [h.cell]
  have hl : j < 15 := by have := (List.getElem?_eq_some_iff.1 hj).1; simpa [cv] using this
  rcases (show j = 0 ∨ j = 1 ∨ j = 2 ∨ j = 3 ∨ j = 4 ∨ j = 5 ∨ j = 6 ∨ j = 7 ∨ j = 8 ∨ j = 9 ∨ j = 10 ∨ j = 11 ∨ j = 12 ∨ j = 13 ∨ j = 14 by omega) with rfl | rfl | rfl | rfl | rfl | rfl | rfl | rfl | rfl | rfl | rfl | rfl | rfl | rfl | rfl
  all_goals (rw [← hj]; rfl)
theorem ChF.row {lo : Nat} {W : World} {c : Ck} {s : Ls} (h : ChF lo W c s) {g : Nat} (hg : g < lo) (cs' : Array Value) : Ch (W.setRow g cs') c s := h _ (Keeps.setRow cs' hg)
theorem ChF.rowF {lo : Nat} {W : World} {c : Ck} {s : Ls} (h : ChF lo W c s) {g : Nat} (hg : g < lo) (cs' : Array Value) : ChF lo (W.setRow g cs') c s := h.keep (Keeps.setRow cs' hg)
theorem cv_list (c : Ck) (s : Ls) : (cv c s).toList.toArray = cv c s := by simp
theorem cvl_info (c : Ck) (s : Ls) : (Try.prog.info? 32).map (·.size) = some (cv c s).toList.length := ckinfo
end Go.Proofs.Ytbliipjiilmbcaa
/-
  What tlv.List does.
-/
namespace Go.Proofs.Ytbliipjiilmbcaa
open Go.RowKit Wire Tlv Go.Shelf
attribute [local go_sem] Oper.semAt_some

theorem Bk.calm {B : Nat} {W W' : World} {b : Nat} {cs : Array Value} {t : TypeId} (h : Bk W b cs t) (hc : Calm B W W') : Bk W' b cs t := hc.2 b _ h rfl
theorem owns_calm {B : Nat} {W W' : World} {base s : Nat} {e : TypeId} {v : Value} {n : Nat} {xs : List Value} (h : W.ownsRow base e s v n xs) (hc : Calm B W W') : W'.ownsRow base e s v n xs := by
  refine ⟨h.1, ?_⟩
  rcases h.2 with h2 | ⟨g, cap, cur, hv, hg, hh, r⟩
  · exact .inl h2
  · exact .inr ⟨g, cap, cur, hv, hg, hc.2 g _ hh rfl, r⟩
theorem Vo.calm {B b : Nat} {W W' : World} {q : Q} (h : Vo b W q) (hc : Calm B W W') : Vo b W' q := by
  obtain ⟨h1, A, n, c, h2, h3, h4⟩ := h
  exact ⟨h1, A, n, c, h2, h3, owns_calm h4 hc⟩
/-- A row of things in blocks from B on. -/
def Tb (B : Nat) (qs : List Q) (A : Option Addr) (n c : Nat) (W : World) : Prop := qs.length = n ∧ W.ownsRow B 25 3 (.slice A n c) n (tf qs) ∧ ∀ q ∈ qs, Vo B W q
theorem Tb.calm {B b : Nat} {qs : List Q} {A : Option Addr} {n c : Nat} {W W' : World} (h : Tb b qs A n c W) (hc : Calm B W W') : Tb b qs A n c W' := ⟨h.1, owns_calm h.2.1 hc, fun q hq => (h.2.2 q hq).calm hc⟩
theorem Tb.next {b : Nat} {qs : List Q} {A : Option Addr} {n c : Nat} {W W' : World} (h : Tb b qs A n c W) (hb : Below W.heap.size W W') : Tb b qs A n c W' := ⟨h.1, own_below h.2.1 hb, fun q hq => (h.2.2 q hq).next hb⟩
theorem Vo.lower {B b : Nat} {W : World} {q : Q} (h : Vo B W q) (hb : b ≤ B) : Vo b W q := by
  obtain ⟨h1, A, n, c, h2, h3, h4⟩ := h
  exact ⟨h1, A, n, c, h2, h3, own_base h4 hb⟩
theorem Tb.to {B : Nat} {qs : List Q} {A : Option Addr} {n c : Nat} {w W : World} (h : Tb B qs A n c W) (hb : w.heap.size ≤ B) (hw : Below w.heap.size w W) : To w qs A n c W :=
  ⟨h.1, own_base h.2.1 hb, fun q hq => (h.2.2 q hq).lower hb, hw⟩

/-- Between two rounds of the list's loop. -/
def Li (w : World) (hi : Nat) (pre : List Ev) (W : World) : Prop := (∀ x ∈ pre, x.2 = 0) ∧ ∃ A n c, Bk W w.heap.size #[.slice none 0 0] 41 ∧ Bk W (w.heap.size + 1) #[.int .i64 0] 33 ∧
  Bk W (w.heap.size + 1 + 1) #[.slice A n c] 41 ∧ Tb hi (pre.map (·.1)) A n c W ∧ Below w.heap.size w W ∧ hi ≤ W.heap.size
/-- A round has left. -/
def Lx (w : World) (pre : List Ev) (W : World) : Prop := ∃ z : Int, (∃ x ∈ pre, x.2 = z ∧ z ≠ 0) ∧ Bk W w.heap.size #[.slice none 0 0] 41 ∧ Bk W (w.heap.size + 1) #[.int .i64 z] 33 ∧ Below w.heap.size w W
theorem Li.calm {w : World} {hi B : Nat} {pre : List Ev} {W W' : World} (h : Li w hi pre W) (hw : w.heap.size ≤ B) (hc : Calm B W W') : Li w hi pre W' := by
  obtain ⟨h0, A, n, c, h1, h2, h3, h4, h5, h6⟩ := h
  exact ⟨h0, A, n, c, h1.calm hc, h2.calm hc, h3.calm hc, h4.calm hc, h5.trans (hc.1.mono hw), Nat.le_trans h6 hc.1.size⟩
theorem Lx.calm {w : World} {B : Nat} {pre : List Ev} {W W' : World} (h : Lx w pre W) (hw : w.heap.size ≤ B) (hc : Calm B W W') : Lx w pre W' := by
  obtain ⟨z, h0, h1, h2, h3⟩ := h
  exact ⟨z, h0, h1.calm hc, h2.calm hc, h3.trans (hc.1.mono hw)⟩
/-- A block of another type is not the row's own. -/
theorem Bk.not_own {W : World} {b : Nat} {cs : Array Value} {t e : TypeId} {base s : Nat} {v : Value} {n : Nat} {xs : List Value} (h : Bk W b cs t) (hr : W.ownsRow base e s v n xs) (hne : t ≠ e) : some b ≠ v.ownBlock := by
  rcases hr.2 with ⟨rfl, _⟩ | ⟨g, cap, cur, rfl, _, hg, _⟩
  · simp [Value.ownBlock]
  · intro e1
    simp only [Value.ownBlock, Option.some.injEq] at e1
    subst e1
    rw [show W.heap[b]? = _ from h] at hg
    simp at hg
    exact hne hg.2
theorem Bk.grown {W W' : World} {b : Nat} {cs : Array Value} {t e : TypeId} {base s : Nat} {v : Value} {n : Nat} {xs : List Value} (h : Bk W b cs t) (hr : W.ownsRow base e s v n xs) (hne : t ≠ e) (hg : W.grownBy W' v.ownBlock) : Bk W' b cs t :=
  (hg.block b h.lt (h.not_own hr hne)).trans h
theorem row_cells {W : World} {base s : Nat} {e : TypeId} {v : Value} {n : Nat} {xs : List Value} (hr : W.ownsRow base e s v n xs) : ∀ (j : Nat) (o : Obj), v.ownBlock = some j → W.heap[j]? = some o → o.isCells = true := fun j o hj ho => by
  rcases hr.2 with ⟨rfl, _⟩ | ⟨g, cap, cur, rfl, _, hg, _⟩
  · simp [Value.ownBlock] at hj
  · simp only [Value.ownBlock, Option.some.injEq] at hj
    subst hj
    rw [hg] at ho
    injection ho with ho
    rw [← ho]
    rfl
theorem owns_set {W : World} {base s b : Nat} {e t : TypeId} {v u : Value} {n : Nat} {xs : List Value} {cs : Array Value} (h : W.ownsRow base e s v n xs) (hb : Bk W b cs t) (hne : t ≠ e) (i : Nat) : (W.setCell ⟨b, i, none⟩ u).ownsRow base e s v n xs :=
  h.kept (row := some b) ⟨rfl, rfl, rfl, by simp [World.setCell], fun k _ hk => Below.heap_setCell _ _ _ k (fun e => hk (by rw [e]))⟩ (.inr (hb.not_own h hne).symm)
theorem Vo.set {B b : Nat} {W : World} {q : Q} {cs : Array Value} {t : TypeId} (h : Vo B W q) (hb : Bk W b cs t) (hne : t ≠ 5) (i : Nat) (u : Value) : Vo B (W.setCell ⟨b, i, none⟩ u) q := by
  obtain ⟨h1, A, n, c, h2, h3, h4⟩ := h
  exact ⟨h1, A, n, c, h2, h3, owns_set h4 hb hne i⟩
/-- What 'l = append(l, x)' leaves, l a variable in a block. -/
theorem appended {w W w2 : World} {lo hi b : Nat} {A A' : Option Addr} {n c c' : Nat} {qs : List Q} {q : Q} {o : Obj} (hb : Bk W b #[.slice A n c] 41) (hlo : b < lo) (hlh : lo ≤ hi) (hW : hi ≤ W.heap.size) (hT : Tb hi qs A n c W) (hq : Vo hi W q)
    (ho : w2.ownsRow hi 25 3 (.slice A' (n + 1) c') (n + 1) (tf qs ++ tc q)) (hg : (W.alloc o).grownBy w2 (Value.slice A n c).ownBlock) (hbw : w.heap.size ≤ b) (hw : Below w.heap.size w W) :
    Bk w2 b #[.slice A n c] 41 ∧ KeepsOthers W (w2.setCell ⟨b, 0, none⟩ (.slice A' (n + 1) c')) ∧ Kept lo hi W (w2.setCell ⟨b, 0, none⟩ (.slice A' (n + 1) c')) ∧ Bk (w2.setCell ⟨b, 0, none⟩ (.slice A' (n + 1) c')) b #[.slice A' (n + 1) c'] 41 ∧
      Tb hi (qs ++ [q]) A' (n + 1) c' (w2.setCell ⟨b, 0, none⟩ (.slice A' (n + 1) c')) ∧ (∀ d cs t, Bk W d cs t → d ≠ b → t ≠ 25 → Bk (w2.setCell ⟨b, 0, none⟩ (.slice A' (n + 1) c')) d cs t) ∧
      Below w.heap.size w (w2.setCell ⟨b, 0, none⟩ (.slice A' (n + 1) c')) ∧ hi ≤ (w2.setCell ⟨b, 0, none⟩ (.slice A' (n + 1) c')).heap.size := by
  have hr := hT.2.1.alloc o
  have hb2 : Bk w2 b #[.slice A n c] 41 := (hb.alloc o).grown hr (by decide) hg
  have hsz : W.heap.size ≤ w2.heap.size := Nat.le_trans (by simp) hg.size
  have hvo : ∀ p, Vo hi W p → Vo hi (w2.setCell ⟨b, 0, none⟩ (.slice A' (n + 1) c')) p := fun p hp => ((hp.next ((Below.refl _ _).alloc (Nat.le_refl _) o)).kept hr (by decide) hg).set hb2 (by decide) 0 _
  refine ⟨hb2, ((KeepsOthers.alloc W o).trans (KeepsOthers.of_grownBy hg (row_cells hr))).trans (KeepsOthers.setCell _ _ _), ?_, ?_, ⟨by simp [hT.1], by rw [tf_snoc]; exact owns_set ho hb2 (by decide) 0, fun p hp => ?_⟩, fun d cs t hd hne ht => ?_, ?_, ?_⟩
  · refine ((Kept.of_below ((Below.refl _ _).alloc (Nat.le_refl _) o) hW).trans (Kept.of_grown hg (by simp; omega) (fun k hk => .inr (hT.2.1.lt k hk).1))).trans (Kept.of_set _ (.inl hlo))
  · have := hb2.set 0 (.slice A' (n + 1) c')
    simpa using this
  · rcases List.mem_append.1 hp with hp | hp
    · exact hvo p (hT.2.2 p hp)
    · simp at hp
      subst hp
      exact hvo _ hq
  · exact ((hd.alloc o).grown hr ht hg).other hne 0 _
  · exact ((hw.alloc hw.size o).grown hg (by have := hw.size; simp; omega) (fun k hk => Nat.le_trans (by have := hw.size; omega) (hT.2.1.lt k hk).1)).setCell (p := ⟨b, 0, none⟩) hbw _
  · simp [World.setCell]; omega
theorem ev_len (ch : Bool) (l : List Int) : 4 * (ev ch l).length ≤ l.length + 4 := by
  have := tl_len ch l.length l (Nat.le_refl _)
  unfold ev
  split <;> simp <;> omega
theorem ev_err {ch : Bool} {l : List Int} {x : Tv × Int} (h : x ∈ ev ch l) (hx : x.2 ≠ 0) : x.2 = 40 ∧ (tl ch l).2 = false := by
  unfold ev at h
  rcases List.mem_append.1 h with h | h
  · obtain ⟨y, _, rfl⟩ := List.mem_map.1 h
    exact absurd rfl hx
  · split at h
    · cases h
    · rename_i hf
      simp at h
      subst h
      exact ⟨rfl, by simpa using hf⟩
theorem ev_ok {ch : Bool} {l : List Int} {xs : List (Tv × Int)} (h : xs = ev ch l) (h0 : ∀ x ∈ xs, x.2 = 0) : (tl ch l).2 = true ∧ xs.map (·.1) = (tl ch l).1 := by
  subst h
  unfold ev at h0 ⊢
  cases ht : (tl ch l).2
  · rw [ht] at h0
    have := h0 (none_, 40) (by simp)
    cases this
  · simp [Function.comp_def]
/-- In the middle of a round. -/
def La (w : World) (ch : Bool) (l : List Int) (hi : Nat) (A : Option Addr) (n c : Nat) (F : Value) (pre : List Ev) (x : Ev) (a : Act) (W : World) : Prop := ∃ Bx, Bk W Bx #[.int .u16 (x.1.1.k : Int), .int .u8 (x.1.1.f : Int), x.1.2] 25 ∧ Li w hi pre W ∧ Vev ch l hi pre x W ∧
  a = { tmps := #[.bool ch, .slice A n c, undef, undef, .pointer (some ⟨w.heap.size, 0, none⟩), .pointer (some ⟨w.heap.size + 1, 0, none⟩), .pointer (some ⟨w.heap.size + 1 + 1, 0, none⟩), .pointer (some ⟨Bx, 0, none⟩), .int .i64 x.2, .bool ch, .slice A n c, F,
    .agg #[.int .u16 (x.1.1.k : Int), .int .u8 (x.1.1.f : Int), x.1.2], .int .i64 x.2, undef, undef, undef, undef, undef, undef, undef, undef], defers := [] }
set_option maxRecDepth 100000 in
set_option maxHeartbeats 2000000 in
theorem list_any (ch : Bool) (A : Option Addr) (n c : Nat) (l : List Int) (w : World) (hl : l.length = n) (hn : n ≤ 100000) (hb : Byt l) (hr : Row w A (bs l)) :
    Calls Try.prog 17 #[.bool ch, .slice A n c] w (AllOut w (tlist ch l).1 (fun v => .tuple #[v, .int .i64 (tlist ch l).2])) := by
  have cA : ∀ W, Below w.heap.size w W → Calls Try.prog 41 #[.bool ch, .slice A n c] W (AllIt W ch l) := fun W h => tall_any ch A n c l W hl hn (hr.below h)
  have CA := Lib.hid cA
  clear cA
  refine calls_marks Try.func17 rfl ?_
  simp only [Try.ntmps17, List.size_toArray, List.length_cons, List.length_nil, Nat.reduceAdd, Nat.reduceSub, Array.replicate_succ, Array.replicate_zero, List.push_toArray, List.append_toArray, List.nil_append, List.cons_append]
  go_wp2_with fail
  (with_reducible refine (CA.out _ ?_).mono ?_)
  · exact (((Below.refl _ w).alloc (Nat.le_refl _) _).alloc (by simp) _).alloc (by simp; omega) _
  rintro e w1 ⟨A1, n1, c1, ob, rfl, hI1, hob, hob2, hb1⟩
  simp only [World.size_alloc] at hI1 hob hb1
  have hn1 : n1 ≤ 100000 := by have := hI1.2.2.1; rw [bs_len, hl] at this; omega
  have hB0 : Below w.heap.size w w1 := ((((Below.refl _ w).alloc (Nat.le_refl _) _).alloc (by simp) _).alloc (by simp; omega) _).trans (hb1.mono (by omega))
  have hk4 : Bk w1 w.heap.size #[.slice none 0 0] 41 := (((Bk.new w _ _).alloc (.cells #[.int .i64 0] 33)).alloc (.cells #[.slice none 0 0] 41)).nextB hb1 (by omega)
  have hk5 : Bk w1 (w.heap.size + 1) #[.int .i64 0] 33 := by
    have := ((Bk.new (w.alloc (.cells #[.slice none 0 0] 41)) #[.int .i64 0] 33).alloc (.cells #[.slice none 0 0] 41)).nextB hb1 (by simp)
    simpa using this
  have hk6 : Bk w1 (w.heap.size + 1 + 1) #[.slice none 0 0] 41 := by
    have := (Bk.new ((w.alloc (.cells #[.slice none 0 0] 41)).alloc (.cells #[.int .i64 0] 33)) #[.slice none 0 0] 41).nextB hb1 (by simp)
    simpa using this
  have hLi : Li w w1.heap.size [] w1 := ⟨fun x h => by simp at h, none, 0, 0, hk4, hk5, hk6, ⟨rfl, World.ownsRow_nil _ _ _ _, fun q h => by simp at h⟩, hB0, Nat.le_refl _⟩
  have hseq := iter_seq ch A1 n1 c1 l (w.heap.size + 1 + 1 + 1) ob (w.heap.size + 1 + 1 + 1) w1 hn1 hb hI1 ⟨Nat.le_refl _, by omega⟩ ⟨by omega, hob2⟩
  have hws := hB0.size
  have HS := Lib.hid hseq
  have HLI := Lib.hid hLi
  obtain ⟨i0, hi0, hz0, hz1, hz2⟩ := info_parts Try_infoTlv
  have HI := Lib.hid hi0
  have HZ0 := Lib.hid hz0
  have HZ1 := Lib.hid hz1
  have HZ2 := Lib.hid hz2
  have HEL := Lib.hid (ev_len ch l)
  have HL := Lib.hid hl
  have hh : w.heap.size + 1 + 1 + 1 < w1.heap.size := by omega
  clear hseq hLi hk4 hk5 hk6 hB0 hI1 hb1 hb hr hi0 hz0 hz1 hz2 hl CA
  go_wp2_with fail
  refine (wpIn_wide (n := 9)).1 ?_
  refine range_wpIn (gf := 74) (lb := #[.pointer (some ⟨ob, 0, none⟩), .pointer (some ⟨w.heap.size + 1 + 1 + 1, 0, none⟩)]) rfl (enters_of Try.func74 (by kernel_rfl) rfl) HS.out (Nat.le_refl _) (fun _ => rfl)
    (fun pre W => Li w w1.heap.size pre W) (fun c pre W => c = .ret ∧ Lx w pre W) (fun pre A B h hc => h.calm hws hc) (fun c pre A B h hc => ⟨h.1, h.2.calm hws hc⟩) HLI.out
    (La w ch l w1.heap.size A n c (.func (.func 74) #[] #[.pointer (some ⟨ob, 0, none⟩), .pointer (some ⟨w.heap.size + 1 + 1 + 1, 0, none⟩)]))
    (fun pre x a₁ A B ⟨Bx, h1, h2, h3, h4⟩ hc => ⟨Bx, h1.calm hc, h2.calm hws hc, ⟨h3.1, h3.2.calm hc⟩, h4⟩) ?assign ?body ?done ?stop
  case assign =>
    intro y pre x W K hi hv hK
    obtain ⟨A2, n2, c2, hx2, _⟩ := hv.2.2
    have hbel : Below W.heap.size W (W.alloc (.cells #[.int .u16 (x.1.1.k : Int), .int .u8 (x.1.1.f : Int), x.1.2] 25)) := (Below.refl _ _).alloc (Nat.le_refl _) _
    have hla := hK _ _ hbel ⟨W.heap.size, Bk.new _ _ _, hi.calm hws (Calm.of_below hbel (by obtain ⟨_, _, _, _, _, _, _, _, _, h⟩ := hi; exact h)), ⟨hv.1, hv.2.next hbel⟩, rfl⟩
    rw [hx2] at hla
    have HLA := Lib.hid hla
    obtain ⟨⟨xt, xv⟩, xe⟩ := x
    simp only at hx2
    subst hx2
    clear hi hv hK hbel hla
    simp only [enc]
    gi_wp2
    exact HLA.out
  case body =>
    rintro y pre ⟨⟨xt, xv⟩, xe⟩ a₁ W hsize ⟨Bx, hx, ⟨h0, A', n', c', h4, h5, h6, hT, hB, hhi⟩, hv, rfl⟩
    obtain ⟨A2, n2, c2, hx2, _⟩ := hv.2.2
    simp only at hx2
    subst hx2
    simp only at hx
    have hn' : n' ≤ 30000 := by
      obtain ⟨t, ht⟩ := hv.1
      have := HEL.out
      rw [ht, HL.out] at this
      have := hT.1
      simp at *
      omega
    by_cases he : xe = 0
    · have d1 : (xe != 0) = false := by simpa using he
      have HE := Lib.hid he
      have r6 := h6.cell 0
      have x0 := hx.cell 0
      have x1 := hx.cell 1
      have x2 := hx.cell 2
      simp at r6 x0 x1 x2
      have H4 := Lib.hid h4
      have H5 := Lib.hid h5
      have H6 := Lib.hid h6
      have HT := Lib.hid hT
      have HQ := Lib.hid hv.2
      have HB := Lib.hid hB
      have H0 := Lib.hid h0
      have hrow := Lib.hid (hT.2.1.alloc (.cells (tc (xt, .slice A2 n2 c2)).toArray 25))
      have hnew := Lib.hid (bcells (Row.new W (tc (xt, .slice A2 n2 c2)) 25 (0, 0)))
      clear he h0 h4 h5 h6 hT hv hB hx
      gi_wp2_with (gi_at_builtin; refine wpListIn_append_own _ rfl (.tmp 17) (.tmp 19) 41 rfl w1.heap.size 25 i0 _ 3 32 Try.underlying41 HI.out HZ0.out HZ1.out HZ2.out rfl (by decide) _ _ _ rfl hrow.out ⟨W.heap.size, 0, none⟩ 1 1 (tc (xt, .slice A2 n2 c2)) rfl rfl hnew.out (tc_one _ rfl) (by unfold maxLen; omega) (by omega) (by simp; omega) ?_; intro v' w2 hown' hgrow _; obtain ⟨A9, c9, rfl⟩ := own_form hown'; have hap := appended (lo := w.heap.size + 1 + 1 + 1) (w := w) H6.out (by omega) (by omega) hhi HT.out HQ.out hown' hgrow (by omega) HB.out; have q6 := hap.1.cell 0; have f6 := hap.1.frozen 0; simp at q6; have HAP := Lib.hid hap; clear hap hown' hgrow)
      obtain ⟨_, k1, k2, k3, k4, k5, k6, k7⟩ := HAP.out
      exact ⟨k1.from _, k2, fun p hp => by
        rcases List.mem_append.1 hp with hp | hp
        · exact H0.out p hp
        · simp at hp
          subst hp
          exact HE.out, A9, n' + 1, c9, k5 _ _ _ H4.out (by omega) (by decide), k5 _ _ _ H5.out (by omega) (by decide), k3, by rw [List.map_append]; exact k4, k6, k7⟩
    · have d1 : (xe != 0) = true := by simpa using he
      have HE := Lib.hid he
      have r4 := h4.cell 0
      have r5 := h5.cell 0
      simp at r4 r5
      have f4 := h4.frozen 0
      have f5 := h5.frozen 0
      have hfin : Hid (Bk ((W.setCell ⟨w.heap.size, 0, none⟩ (.slice none 0 0)).setCell ⟨w.heap.size + 1, 0, none⟩ (.int .i64 xe)) w.heap.size #[.slice none 0 0] 41 ∧ Bk ((W.setCell ⟨w.heap.size, 0, none⟩ (.slice none 0 0)).setCell ⟨w.heap.size + 1, 0, none⟩ (.int .i64 xe)) (w.heap.size + 1) #[.int .i64 xe] 33 ∧
          Below w.heap.size w ((W.setCell ⟨w.heap.size, 0, none⟩ (.slice none 0 0)).setCell ⟨w.heap.size + 1, 0, none⟩ (.int .i64 xe)) ∧ KeepsOthers W ((W.setCell ⟨w.heap.size, 0, none⟩ (.slice none 0 0)).setCell ⟨w.heap.size + 1, 0, none⟩ (.int .i64 xe))) := by
        have e4 := h4.set 0 (.slice none 0 0)
        have e5 := (h5.other (c := w.heap.size) (by omega) 0 (.slice none 0 0)).set 0 (.int .i64 xe)
        simp at e4 e5
        exact ⟨e4.other (by omega) 0 _, e5, (hB.setCell (p := ⟨w.heap.size, 0, none⟩) (Nat.le_refl _) _).setCell (p := ⟨w.heap.size + 1, 0, none⟩) (by simp) _, (KeepsOthers.setCell _ _ _).trans (KeepsOthers.setCell _ _ _)⟩
      clear he h0 h4 h5 h6 hT hv hB hx
      gi_wp2
      exact ⟨hfin.out.2.2.2.from _, rfl, xe, ⟨_, List.mem_append_right _ (List.mem_singleton.2 rfl), rfl, HE.out⟩, hfin.out.1, hfin.out.2.1, hfin.out.2.2.1⟩
  case done =>
    rintro D xs W hD hS ⟨h0, A', n', c', h4, h5, h6, hT, hB, hhi⟩ hK
    obtain ⟨o1, o2⟩ := ev_ok hS (fun p hp => by obtain ⟨x, hx, rfl⟩ := List.mem_map.1 hp; exact h0 x hx)
    have r4 := h4.cell 0
    have r5 := h5.cell 0
    have r6 := h6.cell 0
    simp at r4 r5 r6
    have f4 := h4.frozen 0
    have f5 := h5.frozen 0
    have hfin : Hid (∀ W9, W9 = ((W.setCell ⟨w.heap.size, 0, none⟩ (.slice A' n' c')).setCell ⟨w.heap.size + 1, 0, none⟩ (.int .i64 0)) → (W9.heap[D]? = some (.deferred (some [])) ∧ Bk (W9.putObj D (.deferred none)) w.heap.size #[.slice A' n' c'] 41 ∧ Bk (W9.putObj D (.deferred none)) (w.heap.size + 1) #[.int .i64 0] 33 ∧ To w (xs.map (·.1)) A' n' c' (W9.putObj D (.deferred none)))) := Lib.hid fun W9 e => by
      subst e
      have e4 := h4.set 0 (.slice A' n' c')
      have e5 := (h5.other (c := w.heap.size) (by omega) 0 (.slice A' n' c')).set 0 (.int .i64 0)
      simp at e4 e5
      have hK' := ((KeepsOthers.setCell W ⟨w.heap.size, 0, none⟩ (.slice A' n' c')).trans (KeepsOthers.setCell _ ⟨w.heap.size + 1, 0, none⟩ (.int .i64 0))).same D _ hK rfl
      have hcalm : Calm w.heap.size ((W.setCell ⟨w.heap.size, 0, none⟩ (.slice A' n' c')).setCell ⟨w.heap.size + 1, 0, none⟩ (.int .i64 0)) _ := Calm.of_put (.deferred none) hK' rfl (by omega)
      refine ⟨hK', (e4.other (by omega) 0 _).calm hcalm, e5.calm hcalm, ?_⟩
      have hT2 : Tb w1.heap.size (xs.map (·.1)) A' n' c' ((W.setCell ⟨w.heap.size, 0, none⟩ (.slice A' n' c')).setCell ⟨w.heap.size + 1, 0, none⟩ (.int .i64 0)) :=
        ⟨hT.1, owns_set (owns_set hT.2.1 h4 (by decide) 0) (h5.other (by omega) 0 _) (by decide) 0, fun q hq => ((hT.2.2 q hq).set h4 (by decide) 0 _).set (h5.other (by omega) 0 _) (by decide) 0 _⟩
      exact (hT2.calm hcalm).to hws (((hB.setCell (p := ⟨w.heap.size, 0, none⟩) (Nat.le_refl _) _).setCell (p := ⟨w.heap.size + 1, 0, none⟩) (by simp) _).trans hcalm.1)
    have hlist : tlist ch l = ((tl ch l).1, 0) := by unfold tlist; rw [if_pos o1]
    have HLS := Lib.hid hlist
    have HO2 := Lib.hid o2
    clear h0 h4 h5 h6 hT hB o1 o2 hS hlist hK
    go_wp2_with fail
    obtain ⟨k1, k2, k3, k4⟩ := hfin.out _ rfl
    have g0 := k2.cell 0
    have g1 := k3.cell 0
    simp only [List.getElem?_toArray, List.getElem?_cons_zero] at g0 g1
    generalize World.setCell (World.setCell W _ _) _ _ = W9 at k1 k2 k3 k4 g0 g1 ⊢
    refine ⟨by simp, .inl ⟨_, _, rfl, run_takeDeferred k1, ?_⟩⟩
    refine ⟨.tuple #[.slice A' n' c', .int .i64 0], by simp [results, Try.results17, go_sem, g0, g1], A', n', c', xs.map (·.1), by rw [HLS.out], by rw [HLS.out, ← HO2.out]; simp [Function.comp_def, pl], k4⟩
  case stop =>
    rintro D c pre W hD ⟨t, ht⟩ ⟨rfl, z, ⟨x, hx, hxz, hz⟩, h4, h5, hB⟩ hK
    obtain ⟨o1, o2⟩ := ev_err (ch := ch) (l := l) (x := pl x) (by rw [ht]; exact List.mem_append_left _ (List.mem_map.2 ⟨x, hx, rfl⟩)) (by show x.2 ≠ 0; rw [hxz]; exact hz)
    have hz40 : z = 40 := by rw [← hxz]; exact o1
    subst hz40
    have hlist : tlist ch l = ([], 40) := by unfold tlist; rw [if_neg (by rw [o2]; decide)]
    have hcalm : Calm w.heap.size W _ := Calm.of_put (.deferred none) hK rfl (by omega)
    have g0 := (h4.calm hcalm).cell 0
    have g1 := (h5.calm hcalm).cell 0
    simp only [List.getElem?_toArray, List.getElem?_cons_zero] at g0 g1
    have HB := Lib.hid (hB.trans hcalm.1)
    have HLS := Lib.hid hlist
    have HK := Lib.hid hK
    clear h4 h5 hB hlist hcalm ht hx hxz hz o1 o2 hK
    gi_wp2
    refine ⟨by simp, .inl ⟨_, _, rfl, run_takeDeferred HK.out, ?_⟩⟩
    refine ⟨.tuple #[.slice none 0 0, .int .i64 40], by simp [results, Try.results17, go_sem, g0, g1], none, 0, 0, [], by rw [HLS.out], by rw [HLS.out]; rfl, rfl, World.ownsRow_nil _ _ _ _, fun q h => by simp at h, HB.out⟩
end Go.Proofs.Ytbliipjiilmbcaa
