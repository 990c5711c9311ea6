/-
  What chunk.parameters does.
-/
import Derived.Test.YtjlemghkaodkkaaChunkNum2
import Derived.Test.YtjlemghkaodkkaaTlvAll
namespace Go.Proofs.Ytjlemghkaodkkaa
open Go.RowKit Wire Tlv Chunk

/-- A thing whose value lies in a row that the call owns, or in what was there. -/
def Vq (w0 w W : World) (q : Q) : Prop := Vo w.heap.size W q ∨ Vl w0 q
/-- A row of such things. -/
def Pm (w0 w : World) (qs : List Q) (A : Option Addr) (n c : Nat) (W : World) : Prop := qs.length = n ∧ W.ownsRow w.heap.size 36 3 (.slice A n c) n (tf qs) ∧ (∀ q ∈ qs, Vq w0 w W q) ∧ Below w.heap.size w W
theorem Pm.nil (w0 w : World) : Pm w0 w [] none 0 0 w := ⟨rfl, World.ownsRow_nil _ _ _ _, fun q h => by simp at h, Below.refl _ _⟩
theorem Vq.next {w0 w W W' : World} {q : Q} (h : Vq w0 w W q) (hb : Below W.heap.size W W') : Vq w0 w W' q := h.imp (fun h => h.next hb) id
theorem Pm.next {w0 w W W' : World} {qs : List Q} {A : Option Addr} {n c : Nat} (h : Pm w0 w qs A n c W) (hb : Below W.heap.size W W') : Pm w0 w qs A n c W' :=
  ⟨h.1, own_below h.2.1 hb, fun q hq => (h.2.2.1 q hq).next hb, bnext' h.2.2.2 hb⟩
theorem Pm.alloc {w0 w W : World} {qs : List Q} {A : Option Addr} {n c : Nat} (h : Pm w0 w qs A n c W) (o : Obj) : Pm w0 w qs A n c (W.alloc o) := h.next ((Below.refl _ _).alloc (Nat.le_refl _) _)
theorem Pm.snoc {w0 w W W' : World} {qs : List Q} {A A' : Option Addr} {n c c' : Nat} {q : Q} (h : Pm w0 w qs A n c W) (hq : Vq w0 w W q) (ho : W'.ownsRow w.heap.size 36 3 (.slice A' (n + 1) c') (n + 1) (tf qs ++ tc q)) (hg : W.grownBy W' (Value.slice A n c).ownBlock) : Pm w0 w (qs ++ [q]) A' (n + 1) c' W' := by
  refine ⟨by simp [h.1], by rw [tf_snoc]; exact ho, fun p hp => ?_, h.2.2.2.grown hg h.2.2.2.size (fun k hk => (h.2.1.lt k hk).1)⟩
  rcases List.mem_append.1 hp with hp | hp
  · exact (h.2.2.1 p hp).imp (fun k => k.kept h.2.1 (by decide) hg) id
  · simp at hp
    subst hp
    exact hq.imp (fun k => k.kept h.2.1 (by decide) hg) id
/-- What chunk.parameters leaves. -/
def PrmOut (w0 w : World) (ps : List Tv) (e : Ending) (w' : World) : Prop := ∃ A n c qs, e = .returned (.slice A n c) ∧ qs.map (·.1) = ps ∧ Pm w0 w qs A n c w'
theorem Pm.up {w0 w W : World} {o : Obj} {qs : List Q} {A : Option Addr} {n c : Nat} (h : Pm w0 (w.alloc o) qs A n c W) : Pm w0 w qs A n c W := by
  have hs : w.heap.size ≤ (w.alloc o).heap.size := by simp
  refine ⟨h.1, own_base h.2.1 hs, fun q hq => (h.2.2.1 q hq).imp (fun k => ?_) id, ((Below.refl _ w).alloc (Nat.le_refl _) o).trans (h.2.2.2.mono hs)⟩
  obtain ⟨h1, A, n, c, h2, h3, h4⟩ := k
  exact ⟨h1, A, n, c, h2, h3, own_base h4 hs⟩
/-- The things stay, while a row that is apart from them grows. -/
theorem Pm.gr {w0 w W W' : World} {qs : List Q} {A : Option Addr} {n c : Nat} {v v' : Value} (h : Pm w0 w qs A n c W) (k : Gr W W' v v') (hv : ∀ g, v.ownBlock = some g → g < w.heap.size) (hb : Below w0.heap.size w0 W') : Ths W' A qs := by
  have hne : ∀ {e : TypeId} {s : Nat} {u : Value} {m : Nat} {xs : List Value}, W.ownsRow w.heap.size e s u m xs → u.ownBlock = none ∨ u.ownBlock ≠ v.ownBlock := fun {e s u m xs} ho => by
    cases hu : u.ownBlock with
    | none => exact .inl rfl
    | some g =>
      right
      intro e1
      have := (ho.lt g hu).1
      have := hv g e1.symm
      omega
  refine ⟨row_of_owns (h.2.1.kept k.1 (hne h.2.1)), fun q hq => (h.2.2.1 q hq).elim (fun p => ?_) (fun p => p.next hb)⟩
  obtain ⟨h1, A, n, c, h2, h3, h4⟩ := p
  exact Vo.vl (B := w.heap.size) ⟨h1, A, n, c, h2, h3, h4.kept k.1 (hne h4)⟩
theorem vl_of {W : World} {x : Tv} {v : Value} (h : Vb W x.v v) (hx : x.ok) : Vl W (x, v) := by
  obtain ⟨A, n, c, h1, h2, h3, h4, h5, h6, h7⟩ := h
  exact ⟨A, n, c, h1, h2, h3, h4, h5, hx, h6, h7⟩
set_option maxRecDepth 100000 in
set_option maxHeartbeats 4000000 in
theorem parameters_any (c : Ck) (s : Ls) (w0 w : World) (h : Ch w0 c s) (hw : Below w0.heap.size w0 w) (ha : s.an ≤ 3) :
    Calls Try.prog 41 #[.agg (cv c s)] w (PrmOut w0 w (pars c)) := by
  have HU : Hid (U1 w (cv c s) _) := Lib.hid (U1.new w (cv c s))
  have HC := Lib.hid h
  have HW0 : Hid (Below w0.heap.size w0 _) := Lib.hid (hw.alloc hw.size (.cells (cv c s) 29))
  have HAL := Lib.hid h.z.a
  have HCL := Lib.hid h.z.c
  have hcm := h.z.cm
  have hcl2 := Lib.hid h.cl
  have hp : pars c = (c.ad.map (fun a => (⟨5, 0, be 4 a⟩ : Tv)) ++ (if c.kd = 2 then [⟨7, 0, c.da⟩] else [])) ++ c.ca.map (fun x => ⟨x.1, 0, x.2⟩) := by simp [pars]
  have HP := Lib.hid hp
  obtain ⟨i0, hi0, hz0, hz1, hz2⟩ := info_parts Try_infoTlv
  have HI := Lib.hid hi0
  have HZ0 := Lib.hid hz0
  have HZ1 := Lib.hid hz1
  have HZ2 := Lib.hid hz2
  have hcn : s.cn ≤ 4398046510976 := by omega
  clear hi0 hz0 hz1 hz2 hw h hp hcm
  go_enter Try.func41, Try.ntmps41
  go_upto_region 1 with fail
  have HUP := Lib.hid fun (qs : List Q) A n c' W => Pm.up (w0 := w0) (w := w) (W := W) (o := .cells (cv c s) 29) (qs := qs) (A := A) (n := n) (c := c')
  generalize World.alloc w _ = W1 at HU HW0 HUP ⊢
  have hlt := HU.out.1.lt
  have g11 := HU.out.1.c11
  go_wp2_with fail
  clear g11
  go_loopw [3, 11] (fun v i wr => ∃ (k : Nat) (A : Option Addr) (c' : Nat) (qs : List Q), k ≤ s.an ∧ i = .int .i64 (k : Int) ∧ v = .slice A k c' ∧ Hid (qs.map (·.1) = (c.ad.take k).map (fun a => (⟨5, 0, be 4 a⟩ : Tv))) ∧ Hid (Pm w0 W1 qs A k c' wr)) (fun _ i _ => s.an - (intOf i).toNat)
  case atStart => exact ⟨0, _, _, [], by omega, rfl, rfl, Lib.hid rfl, Lib.hid (Pm.nil w0 W1)⟩
  case round =>
    obtain ⟨k, A, c', qs, hk1, rfl, rfl, hqs, hpm⟩ := hrel
    by_cases hlt1 : k < s.an
    · have hkl : k < c.ad.length := by rw [HAL.out]; exact hlt1
      obtain ⟨a, hA, k0⟩ := num_at (HC.out.ar.below (HW0.out.trans (hpm.out.2.2.2.mono HW0.out.size))) hkl
      rw [hA]
      have hx := HC.out.ok.ad _ (List.getElem_mem hkl)
      have HT : Hid (c.ad.take (k + 1) = c.ad.take k ++ [c.ad[k]]) := Lib.hid (List.take_succ_eq_append_getElem hkl)
      generalize c.ad[k] = x at *
      go_wp2_with fail
      (with_reducible refine (four_any wr _ _ _ _ _ 4 _ hx rfl (by omega) (own_nil wr)).mono ?_)
      rintro e X7 ⟨A7, c7, rfl, ho7, hg7⟩
      have hsz1 := hpm.out.2.2.2.size
      have hsz2 := ho7.2.size
      have hpm7 := hpm.out.next (ho7.2)
      have hvo : Vo W1.heap.size X7 (⟨5, 0, be 4 x⟩, .slice A7 4 c7) := ⟨⟨by show 5 < 65536; omega, by show 0 < 256; omega, be_byt _ _⟩, A7, 4, c7, rfl, by omega, by have := own_base ho7.1 hsz1; simpa using this⟩
      have HPM7 := Lib.hid hpm7
      have HVO := Lib.hid (hvo.next ((Below.refl X7.heap.size X7).alloc (Nat.le_refl _) (.cells (tc (⟨5, 0, be 4 x⟩, .slice A7 4 c7)).toArray 36)))
      have hrow := Lib.hid (hpm7.alloc (.cells (tc (⟨5, 0, be 4 x⟩, .slice A7 4 c7)).toArray 36))
      have hnew := Lib.hid (bcells (Row.new X7 (tc (⟨5, 0, be 4 x⟩, .slice A7 4 c7)) 36 (0, 0)))
      clear ho7 hg7 k0 hpm7 hvo
      go_wp2_with (at_builtin; refine wpList_append_own _ rfl (.tmp 15) (.tmp 19) 42 rfl W1.heap.size 36 i0 _ 3 32 Try.underlying42 HI.out HZ0.out HZ1.out HZ2.out rfl (by decide) _ _ _ rfl hrow.out.2.1 ⟨X7.heap.size, 0, none⟩ 1 1 (tc (⟨5, 0, be 4 x⟩, .slice A7 4 c7)) rfl rfl hnew.out (tc_one _ rfl) (by unfold maxLen; omega) (by omega) (by simp; omega) ?_; intro v' w2 hown' hgrow _; obtain ⟨A9, c9, rfl⟩ := own_form hown'; have HN := Lib.hid (hrow.out.snoc (.inl HVO.out) hown' hgrow); clear hown' hgrow)
      go_roundw
      case rel => exact ⟨k + 1, _, _, _, by omega, by go_num, rfl, Lib.hid (by rw [HT.out, List.map_append, List.map_append, hqs.out]; rfl), HN⟩
      case measure => simp [intOf]; omega
    · have hke : k = s.an := by omega
      have HQ : Hid (qs.map (·.1) = c.ad.map (fun a => (⟨5, 0, be 4 a⟩ : Tv))) := Lib.hid (by rw [hqs.out, List.take_of_length_le (by rw [HAL.out]; omega)])
      have g0 := (HU.out.1.nextB hpm.out.2.2.2 hlt).c0
      have g10 := (HU.out.1.nextB hpm.out.2.2.2 hlt).c10
      have g14 := (HU.out.1.nextB hpm.out.2.2.2 hlt).c14
      clear hqs hke
      obtain ⟨b2, hb2⟩ : ∃ b2 : Bool, ((c.kd : Int) == 2) = b2 := ⟨_, rfl⟩
      go_upto_if 24 with fail
      go_cut [3] from 25 to 30 (fun v3 W => ∃ (m : Nat) (A' : Option Addr) (c'' : Nat) (qs' : List Q), m ≤ k + 1 ∧ v3 = .slice A' m c'' ∧ Hid (qs'.map (·.1) = c.ad.map (fun a => (⟨5, 0, be 4 a⟩ : Tv)) ++ (if c.kd = 2 then [⟨7, 0, c.da⟩] else [])) ∧ Hid (Pm w0 W1 qs' A' m c'' W))
      case first =>
        by_cases hk2 : c.kd = 2
        · obtain rfl : true = b2 := by rw [← hb2]; simp [hk2]
          clear hb2
          have hvb := HC.out.dr
          have hvq : Vq w0 W1 wr (⟨7, 0, c.da⟩, .slice s.dA s.dn s.dc) := .inr (vl_of (x := ⟨7, 0, c.da⟩) hvb ⟨by show 7 < 65536; omega, by show 0 < 256; omega, HC.out.ok.da⟩)
          have hrow := Lib.hid (hpm.out.alloc (.cells (tc (⟨7, 0, c.da⟩, .slice s.dA s.dn s.dc)).toArray 36))
          have HVQ := Lib.hid (hvq.next ((Below.refl wr.heap.size wr).alloc (Nat.le_refl _) (.cells (tc (⟨7, 0, c.da⟩, .slice s.dA s.dn s.dc)).toArray 36)))
          have hnew := Lib.hid (bcells (Row.new wr (tc (⟨7, 0, c.da⟩, .slice s.dA s.dn s.dc)) 36 (0, 0)))
          have hsz1 := hpm.out.2.2.2.size
          have HK2 := Lib.hid hk2
          clear hvb hvq hk2
          go_wp2_with (at_builtin; refine wpList_append_own _ rfl (.tmp 25) (.tmp 29) 42 rfl W1.heap.size 36 i0 _ 3 32 Try.underlying42 HI.out HZ0.out HZ1.out HZ2.out rfl (by decide) _ _ _ rfl hrow.out.2.1 ⟨wr.heap.size, 0, none⟩ 1 1 (tc (⟨7, 0, c.da⟩, .slice s.dA s.dn s.dc)) rfl rfl hnew.out (tc_one _ rfl) (by unfold maxLen; omega) (by omega) (by simp; omega) ?_; intro v' w2 hown' hgrow _; obtain ⟨A9, c9, rfl⟩ := own_form hown'; have HN := Lib.hid (hrow.out.snoc HVQ.out hown' hgrow); clear hown' hgrow)
          go_meet
          case rel => exact ⟨k + 1, _, _, _, by omega, rfl, Lib.hid (by rw [if_pos HK2.out, List.map_append, HQ.out]; rfl), HN⟩
        · obtain rfl : false = b2 := by rw [← hb2]; simp; omega
          clear hb2
          have HQ2 : Hid (qs.map (·.1) = c.ad.map (fun a => (⟨5, 0, be 4 a⟩ : Tv)) ++ (if c.kd = 2 then [⟨7, 0, c.da⟩] else [])) := Lib.hid (by rw [if_neg hk2, HQ.out, List.append_nil])
          clear hk2
          go_wp2_with fail
          go_meet
          case rel => exact ⟨k, _, _, qs, by omega, rfl, HQ2, hpm⟩
      case rest =>
        obtain ⟨m, A2, c2, qs2, hm, rfl, HQ2, HPM2⟩ := hcut
        clear HQ hpm g0 g10 g14
        have g14 := (HU.out.1.nextB HPM2.out.2.2.2 hlt).c14
        go_wp2_with fail
        clear g14
        go_loopw [3, 34] (fun v i wr => ∃ (j m' : Nat) (A : Option Addr) (c' : Nat) (qs' : List Q), j ≤ s.cn ∧ m' ≤ 4 + j ∧ i = .int .i64 (j : Int) ∧ v = .slice A m' c' ∧ Hid (qs'.map (·.1) = qs2.map (·.1) ++ (c.ca.take j).map (fun x => (⟨x.1, 0, x.2⟩ : Tv))) ∧ Hid (Pm w0 W1 qs' A m' c' wr)) (fun _ i _ => s.cn - (intOf i).toNat)
        case atStart => exact ⟨0, m, _, _, qs2, by omega, by omega, rfl, rfl, Lib.hid (by simp), HPM2⟩
        case round =>
          obtain ⟨j, m', A, c', qs', hj1, hm', rfl, rfl, hqs, hpm⟩ := hrel
          by_cases hlt1 : j < s.cn
          · have hkl : j < c.ca.length := by rw [HCL.out]; exact hlt1
            have hkq : j < s.cq.length := by rw [hcl2.out]; exact hkl
            obtain ⟨a, hA, k0, k1⟩ := cause_at (HC.out.cr.below (HW0.out.trans (hpm.out.2.2.2.mono HW0.out.size))) hkl hkq
            have hvb := HC.out.cd j _ _ (List.getElem?_eq_getElem hkl) (List.getElem?_eq_getElem hkq)
            have hx := HC.out.ok.ca _ (List.getElem_mem hkl)
            have HT : Hid (c.ca.take (j + 1) = c.ca.take j ++ [c.ca[j]]) := Lib.hid (List.take_succ_eq_append_getElem hkl)
            rw [hA]
            generalize c.ca[j] = x at *
            obtain ⟨xc, xd⟩ := x
            simp only at k0 k1 hvb hx HT
            have hvl := vl_of (x := ⟨xc, 0, xd⟩) hvb ⟨by show xc < 65536; omega, by show 0 < 256; omega, hx.2⟩
            obtain ⟨B, bn, bc, hB, _⟩ := hvb
            rw [hB] at k1 hvl
            have hrow := Lib.hid ((hpm.out.alloc (.cells #[.int .u16 (xc : Int), .slice B bn bc] 52)).alloc (.cells (tc (⟨xc, 0, xd⟩, .slice B bn bc)).toArray 36))
            have hnew0 := bcells (Row.new (wr.alloc (.cells #[.int .u16 (xc : Int), .slice B bn bc] 52)) (tc (⟨xc, 0, xd⟩, .slice B bn bc)) 36 (0, 0))
            rw [World.size_alloc] at hnew0
            have hnew := Lib.hid hnew0
            clear hnew0
            have HVL := Lib.hid hvl
            have hsz1 := hpm.out.2.2.2.size
            clear hvl hB hx
            go_wp2_with (at_builtin; refine wpList_append_own _ rfl (.tmp 38) (.tmp 44) 42 rfl W1.heap.size 36 i0 _ 3 32 Try.underlying42 HI.out HZ0.out HZ1.out HZ2.out rfl (by decide) _ _ _ rfl hrow.out.2.1 ⟨wr.heap.size + 1, 0, none⟩ 1 1 (tc (⟨xc, 0, xd⟩, .slice B bn bc)) rfl rfl hnew.out (tc_one _ rfl) (by unfold maxLen; omega) (by omega) (by simp; omega) ?_; intro v' w2 hown' hgrow _; obtain ⟨A9, c9, rfl⟩ := own_form hown'; have HN := Lib.hid (hrow.out.snoc (.inr HVL.out) hown' hgrow); clear hown' hgrow)
            go_roundw
            case rel => exact ⟨j + 1, _, _, _, _, by omega, by omega, by go_num, rfl, Lib.hid (by rw [HT.out, List.map_append, List.map_append, hqs.out, List.append_assoc]; rfl), HN⟩
            case measure => simp [intOf]; omega
          · have HF : Hid (qs'.map (·.1) = pars c) := Lib.hid (by rw [hqs.out, List.take_of_length_le (by rw [HCL.out]; omega), HQ2.out, HP.out])
            clear hqs
            go_wp2_with fail
            go_ret
            exact ⟨_, _, _, qs', rfl, HF.out, HUP.out _ _ _ _ _ hpm.out⟩
end Go.Proofs.Ytjlemghkaodkkaa
