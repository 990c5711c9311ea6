/-
  The document's inbox: its joiner is handed a piece.
-/
import Derived.Test.YtednkcjmlpgipaaYP1h
import Derived.Test.YtednkcjmlpgipaaYDjPut1
import Derived.Test.YtednkcjmlpgipaaYP1g
namespace Go.Proofs.Ytednkcjmlpgipaa
set_option maxRecDepth 4000
open Go.RowKit Go.Maps
namespace Ix
set_option linter.unusedVariables false
set_option linter.unusedSimpArgs false
open Fg (Pc Ms mv Pq)

section
variable {W w : World} {l : List As}
/-- As turn2, and the part's blocks are new since W. -/
theorem _root_.Go.Proofs.Ytednkcjmlpgipaa.Nw.turn2b (h : Nw W w l) {k : Nat} {a : As} (hk : l[k]? = some a) :
    ∃ F, a.R w F ∧ (∀ k, F k → W.heap.size ≤ k) ∧ ∀ (w' : World) (F1 F2 : Nat → Prop) (b c : As), Mv w F w' F1 → b.R w' F1 → c.R w' F2 → (∀ k, F2 k → w.heap.size ≤ k ∧ ¬ F1 k) → Nw W w' (c :: l.set k b) := by
  obtain ⟨F, ⟨F1, F2, r1, r2, hd, i1, i2, hb⟩, h1, h2, h3⟩ := h.perm (perm_at hk)
  have h' : Now W w (star (fun w F => a.R w F ∧ ∀ k, F k → W.heap.size ≤ k) (stars (l.eraseIdx k))) := ⟨F, ⟨F1, F2, ⟨r1, fun k hk => h1 k (i1 k hk)⟩, r2, hd, i1, i2, hb⟩, h1, h2, h3⟩
  obtain ⟨F, ⟨r, hlo⟩, hh⟩ := Now.part h' (stars_fr _)
  refine ⟨F, r, hlo, fun w' F1 F2 b c hm r1 r2 hn => ?_⟩
  have b1 := b.fr.bound w' F1 r1
  have b2 := c.fr.bound w' F2 r2
  have h1 : Now W w' (star (star b.R c.R) (stars (l.eraseIdx k))) := hh w' (fun k => F1 k ∨ F2 k) (star b.R c.R) ⟨hm.1, fun k hk => by
    rcases hk with h1 | h1
    · exact hm.2 k h1
    · exact .inr (hn k h1).1⟩ ⟨F1, F2, r1, r2, fun k h1 h2 => (hn k h2).2 h1, fun k h => .inl h, fun k h => .inr h, fun k hk => by
      rcases hk with h1 | h1
      · exact b1 k h1
      · exact b2 k h1⟩ (fun k hk => by
      rcases hk with h1 | h1
      · exact b1 k h1
      · exact b2 k h1)
  have h2 : Nw W w' (b :: c :: l.eraseIdx k) := h1.assoc
  exact (h2.perm (List.Perm.swap c b _)).perm ((perm_set hk).cons c)
end
theorem parts_j (i : Dv) (x : Nat) (b : Ib) (L : List Me) (R : List As) (qs : List Pq) (K : List Pc) : (i.parts x b L R).set 2 (DJs i.j qs) = (Dv.mk i.s i.j i.nx i.vw i.vr qs i.wl i.rM).parts x (b.setK K) L R := rfl
theorem parts_jd (i : Dv) (x : Nat) (b : Ib) (L L' : List Me) (R : List As) (qs : List Pq) (K : List Pc) : ((i.parts x b L R).set 2 (DJs i.j qs)).set 5 (DatA L') = (Dv.mk i.s i.j i.nx i.vw i.vr qs i.wl i.rM).parts x (b.setK K) L' R := rfl
/-- The document's inbox, and where its joiner lies. -/
def DXj (W w : World) (x j : Nat) (b : Ib) (L : List Me) (R : List As) : Prop := ∃ i : Dv, Nw W w (i.parts x b L R) ∧ i.Fit W b L ∧ i.j = j
section
variable {W w w' : World} {x j g : Nat} {b : Ib} {L : List Me} {R : List As} {cs : Array Value} {t : TypeId} {a : As}
theorem DX.hasj (h : DX W w x b L R) : ∃ j, DXj W w x j b L R := by
  obtain ⟨i, h1, h2⟩ := h
  exact ⟨i.j, i, h1, h2, rfl⟩
theorem DXj.dx (h : DXj W w x j b L R) : DX W w x b L R := by
  obtain ⟨i, h1, h2, _⟩ := h
  exact ⟨i, h1, h2⟩
theorem DXj.next (h : DXj W w x j b L R) (hb : Below w.heap.size w w') : DXj W w' x j b L R := by
  obtain ⟨i, h1, h2, h3⟩ := h
  exact ⟨i, h1.next hb, h2, h3⟩
theorem DXj.box (h : DXj W w x j b L R) (cs : Array Value) (t : TypeId) : DXj W (w.alloc (.cells cs t)) x j b L (BkA w.heap.size cs t :: R) := by
  obtain ⟨i, hN, hf, hj⟩ := h
  exact ⟨i, (hN.box cs t).perm (by unfold Dv.parts; exact List.perm_middle (l₁ := [_, _, _, _, _, _]).symm), hf, hj⟩
theorem DXj.bkR (h : DXj W w x j b L (BkA g cs t :: R)) : Bk w g cs t := h.dx.bkR
theorem DXj.bkR2 (h : DXj W w x j b L (a :: BkA g cs t :: R)) : Bk w g cs t := by
  obtain ⟨i, hN, hf, hj⟩ := h
  exact hN.bk (k := 7) rfl
theorem DXj.storeR (h : DXj W w x j b L (BkA g cs t :: R)) (i : Nat) (v : Value) : DXj W (w.setCell ⟨g, i, none⟩ v) x j b L (BkA g (cs.setIfInBounds i v) t :: R) := by
  obtain ⟨d, hN, hf, hj⟩ := h
  have h2 := hN.perm (l' := BkA g cs t :: d.parts x b L R) (by unfold Dv.parts; exact List.perm_middle (l₁ := [_, _, _, _, _, _]))
  have h3 := h2.store (k := 0) rfl i v
  exact ⟨d, h3.perm (by unfold Dv.parts; exact List.perm_middle (l₁ := [_, _, _, _, _, _]).symm), hf, hj⟩
theorem DXj.cell4 (h : DXj W w x j b L R) : w.cell? ⟨x, 4, none⟩ = some (.pointer (some ⟨j, 0, none⟩)) := by
  obtain ⟨i, hN, hf, hj⟩ := h
  have hbx := hN.bk (k := 0) rfl
  rw [← hj]
  exact (hbx.cell 4).trans dxc_head.2.2.2.2
end
section
variable {W w : World} {x : Nat} {b : Ib} {L : List Me} {R : List As}
theorem dput_dx {j : Nat} (h : DXj W w x j b L R) (ok : b.Core) (hk : b.K.length ≤ 800) (q : Pq) (hq : q.1.Ok) (hd : 1 ≤ q.1.d.length) (hp : Pin W q) (ht : Fg.held b.K + q.1.d.length ≤ 1000000000) :
      Calls Try.prog 59 #[.pointer (some ⟨j, 0, none⟩), .agg #[.int .u32 (q.1.t : Int), .int .u8 (q.1.f : Int), .int .u16 (q.1.s : Int), .int .u16 (q.1.n : Int), .int .u32 (q.1.p : Int), .slice q.2.1 q.2.2.1 q.2.2.2]] w fun e w' =>
        ((Fg.put b.K q.1).2 = none ∧ e = .returned (.tuple #[.agg #[.int .u16 0, .bool false, .int .u32 0, .slice none 0 0], .int .u16 0, .bool false]) ∧ DXj W w' x j (b.setK (Fg.put b.K q.1).1) L R) ∨
          ∃ (m : Ms) (n : Nat) (A : Option Addr) (k c : Nat), (Fg.put b.K q.1).2 = some (m, n) ∧ e = .returned (.tuple #[.agg #[.int .u16 (m.s : Int), .bool m.u, .int .u32 (m.p : Int), .slice A k c], .int .u16 (n : Int), .bool true]) ∧ DXj W w' x j (b.setK (Fg.put b.K q.1).1) ((m, (A, k, c)) :: L) R := by
  obtain ⟨i, hN, hf, rfl⟩ := h
  obtain ⟨F, ⟨A, n, c, hdo⟩, hlo, hh⟩ := hN.turn2b (k := 2) rfl
  have hbel := hN.below
  have hqs : Fg.pcq i.qs = b.K := hf.qs
  have hnk : n = b.K.length := by rw [← hqs, ← hdo.len]; simp [Fg.pcq]
  have hpin : ∀ y ∈ i.qs ++ [q], Pin W y := fun y hy => by
    rcases List.mem_append.1 hy with h1 | h1
    · exact hf.dq y h1
    · rw [List.mem_singleton] at h1
      rw [h1]
      exact hp
  have hK : ∀ y ∈ i.qs ++ [q], y.1.Ok ∧ 1 ≤ y.1.d.length := fun y hy => by
    rcases List.mem_append.1 hy with h1 | h1
    · have h2 : y.1 ∈ b.K := by rw [← hqs]; exact List.mem_map_of_mem h1
      exact ⟨(ok.K _ h2).1, (ok.K _ h2).2.1⟩
    · rw [List.mem_singleton] at h1
      rw [h1]
      exact ⟨hq, hd⟩
  have hdt : Fg.Dt w F (i.qs ++ [q]) := fun y hy => by
    obtain ⟨p1, p2, p3, p4⟩ := hpin y hy
    exact ⟨p2.below hbel, p1, p3, fun a ha hF => by have := hlo _ hF; have := p4 a ha; omega⟩
  have htot : Fg.tot (i.qs ++ [q]) ≤ 1000000000 := by
    have e1 : Fg.tot i.qs = Fg.held b.K := by
      rw [← hqs]
      unfold Fg.tot Fg.held Fg.pcq
      rw [List.map_map]
      congr 1
      exact List.map_congr_left fun y hy => (hf.dq y hy).1.symm
    have e2 : Fg.tot (i.qs ++ [q]) = Fg.tot i.qs + q.2.2.1 := by unfold Fg.tot; simp
    have := hp.1
    omega
  have C := Fg.dput_any w F i.j A n c i.qs hdo (by omega) (by rw [hqs]; exact ok.ap) (fun y hy => (hK y (List.mem_append_left _ hy)).1.f) q hq hdt (fun y hy a ha => Nat.lt_of_lt_of_le ((hpin y hy).2.2.2 a ha) hbel.size) (fun y hy => (hK y hy).2) htot
  refine C.mono ?_
  rintro e w' ⟨F', A', n', c', qs', hmv, hdo', hpq, hin, htl⟩
  rw [hqs] at hpq htl
  have hdq' : ∀ y ∈ qs', Pin W y := fun y hy => hpin y (hin y hy)
  obtain ⟨pk, hpk⟩ : ∃ pk, Fg.put b.K q.1 = pk := ⟨_, rfl⟩
  rw [hpk] at hpq htl ⊢
  obtain ⟨K', r'⟩ := pk
  simp only at hpq htl ⊢
  cases r' with
  | none =>
    refine .inl ⟨rfl, htl, ⟨i.s, i.j, i.nx, i.vw, i.vr, qs', i.wl, i.rM⟩, ?_, ⟨hf.nx, hf.nxs, hpq, hf.ws, hf.rd, hf.inw, hf.inr, hf.dat, hdq'⟩, rfl⟩
    have h2 := hh w' F' (fun _ => False) (DJs i.j qs') (DatA []) hmv ⟨A', n', c', hdo'⟩ ⟨fun e he => by simp at he, fun k h => h.elim⟩ (fun k h => h.elim)
    rw [← parts_j]
    exact h2.drop
  | some mn =>
    obtain ⟨m, nn⟩ := mn
    obtain ⟨A2, k2, c2, he, hl2, hown, hnf⟩ := htl
    refine .inr ⟨m, nn, A2, k2, c2, rfl, he, ⟨i.s, i.j, i.nx, i.vw, i.vr, qs', i.wl, i.rM⟩, ?_, ⟨hf.nx, hf.nxs, hpq, hf.ws, hf.rd, fun e he => List.mem_cons_of_mem _ (hf.inw e he), fun e he => List.mem_cons_of_mem _ (hf.inr e he), fun e he => ?_, hdq'⟩, rfl⟩
    · have h2 := hh w' F' (fun k => (Value.slice A2 k2 c2).ownBlock = some k) (DJs i.j qs') (DatA [(m, (A2, k2, c2))]) hmv ⟨A', n', c', hdo'⟩ ⟨fun e he2 => by
        simp only [List.mem_singleton] at he2
        subst he2
        exact ⟨hl2, hown.mono (Nat.zero_le _), fun g hg => hg⟩, fun k hk2 => (hown.lt k hk2).2⟩ (fun k hk2 => ⟨(hown.lt k hk2).1, hnf k hk2⟩)
      have h3 := Nw_merge (k := 5) h2 rfl
      rw [parts_jd (K := K')] at h3
      exact h3
    · rcases List.mem_cons.1 he with h1 | h1
      · rw [h1]
        exact hl2
      · exact hf.dat e h1
end
end Ix
end Go.Proofs.Ytednkcjmlpgipaa
