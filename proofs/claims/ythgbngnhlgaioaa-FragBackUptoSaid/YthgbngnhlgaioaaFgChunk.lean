/-
  slices.Chunk: the parts of a slice of bytes, one by one.
-/
import Derived.Test.YthgbngnhlgaioaaStar
import Derived.Test.YthgbngnhlgaioaaSeq
import Derived.Test.YthgbngnhlgaioaaByt
import Derived.Deep.LoopGhost
import Derived.WalkMore
namespace Go.Proofs.Ythgbngnhlgaioaa
set_option maxRecDepth 4000
open Go.RowKit Go.Shelf
namespace Fg
set_option linter.unusedVariables false

theorem chunk_any (A : Option Addr) (n c s : Nat) (w : World) (hs : 1 ≤ s) :
    Calls Try.prog 36 #[.slice A n c, .int .i64 (s : Int)] w fun e w' => e = .returned (.func (.func 61) #[] #[.pointer (some ⟨w.heap.size, 0, none⟩), .pointer (some ⟨w.heap.size + 1, 0, none⟩)]) ∧
      Bk w' w.heap.size #[.slice A n c] 29 ∧ Bk w' (w.heap.size + 1) #[.int .i64 (s : Int)] 3 ∧ w'.heap.size = w.heap.size + 2 ∧ Below w.heap.size w w' := by
  have dz : decide ((s : Int) < 1) = false := decide_eq_false (by omega)
  have H1 : Hid (Bk ((w.alloc (.cells #[.slice A n c] 29)).alloc (.cells #[.int .i64 (s : Int)] 3)) w.heap.size #[.slice A n c] 29) := Lib.hid ((Bk.new _ _ _).alloc _)
  have H2 : Hid (Bk ((w.alloc (.cells #[.slice A n c] 29)).alloc (.cells #[.int .i64 (s : Int)] 3)) (w.heap.size + 1) #[.int .i64 (s : Int)] 3) := Lib.hid (by
    have := Bk.new (w.alloc (.cells #[.slice A n c] 29)) #[.int .i64 (s : Int)] 3
    rw [show (w.alloc (.cells #[.slice A n c] 29)).heap.size = w.heap.size + 1 by simp] at this
    exact this)
  clear hs
  go_enter Try.func36, Try.ntmps36
  go_wp2_with fail
  go_ret
  exact ⟨rfl, H1.out, H2.out, by simp, ((Below.refl _ _).alloc (Nat.le_refl _) _).alloc (by simp) _⟩
theorem run_cut_lhm {P : Program} {t e : TypeId} (ht : P.underlying t = some (.slice e)) (hi : (P.info? e).map (·.size) = some 1) {k k' k'' : IntKind} (a : Addr) (n c lo d : Nat) (h1 : 0 < d) (h2 : lo + d ≤ c) (W : World) :
    (Instr.slice t (.slice (some a) n c) (some (.int k (lo : Int))) (some (.int k' ((lo + d : Nat) : Int))) (some (.int k'' ((lo + d : Nat) : Int)))).run P W = .ok (.slice (some (a.add lo)) d d) W := by
  rw [run_slice_lhm W t (some a) n c (by simp [Program.elem, ht]) k k' k'' lo _ _ (by omega) (by omega) (by omega) (by omega), run_size1 ht hi]
  simp only [Result.andThen, sliced, Int.toNat_natCast, Nat.mul_one]
  rw [if_neg (by omega), show lo + d - lo = d by omega]
  rfl
/-- What is handed out: by the place where it begins. -/
def cenc (a : Addr) (n s : Nat) (x : Nat) : Array Value := #[.slice (some (a.add x)) (min s (n - x)) (min s (n - x))]
def CI (ob nb : Nat) (a : Addr) (n c s : Nat) (W : World) : Prop := Bk W ob #[.slice (some a) n c] 29 ∧ Bk W nb #[.int .i64 (s : Int)] 3
theorem CI.next {ob nb n c s : Nat} {a : Addr} {W W' : World} (h : CI ob nb a n c s W) (hb : Below W.heap.size W W') : CI ob nb a n c s W' := ⟨h.1.next hb, h.2.next hb⟩
theorem CI.kept {ob nb n c s lo hi : Nat} {a : Addr} {W W' : World} (h : CI ob nb a n c s W) (ho : lo ≤ ob ∧ ob < hi) (hn : lo ≤ nb ∧ nb < hi) (hk : Kept lo hi W W') : CI ob nb a n c s W' := ⟨(hk.2 _ ho.1 ho.2).trans h.1, (hk.2 _ hn.1 hn.2).trans h.2⟩
set_option maxRecDepth 100000 in
set_option maxHeartbeats 4000000 in
theorem chunk_seq (a : Addr) (n c s : Nat) (ob nb lo : Nat) (w : World) (hn : n ≤ 1000000000) (hs : 1 ≤ s) (hs2 : s < 9223372036854775808) (hc : n ≤ c) (hI : CI ob nb a n c s w) (ho : lo ≤ ob ∧ ob < w.heap.size) (hnb : lo ≤ nb ∧ nb < w.heap.size) :
    SeqT Try.prog 61 #[.pointer (some ⟨ob, 0, none⟩), .pointer (some ⟨nb, 0, none⟩)] (cenc a n s) (fun pre x _ => x = pre.length * s ∧ x < n) lo w.heap.size (fun xs => n ≤ xs.length * s) (fun _ => True) w := fun y J Jx W hW hJ hJx hY h0 => by
  have hKept : ∀ W1 W2, CI ob nb a n c s W1 → Kept lo w.heap.size W1 W2 → CI ob nb a n c s W2 := fun W1 W2 h k => h.kept ho hnb k
  have HK := Lib.hid hKept
  have HY := Lib.hid hY
  have HJ := Lib.hid hJ
  have HS2 := Lib.hid hs2
  have hst : Hid (CI ob nb a n c s W ∧ J [] W ∧ w.heap.size ≤ W.heap.size) := ⟨hI.next hW, h0, hW.size⟩
  have hmo : Try.prog.follows .mixedOrders = true := by kernel_rfl
  clear hI hW hJ hJx hY h0 hKept ho hnb hs2
  refine callsIn_wide.2 ?_
  go_enter Try.func61, Try.ntmps61
  go_wp2_with fail
  go_loopw [4] (fun v wr => ∃ (x : Nat) (pre : List Nat), v = .int .i64 (x : Int) ∧ Hid (x = pre.length * s) ∧ (x = 0 ∨ s ≤ x ∧ x < n + s) ∧ Hid (CI ob nb a n c s wr ∧ J pre wr ∧ w.heap.size ≤ wr.heap.size)) (fun v _ => n - (intOf v).toNat)
  case atStart => exact ⟨0, [], rfl, Lib.hid (by simp), .inl rfl, hst⟩
  case round =>
    obtain ⟨x, pre, rfl, hx, hxb, hS⟩ := hrel
    clear hst
    have r1 := hS.out.1.1.cell 0
    have r2 := hS.out.1.2.cell 0
    simp at r1 r2
    by_cases hlt : x < n
    · have sz : (Try.prog.info? 5).map (·.size) = some 1 := by kernel_rfl
      have hq1 : ∀ W, (Instr.slice 29 (.slice (some a) n c) (some (.int .i64 (x : Int))) none none).run Try.prog W = .ok (.slice (cutA (some a) c x) (n - x) (c - x)) W := fun W => run_cut_l (P := Try.prog) Try.underlying29 sz (k := .i64) (some a) n c x (by omega) W
      obtain ⟨d, hd⟩ : ∃ d, min s (n - x) = d := ⟨_, rfl⟩
      have hd1 : 0 < d ∧ x + d ≤ n ∧ (d = s ∨ d = n - x) ∧ d ≤ s := by omega
      have hq2 : ∀ W, (Instr.slice 29 (.slice (some a) n c) (some (.int .i64 (x : Int))) (some (.int .i64 ((x + d : Nat) : Int))) (some (.int .i64 ((x + d : Nat) : Int)))).run Try.prog W = .ok (.slice (some (a.add x)) d d) W := fun W => run_cut_lhm Try.underlying29 sz a n c x d hd1.1 (by omega) W
      have HD := Lib.hid hd
      have hwx : wrap64 ((x : Int) + (s : Int)) = ((x + s : Nat) : Int) := by
        have h2 := HS2.out
        clear r1 r2 hq1 hq2
        go_arith
      have hdi : (if n - x < s then ((n - x : Nat) : Int) else (s : Int)) = (d : Int) := by
        split <;> omega
      have HDI := Lib.hid hdi
      clear hdi
      have HWX := Lib.hid hwx
      clear hd hwx
      go_upto_region 3 with fail
      go_region
      rw [HDI.out]
      have hS1 : Hid (CI ob nb a n c s wr.drew ∧ J pre wr.drew ∧ w.heap.size ≤ wr.drew.heap.size) := ⟨hS.out.1.next (Below.refl _ _).drew, HJ.out _ _ _ hS.out.2.1 (Below.refl _ _).drew, hS.out.2.2⟩
      clear hS r1 r2 hq1
      generalize wr.drew = w1 at hS1 ⊢
      have r1 := hS1.out.1.1.cell 0
      simp at r1
      go_upto_region 4 with fail
      obtain ⟨fn, tmps, assign, body, hy, hRd⟩ := HY.out pre x w1 hS1.out.2.1 ⟨hx.out, hlt⟩
      rw [cenc, HD.out] at hy
      refine (wpIn_wide (n := 8)).1 ?_
      gi_wp2
      refine hRd.mono ?_
      rintro e W9 (⟨rfl, hj, hk⟩ | ⟨rfl, hjx⟩)
      · have HS9 : Hid (CI ob nb a n c s W9 ∧ J (pre ++ [x]) W9 ∧ w.heap.size ≤ W9.heap.size) := ⟨HK.out _ _ hS1.out.1 hk, hj, Nat.le_trans hS1.out.2.2 hk.1⟩
        have r2 := HS9.out.1.2.cell 0
        simp at r2
        clear hj hk hy hRd hS1 r1 hq2
        gi_wp2
        go_wp2_with fail
        go_roundw
        case measure => rw [HWX.out]; simp [intOf]; omega
        case rel => exact ⟨x + s, pre ++ [x], by rw [HWX.out], Lib.hid (by rw [hx.out, List.length_append, Nat.add_mul]; simp), .inr (by omega), HS9⟩
      · have HJ9 := Lib.hid hjx
        clear hjx hy hRd hS1 r1 hq2
        gi_wp2
        go_wp2_with fail
        try rw [Exit.noGoto_ret]
        refine bodyPost_ret (results_none rfl _ _ _) rfl ?_
        exact ⟨⟨_, rfl⟩, .inr ⟨pre ++ [x], trivial, HJ9.out⟩⟩
    · go_wp2_with fail
      try rw [Exit.noGoto_normal]
      go_end0
      exact ⟨⟨_, rfl⟩, .inl ⟨pre, by rw [← hx.out]; omega, hS.out.2.1⟩⟩
end Fg
end Go.Proofs.Ythgbngnhlgaioaa
