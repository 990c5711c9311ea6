/-
  FragBack: over the arguments as they come in.
-/
import Derived.Test.YthgbngnhlgaioaaFgBackW
import Derived.Test.YthgbngnhlgaioaaIsr
namespace Go.Proofs.Ythgbngnhlgaioaa
open Go.RowKit Go.Maps
open Fg
set_option linter.unusedVariables false
set_option linter.unusedSimpArgs false

theorem fragBack_walk {B : Nat} (a0 : Option Addr) (len0 cap0 : Nat) (qs0 : List Sq) (a1 : Int) (a2 : Option Addr) (len2 cap2 : Nat) (z2 : List Int) (W : World) (hp0 : SsIn B W a0 len0 cap0 qs0) (w1 : (Lit.int .u32 a1).wf = true) (w2 : IsRow .u16 W a2 len2 cap2 z2) (hB : B ≤ 1048576) :
    Calls Try.prog 3 #[.slice a0 len0 cap0, .int .u32 a1, .slice a2 len2 cap2] W fun e w' => e = .returned (.bool true) ∧ Below W.heap.size W w' := by
  have h1 := wf_u32 w1
  obtain ⟨t0, rfl⟩ : ∃ t0 : Nat, a1 = t0 := ⟨a1.toNat, by omega⟩
  obtain ⟨l, hl, _, _, hm, hr, _⟩ := isrow_nats 65536 (fun n hn => wf_u16 hn) w2
  exact fragBack_main a0 len0 cap0 qs0 t0 a2 len2 cap2 l B W hp0 hB (by omega) hl hr hm
end Go.Proofs.Ythgbngnhlgaioaa
