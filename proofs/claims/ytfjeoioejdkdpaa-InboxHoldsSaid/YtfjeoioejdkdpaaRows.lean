/-
  No cell of these rows narrows 'for every input' (looked for: loops, veiled, ifaces, maps, wideKeys, modest, calm, conditions, laid).
  DERIVED. THE GIVEN ROWS OF THIS SEAT. 8 by the template 'for every input the law returns true; each argument reads behind the call as it read before'; 0 by the template 'total and deterministic' (their statements: YtfjeoioejdkdpaaTotals.lean).
  GIVEN WITH THE SEED: the statements are not yours to turn. If you find one false, say at which input.
  Laid BY PROGRAM, IN A SANDBOX (cutbox-rows.mjs): the forced cells as the released guide's own fill.sh prints them over the translation 944eb8418b109142… (all of the seat's roots in one cut). By AI agents, Wed Nov 11 2026. No macro, syntax, notation, axiom, sorry.
-/
import Derived.Test.YtfjeoioejdkdpaaChecked
import GoSem.Claim
import GoSem.ClaimJoined
import GoSem.ClaimMapViews
import Derived.JoinedTies
import Derived.KernelRfl
namespace Go.Proofs.Ytfjeoioejdkdpaa
/- THE CELL 'sum', in the pinned program and in every row, IS THE sha256 OF THE DUMP (.gsa) THAT YtfjeoioejdkdpaaProg.lean LOADS. Nothing in Lean hashes anything: it is a label: what it is worth is what the hold of that sum in a sandbox is worth. -/
noncomputable def Try.pinned : Pinned := { name := "ytfjeoioejdkdpaa", sum := "944eb8418b1091429490e48afac0bfa5225c34a8ee1e71d1dfd32cd5733dec04", checked := Try.checked }
namespace Rows
def none {H : Type} : Left H := { results := [], args := [] }

/-- 'lanyardlaw10.InboxPlays': WHATEVER THE INPUT: true; the input reads as it did. -/
def inboxPlaysSpec : ChangeSpec := { name := "inboxPlays", fn := fun _ => fun
  | [d1, d2, d3, d4, d5] => { results := [.lit (.bool true)], args := [d1, d2, d3, d4, d5] }
  | _ => none }
def inboxPlaysRow : OpenClaim := { program := "ytfjeoioejdkdpaa", sum := "944eb8418b1091429490e48afac0bfa5225c34a8ee1e71d1dfd32cd5733dec04", func := "lanyard/lanyardlaw10.InboxPlays", spec := "inboxPlays", unfollowed := true, recurses := true, plainKeys := false, apart := false }
def InboxPlaysSaid : Prop := inboxPlaysRow.holds Try.pinned (OpenSpec.ofChange inboxPlaysSpec)

/-- ITS FALSE NEIGHBOUR: 'it returns false'. Refute it at one input. -/
def inboxPlaysWrong : ChangeSpec := { name := "inboxPlays", fn := fun _ => fun
  | [d1, d2, d3, d4, d5] => { results := [.lit (.bool false)], args := [d1, d2, d3, d4, d5] }
  | _ => none }
def InboxPlaysWrongFalsely : Prop := inboxPlaysRow.holds Try.pinned (OpenSpec.ofChange inboxPlaysWrong)

/-- 'lanyardlaw10.InboxHolds': WHATEVER THE INPUT: true; the input reads as it did. -/
def inboxHoldsSpec : ChangeSpec := { name := "inboxHolds", fn := fun _ => fun
  | [d1, d2, d3, d4, d5] => { results := [.lit (.bool true)], args := [d1, d2, d3, d4, d5] }
  | _ => none }
def inboxHoldsRow : OpenClaim := { program := "ytfjeoioejdkdpaa", sum := "944eb8418b1091429490e48afac0bfa5225c34a8ee1e71d1dfd32cd5733dec04", func := "lanyard/lanyardlaw10.InboxHolds", spec := "inboxHolds", unfollowed := true, recurses := true, plainKeys := false, apart := false }
def InboxHoldsSaid : Prop := inboxHoldsRow.holds Try.pinned (OpenSpec.ofChange inboxHoldsSpec)

/-- ITS FALSE NEIGHBOUR: 'it returns false'. Refute it at one input. -/
def inboxHoldsWrong : ChangeSpec := { name := "inboxHolds", fn := fun _ => fun
  | [d1, d2, d3, d4, d5] => { results := [.lit (.bool false)], args := [d1, d2, d3, d4, d5] }
  | _ => none }
def InboxHoldsWrongFalsely : Prop := inboxHoldsRow.holds Try.pinned (OpenSpec.ofChange inboxHoldsWrong)

/-- 'lanyardlaw10.InboxTells': WHATEVER THE INPUT: true; the input reads as it did. -/
def inboxTellsSpec : ChangeSpec := { name := "inboxTells", fn := fun _ => fun
  | [d1, d2, d3, d4, d5, d6] => { results := [.lit (.bool true)], args := [d1, d2, d3, d4, d5, d6] }
  | _ => none }
def inboxTellsRow : OpenClaim := { program := "ytfjeoioejdkdpaa", sum := "944eb8418b1091429490e48afac0bfa5225c34a8ee1e71d1dfd32cd5733dec04", func := "lanyard/lanyardlaw10.InboxTells", spec := "inboxTells", unfollowed := true, recurses := true, plainKeys := false, apart := false }
def InboxTellsSaid : Prop := inboxTellsRow.holds Try.pinned (OpenSpec.ofChange inboxTellsSpec)

/-- ITS FALSE NEIGHBOUR: 'it returns false'. Refute it at one input. -/
def inboxTellsWrong : ChangeSpec := { name := "inboxTells", fn := fun _ => fun
  | [d1, d2, d3, d4, d5, d6] => { results := [.lit (.bool false)], args := [d1, d2, d3, d4, d5, d6] }
  | _ => none }
def InboxTellsWrongFalsely : Prop := inboxTellsRow.holds Try.pinned (OpenSpec.ofChange inboxTellsWrong)

/-- 'lanyardlaw11.RtoKnown': WHATEVER THE INPUT: true; the input reads as it did. -/
def rtoKnownSpec : ChangeSpec := { name := "rtoKnown", fn := fun _ => fun
  | [] => { results := [.lit (.bool true)], args := [] }
  | _ => none }
def rtoKnownRow : OpenClaim := { program := "ytfjeoioejdkdpaa", sum := "944eb8418b1091429490e48afac0bfa5225c34a8ee1e71d1dfd32cd5733dec04", func := "lanyard/lanyardlaw11.RtoKnown", spec := "rtoKnown", unfollowed := true, recurses := true, plainKeys := false, apart := false }
def RtoKnownSaid : Prop := rtoKnownRow.holds Try.pinned (OpenSpec.ofChange rtoKnownSpec)

/-- ITS FALSE NEIGHBOUR: 'it returns false'. Refute it at one input. -/
def rtoKnownWrong : ChangeSpec := { name := "rtoKnown", fn := fun _ => fun
  | [] => { results := [.lit (.bool false)], args := [] }
  | _ => none }
def RtoKnownWrongFalsely : Prop := rtoKnownRow.holds Try.pinned (OpenSpec.ofChange rtoKnownWrong)

/-- 'lanyardlaw11.RtoChecks': WHATEVER THE INPUT: true; the input reads as it did. -/
def rtoChecksSpec : ChangeSpec := { name := "rtoChecks", fn := fun _ => fun
  | [d] => { results := [.lit (.bool true)], args := [d] }
  | _ => none }
def rtoChecksRow : OpenClaim := { program := "ytfjeoioejdkdpaa", sum := "944eb8418b1091429490e48afac0bfa5225c34a8ee1e71d1dfd32cd5733dec04", func := "lanyard/lanyardlaw11.RtoChecks", spec := "rtoChecks", unfollowed := true, recurses := true, plainKeys := false, apart := false }
def RtoChecksSaid : Prop := rtoChecksRow.holds Try.pinned (OpenSpec.ofChange rtoChecksSpec)

/-- ITS FALSE NEIGHBOUR: 'it returns false'. Refute it at one input. -/
def rtoChecksWrong : ChangeSpec := { name := "rtoChecks", fn := fun _ => fun
  | [d] => { results := [.lit (.bool false)], args := [d] }
  | _ => none }
def RtoChecksWrongFalsely : Prop := rtoChecksRow.holds Try.pinned (OpenSpec.ofChange rtoChecksWrong)

/-- 'lanyardlaw11.RtoCalls': WHATEVER THE INPUT: true; the input reads as it did. -/
def rtoCallsSpec : ChangeSpec := { name := "rtoCalls", fn := fun _ => fun
  | [d1, d2] => { results := [.lit (.bool true)], args := [d1, d2] }
  | _ => none }
def rtoCallsRow : OpenClaim := { program := "ytfjeoioejdkdpaa", sum := "944eb8418b1091429490e48afac0bfa5225c34a8ee1e71d1dfd32cd5733dec04", func := "lanyard/lanyardlaw11.RtoCalls", spec := "rtoCalls", unfollowed := true, recurses := true, plainKeys := false, apart := false }
def RtoCallsSaid : Prop := rtoCallsRow.holds Try.pinned (OpenSpec.ofChange rtoCallsSpec)

/-- ITS FALSE NEIGHBOUR: 'it returns false'. Refute it at one input. -/
def rtoCallsWrong : ChangeSpec := { name := "rtoCalls", fn := fun _ => fun
  | [d1, d2] => { results := [.lit (.bool false)], args := [d1, d2] }
  | _ => none }
def RtoCallsWrongFalsely : Prop := rtoCallsRow.holds Try.pinned (OpenSpec.ofChange rtoCallsWrong)

/-- 'lanyardlaw11.RtoBounds': WHATEVER THE INPUT: true; the input reads as it did. -/
def rtoBoundsSpec : ChangeSpec := { name := "rtoBounds", fn := fun _ => fun
  | [d1, d2] => { results := [.lit (.bool true)], args := [d1, d2] }
  | _ => none }
def rtoBoundsRow : OpenClaim := { program := "ytfjeoioejdkdpaa", sum := "944eb8418b1091429490e48afac0bfa5225c34a8ee1e71d1dfd32cd5733dec04", func := "lanyard/lanyardlaw11.RtoBounds", spec := "rtoBounds", unfollowed := true, recurses := true, plainKeys := false, apart := false }
def RtoBoundsSaid : Prop := rtoBoundsRow.holds Try.pinned (OpenSpec.ofChange rtoBoundsSpec)

/-- ITS FALSE NEIGHBOUR: 'it returns false'. Refute it at one input. -/
def rtoBoundsWrong : ChangeSpec := { name := "rtoBounds", fn := fun _ => fun
  | [d1, d2] => { results := [.lit (.bool false)], args := [d1, d2] }
  | _ => none }
def RtoBoundsWrongFalsely : Prop := rtoBoundsRow.holds Try.pinned (OpenSpec.ofChange rtoBoundsWrong)

/-- 'lanyardlaw11.RtoSteady': WHATEVER THE INPUT: true; the input reads as it did. -/
def rtoSteadySpec : ChangeSpec := { name := "rtoSteady", fn := fun _ => fun
  | [d1, d2, d3] => { results := [.lit (.bool true)], args := [d1, d2, d3] }
  | _ => none }
def rtoSteadyRow : OpenClaim := { program := "ytfjeoioejdkdpaa", sum := "944eb8418b1091429490e48afac0bfa5225c34a8ee1e71d1dfd32cd5733dec04", func := "lanyard/lanyardlaw11.RtoSteady", spec := "rtoSteady", unfollowed := true, recurses := true, plainKeys := false, apart := false }
def RtoSteadySaid : Prop := rtoSteadyRow.holds Try.pinned (OpenSpec.ofChange rtoSteadySpec)

/-- ITS FALSE NEIGHBOUR: 'it returns false'. Refute it at one input. -/
def rtoSteadyWrong : ChangeSpec := { name := "rtoSteady", fn := fun _ => fun
  | [d1, d2, d3] => { results := [.lit (.bool false)], args := [d1, d2, d3] }
  | _ => none }
def RtoSteadyWrongFalsely : Prop := rtoSteadyRow.holds Try.pinned (OpenSpec.ofChange rtoSteadyWrong)

/- THE SECOND FORM. 'bulk': how many values and letters a reading holds, each counted each time it is reached (what is shared counts as often as it is met; a slice's spare places count too). A statement '..UptoSaid' is the law's where the arguments, and the package variables that the reading takes, are together of bulk at most 1048576: NARROWER than '..Said'. Prove '..Said' where nothing that the law and all that it calls make is longer than what came in: it says more and counts as full. Else prove '..UptoSaid'. A law counts once. -/
mutual
def uptoBulk {H : Type} : DataW H → Nat
  | .lit (.string bytes) => bytes.length + 1
  | .lit _ => 1
  | .nil => 1
  | .ptr d => uptoBulk d + 1
  | .slice elems spare => uptoBulkAll elems + uptoBulkAll spare + 1
  | .agg parts => uptoBulkAll parts + 1
  | .iface _ d => uptoBulk d + 1
  | .map entries => uptoBulkEntries entries + 1
  | .held _ => 1
def uptoBulkAll {H : Type} : List (DataW H) → Nat
  | [] => 0
  | d :: r => uptoBulk d + uptoBulkAll r
def uptoBulkEntries {H : Type} : List (Lit × DataW H) → Nat
  | [] => 0
  | x :: r => uptoBulkEntry x + uptoBulkEntries r
def uptoBulkEntry {H : Type} : Lit × DataW H → Nat
  | (.string bytes, d) => bytes.length + uptoBulk d + 1
  | (_, d) => uptoBulk d + 1
 end
def uptoSmall : (H : Type) → List (DataW H) → Bool := fun _ ds => decide (uptoBulkAll ds ≤ 1048576)
def OpenSpec.upto (s : _root_.Go.ChangeSpec) : _root_.Go.OpenSpec := { _root_.Go.OpenSpec.ofChange s with cond := some uptoSmall }

/-- 'lanyardlaw10.InboxPlays', WHERE WHAT IT READS IS OF BULK AT MOST 1048576: true; the input reads as it did. -/
def inboxPlaysUptoRow : OpenClaim := { program := "ytfjeoioejdkdpaa", sum := "944eb8418b1091429490e48afac0bfa5225c34a8ee1e71d1dfd32cd5733dec04", func := "lanyard/lanyardlaw10.InboxPlays", spec := "inboxPlays", unfollowed := true, recurses := true, plainKeys := false, apart := false, narrowed := true }
def InboxPlaysUptoSaid : Prop := inboxPlaysUptoRow.holds Try.pinned (OpenSpec.upto inboxPlaysSpec)

/-- 'lanyardlaw10.InboxHolds', WHERE WHAT IT READS IS OF BULK AT MOST 1048576: true; the input reads as it did. -/
def inboxHoldsUptoRow : OpenClaim := { program := "ytfjeoioejdkdpaa", sum := "944eb8418b1091429490e48afac0bfa5225c34a8ee1e71d1dfd32cd5733dec04", func := "lanyard/lanyardlaw10.InboxHolds", spec := "inboxHolds", unfollowed := true, recurses := true, plainKeys := false, apart := false, narrowed := true }
def InboxHoldsUptoSaid : Prop := inboxHoldsUptoRow.holds Try.pinned (OpenSpec.upto inboxHoldsSpec)

/-- 'lanyardlaw10.InboxTells', WHERE WHAT IT READS IS OF BULK AT MOST 1048576: true; the input reads as it did. -/
def inboxTellsUptoRow : OpenClaim := { program := "ytfjeoioejdkdpaa", sum := "944eb8418b1091429490e48afac0bfa5225c34a8ee1e71d1dfd32cd5733dec04", func := "lanyard/lanyardlaw10.InboxTells", spec := "inboxTells", unfollowed := true, recurses := true, plainKeys := false, apart := false, narrowed := true }
def InboxTellsUptoSaid : Prop := inboxTellsUptoRow.holds Try.pinned (OpenSpec.upto inboxTellsSpec)

/-- 'lanyardlaw11.RtoKnown', WHERE WHAT IT READS IS OF BULK AT MOST 1048576: true; the input reads as it did. -/
def rtoKnownUptoRow : OpenClaim := { program := "ytfjeoioejdkdpaa", sum := "944eb8418b1091429490e48afac0bfa5225c34a8ee1e71d1dfd32cd5733dec04", func := "lanyard/lanyardlaw11.RtoKnown", spec := "rtoKnown", unfollowed := true, recurses := true, plainKeys := false, apart := false, narrowed := true }
def RtoKnownUptoSaid : Prop := rtoKnownUptoRow.holds Try.pinned (OpenSpec.upto rtoKnownSpec)

/-- 'lanyardlaw11.RtoChecks', WHERE WHAT IT READS IS OF BULK AT MOST 1048576: true; the input reads as it did. -/
def rtoChecksUptoRow : OpenClaim := { program := "ytfjeoioejdkdpaa", sum := "944eb8418b1091429490e48afac0bfa5225c34a8ee1e71d1dfd32cd5733dec04", func := "lanyard/lanyardlaw11.RtoChecks", spec := "rtoChecks", unfollowed := true, recurses := true, plainKeys := false, apart := false, narrowed := true }
def RtoChecksUptoSaid : Prop := rtoChecksUptoRow.holds Try.pinned (OpenSpec.upto rtoChecksSpec)

/-- 'lanyardlaw11.RtoCalls', WHERE WHAT IT READS IS OF BULK AT MOST 1048576: true; the input reads as it did. -/
def rtoCallsUptoRow : OpenClaim := { program := "ytfjeoioejdkdpaa", sum := "944eb8418b1091429490e48afac0bfa5225c34a8ee1e71d1dfd32cd5733dec04", func := "lanyard/lanyardlaw11.RtoCalls", spec := "rtoCalls", unfollowed := true, recurses := true, plainKeys := false, apart := false, narrowed := true }
def RtoCallsUptoSaid : Prop := rtoCallsUptoRow.holds Try.pinned (OpenSpec.upto rtoCallsSpec)

/-- 'lanyardlaw11.RtoBounds', WHERE WHAT IT READS IS OF BULK AT MOST 1048576: true; the input reads as it did. -/
def rtoBoundsUptoRow : OpenClaim := { program := "ytfjeoioejdkdpaa", sum := "944eb8418b1091429490e48afac0bfa5225c34a8ee1e71d1dfd32cd5733dec04", func := "lanyard/lanyardlaw11.RtoBounds", spec := "rtoBounds", unfollowed := true, recurses := true, plainKeys := false, apart := false, narrowed := true }
def RtoBoundsUptoSaid : Prop := rtoBoundsUptoRow.holds Try.pinned (OpenSpec.upto rtoBoundsSpec)

/-- 'lanyardlaw11.RtoSteady', WHERE WHAT IT READS IS OF BULK AT MOST 1048576: true; the input reads as it did. -/
def rtoSteadyUptoRow : OpenClaim := { program := "ytfjeoioejdkdpaa", sum := "944eb8418b1091429490e48afac0bfa5225c34a8ee1e71d1dfd32cd5733dec04", func := "lanyard/lanyardlaw11.RtoSteady", spec := "rtoSteady", unfollowed := true, recurses := true, plainKeys := false, apart := false, narrowed := true }
def RtoSteadyUptoSaid : Prop := rtoSteadyUptoRow.holds Try.pinned (OpenSpec.upto rtoSteadySpec)

end Rows
end Go.Proofs.Ytfjeoioejdkdpaa
