/-
  tlv.Put and the document's Put, of any thing.
-/
import Derived.Test.YtjlemghkaodkkaaTlvPut
import Derived.Test.YtjlemghkaodkkaaTlvRef
namespace Go.Proofs.Ytjlemghkaodkkaa
open Go.RowKit Wire Tlv

theorem tput_any (ch : Bool) (x : Tv) (A : Option Addr) (n c : Nat) (w : World) (hx : x.ok) (hl : x.v.length = n) (hn : n ≤ 140737488355328) (hr : Row w A (bs x.v)) :
    Calls Try.prog 22 #[.bool ch, .agg #[.int .u16 (x.k : Int), .int .u8 (x.f : Int), .slice A n c]] w (PutOut w (tp ch x)) := by
  by_cases h : ¬ fit ch x ∨ 65531 < n
  · exact tput_bad ch x A n c w hx hl hn h
  · by_cases hf : fit ch x
    · exact tput_good ch x A n c w hx hl (by omega) hf hr
    · exact absurd (.inl hf) h
theorem trput_any (ch : Bool) (x : Tv) (A : Option Addr) (n c : Nat) (w : World) (hx : x.ok) (hl : x.v.length = n) (hn : n ≤ 140737488355328) (hr : Row w A (bs x.v)) (hz : A = none → n = 0 ∧ c = 0) :
    Calls Try.prog 25 #[.bool ch, .agg #[.int .u16 (x.k : Int), .int .u8 (x.f : Int), .slice A n c]] w (PutOut w (tp ch x)) := by
  by_cases h : ¬ fit ch x ∨ 65531 < n
  · exact trput_bad ch x A n c w hx hl hn h
  · by_cases hf : fit ch x
    · exact trput_good ch x A n c w hx hl (by omega) hf hr hz
    · exact absurd (.inl hf) h
end Go.Proofs.Ytjlemghkaodkkaa
