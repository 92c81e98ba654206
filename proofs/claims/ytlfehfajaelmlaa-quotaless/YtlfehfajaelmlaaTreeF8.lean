/- The contract of tree.Remove. -/
import Derived.Test.YtlfehfajaelmlaaTreeF7
namespace Go.Proofs.Ytlfehfajaelmlaa
open Go.RowKit

/-- A list of nodes of the call's own, and an error, are told. -/
structure TwoR (base : Nat) (xs : NS) (E : Int) (e : Ending) (w' : World) : Prop where
  ex : ∃ a n c, e = .returned (.tuple #[.slice a n c, .int .i64 E]) ∧ LX base w' a n c xs

theorem TwoR.no (base : Nat) (E : Int) {e : Ending} {w' : World} (h : e = .returned (.tuple #[.slice none 0 0, .int .i64 E])) : TwoR base [] E e w' := ⟨none, 0, 0, h, LX.no _ _⟩

end Go.Proofs.Ytlfehfajaelmlaa
