/- Part 30 of the proof: EditOpen. -/
import Derived.Test.YtcnflkjkgomnoaaGreatB17
import Derived.Test.YtcnflkjkgomnoaaGreatB29
import Derived.Deep.Slices
import Derived.SizedLaws
set_option maxRecDepth 100000
set_option maxHeartbeats 8000000
namespace Go.Proofs.YtcnflkjkgomnoaaGreat.Edi
open Go.ChangeShapes Go.WideShapes Go.ChangeAt Go.RowKit Go.Proofs.YtcnflkjkgomnoaaGreat
section
variable {H : Type} {enc : TypeId × Value → H} {W : World} {base : Nat} {spare : Nat → Bool} {held : Bool}
end
end Go.Proofs.YtcnflkjkgomnoaaGreat.Edi
