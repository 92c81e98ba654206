/- Part 31 of the proof: SpaceOpen. -/
import Derived.Test.YtcnflkjkgomnoaaGreatB16
import Derived.Test.YtcnflkjkgomnoaaGreatB30
set_option maxRecDepth 100000
set_option maxHeartbeats 8000000
namespace Go.Proofs.YtcnflkjkgomnoaaGreat.Spa
open Go.ChangeShapes Go.WideShapes Go.ChangeAt Go.RowKit Go.Proofs.YtcnflkjkgomnoaaGreat
open Go.Proofs.YtcnflkjkgomnoaaGreat.Edi (Ed Nm edV bel_cell)
instance : Inhabited Ed := ⟨⟨0, ⟨#[]⟩, ⟨#[]⟩, 0, 0, 0, []⟩⟩
section
variable {H : Type} {enc : TypeId × Value → H} {W : World} {base : Nat} {spare : Nat → Bool} {held : Bool}
end
end Go.Proofs.YtcnflkjkgomnoaaGreat.Spa
