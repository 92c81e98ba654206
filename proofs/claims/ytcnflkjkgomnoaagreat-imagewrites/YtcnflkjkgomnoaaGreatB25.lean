/- Part 25 of the proof: LeaseF4, LeaseF5, LeaseF6, LeaseF7. -/
import Derived.Test.YtcnflkjkgomnoaaGreatB24
import Derived.Lib.AppendZeros
set_option maxRecDepth 100000
set_option maxHeartbeats 8000000
namespace Go.Proofs.YtcnflkjkgomnoaaGreat.Lea
open Go.RowKit Go.Proofs.YtcnflkjkgomnoaaGreat
end Go.Proofs.YtcnflkjkgomnoaaGreat.Lea
