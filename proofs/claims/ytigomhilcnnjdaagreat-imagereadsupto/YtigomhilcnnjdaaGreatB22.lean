/- Part 22 of the proof: TreeSort. -/
import Derived.Ground.SlsfProg
import Derived.Shelf.SlSortCmp.WholeK
import Derived.Test.YtigomhilcnnjdaaGreatProg

/- Nothing is sorted at this seat. -/

