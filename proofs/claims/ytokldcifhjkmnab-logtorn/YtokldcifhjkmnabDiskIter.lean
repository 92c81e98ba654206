import Derived.Shelf.SlIter.Nil
import Derived.Shelf.SortM.Plain
import Derived.Shelf.SortM.SortNone
import Derived.Test.YtokldcifhjkmnabProg
/- Nothing to lay here: the seat lists no map's keys. -/
namespace Go.Proofs.Ytokldcifhjkmnab
end Go.Proofs.Ytokldcifhjkmnab
