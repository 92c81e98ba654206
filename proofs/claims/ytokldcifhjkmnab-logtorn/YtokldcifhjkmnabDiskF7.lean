/- The contracts of disk.cut and disk.Crash. -/
import Derived.Test.YtokldcifhjkmnabDiskF6
namespace Go.Proofs.Ytokldcifhjkmnab
open Go.RowKit

end Go.Proofs.Ytokldcifhjkmnab
