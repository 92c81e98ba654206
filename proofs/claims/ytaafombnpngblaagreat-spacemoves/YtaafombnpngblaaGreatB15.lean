/- Part 15 of the proof: WireNum. -/
import Derived.Test.YtaafombnpngblaaGreatB14
import Derived.Laws.IdiomStrings
import Derived.Test.YtaafombnpngblaaGreatRows
import Derived.WalkKit
import Derived.WalkLawsBesides
import Derived.WalkSpells

/- The contracts of wire.fold, wire.unfold and wire.Num. -/
namespace Go.Proofs.YtaafombnpngblaaGreat.Wir
open Go.RowKit Go.Proofs.YtaafombnpngblaaGreat

theorem Tryz.infoByte : (Tryz.prog.info? 5).map (fun i => (i.zero, i.size, i.bytes)) = some (some (.int .u8 0), 1, 1) := by kernel_rfl

theorem ret_int {k : IntKind} {a b : Int} (h : a = b) : Ending.returned (.int k a) = .returned (.int k b) := by rw [h]
theorem ret_str {a b : List UInt8} (h : a = b) : Ending.returned (.string ⟨a.toArray⟩) = .returned (.string ⟨b.toArray⟩) := by rw [h]

end Go.Proofs.YtaafombnpngblaaGreat.Wir
