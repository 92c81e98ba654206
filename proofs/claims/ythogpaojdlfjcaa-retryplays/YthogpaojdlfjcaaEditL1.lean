/- The contracts of tabulariumlaw10.numbers, same. -/
import Derived.Test.YthogpaojdlfjcaaEditR
import Derived.Test.YthogpaojdlfjcaaRows
import Derived.BigQuiet
namespace Go.Proofs.Ythogpaojdlfjcaa.Edi
open Go.RowKit Go.Proofs.Ythogpaojdlfjcaa Go.Proofs.Ythogpaojdlfjcaa.Wir
open Go.WideShapes (bytes_inj)

theorem same_eq (p q : ByteArray) : (p.toList == q.toList) = decide (p = q) := by
  rw [Lib.toList_data, Lib.toList_data]
  by_cases h : p = q
  · subst h; simp
  · rw [decide_eq_false h, beq_eq_false_iff_ne]
    intro e
    exact h (bytes_inj e)

end Go.Proofs.Ythogpaojdlfjcaa.Edi
