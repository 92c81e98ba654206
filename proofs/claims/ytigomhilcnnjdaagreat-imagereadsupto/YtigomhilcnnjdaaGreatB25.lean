/- Part 25 of the proof: LeaseF4, LeaseF5, LeaseF6, LeaseF7. -/
import Derived.Test.YtigomhilcnnjdaaGreatB24
import Derived.Lib.AppendZeros

/- The contracts of slices.BinarySearchFunc, slices.Grow (of nothing), slices.Concat, at leases. -/
namespace Go.Proofs.YtigomhilcnnjdaaGreat.Lea
open Go.RowKit Go.Proofs.YtigomhilcnnjdaaGreat

end Go.Proofs.YtigomhilcnnjdaaGreat.Lea

/- The contracts of slices.Concat (three lists), lease.placed, lease.Renew. -/
namespace Go.Proofs.YtigomhilcnnjdaaGreat.Lea
open Go.RowKit Go.Proofs.YtigomhilcnnjdaaGreat

/-- The lists of SS, the first k of them together. -/
def catL (SS : Nat → LS) : Nat → LS
  | 0 => []
  | k + 1 => catL SS k ++ SS k

end Go.Proofs.YtigomhilcnnjdaaGreat.Lea

/- The contracts of lease.placed, lease.Renew. -/
namespace Go.Proofs.YtigomhilcnnjdaaGreat.Lea
open Go.RowKit Go.Proofs.YtigomhilcnnjdaaGreat

theorem bel_dr (w : World) : Below w.heap.size w w.drew := (Below.refl _ w).drew

end Go.Proofs.YtigomhilcnnjdaaGreat.Lea

/- The contract of lease.Renew. -/
namespace Go.Proofs.YtigomhilcnnjdaaGreat.Lea
open Go.RowKit Go.Proofs.YtigomhilcnnjdaaGreat

theorem renX_yes {xs : LS} {k now : Int} (h : Rt xs) (h1 : 0 ≤ k ∧ k < 4) (h2 : 0 ≤ now) (h3 : now ≤ 9007199254740981) : renX xs k now = (putL xs ⟨k, max (findX xs k).1 (now + 10)⟩, true) := if_pos ⟨h, h1, h2, h3⟩
theorem renX_no {xs : LS} {k now : Int} (h : ¬ (Rt xs ∧ (0 ≤ k ∧ k < 4) ∧ 0 ≤ now ∧ now ≤ 9007199254740981)) : renX xs k now = ([], false) := if_neg h

end Go.Proofs.YtigomhilcnnjdaaGreat.Lea
