/- Plain: a call's row taken out of a list in which no call stands twice. -/
import Derived.Test.YthogpaojdlfjcaaRetryR6
import Derived.Test.YthogpaojdlfjcaaRetryP
namespace Go.Proofs.Ythogpaojdlfjcaa.Rty
open Go.RowKit Go.Proofs.Ythogpaojdlfjcaa Go.Proofs.Ythogpaojdlfjcaa.Edi

theorem part_filter {R : List Rc} {i : Nat} (hi : i < R.length) (hA : Apart (R.map absR)) {c k : Int} (hc : R[i].ed.c = c ∧ R[i].ed.l = k) :
    (R.map absR).filter (fun p => !isA c k p) = (R.take i ++ R.drop (i + 1)).map absR := by
  have e : R.map absR = (R.take i).map absR ++ absR R[i] :: (R.drop (i + 1)).map absR := by rw [← List.map_cons, ← List.map_append, ← List.drop_eq_getElem_cons hi, List.take_append_drop]
  unfold Apart at hA
  rw [e] at hA ⊢
  obtain ⟨_, h2, h3⟩ := List.pairwise_append.1 hA
  obtain ⟨h4, _⟩ := List.pairwise_cons.1 h2
  have hyes : isA c k (absR R[i]) = true := isA_iff.2 hc
  rw [List.filter_append, List.filter_cons_of_neg (by rw [hyes]; decide), List.map_append]
  congr 1
  · refine List.filter_eq_self.2 (fun p hp => ?_)
    cases h : isA c k p with
    | false => rfl
    | true =>
      obtain ⟨a1, a2⟩ := isA_iff.1 h
      obtain ⟨b1, b2⟩ := isA_iff.1 hyes
      exact absurd ⟨a1.trans b1.symm, a2.trans b2.symm⟩ (h3 p hp _ (List.mem_cons_self ..))
  · refine List.filter_eq_self.2 (fun p hp => ?_)
    cases h : isA c k p with
    | false => rfl
    | true =>
      obtain ⟨a1, a2⟩ := isA_iff.1 h
      obtain ⟨b1, b2⟩ := isA_iff.1 hyes
      exact absurd ⟨b1.trans a1.symm, b2.trans a2.symm⟩ (h4 p hp)

end Go.Proofs.Ythogpaojdlfjcaa.Rty
