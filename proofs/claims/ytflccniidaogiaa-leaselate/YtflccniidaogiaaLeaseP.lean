/- Leases: what the laws need in plain words. No program in it. -/
import Derived.Test.YtflccniidaogiaaLeaseM
namespace Go.Proofs.Ytflccniidaogiaa.Lea
open Go.RowKit Go.Proofs.Ytflccniidaogiaa

theorem late_app (now : Int) (xs ys : LS) : lateL now (xs ++ ys) = lateL now xs ++ lateL now ys := by
  unfold lateL; rw [List.filter_append, List.map_append]

theorem late_at {now : Int} {xs : LS} {i : Nat} (hi : i < xs.length) (hu : xs[i].u < now) {zs : List Int} (hz : lateL now xs = zs) : ∃ h : (lateL now (xs.take i)).length < zs.length, zs[(lateL now (xs.take i)).length] = xs[i].c := by
  have e : zs = lateL now (xs.take i) ++ (xs[i].c :: lateL now (xs.drop (i + 1))) := by
    rw [← hz]
    conv => lhs; rw [← List.take_append_drop (i + 1) xs, late_app, late_take now xs i hi, if_pos hu]
    simp
  subst e
  refine ⟨by simp, ?_⟩
  simp

theorem late_more {now later : Int} (h : now ≤ later) : ∀ xs : LS, (lateL now xs).length ≤ (lateL later xs).length
  | [] => Nat.le_refl _
  | x :: xs => by
    have ih := late_more h xs
    unfold lateL at *
    by_cases h1 : x.u < now
    · have h2 : x.u < later := by omega
      simp [h1, h2] at ih ⊢; exact ih
    · by_cases h2 : x.u < later
      · simp [h1, h2] at ih ⊢; omega
      · simp [h1, h2] at ih ⊢; exact ih

end Go.Proofs.Ytflccniidaogiaa.Lea
