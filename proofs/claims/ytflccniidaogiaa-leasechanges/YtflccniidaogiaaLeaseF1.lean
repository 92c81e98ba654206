/- The contracts of lease.isClient, cmp.isNaN, cmp.Compare, lease.byClient, lease.Right. -/
import Derived.Test.YtflccniidaogiaaLeaseM
import Derived.Test.YtflccniidaogiaaRows
import Derived.WalkKit
import Derived.WalkSpells
import Derived.WalkLawsBesides
import Derived.Deep.RegionWith
import Derived.Deep.RegionLaw
import Derived.Deep.QuietTactic
import Derived.BigQuiet
import Derived.BigRegion
import Derived.Lib.QuietBelow
import Derived.Lib.MinMax
import Derived.OwnWalk
namespace Go.Proofs.Ytflccniidaogiaa.Lea
open Go.RowKit Go.Proofs.Ytflccniidaogiaa

set_option maxRecDepth 100000 in
theorem isClient_val (c : Int) (v : Bool) (w : World) (hv : (decide (0 ≤ c) && decide (c < 4)) = v) :
    Calls Try.prog 20 #[.int .i64 c] w fun e w' => e = .returned (.bool v) ∧ w' = w := by
  cases h1 : decide (0 ≤ c) <;> cases h2 : decide (c < 4) <;> rw [h1, h2] at hv <;> subst hv
  all_goals
    simp only [decide_eq_true_eq, decide_eq_false_iff_not] at h1 h2
    go_enter Try.func20, Try.ntmps20
    go_wp2
    go_ret
    exact ⟨rfl, rfl⟩

set_option maxRecDepth 100000 in
theorem isNaN_val (c : Int) (w : World) :
    Calls Try.prog 27 #[.int .i64 c] w fun e w' => e = .returned (.bool false) ∧ w' = w := by
  go_enter Try.func27, Try.ntmps27
  go_wp2
  go_ret
  exact ⟨by simp, rfl⟩

/-- How two numbers stand. -/
def cmpI (x y : Int) : Int := if x < y then -1 else if y < x then 1 else 0
theorem cmpI_neg {x y : Int} : cmpI x y < 0 ↔ x < y := by unfold cmpI; (repeat' split) <;> omega
theorem cmpI_zero {x y : Int} : cmpI x y = 0 ↔ x = y := by unfold cmpI; (repeat' split) <;> omega

set_option maxRecDepth 100000 in
theorem compare_val (x y r : Int) (w : World) (hr : cmpI x y = r) :
    Calls Try.prog 24 #[.int .i64 x, .int .i64 y] w fun e w' => e = .returned (.int .i64 r) ∧ w' = w := by
  unfold cmpI at hr
  by_cases h1 : x < y
  · rw [if_pos h1] at hr
    subst hr
    go_enter Try.func24, Try.ntmps24
    go_wp2_with (refine (isNaN_val _ _).mono ?_; rintro e w1 ⟨rfl, rfl⟩)
    go_ret
    exact ⟨rfl, rfl⟩
  · rw [if_neg h1] at hr
    by_cases h2 : y < x
    · rw [if_pos h2] at hr
      subst hr
      go_enter Try.func24, Try.ntmps24
      go_wp2_with (refine (isNaN_val _ _).mono ?_; rintro e w1 ⟨rfl, rfl⟩)
      go_ret
      exact ⟨rfl, rfl⟩
    · rw [if_neg h2] at hr
      subst hr
      go_enter Try.func24, Try.ntmps24
      go_wp2_with (refine (isNaN_val _ _).mono ?_; rintro e w1 ⟨rfl, rfl⟩)
      go_ret
      exact ⟨rfl, rfl⟩

set_option maxRecDepth 100000 in
theorem byClient_val (x y : Ls) (r : Int) (w : World) (hr : cmpI x.c y.c = r) :
    Calls Try.prog 21 #[lsV x, lsV y] w fun e w' => e = .returned (.int .i64 r) ∧ Below w.heap.size w w' := by
  obtain ⟨c, u⟩ := x
  obtain ⟨c2, u2⟩ := y
  have HR : Hid (cmpI c c2 = r) := hr
  clear hr
  unfold lsV
  go_enter Try.func21, Try.ntmps21
  go_wp2_with (refine (compare_val c c2 r _ HR.out).mono ?_; rintro e w1 ⟨rfl, rfl⟩)
  go_ret
  exact ⟨rfl, bel_tr (bel_al _ _) (bel_al _ _)⟩

end Go.Proofs.Ytflccniidaogiaa.Lea
