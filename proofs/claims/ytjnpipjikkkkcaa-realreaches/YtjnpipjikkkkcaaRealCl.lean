/- The contract of real.Clamp. -/
import Derived.Test.YtjnpipjikkkkcaaRealSh
namespace Go.Proofs.Ytjnpipjikkkkcaa
open Go.RowKit

set_option maxRecDepth 100000 in
set_option maxHeartbeats 1000000 in
theorem clamp_val (f lo hi q : Nat) (w : World) (h : clampB f lo hi = q) : Calls Try.prog 16 #[.float .f64 f, .float .f64 lo, .float .f64 hi] w fun e w' => e = .returned (.float .f64 q) ∧ w' = w := by
  rcases clamp_cases f lo hi q h with ⟨h1, hq⟩ | ⟨h1, h2, hq⟩ | ⟨h1, h2, h3, hq⟩ | ⟨h1, h2, h3, h4, hq⟩ | ⟨h1, h2, h3, h4, h5, hq⟩ | ⟨h1, h2, h3, h4, h5, hq⟩
  all_goals
    rw [hq]
    clear hq h
    have HA : Hid _ := fun w => noNum_val f _ w h1
    first | have HB : Hid _ := fun w => noNum_val lo _ w h2 | have HB := HA
    first | have HC : Hid _ := fun w => noNum_val hi _ w h3 | have HC := HA
    go_enter Try.func16, Try.ntmps16
    go_wp2_with (first
      | (go_at_call_of 29 (Value.float .f64 f); refine (HA.out _).mono ?_; rintro e w1 ⟨rfl, rfl⟩)
      | (go_at_call_of 29 (Value.float .f64 lo); refine (HB.out _).mono ?_; rintro e w1 ⟨rfl, rfl⟩)
      | (go_at_call_of 29 (Value.float .f64 hi); refine (HC.out _).mono ?_; rintro e w1 ⟨rfl, rfl⟩))
    go_ret
    exact ⟨rfl, rfl⟩

end Go.Proofs.Ytjnpipjikkkkcaa
