/- The contracts of the document's own Share, Reached, Clamp, Same, key, sign and Order (tabulariumref03). -/
import Derived.Test.YtjnpipjikkkkcaaRealCl
namespace Go.Proofs.Ytjnpipjikkkkcaa
open Go.RowKit

set_option maxHeartbeats 400000 in
theorem sameR (b : Nat) (w : World) : Calls Try.prog 15 #[.float .f64 b, .float .f64 b] w fun e w' => e = .returned (.bool true) ∧ w' = w := by
  have hrb := rbits
  cases hn : (FloatKind.f64.format.order b b != some Ordering.eq)
  all_goals
    go_enter Try.func15, Try.ntmps15
    go_wp2
    go_ret
    exact ⟨rfl, rfl⟩

set_option maxHeartbeats 400000 in
theorem same_val (a b : Nat) (w : World) (ha : a < 18446744073709551616) (hb : b < 18446744073709551616) (h : key a = key b) : Calls Try.prog 15 #[.float .f64 a, .float .f64 b] w fun e w' => e = .returned (.bool true) ∧ w' = w := by
  rcases key_same ha hb h with ⟨h1, h2⟩ | rfl
  · have hrb := rbits
    unfold isN at h1 h2
    clear h ha hb
    go_enter Try.func15, Try.ntmps15
    go_wp2
    go_ret
    exact ⟨rfl, rfl⟩
  · exact sameR a w

set_option maxRecDepth 100000 in
set_option maxHeartbeats 1000000 in
theorem refClamp_val (f lo hi q : Nat) (w : World) (h : clampB f lo hi = q) : Calls Try.prog 17 #[.float .f64 f, .float .f64 lo, .float .f64 hi] w fun e w' => e = .returned (.float .f64 q) ∧ w' = w := by
  rcases clamp_cases f lo hi q h with ⟨h1, hq⟩ | ⟨h1, h2, hq⟩ | ⟨h1, h2, h3, hq⟩ | ⟨h1, h2, h3, h4, hq⟩ | ⟨h1, h2, h3, h4, h5, hq⟩ | ⟨h1, h2, h3, h4, h5, hq⟩
  all_goals
    rw [hq]
    clear hq h
    unfold isN at *
    go_enter Try.func17, Try.ntmps17
    go_wp2
    go_ret
    exact ⟨rfl, rfl⟩

set_option maxRecDepth 100000 in
set_option maxHeartbeats 1000000 in
theorem refShare_val (u r q : Nat) (w : World) (h : shareB u r = q) : Calls Try.prog 19 #[.float .f64 u, .float .f64 r] w fun e w' => e = .returned (.float .f64 q) ∧ w' = w := by
  rcases share_cases u r q h with ⟨h1, hq⟩ | ⟨h1, h2, hq⟩ | ⟨h1, h2, h3 | h3, hq⟩ | ⟨h1, h2, h3, h4 | h4, hq⟩ | ⟨h1, h2, h3, h4, h5 | h5, hq⟩ | ⟨h1, h2, h3, h4, h5, h6, -⟩
  case inr.inr.inr.inr.inr =>
    have hop := hop_any .quo u r q h6
    clear h6 h
    unfold isN at *
    go_enter Try.func19, Try.ntmps19
    go_wp2
    go_ret
    exact ⟨rfl, rfl⟩
  all_goals
    rw [hq]
    clear hq h
    unfold isN at *
    go_enter Try.func19, Try.ntmps19
    go_wp2
    go_ret
    exact ⟨rfl, rfl⟩

set_option maxRecDepth 100000 in
set_option maxHeartbeats 1000000 in
theorem refReached_val (h n : Int) (s : Nat) (v : Bool) (w : World) (hn : n ≤ 9223372036854775807) (e : reachB h n s = v) : Calls Try.prog 23 #[.int .i64 h, .int .i64 n, .float .f64 s] w fun e w' => e = .returned (.bool v) ∧ w' = w := by
  rcases reach_cases h n s v hn e with ⟨h1, rfl⟩ | ⟨h1, h2, rfl⟩ | ⟨h1, h2, p, h3, h4⟩
  · clear e
    go_enter Try.func23, Try.ntmps23
    go_wp2
    go_ret
    exact ⟨rfl, rfl⟩
  · clear e
    unfold isN at h2
    go_enter Try.func23, Try.ntmps23
    go_wp2
    go_ret
    exact ⟨rfl, rfl⟩
  · have hop := hop_any .mul s (floatOfInt .f64 n) p h3
    have h5 : v = !(FloatKind.f64.format.order (floatOfInt .f64 (max h 0)) p == some .lt) := by rw [h4]; simp
    subst h5
    unfold isN at h2
    clear e h3 h4
    go_enter Try.func23, Try.ntmps23
    go_wp2
    all_goals
      go_ret
      exact ⟨rfl, rfl⟩

end Go.Proofs.Ytjnpipjikkkkcaa
