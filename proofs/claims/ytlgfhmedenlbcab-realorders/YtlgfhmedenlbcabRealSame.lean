/- The contract of tabulariumref03.Same. -/
import Derived.Test.YtlgfhmedenlbcabRealFn
namespace Go.Proofs.Ytlgfhmedenlbcab
open Go.RowKit


set_option maxHeartbeats 400000 in
theorem sameR (b : Nat) (w : World) : Calls Try.prog 17 #[.float .f64 b, .float .f64 b] w fun e w' => e = .returned (.bool true) ∧ w' = w := by
  have hrb := rbits
  cases hn : (FloatKind.f64.format.order b b != some Ordering.eq)
  all_goals
    go_enter Try.func17, Try.ntmps17
    go_wp2
    go_ret
    exact ⟨rfl, rfl⟩

set_option maxHeartbeats 400000 in
theorem same_val (a b : Nat) (w : World) (ha : a < 18446744073709551616) (hb : b < 18446744073709551616) (h : key a = key b) : Calls Try.prog 17 #[.float .f64 a, .float .f64 b] w fun e w' => e = .returned (.bool true) ∧ w' = w := by
  rcases key_same ha hb h with ⟨h1, h2⟩ | rfl
  · have hrb := rbits
    unfold isN at h1 h2
    clear h ha hb
    go_enter Try.func17, Try.ntmps17
    go_wp2
    go_ret
    exact ⟨rfl, rfl⟩
  · exact sameR a w

end Go.Proofs.Ytlgfhmedenlbcab
