/- The contracts of real.Share, real.Reached, math.Copysign at the edges, and of the examples ahead of each statement of layer 3. -/
import Derived.Test.YtlgfhmedenlbcabRealS
import Derived.Test.YtlgfhmedenlbcabRealFn
namespace Go.Proofs.Ytlgfhmedenlbcab
open Go.RowKit

theorem hop_any (op : BinOp) (x y r : Nat) (h : floatBits op .f64 x y = some r) : ∀ t w, (binOp op t (.float .f64 x) (.float .f64 y)).run Try.prog w = .ok (.float .f64 r) w :=
  fun t w => run_float_arith w op t .f64 x y r h

set_option maxRecDepth 100000 in
set_option maxHeartbeats 1000000 in
theorem share_val (u r q : Nat) (w : World) (h : shareB u r = q) : Calls Try.prog 14 #[.float .f64 u, .float .f64 r] w fun e w' => e = .returned (.float .f64 q) ∧ w' = w := by
  rcases share_cases u r q h with ⟨h1, rfl⟩ | ⟨h1, h2, rfl⟩ | ⟨h1, h2, h3, rfl⟩ | ⟨h1, h2, h3, h4, rfl⟩ | ⟨h1, h2, h3, h4, h5, rfl⟩ | ⟨h1, h2, h3, h4, h5, h6, h7⟩
  case inl =>
    have HA : Hid _ := fun w => noNum_val u _ w h1
    clear h h1
    go_enter Try.func14, Try.ntmps14
    go_wp2_with (go_at_call_of 18 (Value.float .f64 u); refine (HA.out _).mono ?_; rintro e w1 ⟨rfl, rfl⟩)
    go_ret
    exact ⟨rfl, rfl⟩
  all_goals
    have HA : Hid _ := fun w => noNum_val u _ w h1
    have HB : Hid _ := fun w => noNum_val r _ w h2
    clear h h1 h2
  case inr.inl =>
    go_enter Try.func14, Try.ntmps14
    go_wp2_with (first
      | (go_at_call_of 18 (Value.float .f64 u); refine (HA.out _).mono ?_; rintro e w1 ⟨rfl, rfl⟩)
      | (go_at_call_of 18 (Value.float .f64 r); refine (HB.out _).mono ?_; rintro e w1 ⟨rfl, rfl⟩))
    go_ret
    exact ⟨rfl, rfl⟩
  case inr.inr.inl =>
    rcases h3 with h3 | h3
    all_goals
      go_enter Try.func14, Try.ntmps14
      go_wp2_with (first
        | (go_at_call_of 18 (Value.float .f64 u); refine (HA.out _).mono ?_; rintro e w1 ⟨rfl, rfl⟩)
        | (go_at_call_of 18 (Value.float .f64 r); refine (HB.out _).mono ?_; rintro e w1 ⟨rfl, rfl⟩))
      go_ret
      exact ⟨rfl, rfl⟩
  case inr.inr.inr.inl =>
    rcases h4 with h4 | h4
    all_goals
      go_enter Try.func14, Try.ntmps14
      go_wp2_with (first
        | (go_at_call_of 18 (Value.float .f64 u); refine (HA.out _).mono ?_; rintro e w1 ⟨rfl, rfl⟩)
        | (go_at_call_of 18 (Value.float .f64 r); refine (HB.out _).mono ?_; rintro e w1 ⟨rfl, rfl⟩))
      go_ret
      exact ⟨rfl, rfl⟩
  case inr.inr.inr.inr.inl =>
    rcases h5 with h5 | h5
    all_goals
      go_enter Try.func14, Try.ntmps14
      go_wp2_with (first
        | (go_at_call_of 18 (Value.float .f64 u); refine (HA.out _).mono ?_; rintro e w1 ⟨rfl, rfl⟩)
        | (go_at_call_of 18 (Value.float .f64 r); refine (HB.out _).mono ?_; rintro e w1 ⟨rfl, rfl⟩))
      go_ret
      exact ⟨rfl, rfl⟩
  case inr.inr.inr.inr.inr =>
    have hop := hop_any .quo u r q h6
    clear h6
    rcases h7 with ⟨h7, rfl⟩ | h7
    all_goals
      have HI : Hid _ := fun w => isInf1_val r _ w h7
      clear h7
      go_enter Try.func14, Try.ntmps14
      go_wp2_with (first
        | (go_at_call_of 18 (Value.float .f64 u); refine (HA.out _).mono ?_; rintro e w1 ⟨rfl, rfl⟩)
        | (go_at_call_of 18 (Value.float .f64 r); refine (HB.out _).mono ?_; rintro e w1 ⟨rfl, rfl⟩)
        | (go_at_call 25; refine (HI.out _).mono ?_; rintro e w1 ⟨rfl, rfl⟩))
      go_ret
      exact ⟨rfl, rfl⟩

set_option maxRecDepth 100000 in
set_option maxHeartbeats 1000000 in
theorem reached_val (h n : Int) (s : Nat) (v : Bool) (w : World) (hn : n ≤ 9223372036854775807) (e : reachB h n s = v) : Calls Try.prog 15 #[.int .i64 h, .int .i64 n, .float .f64 s] w fun e w' => e = .returned (.bool v) ∧ w' = w := by
  rcases reach_cases h n s v hn e with ⟨h1, rfl⟩ | ⟨h1, h2, rfl⟩ | ⟨h1, h2, p, h3, h4⟩
  · clear e
    go_enter Try.func15, Try.ntmps15
    go_wp2
    go_ret
    exact ⟨rfl, rfl⟩
  · have HA : Hid _ := fun w => noNum_val s _ w h2
    clear e h2
    go_enter Try.func15, Try.ntmps15
    go_wp2_with (go_at_call_of 18 (Value.float .f64 s); refine (HA.out _).mono ?_; rintro e w1 ⟨rfl, rfl⟩)
    go_ret
    exact ⟨rfl, rfl⟩
  · have HA : Hid _ := fun w => noNum_val s _ w h2
    have hop := hop_any .mul s (floatOfInt .f64 n) p h3
    have h5 : v = !(FloatKind.f64.format.order (floatOfInt .f64 (max h 0)) p == some .lt) := by rw [h4]; simp
    subst h5
    clear e h2 h3 h4
    go_enter Try.func15, Try.ntmps15
    go_wp2_with (go_at_call_of 18 (Value.float .f64 s); refine (HA.out _).mono ?_; rintro e w1 ⟨rfl, rfl⟩)
    all_goals
      go_ret
      exact ⟨rfl, rfl⟩

set_option maxHeartbeats 400000 in
theorem copysign_zero (w : World) : Calls Try.prog 11 #[.float .f64 0, .float .f64 13830554455654793216] w fun e w' => e = .returned (.float .f64 9223372036854775808) ∧ w' = w := by
  have hrb := rbits
  have hrf := rfrom
  go_enter Try.func11, Try.ntmps11
  go_wp2
  go_ret
  exact ⟨rfl, rfl⟩

set_option maxHeartbeats 400000 in
theorem copysign_max (w : World) : Calls Try.prog 11 #[.float .f64 9218868437227405311, .float .f64 9218868437227405312] w fun e w' => e = .returned (.float .f64 9218868437227405311) ∧ w' = w := by
  have hrb := rbits
  have hrf := rfrom
  go_enter Try.func11, Try.ntmps11
  go_wp2
  go_ret
  exact ⟨rfl, rfl⟩

set_option maxHeartbeats 400000 in
theorem copysign_min (w : World) : Calls Try.prog 11 #[.float .f64 9218868437227405311, .float .f64 18442240474082181120] w fun e w' => e = .returned (.float .f64 18442240474082181119) ∧ w' = w := by
  have hrb := rbits
  have hrf := rfrom
  go_enter Try.func11, Try.ntmps11
  go_wp2
  go_ret
  exact ⟨rfl, rfl⟩

theorem eq_one : FloatKind.f64.format.order 4607182418800017408 4607182418800017408 = some .eq := by decide +kernel
theorem eq_075 : FloatKind.f64.format.order 4604930618986332160 4604930618986332160 = some .eq := by decide +kernel

set_option maxRecDepth 100000 in
set_option maxHeartbeats 1000000 in
theorem examples3_any (w : World) : Calls Try.prog 5 #[] w fun e w' => e = .returned (.bool true) ∧ w' = w := by
  have e1 := eq_one
  have e2 := eq_075
  go_enter Try.func5, Try.ntmps5
  go_wp2_with (first
    | (go_at_call 11; refine (copysign_zero _).mono ?_; rintro e w1 ⟨rfl, rfl⟩)
    | (go_at_call_of 9 (Value.float .f64 9223372036854775808); refine (order_val _ _ _ _ (by decide) (by decide) ex_ord1).mono ?_; rintro e w1 ⟨rfl, rfl⟩)
    | (go_at_call_of 9 (Value.float .f64 9221120237041090561); refine (order_val _ _ _ _ (by decide) (by decide) ex_ord2).mono ?_; rintro e w1 ⟨rfl, rfl⟩)
    | (go_at_call 12; refine (nan_val _).mono ?_; rintro e w1 ⟨rfl, rfl⟩)
    | (go_at_call 13; refine (inf_val _).mono ?_; rintro e w1 ⟨rfl, rfl⟩)
    | (go_at_call_of 14 (Value.float .f64 4607182418800017408); refine (share_val _ _ _ _ ex_share1).mono ?_; rintro e w1 ⟨rfl, rfl⟩)
    | (go_at_call_of 14 (Value.float .f64 9218868437227405312); refine (share_val _ _ _ _ ex_share2).mono ?_; rintro e w1 ⟨rfl, rfl⟩)
    | (go_at_call_of 14 (Value.float .f64 4613937818241073152); refine (share_val _ _ _ _ ex_share3).mono ?_; rintro e w1 ⟨rfl, rfl⟩)
    | (go_at_call_of 15 (Value.int .i64 999); refine (reached_val _ _ _ _ _ (by decide) ex_reach1).mono ?_; rintro e w1 ⟨rfl, rfl⟩)
    | (go_at_call_of 15 (Value.int .i64 0); refine (reached_val _ _ _ _ _ (by decide) ex_reach2).mono ?_; rintro e w1 ⟨rfl, rfl⟩))
  go_ret
  exact ⟨rfl, rfl⟩

end Go.Proofs.Ytlgfhmedenlbcab
