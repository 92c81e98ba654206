/- The contracts of tabulariumref03.key, sign and Order. -/
import Derived.Test.YtlgfhmedenlbcabRealSame
namespace Go.Proofs.Ytlgfhmedenlbcab
open Go.RowKit

/-- What stands for a fraction: of which kind, the fraction, -0 or not. -/
def keyP (f : Nat) : Int := if isN f then 0 else if sr f = 0 ∧ sg f = true then 0 else 1
def keyX (f : Nat) : Int := if isN f then 2 else 1

theorem key_any (f v : Nat) (x p : Int) (w : World) (hf : f < 18446744073709551616) (hx : keyX f = x) (hv : kf f = v) (hp : keyP f = p) :
    Calls Try.prog 21 #[.float .f64 f] w fun e w' => e = .returned (.tuple #[.int .i64 x, .float .f64 v, .int .i64 p]) ∧ w' = w := by
  unfold keyX at hx
  unfold keyP at hp
  unfold kf at hv
  cases hn : isN f with
  | true =>
    rw [hn] at hx hv hp
    simp at hx hv hp
    subst hx hv hp
    unfold isN at hn
    go_enter Try.func21, Try.ntmps21
    go_wp2
    go_ret3
    exact ⟨rfl, rfl⟩
  | false =>
    rw [hn] at hx hv hp
    simp only [Bool.false_eq_true, if_false] at hx hv hp
    subst hx
    rcases fo_three hn nan_zero with ⟨h, h1, h2⟩ | ⟨h, h1, h2⟩ | ⟨h, h1, h2⟩
    · rw [sr_zero] at h
      rw [if_neg (by omega)] at hv hp
      subst hv hp
      unfold isN at hn
      go_enter Try.func21, Try.ntmps21
      go_wp2
      go_ret3
      exact ⟨rfl, rfl⟩
    · rw [sr_zero] at h
      cases hs : sg f with
      | true =>
        rw [if_pos ⟨h, hs⟩] at hv hp
        subst hv hp
        have C1 : Hid _ := fun w => signbit_val f true w hf hs
        unfold isN at hn
        clear hs hf
        go_enter Try.func21, Try.ntmps21
        go_wp2_with (go_at_call 20; refine (C1.out _).mono ?_; rintro e w1 ⟨rfl, rfl⟩)
        go_ret3
        exact ⟨rfl, rfl⟩
      | false =>
        rw [if_neg (by rw [hs]; simp)] at hv hp
        subst hv hp
        have C1 : Hid _ := fun w => signbit_val f false w hf hs
        unfold isN at hn
        clear hs hf
        go_enter Try.func21, Try.ntmps21
        go_wp2_with (go_at_call 20; refine (C1.out _).mono ?_; rintro e w1 ⟨rfl, rfl⟩)
        go_ret3
        exact ⟨rfl, rfl⟩
    · rw [sr_zero] at h
      rw [if_neg (by omega)] at hv hp
      subst hv hp
      unfold isN at hn
      go_enter Try.func21, Try.ntmps21
      go_wp2
      go_ret3
      exact ⟨rfl, rfl⟩

theorem sign_any (b : Bool) (z : Int) (w : World) (h : (if b then (-1 : Int) else 1) = z) :
    Calls Try.prog 22 #[.bool b] w fun e w' => e = .returned (.int .i64 z) ∧ w' = w := by
  subst h
  cases b
  all_goals
    go_enter Try.func22, Try.ntmps22
    go_wp2
    go_ret
    exact ⟨rfl, rfl⟩

/-- How the two stand to one another. -/
theorem keys_cases (a b : Nat) :
    (keyX a ≠ keyX b ∧ cmpZ (key a) (key b) = if keyX a < keyX b then -1 else 1) ∨
    (keyX a = keyX b ∧ FloatKind.f64.format.order (kf a) (kf b) = some .lt ∧ cmpZ (key a) (key b) = -1) ∨
    (keyX a = keyX b ∧ FloatKind.f64.format.order (kf a) (kf b) = some .gt ∧ cmpZ (key a) (key b) = 1) ∨
    (keyX a = keyX b ∧ FloatKind.f64.format.order (kf a) (kf b) = some .eq ∧ FloatKind.f64.format.order (kf a) 0 = some .eq ∧ keyP a ≠ keyP b ∧ cmpZ (key a) (key b) = if keyP a < keyP b then -1 else 1) ∨
    (keyX a = keyX b ∧ FloatKind.f64.format.order (kf a) (kf b) = some .eq ∧ FloatKind.f64.format.order (kf a) 0 = some .eq ∧ keyP a = keyP b ∧ cmpZ (key a) (key b) = 0) ∨
    (keyX a = keyX b ∧ FloatKind.f64.format.order (kf a) (kf b) = some .eq ∧ (FloatKind.f64.format.order (kf a) 0 = some .lt ∨ FloatKind.f64.format.order (kf a) 0 = some .gt) ∧ cmpZ (key a) (key b) = 0) := by
  have ka := kf_nan a
  have kb := kf_nan b
  rcases ord_cases a b with ⟨h1, h2, h3⟩ | ⟨h1, h2, h3⟩ | ⟨h1, h2, h3⟩ | ⟨h1, h2, h4, h5, h3⟩ | ⟨h1, h2, h4, h5, h3⟩ | ⟨h1, h2, h4, h5, h6, h3⟩
  · have e1 : kf a = 0 := by unfold kf; rw [h1]; rfl
    have e2 : kf b = 0 := by unfold kf; rw [h2]; rfl
    have e0 := fo_eqv nan_zero nan_zero rfl
    refine .inr (.inr (.inr (.inr (.inl ⟨?_, ?_, ?_, ?_, h3⟩))))
    · unfold keyX; rw [h1, h2]
    · rw [e1, e2]; exact e0
    · rw [e1]; exact e0
    · unfold keyP; rw [h1, h2]; rfl
  · left
    have e1 : keyX a = 2 := by unfold keyX; rw [h1]; rfl
    have e2 : keyX b = 1 := by unfold keyX; rw [h2]; rfl
    rw [e1, e2, h3]
    exact ⟨by decide, by decide⟩
  · left
    have e1 : keyX a = 1 := by unfold keyX; rw [h1]; rfl
    have e2 : keyX b = 2 := by unfold keyX; rw [h2]; rfl
    rw [e1, e2, h3]
    exact ⟨by decide, by decide⟩
  · right; left
    have h := fo_some_lt h4
    exact ⟨by unfold keyX; rw [h1, h2], fo_lt ka kb (by rw [kf_sr h1, kf_sr h2]; exact h.2.2), h3⟩
  · right; right; left
    have h := fo_some_lt h5
    exact ⟨by unfold keyX; rw [h1, h2], fo_gt ka kb (by rw [kf_sr h1, kf_sr h2]; exact h.2.2), h3⟩
  · right; right; right
    have hx : keyX a = keyX b := by unfold keyX; rw [h1, h2]
    have ho : FloatKind.f64.format.order (kf a) (kf b) = some .eq := fo_eqv ka kb (by rw [kf_sr h1, kf_sr h2]; exact h6)
    have hP : ∀ c, isN c = false → keyP c = if sr c = 0 ∧ sg c = true then 0 else 1 := fun c hc => by unfold keyP; rw [hc]; rfl
    by_cases h0 : sr a = 0
    · have h0b : sr b = 0 := by rw [← h6]; exact h0
      have hz : FloatKind.f64.format.order (kf a) 0 = some .eq := fo_eqv ka nan_zero (by rw [kf_sr h1, sr_zero]; exact h0)
      rcases h3 with ⟨k1, k2⟩ | ⟨k1, k2, -, k3⟩ | ⟨k1, k2, -, k3⟩
      · right; left
        exact ⟨hx, ho, hz, by rw [hP a h1, hP b h2, h0, h0b, k1], k2⟩
      · left
        have e1 : keyP a = 0 := by rw [hP a h1, if_pos ⟨h0, k1⟩]
        have e2 : keyP b = 1 := by rw [hP b h2, if_neg (by rw [k2]; simp)]
        rw [e1, e2, k3]
        exact ⟨hx, ho, hz, by decide, by decide⟩
      · left
        have e1 : keyP a = 1 := by rw [hP a h1, if_neg (by rw [k1]; simp)]
        have e2 : keyP b = 0 := by rw [hP b h2, if_pos ⟨h0b, k2⟩]
        rw [e1, e2, k3]
        exact ⟨hx, ho, hz, by decide, by decide⟩
    · right; right
      have hz : FloatKind.f64.format.order (kf a) 0 = some .lt ∨ FloatKind.f64.format.order (kf a) 0 = some .gt := by
        rcases Int.lt_or_gt_of_ne h0 with h | h
        · exact .inl (fo_lt ka nan_zero (by rw [kf_sr h1, sr_zero]; exact h))
        · exact .inr (fo_gt ka nan_zero (by rw [kf_sr h1, sr_zero]; exact h))
      rcases h3 with ⟨k1, k2⟩ | ⟨k1, k2, k4, k3⟩ | ⟨k1, k2, k4, k3⟩
      · exact ⟨hx, ho, hz, k2⟩
      · exact absurd k4 h0
      · exact absurd k4 h0

theorem keyX_small (a : Nat) : keyX a = 1 ∨ keyX a = 2 := by unfold keyX; split <;> simp
theorem keyP_small (a : Nat) : keyP a = 0 ∨ keyP a = 1 := by unfold keyP; split; simp; split <;> simp

set_option maxRecDepth 100000 in
set_option maxHeartbeats 1000000 in
theorem refOrder_val (a b : Nat) (Z : Int) (w : World) (ha : a < 18446744073709551616) (hb : b < 18446744073709551616) (h : cmpZ (key a) (key b) = Z) : Calls Try.prog 10 #[.float .f64 a, .float .f64 b] w fun e w' => e = .returned (.int .i64 Z) ∧ w' = w := by
  have hk := keys_cases a b
  have CA : Hid _ := fun w => key_any a (kf a) (keyX a) (keyP a) w ha rfl rfl rfl
  have CB : Hid _ := fun w => key_any b (kf b) (keyX b) (keyP b) w hb rfl rfl rfl
  have sA := keyX_small a
  have sB := keyX_small b
  have tA := keyP_small a
  have tB := keyP_small b
  rw [h] at hk
  clear ha hb h
  generalize kf a = f at *
  generalize kf b = g at *
  generalize keyX a = x at *
  generalize keyX b = y at *
  generalize keyP a = p at *
  generalize keyP b = q at *
  rcases hk with ⟨h1, h2⟩ | ⟨h1, h2, h3⟩ | ⟨h1, h2, h3⟩ | ⟨h1, h2, h3, h4, h5⟩ | ⟨h1, h2, h3, h4, h5⟩ | ⟨h1, h2, h3 | h3, h5⟩
  · have CS : Hid _ := fun w => sign_any (decide (x < y)) Z w (by rw [h2]; by_cases hxy : x < y <;> simp [hxy])
    clear h2
    have hne : ¬ x = y := h1
    go_enter Try.func10, Try.ntmps10
    go_wp2_with (first
      | (go_at_call_of 21 (Value.float .f64 a); refine (CA.out _).mono ?_; rintro e w1 ⟨rfl, rfl⟩)
      | (go_at_call_of 21 (Value.float .f64 b); refine (CB.out _).mono ?_; rintro e w1 ⟨rfl, rfl⟩)
      | (go_at_call 22; refine (CS.out _).mono ?_; rintro e w1 ⟨rfl, rfl⟩))
    go_ret
    exact ⟨rfl, rfl⟩
  · subst h1 h3
    have CS : Hid _ := fun w => sign_any true (-1) w rfl
    go_enter Try.func10, Try.ntmps10
    go_wp2_with (first
      | (go_at_call_of 21 (Value.float .f64 a); refine (CA.out _).mono ?_; rintro e w1 ⟨rfl, rfl⟩)
      | (go_at_call_of 21 (Value.float .f64 b); refine (CB.out _).mono ?_; rintro e w1 ⟨rfl, rfl⟩)
      | (go_at_call 22; refine (CS.out _).mono ?_; rintro e w1 ⟨rfl, rfl⟩))
    go_ret
    exact ⟨rfl, rfl⟩
  · subst h1 h3
    have CS : Hid _ := fun w => sign_any false 1 w rfl
    go_enter Try.func10, Try.ntmps10
    go_wp2_with (first
      | (go_at_call_of 21 (Value.float .f64 a); refine (CA.out _).mono ?_; rintro e w1 ⟨rfl, rfl⟩)
      | (go_at_call_of 21 (Value.float .f64 b); refine (CB.out _).mono ?_; rintro e w1 ⟨rfl, rfl⟩)
      | (go_at_call 22; refine (CS.out _).mono ?_; rintro e w1 ⟨rfl, rfl⟩))
    go_ret
    exact ⟨rfl, rfl⟩
  · have CS : Hid _ := fun w => sign_any (decide (p < q)) Z w (by rw [h5]; by_cases hxy : p < q <;> simp [hxy])
    clear h5
    have hne : ¬ p = q := h4
    subst h1
    go_enter Try.func10, Try.ntmps10
    go_wp2_with (first
      | (go_at_call_of 21 (Value.float .f64 a); refine (CA.out _).mono ?_; rintro e w1 ⟨rfl, rfl⟩)
      | (go_at_call_of 21 (Value.float .f64 b); refine (CB.out _).mono ?_; rintro e w1 ⟨rfl, rfl⟩)
      | (go_at_call 22; refine (CS.out _).mono ?_; rintro e w1 ⟨rfl, rfl⟩))
    go_ret
    exact ⟨rfl, rfl⟩
  all_goals
    subst h1
    subst h5
    try subst h4
    go_enter Try.func10, Try.ntmps10
    go_wp2_with (first
      | (go_at_call_of 21 (Value.float .f64 a); refine (CA.out _).mono ?_; rintro e w1 ⟨rfl, rfl⟩)
      | (go_at_call_of 21 (Value.float .f64 b); refine (CB.out _).mono ?_; rintro e w1 ⟨rfl, rfl⟩))
    go_ret
    exact ⟨rfl, rfl⟩

end Go.Proofs.Ytlgfhmedenlbcab
