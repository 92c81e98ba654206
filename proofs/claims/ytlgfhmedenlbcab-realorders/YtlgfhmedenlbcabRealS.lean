/- Plain: a share, a share that is reached, and what is held, as the machine's words say them. No program in it. -/
import Derived.Test.YtlgfhmedenlbcabRealL
namespace Go.Proofs.Ytlgfhmedenlbcab

/-- One. -/
def oneW : Nat := 4607182418800017408
/-- How much of r is used. -/
def shareB (u r : Nat) : Nat :=
  if isN u = true ∨ isN r = true ∨ sr r ≤ 0 then oneW
  else if sr u ≤ 0 then 0
  else if sr r ≤ sr u then oneW
  else if rg r = infR then 0
  else (FloatKind.f64.format.div u r).getD 0

theorem sr_pos {x : Nat} (h : 0 < sr x) : sg x = false ∧ sr x = rg x ∧ 0 < rg x := by
  unfold sr at *
  cases hs : sg x <;> simp [hs] at * <;> omega

theorem div_inf {u r : Nat} (hu : rg u < infR) (hr : rg r = infR) (hs : sg u = sg r) : FloatKind.f64.format.div u r = some 0 := by
  obtain ⟨m, a, ex, -, -, -⟩ := read_num hu
  show Ieee.double.div u r = some 0
  unfold Ieee.Format.div
  rw [ex, read_inf hr, hs]
  show some (Ieee.double.nearest (sg r ^^ sg r) 0 0) = some 0
  rw [Bool.xor_self]; rfl

theorem share_cases (u r q : Nat) (h : shareB u r = q) :
    (isN u = true ∧ q = oneW) ∨ (isN u = false ∧ isN r = true ∧ q = oneW) ∨
    (isN u = false ∧ isN r = false ∧ (FloatKind.f64.format.order r 0 = some .lt ∨ FloatKind.f64.format.order r 0 = some .eq) ∧ q = oneW) ∨
    (isN u = false ∧ isN r = false ∧ FloatKind.f64.format.order r 0 = some .gt ∧ (FloatKind.f64.format.order u 0 = some .lt ∨ FloatKind.f64.format.order u 0 = some .eq) ∧ q = 0) ∨
    (isN u = false ∧ isN r = false ∧ FloatKind.f64.format.order r 0 = some .gt ∧ FloatKind.f64.format.order u 0 = some .gt ∧ (FloatKind.f64.format.order u r = some .gt ∨ FloatKind.f64.format.order u r = some .eq) ∧ q = oneW) ∨
    (isN u = false ∧ isN r = false ∧ FloatKind.f64.format.order r 0 = some .gt ∧ FloatKind.f64.format.order u 0 = some .gt ∧ FloatKind.f64.format.order u r = some .lt ∧ FloatKind.f64.format.div u r = some q ∧ ((decide (rg r = infR) && !sg r) = true ∧ q = 0 ∨ (decide (rg r = infR) && !sg r) = false)) := by
  unfold shareB at h
  cases hu : isN u
  case true => exact .inl ⟨rfl, by rw [if_pos (.inl hu)] at h; exact h.symm⟩
  cases hr : isN r
  case true => exact .inr (.inl ⟨rfl, rfl, by rw [if_pos (.inr (.inl hr))] at h; exact h.symm⟩)
  refine .inr (.inr ?_)
  rw [hu, hr] at h
  rcases fo_three hr nan_zero with ⟨k, k1, -⟩ | ⟨k, k1, -⟩ | ⟨k, k1, -⟩
  · rw [sr_zero] at k
    exact .inl ⟨rfl, rfl, .inl k1, by rw [if_pos (.inr (.inr (by omega)))] at h; exact h.symm⟩
  · rw [sr_zero] at k
    exact .inl ⟨rfl, rfl, .inr k1, by rw [if_pos (.inr (.inr (by omega)))] at h; exact h.symm⟩
  rw [sr_zero] at k
  have hno : ¬ (false = true ∨ false = true ∨ sr r ≤ 0) := by simp; omega
  rw [if_neg hno] at h
  refine .inr ?_
  rcases fo_three hu nan_zero with ⟨l, l1, -⟩ | ⟨l, l1, -⟩ | ⟨l, l1, -⟩
  · rw [sr_zero] at l
    exact .inl ⟨rfl, rfl, k1, .inl l1, by rw [if_pos (by omega)] at h; exact h.symm⟩
  · rw [sr_zero] at l
    exact .inl ⟨rfl, rfl, k1, .inr l1, by rw [if_pos (by omega)] at h; exact h.symm⟩
  rw [sr_zero] at l
  rw [if_neg (by omega)] at h
  refine .inr ?_
  obtain ⟨s1, e1, p1⟩ := sr_pos k
  obtain ⟨s2, e2, p2⟩ := sr_pos l
  have nr := nan_no hr
  rcases fo_three hu hr with ⟨m, m1, -⟩ | ⟨m, m1, -⟩ | ⟨m, m1, -⟩
  · refine .inr ⟨rfl, rfl, k1, l1, m1, ?_⟩
    rw [if_neg (by omega)] at h
    by_cases hi : rg r = infR
    · rw [if_pos hi] at h
      subst h
      exact ⟨div_inf (by omega) hi (by rw [s1, s2]), .inl ⟨by rw [hi, s1]; decide, rfl⟩⟩
    · rw [if_neg hi] at h
      refine ⟨?_, .inr (by rw [decide_eq_false hi]; rfl)⟩
      have hd : FloatKind.f64.format.div u r = _ := div_eq (x := u) (y := r) (by omega) (by omega) p2 p1
      rw [hd] at h ⊢
      exact congrArg some h
  · exact .inl ⟨rfl, rfl, k1, l1, .inr m1, by rw [if_pos (by omega)] at h; exact h.symm⟩
  · exact .inl ⟨rfl, rfl, k1, l1, .inl m1, by rw [if_pos (by omega)] at h; exact h.symm⟩

/-- The rung of a whole number. -/
def fiR (a : Nat) : Nat := min (rT (a * 2 ^ 1074) 1 0) infR
theorem fi_rg (n : Int) : rg (floatOfInt .f64 n) = fiR n.natAbs := by
  rw [int_eq, rg_word _ (Nat.min_le_right _ _)]; rfl
theorem fi_sg (n : Int) : sg (floatOfInt .f64 n) = decide (n < 0) := by
  rw [int_eq, sg_word _ (Nat.min_le_right _ _)]
theorem fiR_inf (a : Nat) : fiR a ≤ infR := Nat.min_le_right _ _
theorem fi_nan (n : Int) : isN (floatOfInt .f64 n) = false := nan_of (by rw [fi_rg]; exact fiR_inf _)
theorem fiR_exact {a : Nat} (h : a < 9007199254740992) : rV (fiR a) = a * 2 ^ 1074 ∧ fiR a < infR := by
  obtain ⟨r, h1, h2⟩ := int_rung a _ h rfl
  have := T_exact (r := r) 0 1 (by decide)
  rw [Nat.pow_zero, Nat.mul_one, Nat.mul_one, h1] at this
  unfold fiR
  rw [this, Nat.min_eq_left (by omega)]
  exact ⟨h1, h2⟩
theorem fiR_mono {a b : Nat} (h : a ≤ b) : fiR a ≤ fiR b := by
  have := T_mono (n := 1) 0 (by decide) (Nat.mul_le_mul_right (2 ^ 1074) h)
  unfold fiR
  omega
theorem fiR_one : 0 < fiR 1 := by decide +kernel
theorem fiR_zero : fiR 0 = 0 := by decide +kernel
theorem fiR_top : fiR 9223372036854775808 < infR := by decide +kernel
/-- 2 to the 63 is no endless one. -/
theorem fi_fin {n : Int} (h : n.natAbs ≤ 9223372036854775808) : rg (floatOfInt .f64 n) < infR := by
  rw [fi_rg]
  exact Nat.lt_of_le_of_lt (fiR_mono h) fiR_top
theorem fi_pos {n : Int} (h : 1 ≤ n) : 0 < rg (floatOfInt .f64 n) := by
  rw [fi_rg]
  exact Nat.lt_of_lt_of_le fiR_one (fiR_mono (by omega))

/-- Products with a positive finite one. -/
theorem mul_some {s y : Nat} (hs : isN s = false) (hy : rg y < infR) (hy0 : 0 < rg y) : FloatKind.f64.format.mul s y = some (Ieee.double.word (sg s ^^ sg y) (if rg s = infR then infR else min (rT (rV (rg s) * rV (rg y)) 1 1074) infR)) := by
  have := nan_no hs
  by_cases hi : rg s = infR
  · rw [if_pos hi]
    obtain ⟨n, b, ey, hn, -, -⟩ := read_num hy
    show Ieee.double.mul s y = _
    unfold Ieee.Format.mul
    rw [read_inf hi, ey]
    have hn0 : ¬ n = 0 := by
      intro h
      have := V_pos hy0
      rw [h, Nat.zero_mul] at hn
      omega
    simp only [Ieee.Datum.product, if_neg hn0, Option.map_some, Ieee.Format.write, in_eq]
  · rw [if_neg hi]
    exact mul_eq (by omega) hy

/-- Are h of n at least the share s? -/
def reachB (h n : Int) (s : Nat) : Bool :=
  if n < 1 then true else if isN s then false
  else !(FloatKind.f64.format.order (floatOfInt .f64 (max h 0)) ((FloatKind.f64.format.mul s (floatOfInt .f64 n)).getD 0) == some .lt)

theorem reach_cases (h n : Int) (s : Nat) (v : Bool) (hn : n ≤ 9223372036854775807) (e : reachB h n s = v) :
    n < 1 ∧ v = true ∨ 1 ≤ n ∧ isN s = true ∧ v = false ∨
    1 ≤ n ∧ isN s = false ∧ ∃ p, FloatKind.f64.format.mul s (floatOfInt .f64 n) = some p ∧ (FloatKind.f64.format.order (floatOfInt .f64 (max h 0)) p == some .lt) = !v := by
  unfold reachB at e
  by_cases h1 : n < 1
  · rw [if_pos h1] at e; exact .inl ⟨h1, e.symm⟩
  rw [if_neg h1] at e
  refine .inr ?_
  cases hs : isN s
  · rw [hs] at e
    refine .inr ⟨by omega, rfl, ?_⟩
    have hm := mul_some hs (fi_fin (n := n) (by omega)) (fi_pos (n := n) (by omega))
    rw [hm] at e ⊢
    refine ⟨_, rfl, ?_⟩
    rw [← e]
    simp
  · rw [hs] at e; exact .inl ⟨by omega, rfl, e.symm⟩

/-- f, held between lo and hi. -/
def clampB (f lo hi : Nat) : Nat := if isN f = true ∨ isN lo = true ∨ isN hi = true ∨ sr f < sr lo then lo else if sr hi < sr f then hi else f
theorem clamp_cases (f lo hi q : Nat) (h : clampB f lo hi = q) :
    (isN f = true ∧ q = lo) ∨ (isN f = false ∧ isN lo = true ∧ q = lo) ∨ (isN f = false ∧ isN lo = false ∧ isN hi = true ∧ q = lo) ∨
    (isN f = false ∧ isN lo = false ∧ isN hi = false ∧ (FloatKind.f64.format.order f lo == some .lt) = true ∧ q = lo) ∨
    (isN f = false ∧ isN lo = false ∧ isN hi = false ∧ (FloatKind.f64.format.order f lo == some .lt) = false ∧ (FloatKind.f64.format.order hi f == some .lt) = true ∧ q = hi) ∨
    (isN f = false ∧ isN lo = false ∧ isN hi = false ∧ (FloatKind.f64.format.order f lo == some .lt) = false ∧ (FloatKind.f64.format.order hi f == some .lt) = false ∧ q = f) := by
  unfold clampB at h
  cases h1 : isN f
  case true => exact .inl ⟨rfl, by rw [if_pos (.inl h1)] at h; exact h.symm⟩
  cases h2 : isN lo
  case true => exact .inr (.inl ⟨rfl, rfl, by rw [if_pos (.inr (.inl h2))] at h; exact h.symm⟩)
  cases h3 : isN hi
  case true => exact .inr (.inr (.inl ⟨rfl, rfl, rfl, by rw [if_pos (.inr (.inr (.inl h3)))] at h; exact h.symm⟩))
  rw [h1, h2, h3] at h
  have lt : ∀ {x y : Nat}, isN x = false → isN y = false → (FloatKind.f64.format.order x y == some .lt) = decide (sr x < sr y) := by
    intro x y hx hy
    rcases fo_three hx hy with ⟨k, k1, -⟩ | ⟨k, k1, -⟩ | ⟨k, k1, -⟩
    · rw [k1, decide_eq_true k]; rfl
    · rw [k1, decide_eq_false (by omega)]; rfl
    · rw [k1, decide_eq_false (by omega)]; rfl
  rw [lt h1 h2, lt h3 h1]
  by_cases k : sr f < sr lo
  · rw [if_pos (.inr (.inr (.inr k)))] at h
    exact .inr (.inr (.inr (.inl ⟨rfl, rfl, rfl, decide_eq_true k, h.symm⟩)))
  · rw [if_neg (by simp; omega)] at h
    by_cases l : sr hi < sr f
    · rw [if_pos l] at h
      exact .inr (.inr (.inr (.inr (.inl ⟨rfl, rfl, rfl, decide_eq_false k, decide_eq_true l, h.symm⟩))))
    · rw [if_neg l] at h
      exact .inr (.inr (.inr (.inr (.inr ⟨rfl, rfl, rfl, decide_eq_false k, decide_eq_false l, h.symm⟩))))

theorem ex_share1 : shareB 4607182418800017408 0 = 4607182418800017408 := by decide +kernel
theorem ex_share2 : shareB 9218868437227405312 9218868437227405312 = 4607182418800017408 := by decide +kernel
theorem ex_share3 : shareB 4613937818241073152 4616189618054758400 = 4604930618986332160 := by decide +kernel
theorem ex_reach1 : reachB 999 1000 4607173411600762667 = true := by decide +kernel
theorem ex_reach2 : reachB 0 0 4611686018427387904 = true := by decide +kernel
theorem ex_ord1 : cmpZ (key 9223372036854775808) (key 0) = -1 := by decide +kernel
theorem ex_ord2 : cmpZ (key 9221120237041090561) (key 9218868437227405312) = 1 := by decide +kernel
end Go.Proofs.Ytlgfhmedenlbcab
