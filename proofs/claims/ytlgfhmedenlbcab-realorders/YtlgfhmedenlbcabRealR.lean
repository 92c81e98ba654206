/- Plain: a number is rounded to a rung; greater ones to no lower rung; what a rung stands for, to that rung. Sums, products, quotients and whole numbers by it. No program in it. -/
import Derived.Test.YtlgfhmedenlbcabRealM
namespace Go.Proofs.Ytlgfhmedenlbcab

/-- n by g, to the nearest, between two to the even one. -/
def rhe (n g : Nat) : Nat := n / g + (decide (g < 2 * (n % g)) || (g == 2 * (n % g) && n / g % 2 == 1)).toNat

theorem cut_eq (neg : Bool) (n drop : Nat) : Ieee.Toward.even.cut neg n drop = rhe n (2 ^ drop) := by
  unfold Ieee.Toward.cut rhe
  simp only [Nat.one_shiftLeft]
  rcases Nat.lt_or_ge (n.log2 + 2) drop with h | h
  · rw [Nat.min_eq_right (by omega)]
    have h1 : n < 2 ^ (n.log2 + 1) := Nat.lt_log2_self
    have h2 : 2 ^ (n.log2 + 2) = 2 * 2 ^ (n.log2 + 1) := by rw [Nat.pow_succ, Nat.mul_comm]
    have h3 : 2 ^ (n.log2 + 2) ≤ 2 ^ drop := Nat.pow_le_pow_right (by decide) (by omega)
    have small : ∀ g, 2 * n < g → n / g + (decide (g < 2 * (n % g)) || (g == 2 * (n % g) && n / g % 2 == 1)).toNat = 0 := by
      intro g hg
      rw [Nat.div_eq_of_lt (by omega), Nat.mod_eq_of_lt (by omega), decide_eq_false (by omega)]
      simp
    rw [small _ (by omega), small _ (by omega)]
  · rw [Nat.min_eq_left h]

theorem rhe_le {n g k : Nat} (hg : 0 < g) (h : n < k * g) : rhe n g ≤ k := by
  unfold rhe
  have : n / g < k := (Nat.div_lt_iff_lt_mul hg).2 h
  have := Bool.toNat_le (decide (g < 2 * (n % g)) || (g == 2 * (n % g) && n / g % 2 == 1))
  omega
theorem le_rhe {n g k : Nat} (hg : 0 < g) (h : k * g ≤ n) : k ≤ rhe n g := by
  unfold rhe
  have : k ≤ n / g := (Nat.le_div_iff_mul_le hg).2 h
  omega
theorem rhe_exact {g k : Nat} (hg : 0 < g) : rhe (k * g) g = k := by
  unfold rhe
  rw [Nat.mul_div_cancel _ hg, Nat.mul_mod_left, decide_eq_false (by omega)]
  have : (g == 2 * 0) = false := by simp; omega
  simp [this]
theorem rhe_mono {n n' g : Nat} (h : n ≤ n') : rhe n g ≤ rhe n' g := by
  have hq : n / g ≤ n' / g := Nat.div_le_div_right h
  rcases Nat.eq_or_lt_of_le hq with he | hl
  · unfold rhe
    have e1 := Nat.div_add_mod n g
    have e2 := Nat.div_add_mod n' g
    rw [he] at e1 ⊢
    have hr : n % g ≤ n' % g := by omega
    generalize n' / g = Q at *
    generalize n % g = r at *
    generalize n' % g = r' at *
    have : (decide (g < 2 * r) || (g == 2 * r && Q % 2 == 1)) = true → (decide (g < 2 * r') || (g == 2 * r' && Q % 2 == 1)) = true := by
      simp
      intro h
      omega
    cases h1 : (decide (g < 2 * r) || (g == 2 * r && Q % 2 == 1))
    · simp
    · rw [this h1]; exact Nat.le_refl _
  · unfold rhe
    have := Bool.toNat_le (decide (g < 2 * (n % g)) || (g == 2 * (n % g) && n / g % 2 == 1))
    omega
theorem rhe_scale (n g : Nat) {c : Nat} (hc : 0 < c) : rhe (n * c) (g * c) = rhe n g := by
  unfold rhe
  rw [Nat.mul_div_mul_right _ _ hc, Nat.mul_mod_mul_right]
  have h1 : (g * c < 2 * (n % g * c)) = (g < 2 * (n % g)) := by
    rw [← Nat.mul_assoc]; exact propext (Nat.mul_lt_mul_right hc)
  have h2 : (g * c == 2 * (n % g * c)) = (g == 2 * (n % g)) := by
    rw [← Nat.mul_assoc]
    rw [Bool.eq_iff_iff]; simp
    constructor
    · exact fun h => Nat.eq_of_mul_eq_mul_right hc h
    · intro h; rw [← h]
  simp only [h1, h2]

theorem log2_mono {a b : Nat} (h : a ≤ b) : a.log2 ≤ b.log2 := by
  rcases Nat.eq_zero_or_pos a with rfl | ha
  · simp
  · exact (Nat.le_log2 (by omega)).2 (Nat.le_trans (Nat.log2_self_le (by omega)) h)
theorem log2_mul_pow {a : Nat} (ha : 0 < a) (c : Nat) : (a * 2 ^ c).log2 = a.log2 + c := by
  have pc : 0 < 2 ^ c := Nat.two_pow_pos _
  rw [Nat.log2_eq_iff (by have := Nat.mul_pos ha pc; omega)]
  have h1 := Nat.log2_self_le (n := a) (by omega)
  have h2 := Nat.lt_log2_self (n := a)
  constructor
  · rw [Nat.pow_add]; exact Nat.mul_le_mul_right _ h1
  · rw [show a.log2 + c + 1 = (a.log2 + 1) + c by omega, Nat.pow_add]; exact Nat.mul_lt_mul_of_pos_right h2 pc

/-- The rung of a by n, in units of 2 to the -1074 - D. -/
def rT (a n D : Nat) : Nat := ((a / n).log2 - (52 + D)) * rB + rhe a (n * 2 ^ ((a / n).log2 - (52 + D) + D))

theorem T_mono {a a' n : Nat} (D : Nat) (hn : 0 < n) (h : a ≤ a') : rT a n D ≤ rT a' n D := by
  unfold rT
  have hd : a / n ≤ a' / n := Nat.div_le_div_right h
  have hl := log2_mono hd
  have hlt := Nat.lt_log2_self (n := a / n)
  generalize hA : (a / n).log2 = l at *
  generalize hA' : (a' / n).log2 = l' at *
  rcases Nat.eq_or_lt_of_le (show l - (52 + D) ≤ l' - (52 + D) by omega) with he | hlt'
  · rw [he]
    exact Nat.add_le_add_left (rhe_mono h) _
  · obtain ⟨e', he'⟩ : ∃ e', l' = 52 + D + e' ∧ 0 < e' := ⟨l' - (52 + D), by omega, by omega⟩
    obtain ⟨e, he⟩ : ∃ e, l - (52 + D) = e := ⟨_, rfl⟩
    rw [he, show l' - (52 + D) = e' by omega]
    have g1 : 0 < n * 2 ^ (e + D) := Nat.mul_pos hn (Nat.two_pow_pos _)
    have g2 : 0 < n * 2 ^ (e' + D) := Nat.mul_pos hn (Nat.two_pow_pos _)
    have b1 : rhe a (n * 2 ^ (e + D)) ≤ 2 * rB := by
      apply rhe_le g1
      have : a / n < 2 ^ (53 + (e + D)) := Nat.lt_of_lt_of_le hlt (Nat.pow_le_pow_right (by decide) (by omega))
      rw [Nat.div_lt_iff_lt_mul hn, Nat.pow_add] at this
      rw [bin_pow]
      calc a < 2 ^ 53 * 2 ^ (e + D) * n := this
        _ = 2 * 2 ^ 52 * (n * 2 ^ (e + D)) := by rw [Nat.mul_assoc, Nat.mul_comm n]
    have b2 : rB ≤ rhe a' (n * 2 ^ (e' + D)) := by
      apply le_rhe g2
      have hne : a' / n ≠ 0 := by intro h0; rw [h0] at hA'; simp at hA'; omega
      have : 2 ^ (52 + (e' + D)) ≤ a' / n := by
        rw [show 52 + (e' + D) = l' by omega, ← hA']; exact Nat.log2_self_le hne
      rw [Nat.le_div_iff_mul_le hn, Nat.pow_add] at this
      rw [bin_pow]
      calc 2 ^ 52 * (n * 2 ^ (e' + D)) = 2 ^ 52 * 2 ^ (e' + D) * n := by rw [Nat.mul_assoc, Nat.mul_comm n]
        _ ≤ a' := this
    have : e * rB + 2 * rB ≤ e' * rB + rB := by
      rw [← Nat.add_mul, ← Nat.succ_mul]
      exact Nat.mul_le_mul_right _ (by omega)
    omega

theorem T_scale (a n D : Nat) {k : Nat} (hk : 0 < k) : rT (a * k) (n * k) D = rT a n D := by
  unfold rT
  rw [Nat.mul_div_mul_right _ _ hk, show n * k * 2 ^ ((a / n).log2 - (52 + D) + D) = n * 2 ^ ((a / n).log2 - (52 + D) + D) * k by rw [Nat.mul_assoc, Nat.mul_comm k, ← Nat.mul_assoc], rhe_scale _ _ hk]
theorem T_zero (n D : Nat) (hn : 0 < n) : rT 0 n D = 0 := by
  unfold rT
  rw [Nat.zero_div]
  have := rhe_exact (k := 0) (Nat.mul_pos hn (Nat.two_pow_pos (Nat.log2 0 - (52 + D) + D)))
  rw [Nat.zero_mul] at this
  rw [this]; simp

theorem T_exact {r : Nat} (D n : Nat) (hn : 0 < n) : rT (rV r * 2 ^ D * n) n D = r := by
  unfold rT
  rw [Nat.mul_div_cancel _ hn]
  unfold rV
  by_cases h : r < rB
  · rw [if_pos h]
    have : (r * 2 ^ D).log2 ≤ 52 + D := by
      rcases Nat.eq_zero_or_pos r with rfl | hr
      · simp
      · rw [log2_mul_pow hr]
        have : r.log2 < 52 := (Nat.log2_lt (by omega)).2 (by rw [← bin_pow]; exact h)
        omega
    rw [show (r * 2 ^ D).log2 - (52 + D) = 0 by omega, Nat.zero_add, Nat.mul_assoc, Nat.mul_comm (2 ^ D), rhe_exact (Nat.mul_pos hn (Nat.two_pow_pos _))]
    omega
  · rw [if_neg h]
    have hm := Nat.mod_lt r bin_pos
    have hr := Nat.div_add_mod r rB
    have d1 : 1 ≤ r / rB := (Nat.le_div_iff_mul_le bin_pos).2 (by omega)
    obtain ⟨k, hk⟩ : ∃ k, r / rB = k + 1 := ⟨r / rB - 1, by omega⟩
    rw [hk] at hr
    rw [hk, Nat.add_sub_cancel]
    have hl : ((rB + r % rB) * 2 ^ k * 2 ^ D).log2 = 52 + (k + D) := by
      rw [Nat.mul_assoc, ← Nat.pow_add, log2_mul_pow (by omega)]
      congr 1
      rw [Nat.log2_eq_iff (by omega), show 2 ^ (52 + 1) = 2 * 2 ^ 52 by decide, ← bin_pow]
      omega
    rw [hl, show 52 + (k + D) - (52 + D) = k by omega]
    rw [show (rB + r % rB) * 2 ^ k * 2 ^ D * n = (rB + r % rB) * (n * 2 ^ (k + D)) by rw [Nat.mul_assoc (rB + r % rB), ← Nat.pow_add, Nat.mul_assoc, Nat.mul_comm n]]
    rw [rhe_exact (Nat.mul_pos hn (Nat.two_pow_pos _))]
    rw [Nat.mul_comm rB, Nat.add_mul, Nat.one_mul] at hr
    omega

/-- The word that a number is rounded to. -/
theorem near_eq (neg : Bool) (mag c D : Nat) (place : Int) (hp : place = -1074 - (D : Int) + c) : Ieee.double.nearest neg mag place = Ieee.double.word neg (min (rT (mag * 2 ^ c) 1 D) infR) := by
  unfold Ieee.Format.nearest
  by_cases hm : mag = 0
  · rw [if_pos hm, hm, Nat.zero_mul, T_zero _ _ (by decide)]
    simp
  · rw [if_neg hm]
    have hm0 : 0 < mag := by omega
    unfold rT
    rw [Nat.div_one, log2_mul_pow hm0, Nat.one_mul]
    obtain ⟨e, he⟩ : ∃ e, mag.log2 + c - (52 + D) = e := ⟨_, rfl⟩
    have hlast : max (place + (mag.log2 : Int) - (Ieee.double.fractionBits : Int)) Ieee.double.leastPlace = -1074 + (e : Int) := by
      rw [lp_eq]
      show max (place + (mag.log2 : Int) - 52) (-1074) = _
      omega
    dsimp only
    rw [hlast]
    simp only [lp_eq, bn_eq, in_eq, cut_eq, Nat.shiftLeft_eq]
    rw [he]
    have hA : (-1074 + (e : Int) - -1074).toNat = e := by omega
    rw [hA]
    suffices hB : rhe (mag * 2 ^ (place - (-1074 + (e : Int))).toNat) (2 ^ (-1074 + (e : Int) - place).toNat) = rhe (mag * 2 ^ c) (2 ^ (e + D)) by rw [hB]
    rcases Nat.lt_or_ge c (e + D) with h | h
    · have h1 : (place - (-1074 + (e : Int))).toNat = 0 := by omega
      have h2 : (-1074 + (e : Int) - place).toNat = e + D - c := by omega
      rw [h1, h2]
      have := rhe_scale (mag * 2 ^ 0) (2 ^ (e + D - c)) (Nat.two_pow_pos c)
      rw [← this, ← Nat.pow_add, show e + D - c + c = e + D by omega, Nat.pow_zero, Nat.mul_one]
    · have h1 : (place - (-1074 + (e : Int))).toNat = c - (e + D) := by omega
      have h2 : (-1074 + (e : Int) - place).toNat = 0 := by omega
      rw [h1, h2]
      have := rhe_scale (mag * 2 ^ (c - (e + D))) (2 ^ 0) (Nat.two_pow_pos (e + D))
      rw [← this, Nat.mul_assoc, ← Nat.pow_add, ← Nat.pow_add, show c - (e + D) + (e + D) = c by omega, Nat.zero_add]

theorem word_eq (neg : Bool) (r : Nat) : Ieee.double.word neg r = if neg then 9223372036854775808 + r else r := by
  unfold Ieee.Format.word; rw [sw_eq]
theorem rg_word (neg : Bool) {r : Nat} (h : r ≤ infR) : rg (Ieee.double.word neg r) = r := by
  rw [word_eq]; unfold rg infR at *; cases neg <;> simp <;> omega
theorem sg_word (neg : Bool) {r : Nat} (h : r ≤ infR) : sg (Ieee.double.word neg r) = neg := by
  rw [word_eq]; unfold sg infR at *; cases neg <;> simp <;> omega
theorem word_back {x : Nat} (h : x < 18446744073709551616) : Ieee.double.word (sg x) (rg x) = x := by
  rw [word_eq]; unfold sg rg
  by_cases hx : x < 9223372036854775808
  · rw [show (x / 9223372036854775808 % 2 == 1) = false by rw [Nat.div_eq_of_lt hx]; decide, Nat.mod_eq_of_lt hx]; rfl
  · rw [show (x / 9223372036854775808 % 2 == 1) = true by simp; omega, if_pos rfl]; omega

/-- Whole numbers. -/
theorem int_eq (n : Int) : floatOfInt .f64 n = Ieee.double.word (decide (n < 0)) (min (rT (n.natAbs * 2 ^ 1074) 1 0) infR) := by
  show Ieee.double.nearest (decide (n < 0)) n.natAbs 0 = _
  exact near_eq _ _ 1074 0 0 (by omega)

/-- Products of finite ones. -/
theorem mul_eq {x y : Nat} (hx : rg x < infR) (hy : rg y < infR) : Ieee.double.mul x y = some (Ieee.double.word (sg x ^^ sg y) (min (rT (rV (rg x) * rV (rg y)) 1 1074) infR)) := by
  obtain ⟨m, a, ex, hm, -, -⟩ := read_num hx
  obtain ⟨n, b, ey, hn, -, -⟩ := read_num hy
  unfold Ieee.Format.mul
  rw [ex, ey]
  show some (Ieee.double.nearest (sg x ^^ sg y) (m * n) (-1074 + (a : Int) + (-1074 + (b : Int)))) = _
  rw [near_eq _ _ (a + b) 1074 _ (by omega), ← hm, ← hn]
  congr 4
  rw [Nat.pow_add]
  simp only [Nat.mul_assoc, Nat.mul_left_comm]

/-- Sums of finite ones. -/
theorem add_eq {x y : Nat} (hx : rg x < infR) (hy : rg y < infR) : ∃ neg : Bool, (sv (sg x) (rV (rg x)) + sv (sg y) (rV (rg y)) ≠ 0 → neg = decide (sv (sg x) (rV (rg x)) + sv (sg y) (rV (rg y)) < 0)) ∧ (sv (sg x) (rV (rg x)) + sv (sg y) (rV (rg y)) = 0 → neg = (sg x && sg y)) ∧
    Ieee.double.add x y = some (Ieee.double.word neg (min (rT (sv (sg x) (rV (rg x)) + sv (sg y) (rV (rg y))).natAbs 1 0) infR)) := by
  obtain ⟨m, a, ex, hm, -, -⟩ := read_num hx
  obtain ⟨n, b, ey, hn, -, -⟩ := read_num hy
  unfold Ieee.Format.add
  rw [ex, ey]
  obtain ⟨c, hc⟩ : ∃ c : Nat, min (-1074 + (a : Int)) (-1074 + (b : Int)) = -1074 + c := ⟨min a b, by omega⟩
  simp only [Ieee.Datum.sum, hc, Option.map_some, Ieee.Format.write, signed_eq]
  have ea : 2 ^ (-1074 + (a : Int) - (-1074 + (c : Int))).toNat * 2 ^ c = 2 ^ a := by rw [← Nat.pow_add]; congr 1; omega
  have eb : 2 ^ (-1074 + (b : Int) - (-1074 + (c : Int))).toNat * 2 ^ c = 2 ^ b := by rw [← Nat.pow_add]; congr 1; omega
  have h1 : (m * 2 ^ (-1074 + (a : Int) - (-1074 + (c : Int))).toNat) * 2 ^ c = rV (rg x) := by rw [Nat.mul_assoc, ea, hm]
  have h2 : (n * 2 ^ (-1074 + (b : Int) - (-1074 + (c : Int))).toNat) * 2 ^ c = rV (rg y) := by rw [Nat.mul_assoc, eb, hn]
  generalize m * 2 ^ (-1074 + (a : Int) - (-1074 + (c : Int))).toNat = A at *
  generalize n * 2 ^ (-1074 + (b : Int) - (-1074 + (c : Int))).toNat = A' at *
  rw [← h1, ← h2, sv_mul, sv_mul, ← Int.add_mul]
  generalize hS : sv (sg x) A + sv (sg y) A' = S
  have pc : (0 : Int) < ((2 ^ c : Nat) : Int) := by have := Nat.two_pow_pos c; omega
  have hz : S * ((2 ^ c : Nat) : Int) = 0 ↔ S = 0 := by rw [Int.mul_eq_zero]; omega
  have hneg : S * ((2 ^ c : Nat) : Int) < 0 ↔ S < 0 := by
    constructor
    · intro h; apply Classical.byContradiction; intro k
      have := Int.mul_nonneg (show 0 ≤ S by omega) (Int.le_of_lt pc); omega
    · intro h; exact Int.mul_neg_of_neg_of_pos h pc
  refine ⟨if S = 0 then (sg x && sg y) else decide (S < 0), ?_, ?_, ?_⟩
  · intro h
    rw [if_neg (fun k => h (hz.2 k))]
    exact decide_eq_decide.2 hneg.symm
  · intro h; rw [if_pos (hz.1 h)]
  · rw [near_eq _ _ c 0 _ (by omega), Int.natAbs_mul, Int.natAbs_natCast]

theorem rhe_sticky (d n h : Nat) (hn : 0 < n) (hh : 0 < h) : rhe (2 * (d / n) + (d % n != 0).toNat) (2 * (2 * h)) = rhe d (n * (2 * h)) := by
  have hg : 0 < 2 * h := by omega
  unfold rhe
  have hy := Nat.mod_lt d hn
  have e2 : d / (n * (2 * h)) = d / n / (2 * h) := (Nat.div_div_eq_div_mul ..).symm
  have e3 : d % (n * (2 * h)) = d % n + n * (d / n % (2 * h)) := Nat.mod_mul
  rw [e2, e3]
  generalize d / n = Q at *
  generalize d % n = y at *
  obtain ⟨st, hst⟩ : ∃ st, (y != 0).toNat = st := ⟨_, rfl⟩
  have hs : st = if y = 0 then 0 else 1 := by rw [← hst]; by_cases h0 : y = 0 <;> simp [h0]
  rw [hst]
  have hst1 : st ≤ 1 := by rw [hs]; split <;> omega
  have q1 : (2 * Q + st) / (2 * (2 * h)) = Q / (2 * h) := by
    rw [← Nat.div_div_eq_div_mul]
    congr 1
    omega
  have q2 : (2 * Q + st) % (2 * (2 * h)) = 2 * (Q % (2 * h)) + st := by
    rw [Nat.mod_mul, show (2 * Q + st) / 2 = Q by omega]
    omega
  rw [q1, q2]
  generalize Q % (2 * h) = x at *
  congr 1
  have lt : (2 * (2 * h) < 2 * (2 * x + st)) ↔ (n * (2 * h) < 2 * (y + n * x)) := by
    have l1 : n * (2 * h) = 2 * (n * h) := by rw [Nat.mul_left_comm]
    rw [l1]
    rcases Nat.lt_trichotomy h x with k | k | k
    · have : n * h + n ≤ n * x := by rw [← Nat.mul_succ]; exact Nat.mul_le_mul_left _ k
      constructor <;> intro <;> omega
    · subst k
      by_cases h0 : y = 0 <;> simp [h0] at hs <;> constructor <;> intro <;> omega
    · have : n * x + n ≤ n * h := by rw [← Nat.mul_succ]; exact Nat.mul_le_mul_left _ k
      constructor <;> intro <;> omega
  have eq : (2 * (2 * h) = 2 * (2 * x + st)) ↔ (n * (2 * h) = 2 * (y + n * x)) := by
    have l1 : n * (2 * h) = 2 * (n * h) := by rw [Nat.mul_left_comm]
    rw [l1]
    rcases Nat.lt_trichotomy h x with k | k | k
    · have : n * h + n ≤ n * x := by rw [← Nat.mul_succ]; exact Nat.mul_le_mul_left _ k
      constructor <;> intro <;> omega
    · subst k
      by_cases h0 : y = 0 <;> simp [h0] at hs <;> constructor <;> intro <;> omega
    · have : n * x + n ≤ n * h := by rw [← Nat.mul_succ]; exact Nat.mul_le_mul_left _ k
      constructor <;> intro <;> omega
  have e4 : (2 * (2 * h) == 2 * (2 * x + st)) = (n * (2 * h) == 2 * (y + n * x)) := by rw [Bool.eq_iff_iff]; simp only [beq_iff_eq]; exact eq
  rw [decide_eq_decide.2 lt, e4]

theorem T_sticky (d n c D : Nat) (hn : 0 < n) (hQ : 2 ^ 53 ≤ d / n) : rT ((2 * (d / n) + (d % n != 0).toNat) * 2 ^ c) 1 D = rT (d * 2 ^ (c + 1)) n D := by
  unfold rT
  have hst := Bool.toNat_le (d % n != 0)
  have hst' : (d % n != 0).toNat ≤ 1 := by cases (d % n != 0) <;> simp
  have hl53 : 53 ≤ (d / n).log2 := (Nat.le_log2 (by have := Nat.two_pow_pos 53; omega)).2 hQ
  have hQ0 : 0 < d / n := by have := Nat.two_pow_pos 53; omega
  have a1 := Nat.log2_self_le (n := d / n) (by omega)
  have a2 := Nat.lt_log2_self (n := d / n)
  have l1 : ((2 * (d / n) + (d % n != 0).toNat) * 2 ^ c / 1).log2 = (d / n).log2 + 1 + c := by
    rw [Nat.div_one, log2_mul_pow (by omega)]
    congr 1
    rw [Nat.log2_eq_iff (by omega), Nat.pow_succ, Nat.pow_succ, Nat.pow_succ] 
    rw [Nat.pow_succ] at a2
    omega
  have l2 : (d * 2 ^ (c + 1) / n).log2 = (d / n).log2 + 1 + c := by
    have p := Nat.two_pow_pos (c + 1)
    have b1 : d / n * 2 ^ (c + 1) ≤ d * 2 ^ (c + 1) / n := by
      rw [Nat.le_div_iff_mul_le hn, Nat.mul_right_comm]
      exact Nat.mul_le_mul_right _ (Nat.div_mul_le_self ..)
    have b2 : d * 2 ^ (c + 1) / n < (d / n + 1) * 2 ^ (c + 1) := by
      rw [Nat.div_lt_iff_lt_mul hn, Nat.mul_right_comm]
      exact Nat.mul_lt_mul_of_pos_right (by rw [Nat.add_mul, Nat.one_mul, Nat.mul_comm]; have := Nat.div_add_mod d n; have := Nat.mod_lt d hn; omega) p
    rw [show (d / n).log2 + 1 + c = (d / n).log2 + (c + 1) by omega, ← log2_mul_pow hQ0, Nat.log2_eq_iff (by have := Nat.mul_pos hQ0 p; omega), log2_mul_pow hQ0]
    constructor
    · refine Nat.le_trans ?_ b1
      rw [Nat.pow_add]; exact Nat.mul_le_mul_right _ a1
    · refine Nat.lt_of_lt_of_le b2 ?_
      rw [show (d / n).log2 + (c + 1) + 1 = ((d / n).log2 + 1) + (c + 1) by omega, Nat.pow_add 2 ((d / n).log2 + 1)]
      exact Nat.mul_le_mul_right _ a2
  rw [l1, l2]
  congr 1
  obtain ⟨h', hh⟩ : ∃ h', (d / n).log2 + 1 + c - (52 + D) + D = c + 1 + (h' + 1) := ⟨(d / n).log2 + 1 + c - (52 + D) + D - (c + 2), by omega⟩
  rw [hh]
  have s1 : 1 * 2 ^ (c + 1 + (h' + 1)) = 2 * (2 * 2 ^ h') * 2 ^ c := by
    rw [Nat.one_mul, show c + 1 + (h' + 1) = (1 + (1 + h')) + c by omega, Nat.pow_add, Nat.pow_add 2 1, Nat.pow_add 2 1]
  have s2 : n * 2 ^ (c + 1 + (h' + 1)) = n * (2 * 2 ^ h') * 2 ^ (c + 1) := by
    rw [show c + 1 + (h' + 1) = (1 + h') + (c + 1) by omega, Nat.pow_add, Nat.pow_add 2 1, ← Nat.mul_assoc]
  rw [s1, s2, rhe_scale _ _ (Nat.two_pow_pos _), rhe_scale _ _ (Nat.two_pow_pos _)]
  exact rhe_sticky d n _ hn (Nat.two_pow_pos _)

/-- Quotients of finite ones. -/
theorem div_eq {x y : Nat} (hx : rg x < infR) (hy : rg y < infR) (hx0 : 0 < rg x) (hy0 : 0 < rg y) : Ieee.double.div x y = some (Ieee.double.word (sg x ^^ sg y) (min (rT (rV (rg x) * 2 ^ 4074) (rV (rg y)) 3000) infR)) := by
  obtain ⟨m, a, ex, hm, hml, ha⟩ := read_num hx
  obtain ⟨n, b, ey, hn, hnl, hb⟩ := read_num hy
  have hVx := V_pos hx0
  have hVy := V_pos hy0
  have hm0 : 0 < m := by
    rcases Nat.eq_zero_or_pos m with h | h
    · rw [h, Nat.zero_mul] at hm; omega
    · exact h
  have hn0 : 0 < n := by
    rcases Nat.eq_zero_or_pos n with h | h
    · rw [h, Nat.zero_mul] at hn; omega
    · exact h
  unfold Ieee.Format.div
  rw [ex, ey]
  have hlm : m.log2 < 53 := (Nat.log2_lt (by omega)).2 (by rw [show 2 ^ 53 = 9007199254740992 by decide]; exact hml)
  have hln : n.log2 < 53 := (Nat.log2_lt (by omega)).2 (by rw [show 2 ^ 53 = 9007199254740992 by decide]; exact hnl)
  obtain ⟨k, hk⟩ : ∃ k, Ieee.double.fractionBits + 2 + n.log2 - m.log2 = k := ⟨_, rfl⟩
  have hk2 : k + m.log2 = 54 + n.log2 := by rw [← hk]; show 52 + 2 + n.log2 - m.log2 + m.log2 = _; omega
  simp only [Ieee.Datum.quotient, if_neg (show ¬ n = 0 by omega), Option.map_some, Ieee.Format.write, hk, Nat.shiftLeft_eq]
  obtain ⟨c, hc⟩ : ∃ c : Nat, -1074 + (a : Int) - (-1074 + (b : Int)) - (k : Int) - 1 = -1074 - (3000 : Nat) + c := ⟨a + 4074 - b - k - 1, by omega⟩
  have hQ : 2 ^ 53 ≤ m * 2 ^ k / n := by
    rw [Nat.le_div_iff_mul_le hn0]
    have h1 := Nat.log2_self_le (n := m) (by omega)
    have h2 := Nat.lt_log2_self (n := n)
    calc 2 ^ 53 * n ≤ 2 ^ 53 * 2 ^ (n.log2 + 1) := Nat.mul_le_mul_left _ (by omega)
      _ = 2 ^ m.log2 * 2 ^ k := by rw [← Nat.pow_add, ← Nat.pow_add]; congr 1; omega
      _ ≤ m * 2 ^ k := Nat.mul_le_mul_right _ h1
  rw [near_eq _ _ c 3000 _ hc, T_sticky _ _ _ _ hn0 hQ]
  have e1 : rV (rg x) * 2 ^ 4074 = m * 2 ^ k * 2 ^ (c + 1) * 2 ^ b := by
    rw [← hm]
    simp only [Nat.mul_assoc, ← Nat.pow_add]
    congr 2
    omega
  rw [e1, ← hn, T_scale _ _ _ (Nat.two_pow_pos _)]

theorem V_bin (k : Nat) : rV ((k + 1) * rB) = 2 ^ (52 + k) := by
  unfold rV
  rw [if_neg (by have := bin_pos; rw [Nat.add_mul]; omega), Nat.mul_mod_left, Nat.mul_div_cancel _ bin_pos, Nat.add_sub_cancel, Nat.add_zero, bin_pow, ← Nat.pow_add]

theorem T_one' (r k D E : Nat) (hr : 0 < r) (hE : E = 52 + k + D) : rT (rV r * 2 ^ E) (rV r) D = (k + 1) * rB := by
  have := T_exact (r := (k + 1) * rB) D (rV r) (V_pos hr)
  rw [V_bin, ← Nat.pow_add, ← hE] at this
  rw [Nat.mul_comm]; exact this

/-- Whole numbers below 2 to the 53 have a rung each. -/
theorem int_rung (a E : Nat) (ha : a < 9007199254740992) (hE : E = 1074) : ∃ r, rV r = a * 2 ^ E ∧ r < infR := by
  rcases Nat.eq_zero_or_pos a with rfl | h0
  · exact ⟨0, by rw [V_zero, Nat.zero_mul], by decide⟩
  have hl : a.log2 < 53 := (Nat.log2_lt (by omega)).2 (by rw [show 2 ^ 53 = 9007199254740992 by decide]; exact ha)
  obtain ⟨l, hL⟩ : ∃ l, a.log2 = l := ⟨_, rfl⟩
  have a1 := Nat.log2_self_le (n := a) (by omega)
  have a2 := Nat.lt_log2_self (n := a)
  rw [hL] at hl a1 a2
  obtain ⟨K, hK⟩ : ∃ K, a * 2 ^ (52 - l) = K := ⟨_, rfl⟩
  have k1 : rB ≤ K := by
    rw [← hK, bin_pow, show 2 ^ 52 = 2 ^ l * 2 ^ (52 - l) by rw [← Nat.pow_add]; congr 1; omega]
    exact Nat.mul_le_mul_right _ a1
  have k2 : K < 2 * rB := by
    rw [← hK, bin_pow, show 2 * 2 ^ 52 = 2 ^ (l + 1) * 2 ^ (52 - l) by rw [← Nat.pow_add, ← Nat.pow_succ']; congr 1; omega]
    exact Nat.mul_lt_mul_of_pos_right a2 (Nat.two_pow_pos _)
  refine ⟨(1022 + l) * rB + K, ?_, ?_⟩
  · unfold rV
    have hbp := bin_pos
    have e1 : (1022 + l) * rB + K = (K - rB) + (1022 + l + 1) * rB := by rw [Nat.add_mul _ 1]; omega
    have hd : ((1022 + l) * rB + K) / rB = 1022 + l + 1 := by
      rw [e1, Nat.add_mul_div_right _ _ hbp, Nat.div_eq_of_lt (by omega)]; omega
    have hm : ((1022 + l) * rB + K) % rB = K - rB := by
      rw [e1, Nat.add_mul_mod_self_right, Nat.mod_eq_of_lt (by omega)]
    rw [if_neg (by omega), hd, hm, show rB + (K - rB) = K by omega, ← hK, Nat.mul_assoc, ← Nat.pow_add]
    congr 2
    omega
  · have : (1022 + l) * rB ≤ 1074 * rB := Nat.mul_le_mul_right _ (by omega)
    unfold infR rB at *
    omega
end Go.Proofs.Ytlgfhmedenlbcab
