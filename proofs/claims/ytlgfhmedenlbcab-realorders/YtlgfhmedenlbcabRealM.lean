/- Plain: fractions of 64 bits by the model's words for them: each stands at a rung; how two stand to each other, and how a number is rounded, by whole numbers alone. No program in it. -/
import Derived.WalkKit
import Derived.Laws.FloatArith
namespace Go.Proofs.Ytlgfhmedenlbcab

/-- The rung of a word. -/
def rg (x : Nat) : Nat := x % 9223372036854775808
/-- Its sign. -/
def sg (x : Nat) : Bool := x / 9223372036854775808 % 2 == 1
/-- The endless one's rung. -/
def infR : Nat := 9218868437227405312
/-- Rungs to a binade. -/
def rB : Nat := 4503599627370496
theorem bin_pow : rB = 2 ^ 52 := by decide
/-- The rung with its sign. -/
def sr (x : Nat) : Int := if sg x then -(rg x : Int) else rg x
/-- The size that a rung stands for, in units of the least. -/
def rV (r : Nat) : Nat := if r < rB then r else (rB + r % rB) * 2 ^ (r / rB - 1)

theorem bin_pos : 0 < rB := by decide

theorem V_lt {r s : Nat} (h : r < s) : rV r < rV s := by
  unfold rV
  by_cases hs : s < rB
  · rw [if_pos (by omega), if_pos hs]; exact h
  · rw [if_neg hs]
    have p2 : 0 < 2 ^ (s / rB - 1) := Nat.two_pow_pos _
    by_cases hr : r < rB
    · rw [if_pos hr]
      calc r < rB * 1 := by omega
        _ ≤ (rB + s % rB) * 2 ^ (s / rB - 1) := Nat.mul_le_mul (by omega) p2
    · rw [if_neg hr]
      have er := Nat.div_add_mod r rB
      have es := Nat.div_add_mod s rB
      have lr := Nat.mod_lt r bin_pos
      have ls := Nat.mod_lt s bin_pos
      have d1 : 1 ≤ r / rB := (Nat.le_div_iff_mul_le bin_pos).2 (by omega)
      have hle : r / rB ≤ s / rB := Nat.div_le_div_right (by omega)
      rcases Nat.eq_or_lt_of_le hle with he | hl
      · rw [he]
        refine Nat.mul_lt_mul_of_pos_right ?_ p2
        rw [he] at er
        omega
      · have : 2 ^ (r / rB - 1) * 2 ≤ 2 ^ (s / rB - 1) := by
          rw [← Nat.pow_succ]
          exact Nat.pow_le_pow_right (by decide) (by omega)
        have p1 : 0 < 2 ^ (r / rB - 1) := Nat.two_pow_pos _
        calc (rB + r % rB) * 2 ^ (r / rB - 1) < (rB * 2) * 2 ^ (r / rB - 1) := Nat.mul_lt_mul_of_pos_right (by omega) p1
          _ = rB * (2 ^ (r / rB - 1) * 2) := by rw [Nat.mul_assoc, Nat.mul_comm 2]
          _ ≤ rB * 2 ^ (s / rB - 1) := Nat.mul_le_mul_left _ this
          _ ≤ (rB + s % rB) * 2 ^ (s / rB - 1) := Nat.mul_le_mul_right _ (by omega)

theorem V_le {r s : Nat} (h : r ≤ s) : rV r ≤ rV s := by
  rcases Nat.eq_or_lt_of_le h with rfl | h
  · exact Nat.le_refl _
  · exact Nat.le_of_lt (V_lt h)
theorem V_zero : rV 0 = 0 := by decide
theorem V_pos {r : Nat} (h : 0 < r) : 0 < rV r := by have := V_lt h; rw [V_zero] at this; exact this

theorem sw_eq : Ieee.double.signWeight = 9223372036854775808 := by decide
theorem bn_eq : Ieee.double.binade = rB := by decide
theorem in_eq : Ieee.double.infRung = infR := by decide
theorem lp_eq : Ieee.double.leastPlace = -1074 := by decide

theorem read_num {x : Nat} (h : rg x < infR) : ∃ m a : Nat, Ieee.double.read x = .number (sg x) m (-1074 + (a : Int)) ∧ m * 2 ^ a = rV (rg x) ∧ m < 9007199254740992 ∧ a ≤ 2045 := by
  unfold Ieee.Format.read
  simp only [sw_eq, bn_eq, in_eq, lp_eq]
  change ∃ m a : Nat, (if rg x < rB then Ieee.Datum.number (sg x) (rg x) (-1074) else if rg x < infR then .number (sg x) (rB + rg x % rB) (-1074 + ((rg x / rB - 1 : Nat) : Int)) else if rg x = infR then .infinity (sg x) else .nan (sg x) (rg x - infR)) = _ ∧ _
  unfold rV
  by_cases hb : rg x < rB
  · rw [if_pos hb, if_pos hb]
    exact ⟨rg x, 0, by simp, by simp, by unfold rB at hb; omega, by omega⟩
  · rw [if_neg hb, if_pos h, if_neg hb]
    refine ⟨_, _, rfl, rfl, ?_, ?_⟩
    · have := Nat.mod_lt (rg x) bin_pos
      unfold rB at *
      omega
    · have : rg x / rB < 2047 := (Nat.div_lt_iff_lt_mul bin_pos).2 h
      omega

theorem read_inf {x : Nat} (h : rg x = infR) : Ieee.double.read x = .infinity (sg x) := by
  unfold Ieee.Format.read
  simp only [sw_eq, bn_eq, in_eq, lp_eq]
  change (if rg x < rB then Ieee.Datum.number (sg x) (rg x) (-1074) else if rg x < infR then .number (sg x) (rB + rg x % rB) (-1074 + ((rg x / rB - 1 : Nat) : Int)) else if rg x = infR then .infinity (sg x) else .nan (sg x) (rg x - infR)) = _
  rw [if_neg (by rw [h]; decide), if_neg (by omega), if_pos h]

theorem read_nan {x : Nat} (h : infR < rg x) : ∃ k, Ieee.double.read x = .nan (sg x) k := by
  unfold Ieee.Format.read
  simp only [sw_eq, bn_eq, in_eq, lp_eq]
  change ∃ k, (if rg x < rB then Ieee.Datum.number (sg x) (rg x) (-1074) else if rg x < infR then .number (sg x) (rB + rg x % rB) (-1074 + ((rg x / rB - 1 : Nat) : Int)) else if rg x = infR then .infinity (sg x) else .nan (sg x) (rg x - infR)) = _
  have : rB < infR := by decide
  rw [if_neg (by omega), if_neg (by omega), if_neg (by omega)]
  exact ⟨_, rfl⟩

theorem cmp_int (x y : Int) : compare x y = if x < y then Ordering.lt else if x = y then .eq else .gt := rfl

theorem cmp_lt {x y : Int} (h : x < y) : Ordering.lt = compare x y := by rw [cmp_int, if_pos h]
theorem cmp_gt {x y : Int} (h : y < x) : Ordering.gt = compare x y := by rw [cmp_int, if_neg (by omega), if_neg (by omega)]
theorem cmp_same {x y x' y' : Int} (h1 : x < y ↔ x' < y') (h2 : x = y ↔ x' = y') : compare x y = compare x' y' := by
  rw [cmp_int, cmp_int]
  simp only [h1, h2]

/-- A size with its sign. -/
def sv (s : Bool) (v : Nat) : Int := if s then -(v : Int) else v
theorem signed_eq (s : Bool) (m k : Nat) : Ieee.signed s m k = sv s (m * 2 ^ k) := by
  unfold Ieee.signed sv; rw [Nat.shiftLeft_eq]
theorem sv_mul (s : Bool) (v c : Nat) : sv s (v * c) = sv s v * c := by
  unfold sv; cases s <;> simp [Int.neg_mul]
theorem sr_eq (x : Nat) : sr x = sv (sg x) (rg x) := rfl

theorem sv_cmp (s t : Bool) {a b u v : Nat} (h1 : a < b ↔ u < v) (h2 : b < a ↔ v < u) (h3 : a = 0 ↔ u = 0) (h4 : b = 0 ↔ v = 0) : compare (sv s a) (sv t b) = compare (sv s u) (sv t v) := by
  apply cmp_same
  · unfold sv; cases s <;> cases t <;> simp <;> omega
  · unfold sv; cases s <;> cases t <;> simp <;> omega

/-- How two fractions stand to each other. -/
theorem order_eq (x y : Nat) : Ieee.double.order x y = if infR < rg x ∨ infR < rg y then none else some (compare (sr x) (sr y)) := by
  unfold Ieee.Format.order
  have cases3 : ∀ z, rg z < infR ∨ rg z = infR ∨ infR < rg z := fun z => by omega
  have hVi := V_zero
  rcases cases3 y with hy | hy | hy
  · obtain ⟨n, b, ey, hn, -, -⟩ := read_num hy
    rcases cases3 x with hx | hx | hx
    · obtain ⟨m, a, ex, hm, -, -⟩ := read_num hx
      rw [ex, ey, if_neg (by omega)]
      simp only [Ieee.Datum.order]
      congr 1
      rw [signed_eq, signed_eq, sr_eq, sr_eq]
      obtain ⟨c, hc⟩ : ∃ c : Nat, min (-1074 + (a : Int)) (-1074 + (b : Int)) = -1074 + c := ⟨min a b, by omega⟩
      rw [hc]
      have ea : 2 ^ (-1074 + (a : Int) - (-1074 + (c : Int))).toNat * 2 ^ c = 2 ^ a := by rw [← Nat.pow_add]; congr 1; omega
      have eb : 2 ^ (-1074 + (b : Int) - (-1074 + (c : Int))).toNat * 2 ^ c = 2 ^ b := by rw [← Nat.pow_add]; congr 1; omega
      have h1 : (m * 2 ^ (-1074 + (a : Int) - (-1074 + (c : Int))).toNat) * 2 ^ c = rV (rg x) := by rw [Nat.mul_assoc, ea, hm]
      have h2 : (n * 2 ^ (-1074 + (b : Int) - (-1074 + (c : Int))).toNat) * 2 ^ c = rV (rg y) := by rw [Nat.mul_assoc, eb, hn]
      generalize m * 2 ^ (-1074 + (a : Int) - (-1074 + (c : Int))).toNat = A at h1
      generalize n * 2 ^ (-1074 + (b : Int) - (-1074 + (c : Int))).toNat = A' at h2
      have pc : 0 < 2 ^ c := Nat.two_pow_pos _
      have lt1 : ∀ {r s}, r < s ↔ rV r < rV s := fun {r s} => ⟨V_lt, fun h => by
        rcases Nat.lt_or_ge r s with k | k
        · exact k
        · exact absurd (V_le k) (by omega)⟩
      have z1 : ∀ r, rV r = 0 ↔ r = 0 := fun r => by
        constructor
        · intro h; rcases Nat.eq_zero_or_pos r with k | k
          · exact k
          · have := V_pos k; omega
        · rintro rfl; exact V_zero
      have lA : ∀ {p q : Nat}, p < q ↔ p * 2 ^ c < q * 2 ^ c := fun {p q} => (Nat.mul_lt_mul_right pc).symm
      have zA : ∀ {p : Nat}, p = 0 ↔ p * 2 ^ c = 0 := fun {p} => by rw [Nat.mul_eq_zero]; omega
      apply sv_cmp
      · exact (lA.trans (by rw [h1, h2])).trans lt1.symm
      · exact (lA.trans (by rw [h1, h2])).trans lt1.symm
      · exact (zA.trans (by rw [h1])).trans (z1 _)
      · exact (zA.trans (by rw [h2])).trans (z1 _)
    · rw [read_inf hx, ey, if_neg (by omega)]
      simp only [Ieee.Datum.order]
      congr 1
      rw [sr_eq, sr_eq, hx]
      unfold sv
      cases sg x
      · exact cmp_gt (by cases sg y <;> simp <;> omega)
      · exact cmp_lt (by cases sg y <;> simp <;> omega)
    · obtain ⟨k, ex⟩ := read_nan hx
      rw [ex, if_pos (by omega)]; rfl
  · rcases cases3 x with hx | hx | hx
    · obtain ⟨m, a, ex, hm, -, -⟩ := read_num hx
      rw [read_inf hy, ex, if_neg (by omega)]
      simp only [Ieee.Datum.order]
      congr 1
      rw [sr_eq, sr_eq, hy]
      unfold sv
      cases sg y
      · exact cmp_lt (by cases sg x <;> simp <;> omega)
      · exact cmp_gt (by cases sg x <;> simp <;> omega)
    · rw [read_inf hx, read_inf hy, if_neg (by omega)]
      simp only [Ieee.Datum.order]
      congr 1
      rw [cmp_int, sr_eq, sr_eq, hx, hy]
      cases sg x <;> cases sg y <;> decide
    · obtain ⟨k, ex⟩ := read_nan hx
      rw [ex, if_pos (by omega)]; rfl
  · obtain ⟨k, ey⟩ := read_nan hy
    rw [ey, if_pos (by omega)]
    cases Ieee.double.read x <;> rfl
end Go.Proofs.Ytlgfhmedenlbcab
