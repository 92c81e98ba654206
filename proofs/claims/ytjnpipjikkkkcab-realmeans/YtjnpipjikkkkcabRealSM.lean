/- Plain: a share lies between 0 and 1, and with more used it is no less. No program in it. -/
import Derived.Test.YtjnpipjikkkkcabRealS
namespace Go.Proofs.Ytjnpipjikkkkcab

theorem one_eq : (1022 + 1) * rB = oneW := by decide
theorem one_rg : rg oneW = oneW := by decide
theorem one_sg : sg oneW = false := by decide
theorem one_inf : oneW < infR := by decide
theorem zero_rg : rg 0 = 0 := by decide
theorem zero_sg : sg 0 = false := by decide

/-- The rung of a quotient. -/
def dvR (a b : Nat) : Nat := rT (rV a * 2 ^ 4074) (rV b) 3000
theorem dvR_mono {a a' b : Nat} (hb : 0 < b) (h : a ≤ a') : dvR a b ≤ dvR a' b := T_mono _ (V_pos hb) (Nat.mul_le_mul_right _ (V_le h))
theorem dvR_one {b : Nat} (hb : 0 < b) : dvR b b = oneW := (T_one' b 1022 3000 4074 hb (by decide)).trans one_eq
theorem dv_eq {x y : Nat} (hx : rg x < infR) (hy : rg y < infR) (hx0 : 0 < rg x) (hy0 : 0 < rg y) : FloatKind.f64.format.div x y = some (Ieee.double.word (sg x ^^ sg y) (min (dvR (rg x) (rg y)) infR)) := div_eq hx hy hx0 hy0

theorem share_T {u r : Nat} (hr : 0 < rg r) (h : rg u ≤ rg r) : dvR (rg u) (rg r) ≤ oneW := by
  have h1 := dvR_mono hr h
  rw [dvR_one hr] at h1
  exact h1

/-- Where both are numbers, and what is used is some, and less than the room. -/
theorem share_div {u r : Nat} (hu0 : 0 < sr u) (h : sr u < sr r) (hr : rg r < infR) : (FloatKind.f64.format.div u r).getD 0 = Ieee.double.word false (dvR (rg u) (rg r)) := by
  obtain ⟨s1, e1, p1⟩ := sr_pos hu0
  obtain ⟨s2, e2, p2⟩ := sr_pos (x := r) (by omega)
  have hd := dv_eq (x := u) (y := r) (by omega) hr p1 p2
  have := share_T (u := u) p2 (by omega)
  have := one_inf
  rw [hd, s1, s2, Nat.min_eq_left (by omega), Option.getD_some, Bool.xor_false]

theorem share_between (u r : Nat) : sg (shareB u r) = false ∧ rg (shareB u r) ≤ oneW := by
  unfold shareB
  split
  · exact ⟨one_sg, by rw [one_rg]; exact Nat.le_refl _⟩
  · split
    · exact ⟨zero_sg, by rw [zero_rg]; omega⟩
    · split
      · exact ⟨one_sg, by rw [one_rg]; exact Nat.le_refl _⟩
      · split
        · exact ⟨zero_sg, by rw [zero_rg]; omega⟩
        · rename_i h1 h2 h3 h4
          have hn : isN r = false := by
            cases h : isN r
            · rfl
            · exact absurd (.inr (.inl h)) h1
          have := nan_no hn
          have hu := sr_pos (x := u) (by omega)
          have hr := sr_pos (x := r) (by omega)
          have ht := share_T (u := u) hr.2.2 (by omega)
          have := one_inf
          rw [share_div (by omega) (by omega) (by omega)]
          exact ⟨sg_word _ (by omega), by rw [rg_word _ (by omega)]; exact ht⟩

theorem share_mono {u m r : Nat} (hu : isN u = false) (hm : isN m = false) (h : sr u ≤ sr m) : rg (shareB u r) ≤ rg (shareB m r) := by
  have hb := (share_between u r).2
  rcases Bool.eq_false_or_eq_true (isN r) with hr | hr
  · unfold shareB
    rw [if_pos (.inr (.inl hr)), if_pos (.inr (.inl hr))]; exact Nat.le_refl _
  unfold shareB at hb ⊢
  rw [hu, hr] at hb ⊢
  rw [hm]
  by_cases h1 : sr r ≤ 0
  · rw [if_pos (.inr (.inr h1)), if_pos (.inr (.inr h1))]; exact Nat.le_refl _
  have hno : ¬ (false = true ∨ false = true ∨ sr r ≤ 0) := by simp; omega
  rw [if_neg hno] at hb ⊢
  rw [if_neg hno]
  by_cases h2 : sr u ≤ 0
  · rw [if_pos h2, zero_rg]; omega
  rw [if_neg h2] at hb ⊢
  rw [if_neg (show ¬ sr m ≤ 0 by omega)]
  by_cases h3 : sr r ≤ sr u
  · rw [if_pos h3, if_pos (by omega)]; exact Nat.le_refl _
  rw [if_neg h3] at hb ⊢
  by_cases h4 : sr r ≤ sr m
  · rw [if_pos h4, one_rg]; exact hb
  rw [if_neg h4]
  by_cases h5 : rg r = infR
  · rw [if_pos h5, if_pos h5]; exact Nat.le_refl _
  rw [if_neg h5, if_neg h5]
  have := nan_no hr
  have pu := sr_pos (x := u) (by omega)
  have pm := sr_pos (x := m) (by omega)
  have pr := sr_pos (x := r) (by omega)
  have t1 := share_T (u := u) pr.2.2 (by omega)
  have t2 := share_T (u := m) pr.2.2 (by omega)
  have := one_inf
  rw [share_div (by omega) (by omega) (by omega), share_div (u := m) (by omega) (by omega) (by omega), rg_word _ (by omega), rg_word _ (by omega)]
  exact dvR_mono pr.2.2 (by omega)

theorem sr_nn {x : Nat} (h : sg x = false) : sr x = rg x := by unfold sr; rw [h]; rfl
theorem isN_one : isN oneW = false := nan_of (by rw [one_rg]; exact Nat.le_of_lt one_inf)

theorem fo_ge {a b : Nat} (ha : isN a = false) (hb : isN b = false) (h : sr b ≤ sr a) : ((FloatKind.f64.format.order a b == some .gt) || (FloatKind.f64.format.order a b == some .eq)) = true := by
  rcases fo_three ha hb with ⟨k, k1, -⟩ | ⟨k, k1, -⟩ | ⟨k, k1, -⟩
  · omega
  · rw [k1]; rfl
  · rw [k1]; rfl
theorem fo_le {a b : Nat} (ha : isN a = false) (hb : isN b = false) (h : sr a ≤ sr b) : ((FloatKind.f64.format.order a b == some .lt) || (FloatKind.f64.format.order a b == some .eq)) = true := by
  rcases fo_three ha hb with ⟨k, k1, -⟩ | ⟨k, k1, -⟩ | ⟨k, k1, -⟩
  · rw [k1]; rfl
  · rw [k1]; rfl
  · omega
theorem fo_le_of {a b : Nat} (h : ((FloatKind.f64.format.order a b == some .lt) || (FloatKind.f64.format.order a b == some .eq)) = true) : isN a = false ∧ isN b = false ∧ sr a ≤ sr b := by
  rcases hO : FloatKind.f64.format.order a b with _ | _ | _ | _
  · rw [hO] at h; cases h
  · obtain ⟨h1, h2, h3⟩ := fo_some_lt hO; exact ⟨h1, h2, by omega⟩
  · obtain ⟨h1, h2, h3⟩ := fo_some hO
    refine ⟨h1, h2, ?_⟩
    rw [cmp_int] at h3
    by_cases k : sr a < sr b
    · omega
    · rw [if_neg k] at h3
      by_cases l : sr a = sr b
      · omega
      · rw [if_neg l] at h3; cases h3
  · rw [hO] at h; cases h

/-- All that is asked of shares. -/
theorem share_facts (u m r : Nat) :
    ((FloatKind.f64.format.order (shareB u r) 0 == some .gt) || (FloatKind.f64.format.order (shareB u r) 0 == some .eq)) = true ∧
    ((FloatKind.f64.format.order (shareB u r) oneW == some .lt) || (FloatKind.f64.format.order (shareB u r) oneW == some .eq)) = true ∧
    (((FloatKind.f64.format.order u m == some .lt) || (FloatKind.f64.format.order u m == some .eq)) = false ∨ ((FloatKind.f64.format.order u m == some .lt) || (FloatKind.f64.format.order u m == some .eq)) = true ∧ ((FloatKind.f64.format.order (shareB u r) (shareB m r) == some .lt) || (FloatKind.f64.format.order (shareB u r) (shareB m r) == some .eq)) = true) ∧
    ((FloatKind.f64.format.order r 0 == some .gt) = true ∧ shareB 0 r = 0 ∨ (FloatKind.f64.format.order r 0 == some .gt) = false ∧ shareB u r = oneW) := by
  have b1 := share_between u r
  have b2 := share_between m r
  have hi := one_inf
  have n1 : isN (shareB u r) = false := nan_of (by omega)
  have n2 : isN (shareB m r) = false := nan_of (by omega)
  refine ⟨fo_ge n1 nan_zero ?_, fo_le n1 isN_one ?_, ?_, ?_⟩
  · rw [sr_zero, sr_nn b1.1]; omega
  · rw [sr_nn b1.1, sr_nn one_sg, one_rg]; omega
  · cases h : ((FloatKind.f64.format.order u m == some .lt) || (FloatKind.f64.format.order u m == some .eq))
    · exact .inl rfl
    · obtain ⟨h1, h2, h3⟩ := fo_le_of h
      refine .inr ⟨rfl, fo_le n1 n2 ?_⟩
      have := share_mono (r := r) h1 h2 h3
      rw [sr_nn b1.1, sr_nn b2.1]; omega
  · cases hr : isN r
    · rcases fo_three hr nan_zero with ⟨k, k1, -⟩ | ⟨k, k1, -⟩ | ⟨k, k1, -⟩
      · refine .inr ⟨by rw [k1]; rfl, ?_⟩
        rw [sr_zero] at k
        unfold shareB; rw [if_pos (.inr (.inr (by omega)))]
      · refine .inr ⟨by rw [k1]; rfl, ?_⟩
        rw [sr_zero] at k
        unfold shareB; rw [if_pos (.inr (.inr (by omega)))]
      · refine .inl ⟨by rw [k1]; rfl, ?_⟩
        rw [sr_zero] at k
        unfold shareB; rw [nan_zero, hr, if_neg (by simp; omega), if_pos (by rw [sr_zero]; omega)]
    · refine .inr ⟨by rw [fo_nan_l _ hr]; rfl, ?_⟩
      unfold shareB; rw [if_pos (.inr (.inl hr))]
theorem eq_zero0 : FloatKind.f64.format.order 0 0 = some .eq := by decide +kernel
end Go.Proofs.Ytjnpipjikkkkcab
