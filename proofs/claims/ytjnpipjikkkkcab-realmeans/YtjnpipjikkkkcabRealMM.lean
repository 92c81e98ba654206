/- Plain: what is reached stays reached with more there, with a less share; all of it is the share 1. No program in it. -/
import Derived.Test.YtjnpipjikkkkcabRealSM
namespace Go.Proofs.Ytjnpipjikkkkcab

/-- The rung of a product. -/
def mlR (r F : Nat) : Nat := if r = infR then infR else min (rT (rV r * rV F) 1 1074) infR
theorem ml_eq {s y : Nat} (hs : isN s = false) (hy : rg y < infR) (hy0 : 0 < rg y) : FloatKind.f64.format.mul s y = some (Ieee.double.word (sg s ^^ sg y) (mlR (rg s) (rg y))) := mul_some hs hy hy0
theorem mlR_inf (r F : Nat) : mlR r F ≤ infR := by
  unfold mlR; split
  · exact Nat.le_refl _
  · exact Nat.min_le_right _ _
theorem mlR_mono {r r' : Nat} (F : Nat) (h : r ≤ r') (hr : r' ≤ infR) : mlR r F ≤ mlR r' F := by
  by_cases h1 : r' = infR
  · have : mlR r' F = infR := by unfold mlR; rw [if_pos h1]
    rw [this]; exact mlR_inf _ _
  · unfold mlR
    rw [if_neg (by omega), if_neg h1]
    have := T_mono (n := 1) 1074 (by decide) (Nat.mul_le_mul_right (rV F) (V_le h))
    omega
theorem T_by (E r : Nat) : rT (2 ^ E * rV r) 1 E = r := by
  have := T_exact (r := r) E 1 (by decide)
  rw [Nat.mul_one, Nat.mul_comm] at this
  exact this
theorem V_one (E : Nat) (h : 52 + 1022 = E) : rV oneW = 2 ^ E := by
  have := V_bin 1022
  rw [one_eq, h] at this
  exact this
theorem ml_one (E F : Nat) (h : 52 + 1022 = E) : rT (rV oneW * rV F) 1 E = F := by rw [V_one E h, T_by]
theorem mlR_one {F : Nat} (h : F ≤ infR) : mlR oneW F = F := by
  unfold mlR
  rw [if_neg (by decide), ml_one 1074 F rfl, Nat.min_eq_left h]

theorem fi_sr {n : Int} (h : 0 ≤ n) : sr (floatOfInt .f64 n) = fiR n.natAbs := by
  rw [sr_nn (by rw [fi_sg]; exact decide_eq_false (by omega)), fi_rg]

/-- The product's place. -/
theorem prod_facts {n : Int} {s : Nat} (h1 : 1 ≤ n) (h2 : n ≤ 9223372036854775807) (hs : isN s = false) :
    isN ((FloatKind.f64.format.mul s (floatOfInt .f64 n)).getD 0) = false ∧ sr ((FloatKind.f64.format.mul s (floatOfInt .f64 n)).getD 0) = sv (sg s) (mlR (rg s) (fiR n.natAbs)) := by
  have hm := ml_eq hs (fi_fin (n := n) (by omega)) (fi_pos h1)
  rw [hm, Option.getD_some, fi_sg, decide_eq_false (show ¬ n < 0 by omega), Bool.xor_false, fi_rg]
  have := mlR_inf (rg s) (fiR n.natAbs)
  refine ⟨nan_of (by rw [rg_word _ this]; exact this), ?_⟩
  rw [sr_eq, rg_word _ this, sg_word _ this]

theorem lt_dec {x y : Nat} (hx : isN x = false) (hy : isN y = false) : (FloatKind.f64.format.order x y == some .lt) = decide (sr x < sr y) := by
  rcases fo_three hx hy with ⟨k, k1, -⟩ | ⟨k, k1, -⟩ | ⟨k, k1, -⟩
  · rw [k1, decide_eq_true k]; rfl
  · rw [k1, decide_eq_false (by omega)]; rfl
  · rw [k1, decide_eq_false (by omega)]; rfl

theorem reach_eq {h n : Int} {s : Nat} (h1 : 1 ≤ n) (h2 : n ≤ 9223372036854775807) (hs : isN s = false) : reachB h n s = decide (sv (sg s) (mlR (rg s) (fiR n.natAbs)) ≤ (fiR (max h 0).natAbs : Int)) := by
  obtain ⟨k1, k2⟩ := prod_facts h1 h2 hs
  unfold reachB
  rw [if_neg (by omega), hs]
  rw [lt_dec (fi_nan _) k1, k2, fi_sr (by omega)]
  by_cases k : (fiR (max h 0).natAbs : Int) < sv (sg s) (mlR (rg s) (fiR n.natAbs))
  · rw [decide_eq_true k, decide_eq_false (by omega)]; rfl
  · rw [decide_eq_false k, decide_eq_true (by omega)]; rfl

theorem reach_more {h m n : Int} {s : Nat} (h2 : n ≤ 9223372036854775807) (hm : h ≤ m) (hr : reachB h n s = true) : reachB m n s = true := by
  by_cases h1 : n < 1
  · unfold reachB; rw [if_pos h1]
  cases hs : isN s
  · rw [reach_eq (by omega) h2 hs] at hr ⊢
    have := of_decide_eq_true hr
    have := fiR_mono (a := (max h 0).natAbs) (b := (max m 0).natAbs) (by omega)
    exact decide_eq_true (by omega)
  · unfold reachB at hr; rw [if_neg h1, hs] at hr; cases hr

theorem reach_less {h n : Int} {s t : Nat} (h2 : n ≤ 9223372036854775807) (hl : ((FloatKind.f64.format.order t s == some .lt) || (FloatKind.f64.format.order t s == some .eq)) = true) (hr : reachB h n s = true) : reachB h n t = true := by
  obtain ⟨ht, hs, hle⟩ := fo_le_of hl
  by_cases h1 : n < 1
  · unfold reachB; rw [if_pos h1]
  rw [reach_eq (by omega) h2 hs] at hr
  rw [reach_eq (by omega) h2 ht]
  have hr := of_decide_eq_true hr
  refine decide_eq_true ?_
  have a1 := nan_no hs
  have a2 := nan_no ht
  have : sv (sg t) (mlR (rg t) (fiR n.natAbs)) ≤ sv (sg s) (mlR (rg s) (fiR n.natAbs)) := by
    unfold sr at hle
    unfold sv
    cases e1 : sg s <;> cases e2 : sg t <;> simp [e1, e2] at hle ⊢
    · exact mlR_mono _ (by omega) a1
    · have z1 : rg t = 0 := by omega
      have z2 : rg s = 0 := by omega
      rw [z1, z2]
      have : mlR 0 (fiR n.natAbs) = 0 := by
        unfold mlR; rw [if_neg (by decide), V_zero, Nat.zero_mul, T_zero _ _ (by decide)]; rfl
      rw [this]; simp
    · exact mlR_mono _ (by omega) a2
  omega

theorem reach_all {h n : Int} (h2 : n ≤ 9223372036854775807) : reachB (max h n) n 4607182418800017408 = true := by
  by_cases h1 : n < 1
  · unfold reachB; rw [if_pos h1]
  show reachB (max h n) n oneW = true
  rw [reach_eq (by omega) h2 isN_one, one_rg, one_sg, mlR_one (fiR_inf _)]
  have := fiR_mono (a := n.natAbs) (b := (max (max h n) 0).natAbs) (by omega)
  exact decide_eq_true (by show ((fiR n.natAbs : Nat) : Int) ≤ _; omega)

theorem reach_not {h n : Int} {s : Nat} (hr : reachB h n s = false) : 0 < n := by
  by_cases h1 : n < 1
  · unfold reachB at hr; rw [if_pos h1] at hr; cases hr
  · omega
end Go.Proofs.Ytjnpipjikkkkcab
