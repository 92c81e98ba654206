/- The contract of the reference's Committed. -/
import Derived.Test.YtapnjgmihfmapaaChsF5
namespace Go.Proofs.Ytapnjgmihfmapaa.Chs
open Go.RowKit Go.Proofs.Ytapnjgmihfmapaa Go.Proofs.Ytapnjgmihfmapaa.Lgg
set_option linter.unusedVariables false

/-- The place that the reference has found behind i logs. -/
def rbI (xs : List Ls) (N : Nat) : Nat → Int
  | 0 => -1
  | i + 1 => if N ≤ kN xs (xs.getD i default).ep 0 ∧ (rbI xs N i < 0 ∨ (xs.getD (rbI xs N i).toNat default).ep < (xs.getD i default).ep) then (i : Int) else rbI xs N i
theorem rb_lt (xs : List Ls) (N i : Nat) : -1 ≤ rbI xs N i ∧ rbI xs N i < (i : Int) := by
  induction i with
  | zero => exact ⟨Int.le_refl _, by show (-1 : Int) < 0; omega⟩
  | succ i ih =>
    unfold rbI
    split <;> omega
theorem rb_have (xs : List Ls) (N i : Nat) (h : 0 ≤ rbI xs N i) : N ≤ kN xs (xs.getD (rbI xs N i).toNat default).ep 0 := by
  induction i with
  | zero => exact absurd h (by show ¬ (0 : Int) ≤ -1; omega)
  | succ i ih =>
    unfold rbI at h ⊢
    split
    · rename_i h1
      rw [Int.toNat_natCast]; exact h1.1
    · rename_i h1
      rw [if_neg h1] at h
      exact ih h
theorem rb_all (xs : List Ls) (N i j : Nat) (hj : j < i) (h : N ≤ kN xs (xs.getD j default).ep 0) : 0 ≤ rbI xs N i ∧ (xs.getD j default).ep ≤ (xs.getD (rbI xs N i).toNat default).ep := by
  induction i with
  | zero => omega
  | succ i ih =>
    unfold rbI
    rcases Nat.lt_or_ge j i with hji | hji
    · obtain ⟨h1, h2⟩ := ih hji
      split
      · rename_i hc
        rw [Int.toNat_natCast]
        rcases hc.2 with h3 | h3
        · omega
        · exact ⟨by omega, by omega⟩
      · exact ⟨h1, h2⟩
    · obtain rfl : j = i := by omega
      split
      · rw [Int.toNat_natCast]
        exact ⟨by omega, Int.le_refl _⟩
      · rename_i hc
        have h3 : ¬ (rbI xs N j < 0 ∨ (xs.getD (rbI xs N j).toNat default).ep < (xs.getD j default).ep) := fun e => hc ⟨h, e⟩
        have h4 : ¬ rbI xs N j < 0 := fun e => h3 (.inl e)
        have h5 : ¬ (xs.getD (rbI xs N j).toNat default).ep < (xs.getD j default).ep := fun e => h3 (.inr e)
        exact ⟨by omega, by omega⟩
theorem ep_ex {xs : List Ls} {e : Int} (h : 0 < kN xs e 0) : ∃ (j : Nat) (hj : j < xs.length), xs[j].ep = e := by
  obtain ⟨x, hx, h1, _⟩ := kN_ex h
  obtain ⟨j, hj, rfl⟩ := List.getElem_of_mem hx
  exact ⟨j, hj, h1⟩
theorem rb_none {xs : List Ls} {N : Nat} (hN : 1 ≤ N) (h : rbI xs N xs.length < 0) : topI xs N xs.length = none := by
  have ht := topI_top xs N hN xs.length (Nat.le_refl _)
  rw [List.take_length] at ht
  refine ht.same (o' := none) fun e => ?_
  refine Nat.lt_of_not_le fun hle => ?_
  obtain ⟨j, hj, rfl⟩ := ep_ex (xs := xs) (e := e) (by omega)
  have := (rb_all xs N xs.length j hj (by rw [getD_in hj]; exact hle)).1
  omega
theorem rb_some {xs : List Ls} {N k : Nat} (hN : 1 ≤ N) (hk : k < xs.length) (h : rbI xs N xs.length = (k : Int)) : topI xs N xs.length = some xs[k].ep := by
  have ht := topI_top xs N hN xs.length (Nat.le_refl _)
  rw [List.take_length] at ht
  have hg : xs.getD (rbI xs N xs.length).toNat default = xs[k] := by rw [h, Int.toNat_natCast, getD_in hk]
  refine ht.same (o' := some xs[k].ep) ⟨?_, fun e' he => ?_⟩
  · have := rb_have xs N xs.length (by omega)
    rw [hg] at this; exact this
  · obtain ⟨j, hj, rfl⟩ := ep_ex (xs := xs) (e := e') (by omega)
    have := (rb_all xs N xs.length j hj (by rw [getD_in hj]; exact he)).2
    rw [hg, getD_in hj] at this
    exact this
theorem rb_yes0 {xs : List Ls} {N i : Nat} (hi : i < xs.length) (h1 : N ≤ kN xs xs[i].ep 0) (h2 : rbI xs N i < 0) : rbI xs N (i + 1) = (i : Int) := by
  conv => lhs; unfold rbI
  rw [getD_in hi, if_pos ⟨h1, .inl h2⟩]
theorem rb_yes {xs : List Ls} {N i k : Nat} (hi : i < xs.length) (hk : k < xs.length) (h1 : N ≤ kN xs xs[i].ep 0) (h2 : rbI xs N i = (k : Int)) (h3 : xs[k].ep < xs[i].ep) : rbI xs N (i + 1) = (i : Int) := by
  conv => lhs; unfold rbI
  rw [getD_in hi, h2, Int.toNat_natCast, getD_in hk, if_pos ⟨h1, .inr h3⟩]
theorem rb_no1 {xs : List Ls} {N i : Nat} (hi : i < xs.length) (h1 : ¬ N ≤ kN xs xs[i].ep 0) : rbI xs N (i + 1) = rbI xs N i := by
  conv => lhs; unfold rbI
  rw [getD_in hi, if_neg (fun h => h1 h.1)]
theorem rb_no2 {xs : List Ls} {N i k : Nat} (hi : i < xs.length) (hk : k < xs.length) (h2 : rbI xs N i = (k : Int)) (h3 : ¬ xs[k].ep < xs[i].ep) : rbI xs N (i + 1) = (k : Int) := by
  conv => lhs; unfold rbI
  rw [getD_in hi, h2, Int.toNat_natCast, getD_in hk, if_neg]
  rintro ⟨_, h | h⟩
  · omega
  · exact h3 h

end Go.Proofs.Ytapnjgmihfmapaa.Chs
