/- A fraction put into its place among others. No program in it. -/
import Derived.Test.YtlgfhmedenlbcabRealSortM
namespace Go.Proofs.Ytlgfhmedenlbcab
open Go.RowKit

def insAt (ys : List Nat) (k x : Nat) : List Nat := ys.take k ++ [x] ++ ys.drop k

theorem insAt_len (ys : List Nat) (k x : Nat) : (insAt ys k x).length = ys.length + 1 := by
  unfold insAt; simp; omega
theorem insAt_perm (ys : List Nat) (k x : Nat) : (insAt ys k x).Perm (ys ++ [x]) := by
  unfold insAt
  rw [List.append_assoc]
  refine (List.Perm.append_left _ (List.perm_append_comm)).trans ?_
  rw [← List.append_assoc, List.take_append_drop]
theorem insAt_lo (ys : List Nat) (k x j : Nat) (hk : k ≤ ys.length) (h : j < k) : at0 (insAt ys k x) j = at0 ys j := by
  rw [at0_eq _ _ (by rw [insAt_len]; omega), at0_eq _ _ (by omega)]
  unfold insAt
  rw [List.getElem_append_left (by simp; omega), List.getElem_append_left (by simp; omega), List.getElem_take]
theorem insAt_mid (ys : List Nat) (k x : Nat) (hk : k ≤ ys.length) : at0 (insAt ys k x) k = x := by
  rw [at0_eq _ _ (by rw [insAt_len]; omega)]
  unfold insAt
  rw [List.getElem_append_left (by simp; omega), List.getElem_append_right (by simp; omega)]
  simp
theorem insAt_hi (ys : List Nat) (k x j : Nat) (hk : k ≤ ys.length) (h : k ≤ j) (hj : j < ys.length) : at0 (insAt ys k x) (j + 1) = at0 ys j := by
  rw [at0_eq _ _ (by rw [insAt_len]; omega), at0_eq _ _ hj]
  unfold insAt
  rw [List.getElem_append_right (by simp; omega), List.getElem_drop]
  congr 1
  simp
  omega

theorem insAt_srt {ys : List Nat} {n k x : Nat} (hl : ys.length = n) (hk : k ≤ n) (hs : Srt 0 n ys) (hlo : 0 < k → key (at0 ys (k - 1)) ≤ key x) (hhi : ∀ j, k ≤ j → j < n → key x < key (at0 ys j)) : Srt 0 (n + 1) (insAt ys k x) := by
  intro i j _ hij hj
  have hlo2 : ∀ i, i < k → key (at0 ys i) ≤ key x := fun i hi => Int.le_trans (hs i (k - 1) (by omega) (by omega) (by omega)) (hlo (by omega))
  rcases Nat.lt_trichotomy i k with hi | rfl | hi
  · rw [insAt_lo _ _ _ _ (by omega) hi]
    rcases Nat.lt_trichotomy j k with hj2 | rfl | hj2
    · rw [insAt_lo _ _ _ _ (by omega) hj2]; exact hs i j (by omega) hij (by omega)
    · rw [insAt_mid _ _ _ (by omega)]; exact hlo2 i hi
    · obtain ⟨j', rfl⟩ : ∃ j', j = j' + 1 := ⟨j - 1, by omega⟩
      rw [insAt_hi _ _ _ _ (by omega) (by omega) (by omega)]
      exact Int.le_trans (hlo2 i hi) (Int.le_of_lt (hhi j' (by omega) (by omega)))
  · rw [insAt_mid _ _ _ (by omega)]
    rcases Nat.eq_or_lt_of_le hij with rfl | hj2
    · rw [insAt_mid _ _ _ (by omega)]; exact Int.le_refl _
    · obtain ⟨j', rfl⟩ : ∃ j', j = j' + 1 := ⟨j - 1, by omega⟩
      rw [insAt_hi _ _ _ _ (by omega) (by omega) (by omega)]
      exact Int.le_of_lt (hhi j' (by omega) (by omega))
  · obtain ⟨i', rfl⟩ : ∃ i', i = i' + 1 := ⟨i - 1, by omega⟩
    obtain ⟨j', rfl⟩ : ∃ j', j = j' + 1 := ⟨j - 1, by omega⟩
    rw [insAt_hi _ _ _ _ (by omega) (by omega) (by omega), insAt_hi _ _ _ _ (by omega) (by omega) (by omega)]
    exact hs i' j' (by omega) (by omega) (by omega)

end Go.Proofs.Ytlgfhmedenlbcab
