/- Plain: how many of a row are even with one; two rows of the same ones, both in order, stand alike. No program in it. -/
import Derived.Test.YtlgfhmedenlbcabRealStabM
namespace Go.Proofs.Ytlgfhmedenlbcab

/-- How many of the first c stand at z. -/
def cnt (z : Int) (xs : List Nat) (c : Nat) : Nat := (xs.take c).countP (fun x => key x == z)
theorem cnt_zero (z : Int) (xs : List Nat) : cnt z xs 0 = 0 := by simp [cnt]
theorem cnt_le (z : Int) (xs : List Nat) (c : Nat) : cnt z xs c ≤ c := by
  unfold cnt
  have := List.countP_le_length (p := fun x => key x == z) (l := xs.take c)
  rw [List.length_take] at this
  omega
theorem cnt_yes {z : Int} {xs : List Nat} {c : Nat} (h : c < xs.length) (e : z = key (at0 xs c)) : cnt z xs (c + 1) = cnt z xs c + 1 := by
  unfold cnt
  rw [List.take_succ_eq_append_getElem h, List.countP_append, at0_eq _ _ h] at *
  simp [e]
theorem cnt_no {z : Int} {xs : List Nat} {c : Nat} (h : c < xs.length) (e : z ≠ key (at0 xs c)) : cnt z xs (c + 1) = cnt z xs c := by
  unfold cnt
  rw [List.take_succ_eq_append_getElem h, List.countP_append, at0_eq _ _ h] at *
  simp [Ne.symm e]
theorem cnt_perm {z : Int} {xs ys : List Nat} {n : Nat} (p : ys.Perm xs) (h : xs.length ≤ n) : cnt z xs n = cnt z ys n := by
  unfold cnt
  rw [List.take_of_length_le h, List.take_of_length_le (by rw [p.length_eq]; exact h)]
  exact (p.countP_eq _).symm

theorem cmpZ_zero {x y : Int} : cmpZ x y = 0 ↔ x = y := by
  unfold cmpZ
  by_cases h : x < y
  · rw [if_pos h]; omega
  · rw [if_neg h]
    by_cases k : y < x
    · rw [if_pos k]; omega
    · rw [if_neg k]; omega
theorem cmpZ_le {x y : Int} (h : x ≤ y) : cmpZ x y ≤ 0 := by
  unfold cmpZ
  by_cases k : x < y
  · rw [if_pos k]; omega
  · rw [if_neg k, if_neg (by omega)]; omega

/-- Those of a row in order, by how many go ahead of z. -/
theorem sorted_same {xs ys : List Nat} {n : Nat} (hx : xs.length = n) (p : ys.Perm xs) (s1 : Srt 0 n xs) (s2 : Srt 0 n ys) : ∀ j, j < n → key (at0 ys j) = key (at0 xs j) := by
  -- how many of the first c go ahead of z, or stand at it
  have count : ∀ (zs : List Nat) (z : Int), Srt 0 n zs → zs.length = n → ∀ c, c < n → (key (at0 zs c) ≤ z ↔ c < zs.countP (fun x => decide (key x ≤ z))) := by
    intro zs z hs hl c hc
    have split : zs.countP (fun x => decide (key x ≤ z)) = (zs.take c).countP (fun x => decide (key x ≤ z)) + (zs.drop c).countP (fun x => decide (key x ≤ z)) := by
      rw [← List.countP_append, List.take_append_drop]
    constructor
    · intro h
      have h1 : (zs.take c).countP (fun x => decide (key x ≤ z)) = c := by
        have : (zs.take c).countP (fun x => decide (key x ≤ z)) = (zs.take c).length := by
          rw [List.countP_eq_length]
          intro x hx
          obtain ⟨i, hi, rfl⟩ := List.mem_iff_getElem.1 hx
          rw [List.length_take] at hi
          have := hs i c (by omega) (by omega) hc
          rw [at0_eq zs i (by omega)] at this
          rw [List.getElem_take]
          exact decide_eq_true (by omega)
        rw [this, List.length_take]; omega
      have h2 : 0 < (zs.drop c).countP (fun x => decide (key x ≤ z)) := by
        rw [List.countP_pos_iff]
        refine ⟨zs[c], ?_, ?_⟩
        · exact List.mem_iff_getElem.2 ⟨0, by rw [List.length_drop]; omega, by simp⟩
        · rw [← at0_eq zs c (by omega)]; exact decide_eq_true h
      omega
    · intro h
      apply Classical.byContradiction
      intro hn
      have h2 : (zs.drop c).countP (fun x => decide (key x ≤ z)) = 0 := by
        rw [List.countP_eq_zero]
        intro x hx
        obtain ⟨i, hi, rfl⟩ := List.mem_iff_getElem.1 hx
        rw [List.length_drop] at hi
        rw [List.getElem_drop, ← at0_eq zs (c + i) (by omega)]
        have := hs c (c + i) (by omega) (by omega) (by omega)
        simp; omega
      have h1 := List.countP_le_length (p := fun x => decide (key x ≤ z)) (l := zs.take c)
      rw [List.length_take] at h1
      omega
  intro j hj
  have hy : ys.length = n := by rw [p.length_eq, hx]
  have e : ∀ z, ys.countP (fun x => decide (key x ≤ z)) = xs.countP (fun x => decide (key x ≤ z)) := fun z => p.countP_eq _
  have a1 := (count ys (key (at0 xs j)) s2 hy j hj)
  have a2 := (count xs (key (at0 xs j)) s1 hx j hj)
  have b1 := (count ys (key (at0 ys j)) s2 hy j hj)
  have b2 := (count xs (key (at0 ys j)) s1 hx j hj)
  rw [e] at a1 b1
  have c1 := a1.2 (a2.1 (Int.le_refl _))
  have c2 := b2.2 (b1.1 (Int.le_refl _))
  omega
end Go.Proofs.Ytlgfhmedenlbcab
