/- Plain: logs of which those of one epoch are each other's beginnings. -/
import Derived.Test.YtapnjgmihfmapaaChsP
namespace Go.Proofs.Ytapnjgmihfmapaa.Chs
open Go.RowKit Go.Proofs.Ytapnjgmihfmapaa Go.Proofs.Ytapnjgmihfmapaa.Lgg
set_option linter.unusedVariables false

def dT (r : Nat) : ByteArray := ⟨#[UInt8.ofNat (97 + r)]⟩
/-- A log of the statement's own. -/
def Own (x : Ls) : Prop := ∃ r n : Nat, r < 4 ∧ n ≤ 20 ∧ x.ep = 1 + (r : Int) ∧ x.es = longE (dT r) n

theorem long_take (X : ByteArray) {k n : Nat} (h : k ≤ n) : (longE X n).take k = longE X k := by
  unfold longE
  rw [← List.map_take, List.take_range, Nat.min_eq_left h]
theorem agr_long (X : ByteArray) {k n : Nat} (h : k ≤ n) : agr (longE X k) (longE X n) = k := by
  refine agr_is _ _ k (by rw [long_len]; omega) (by rw [long_len]; omega) (fun j h1 h2 _ => ?_) (.inl (long_len _ _).symm)
  simp [longE]
theorem com_begins {xs : List Ls} {N b : Nat} (hN : 1 ≤ N) (hb : b < xs.length) (hB : bestI xs xs.length = (b : Int)) (h : N ≤ kN xs xs[b].ep 0) (hO : ∀ x ∈ xs, Own x) : agr (comT xs N) xs[b].es = (comT xs N).length := by
  have t1 := top_of_max hN (best_ep hb hB) h
  obtain ⟨q, hq, h1, _, h3, _⟩ := com_some hN t1
  unfold okL at h1
  simp only [Bool.and_eq_true, decide_eq_true_eq] at h1
  obtain ⟨h1a, h1b⟩ := h1
  have hle := best_en hb hB _ (List.getElem_mem hq) h1a
  obtain ⟨r, n, hr, hn, e1, e2⟩ := hO _ (List.getElem_mem hq)
  obtain ⟨r', n', hr', hn', e1', e2'⟩ := hO _ (List.getElem_mem hb)
  have hrr : r' = r := by omega
  subst hrr
  rw [e2] at h1b hle
  rw [e2'] at hle
  rw [long_len] at h1b
  rw [long_len, long_len] at hle
  rw [h3, e2, e2', long_take _ h1b, agr_long _ (by omega), long_len]

/-- The first k entries have the new text. -/
def midE (X Y : ByteArray) (n k : Nat) : List En := (List.range n).map fun i => ⟨((i + 1 : Nat) : Int), if i < k then Y else X⟩
theorem mid_len (X Y : ByteArray) (n k : Nat) : (midE X Y n k).length = n := by simp [midE]
theorem mid_zero (X Y : ByteArray) (n : Nat) : midE X Y n 0 = longE X n := by simp [midE, longE]
theorem mid_all (X Y : ByteArray) (n : Nat) : midE X Y n n = longE Y n := by
  unfold midE longE
  refine List.map_congr_left fun i hi => ?_
  rw [if_pos (List.mem_range.1 hi)]
theorem mid_succ (X Y : ByteArray) (n k : Nat) (hk : k < (midE X Y n k).length) : (midE X Y n k).set k ⟨((midE X Y n k)[k]).tx, Y⟩ = midE X Y n (k + 1) := by
  refine List.ext_getElem (by rw [List.length_set, mid_len, mid_len]) fun j h1 h2 => ?_
  rw [mid_len] at hk h2
  by_cases hj : j = k
  · subst hj
    rw [List.getElem_set_self]
    simp [midE]
  · rw [List.getElem_set_ne (fun e => hj e.symm)]
    simp only [midE, List.getElem_map, List.getElem_range]
    congr 1
    by_cases h : j < k
    · rw [if_pos h, if_pos (by omega)]
    · rw [if_neg h, if_neg (by omega)]

end Go.Proofs.Ytapnjgmihfmapaa.Chs
