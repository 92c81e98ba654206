/- Plain facts: the chunks of two texts, and a byte that is another one. -/
import Derived.Test.YtjohhlmgcjpjeaaSumBad
import Derived.Test.YtjohhlmgcjpjeaaSumByte
import Derived.Lib.Strings
namespace Go.Proofs.Ytjohhlmgcjpjeaa
open Go.WideShapes (bytes_inj)

theorem chunk_list (s : ByteArray) (i : Nat) : (chunkS s i).data.toList = (s.data.toList.drop (i * 8)).take 8 := by
  have hl : s.data.toList.length = s.size := Array.length_toList
  unfold chunkS
  rw [Lib.extract_data]
  by_cases h : i * 8 + 8 ≤ s.size
  · rw [Nat.min_eq_left h]
    congr 1
    omega
  · rw [Nat.min_eq_right (by omega), List.take_of_length_le (by rw [List.length_drop]; omega), List.take_of_length_le (by rw [List.length_drop]; omega)]

theorem chunkSum_list (s : ByteArray) (i : Nat) : chunkSum s i = sumZ ((s.data.toList.drop (i * 8)).take 8) := by unfold chunkSum; rw [chunk_list]

theorem chunkZ_append (s t : ByteArray) (h8 : s.size % 8 = 0) : chunkZ (s ++ t) = chunkZ s ++ chunkZ t := by
  have hl : s.data.toList.length = s.size := Array.length_toList
  have ha : (s ++ t).data.toList = s.data.toList ++ t.data.toList := by simp [ByteArray.data_append]
  have hz : (s ++ t).size = s.size + t.size := ByteArray.size_append
  apply List.ext_getElem
  · rw [List.length_append, chunkZ_len, chunkZ_len, chunkZ_len, hz]; omega
  · intro i h1 h2
    rw [chunkZ_at, chunkSum_list, ha]
    by_cases hi : i < (chunkZ s).length
    · rw [List.getElem_append_left hi, chunkZ_at, chunkSum_list]
      rw [chunkZ_len] at hi
      rw [List.drop_append_of_le_length (by omega), List.take_append_of_le_length (by rw [List.length_drop]; omega)]
    · rw [List.getElem_append_right (by omega), chunkZ_at, chunkSum_list]
      rw [chunkZ_len] at hi
      rw [List.drop_append, List.drop_of_length_le (by omega), List.nil_append, chunkZ_len]
      congr 3
      omega

theorem badN_same (zs : List Int) : ∀ (k : Nat), badN k zs zs = -1 := by
  induction zs with
  | nil => intro k; rfl
  | cons z r ih => intro k; rw [badN, if_pos rfl]; exact ih _

theorem badN_first (zs ls : List Int) (j : Nat) (h1 : j < zs.length) (h2 : j < ls.length) (he : ∀ i, i < j → zs[i]? = ls[i]?) (hn : ¬ zs[j] = ls[j]) : ∀ (d : Nat), d ≤ j → badN (j - d) (zs.drop (j - d)) (ls.drop (j - d)) = j
  | 0, _ => by rw [Nat.sub_zero]; exact badN_ne j zs ls h1 h2 hn
  | d + 1, hd => by
    have e := he (j - (d + 1)) (by omega)
    rw [List.getElem?_eq_getElem (by omega), List.getElem?_eq_getElem (by omega)] at e
    rw [badN_eq _ _ _ (by omega) (by omega) (Option.some.inj e)]
    have h := badN_first zs ls j h1 h2 he hn d (by omega)
    have e2 : j - (d + 1) + 1 = j - d := by omega
    rw [e2]; exact h

/-- One byte that is another one makes just its chunk another one. -/
theorem bad_set (s : ByteArray) (p : Nat) (y : UInt8) (hp : p < s.size) (hy : s.data.toList[p]? ≠ some y) :
    badN 0 (chunkZ ⟨(s.data.toList.set p y).toArray⟩) (chunkZ s) = ((p / 8 : Nat) : Int) := by
  have hl : s.data.toList.length = s.size := Array.length_toList
  have hz : (⟨(s.data.toList.set p y).toArray⟩ : ByteArray).size = s.size := by
    show (s.data.toList.set p y).toArray.size = _
    rw [List.size_toArray, List.length_set, hl]
  have e1 : (chunkZ ⟨(s.data.toList.set p y).toArray⟩).length = (s.size + 7) / 8 := by rw [chunkZ_len, hz]
  have e2 : (chunkZ s).length = (s.size + 7) / 8 := chunkZ_len s
  have hj : p / 8 < (s.size + 7) / 8 := by omega
  have hd : ∀ i, chunkSum ⟨(s.data.toList.set p y).toArray⟩ i = sumZ (((s.data.toList.set p y).drop (i * 8)).take 8) := fun i => chunkSum_list _ i
  have h := badN_first (chunkZ ⟨(s.data.toList.set p y).toArray⟩) (chunkZ s) (p / 8) (by omega) (by omega) (fun i hi => by
      rw [List.getElem?_eq_getElem (by omega), List.getElem?_eq_getElem (by omega), chunkZ_at, chunkZ_at, hd, chunkSum_list]
      congr 2
      apply List.ext_getElem?
      intro k
      rw [List.getElem?_take, List.getElem?_take]
      split
      · rw [List.getElem?_drop, List.getElem?_drop, List.getElem?_set_ne (by omega)]
      · rfl) (by
      rw [chunkZ_at, chunkZ_at, hd, chunkSum_list]
      have e3 : ((s.data.toList.set p y).drop (p / 8 * 8)).take 8 = ((s.data.toList.drop (p / 8 * 8)).take 8).set (p % 8) y := by
        apply List.ext_getElem?
        intro k
        rw [List.getElem?_take, List.getElem?_set, List.length_take, List.length_drop, hl]
        split
        · rw [List.getElem?_drop]
          by_cases hk : k = p % 8
          · have hkp : p / 8 * 8 + k = p := by omega
            rw [if_pos hk.symm, if_pos (by omega), hkp, List.getElem?_set_self (by omega)]
          · rw [if_neg (by omega), List.getElem?_take, if_pos (by assumption), List.getElem?_drop, List.getElem?_set_ne (by omega)]
        · rw [if_neg (by omega), List.getElem?_take, if_neg (by assumption)]
      rw [e3]
      intro e
      have hq : ((s.data.toList.drop (p / 8 * 8)).take 8)[p % 8]? ≠ some y := by
        rw [List.getElem?_take, if_pos (by omega), List.getElem?_drop]
        have hkp : p / 8 * 8 + p % 8 = p := by omega
        rw [hkp]; exact hy
      have hlen : p % 8 < ((s.data.toList.drop (p / 8 * 8)).take 8).length := by rw [List.length_take, List.length_drop, hl]; omega
      generalize (s.data.toList.drop (p / 8 * 8)).take 8 = l at *
      have h1 : l = l.take (p % 8) ++ [l[p % 8]] ++ l.drop (p % 8 + 1) := by
        rw [List.append_assoc, List.singleton_append, ← List.drop_eq_getElem_cons hlen, List.take_append_drop]
      have h2 : l.set (p % 8) y = l.take (p % 8) ++ [y] ++ l.drop (p % 8 + 1) := by
        rw [List.set_eq_take_append_cons_drop, if_pos hlen, List.append_assoc, List.singleton_append]
      have h3 := sumZ_burst (l.take (p % 8)) [y] [l[p % 8]] (l.drop (p % 8 + 1)) rfl (by simp) (by rw [← h1, ← h2]; exact e)
      simp at h3
      apply hq
      rw [List.getElem?_eq_getElem hlen, h3]) (p / 8) (Nat.le_refl _)
  rw [Nat.sub_self] at h
  exact h

end Go.Proofs.Ytjohhlmgcjpjeaa
