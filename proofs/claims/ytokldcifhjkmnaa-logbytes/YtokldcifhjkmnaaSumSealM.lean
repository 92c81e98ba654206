/- Plain facts: what is sealed is opened as it was; what is cut off, or changed in one byte, is told. -/
import Derived.Test.YtokldcifhjkmnaaSumSeal
import Derived.Test.YtokldcifhjkmnaaWireTextM
namespace Go.Proofs.Ytokldcifhjkmnaa.Smm
open Go.WideShapes (bytes_inj)
open Go.Proofs.Ytokldcifhjkmnaa.Wir

theorem open_back (s rest : ByteArray) (hs : s.size ≤ 4000) : openT (sealB s ++ rest) = (s, rest, 0) := by
  have h4 := sum4_size s
  unfold openT sealB
  rw [app_assoc, takeT_back s _ hs]
  simp only
  rw [if_neg (by rw [app_size]; omega), ext_ahead _ _ _ h4.symm, if_pos rfl, ext_behind _ _ _ h4.symm]

theorem sealB_list (s : ByteArray) : (sealB s).data.toList = (textB s).data.toList ++ q4B (sumN s.data.toList) := by
  unfold sealB; rw [app_list]; rfl
theorem sealB_size (s : ByteArray) : (sealB s).size = (numB s.size).length + s.size + 4 := by
  have h4 := sum4_size s
  unfold sealB textB
  rw [app_size, app_size, mk_size]; omega

theorem open_cut (s : ByteArray) (k : Nat) (hk : k < (sealB s).size) : openT ((sealB s).extract 0 k) = (⟨#[]⟩, ⟨#[]⟩, 2) := by
  rcases openT_cases ((sealB s).extract 0 k) with ⟨_, h⟩ | ⟨t, r, hT, h⟩
  · exact h
  · obtain ⟨h1, _⟩ := takeT_sound hT
    rw [cut_list] at h1
    have hl : (sealB s).data.toList.length = (sealB s).size := size_list _
    have h2 : (textB t).data.toList ++ (r.data.toList ++ (sealB s).data.toList.drop k) = (textB s).data.toList ++ q4B (sumN s.data.toList) := by
      rw [← List.append_assoc, ← h1, List.take_append_drop, sealB_list]
    obtain ⟨_, h3⟩ := text_prefix h2
    have h5 := congrArg List.length h3
    rw [List.length_append, List.length_drop, size_list, hl] at h5
    have h6 : (q4B (sumN s.data.toList)).length = 4 := by simp [q4B]
    have h7 : r.size < 4 := by omega
    rcases h with ⟨_, h⟩ | ⟨h, _⟩ | ⟨h, _⟩
    · exact h
    · omega
    · omega

theorem q4At_nat (z i : Nat) : (q4At z i).toNat = z / 2 ^ (8 * (3 - i)) % 256 := by
  unfold q4At; simp [Nat.toUInt8, UInt8.toNat_ofNat']
theorem q4B_inj {a b : Nat} (ha : a < 4294967296) (hb : b < 4294967296) (h : q4B a = q4B b) : a = b := by
  have hi : ∀ i, i < 4 → q4At a i = q4At b i := fun i hi => by
    have := congrArg (fun l => l[i]?) h
    simpa [q4B, hi] using this
  have e : ∀ i, i < 4 → a / 2 ^ (8 * (3 - i)) % 256 = b / 2 ^ (8 * (3 - i)) % 256 := fun i h => by rw [← q4At_nat, ← q4At_nat, hi i h]
  have e0 : a / 16777216 % 256 = b / 16777216 % 256 := e 0 (by omega)
  have e1 : a / 65536 % 256 = b / 65536 % 256 := e 1 (by omega)
  have e2 : a / 256 % 256 = b / 256 % 256 := e 2 (by omega)
  have e3 : a / 1 % 256 = b / 1 % 256 := e 3 (by omega)
  omega

theorem sum4_ne {s t : ByteArray} (h : ¬ sumN s.data.toList = sumN t.data.toList) : ¬ sum4 s = sum4 t := by
  intro e
  apply h
  refine q4B_inj (sumN_lt _) (sumN_lt _) ?_
  have := congrArg (fun x => x.data.toList) e
  simpa [sum4] using this

/-- One byte that is another one makes another sum. -/
theorem sum_set (l : List UInt8) (q : Nat) (y : UInt8) (hq : q < l.length) (hy : l[q]? ≠ some y) : ¬ sumN (l.set q y) = sumN l := by
  intro e
  have h1 : l = l.take q ++ [l[q]] ++ l.drop (q + 1) := by
    rw [List.append_assoc, List.singleton_append, ← List.drop_eq_getElem_cons hq, List.take_append_drop]
  have h2 : l.set q y = l.take q ++ [y] ++ l.drop (q + 1) := by
    rw [List.set_eq_take_append_cons_drop, if_pos hq, List.append_assoc, List.singleton_append]
  have h3 := crc_burst (l.take q) [y] [l[q]] (l.drop (q + 1)) rfl (by simp) (by rw [← h1, ← h2]; exact BitVec.eq_of_toNat_eq e)
  simp at h3
  apply hy
  rw [List.getElem?_eq_getElem hq, h3]

/-- A sealed text one byte of which, behind its length, is another one: told. -/
theorem open_set (s : ByteArray) (hs : s.size ≤ 4000) (q : Nat) (y : UInt8) (hq4 : q < s.size + 4) (hy : (sealB s).data.toList[(numB s.size).length + q]? ≠ some y) :
    openT ⟨((sealB s).data.toList.set ((numB s.size).length + q) y).toArray⟩ = (⟨#[]⟩, ⟨#[]⟩, 3) := by
  have hL : (sealB s).data.toList = numB s.size ++ (s.data.toList ++ q4B (sumN s.data.toList)) := by
    rw [sealB_list, textB_data, List.append_assoc]
  have hsl : s.data.toList.length = s.size := size_list s
  have h4 : (q4B (sumN s.data.toList)).length = 4 := by simp [q4B]
  have hyy : (s.data.toList ++ q4B (sumN s.data.toList))[q]? ≠ some y := by
    rw [hL, List.getElem?_append_right (by omega), Nat.add_sub_cancel_left] at hy
    exact hy
  by_cases hq : q < s.size
  · have hz : (⟨(s.data.toList.set q y).toArray⟩ : ByteArray).size = s.size := by rw [mk_size, List.length_set, hsl]
    have e : (⟨((sealB s).data.toList.set ((numB s.size).length + q) y).toArray⟩ : ByteArray) = textB ⟨(s.data.toList.set q y).toArray⟩ ++ sum4 s := by
      refine bytes_inj ?_
      rw [app_list, textB_data, hz]
      show (sealB s).data.toList.set ((numB s.size).length + q) y = _
      rw [hL, List.set_append_right _ _ (by omega), Nat.add_sub_cancel_left, List.set_append_left _ _ (by omega)]
      simp [sum4]
    have hne : ¬ sum4 s = sum4 ⟨(s.data.toList.set q y).toArray⟩ := by
      refine sum4_ne fun e => ?_
      rw [List.getElem?_append_left (by omega)] at hyy
      exact sum_set s.data.toList q y (by omega) hyy e.symm
    have h44 := sum4_size s
    unfold openT
    rw [e, takeT_back _ _ (by omega)]
    simp only
    have hx : (sum4 s).extract 0 4 = sum4 s := by
      refine bytes_inj ?_
      rw [cut_list, List.take_of_length_le (by rw [size_list]; omega)]
    rw [if_neg (by omega), hx, if_neg hne]
  · have e : (⟨((sealB s).data.toList.set ((numB s.size).length + q) y).toArray⟩ : ByteArray) = textB s ++ ⟨((q4B (sumN s.data.toList)).set (q - s.size) y).toArray⟩ := by
      refine bytes_inj ?_
      rw [app_list, textB_data]
      show (sealB s).data.toList.set ((numB s.size).length + q) y = _
      rw [hL, List.set_append_right _ _ (by omega), Nat.add_sub_cancel_left, List.set_append_right _ _ (by omega), hsl]
      simp
    have hne : ¬ (⟨((q4B (sumN s.data.toList)).set (q - s.size) y).toArray⟩ : ByteArray) = sum4 s := by
      intro e
      have h5 : (q4B (sumN s.data.toList)).set (q - s.size) y = q4B (sumN s.data.toList) := by
        have := congrArg (fun x => x.data.toList) e
        simpa [sum4] using this
      have h6 : (q4B (sumN s.data.toList))[q - s.size]? = some y := by
        rw [← h5, List.getElem?_set_self (by omega)]
      rw [List.getElem?_append_right (by omega), hsl] at hyy
      exact hyy h6
    unfold openT
    rw [e, takeT_back _ _ hs]
    simp only
    have hz : (⟨((q4B (sumN s.data.toList)).set (q - s.size) y).toArray⟩ : ByteArray).size = 4 := by rw [mk_size, List.length_set, h4]
    have hx : (⟨((q4B (sumN s.data.toList)).set (q - s.size) y).toArray⟩ : ByteArray).extract 0 4 = ⟨((q4B (sumN s.data.toList)).set (q - s.size) y).toArray⟩ := by
      refine bytes_inj ?_
      rw [cut_list, List.take_of_length_le (by rw [size_list]; omega)]
    rw [if_neg (by omega), hx, if_neg hne]

end Go.Proofs.Ytokldcifhjkmnaa.Smm
