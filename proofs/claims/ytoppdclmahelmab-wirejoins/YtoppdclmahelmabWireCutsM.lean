/- Plain facts: what is read is what was written; nothing that was written is the beginning of another thing; what is cut off is nothing. -/
import Derived.Test.YtoppdclmahelmabWireBackM
namespace Go.Proofs.Ytoppdclmahelmab
open Go.WideShapes (bytes_inj)

theorem ext_list (s : ByteArray) (k : Nat) : (s.extract k s.size).data.toList = s.data.toList.drop k := by
  rw [Lib.extract_data, List.take_of_length_le]
  rw [List.length_drop, size_list]; omega
theorem cut_list (s : ByteArray) (k : Nat) : (s.extract 0 k).data.toList = s.data.toList.take k := by
  rw [Lib.extract_data]; simp

theorem takeC_sound {m n : Nat} {s r : ByteArray} (h : takeC m s = some (n, r)) : s.data.toList = numB n ++ r.data.toList ∧ n ≤ m := by
  obtain ⟨z, k, h1, h2, h3, h4, _⟩ := takeC_yes h
  obtain ⟨_, _, h5⟩ := take_sound h1
  refine ⟨?_, h4⟩
  rw [← h2, ← h5, ← h3, ext_list, List.take_append_drop]

theorem takeT_sound {s t r : ByteArray} (h : takeT s = some (t, r)) : s.data.toList = (textB t).data.toList ++ r.data.toList ∧ t.size ≤ 4000 := by
  obtain ⟨n, q, h1, h2, h3, h4⟩ := takeT_yes h
  obtain ⟨h5, h6⟩ := takeC_sound h1
  have ht : t.data.toList = q.data.toList.take n := by rw [← h3]; exact cut_list q n
  have hr : r.data.toList = q.data.toList.drop n := by rw [← h4]; exact ext_list q n
  have hn : t.size = n := by rw [← size_list, ht, List.length_take, size_list]; omega
  refine ⟨?_, by omega⟩
  rw [textB_data, hn, h5, List.append_assoc, ht, hr, List.take_append_drop]

theorem many_sound : ∀ (n : Nat) (r : ByteArray) (ss : List ByteArray), takeMany n r = some ss → r.data.toList = textsB ss ∧ ss.length = n ∧ ∀ s ∈ ss, s.size ≤ 4000
  | 0, r, ss, h => by
    rw [takeMany] at h
    split at h
    · rename_i h0
      cases h
      rw [← size_list] at h0
      exact ⟨List.eq_nil_of_length_eq_zero h0, rfl, by simp⟩
    · cases h
  | n + 1, r, ss, h => by
    rw [takeMany] at h
    cases hT : takeT r with
    | none => rw [hT] at h; cases h
    | some p =>
      obtain ⟨t, q⟩ := p
      rw [hT] at h
      simp only [Option.map_eq_some_iff] at h
      obtain ⟨m, hm, rfl⟩ := h
      obtain ⟨e1, e2, e3⟩ := many_sound n q m hm
      obtain ⟨e4, e5⟩ := takeT_sound hT
      refine ⟨?_, by simp [e2], fun s hs => ?_⟩
      · rw [e4, e1]; simp [textsB]
      · rcases List.mem_cons.1 hs with rfl | hs
        · exact e5
        · exact e3 s hs

theorem split_sound {s : ByteArray} {ss : List ByteArray} (h : splitL s = some ss) : s.data.toList = joinB ss ∧ joinOk ss = true := by
  unfold splitL at h
  cases hC : takeC 1000 s with
  | none => rw [hC] at h; cases h
  | some p =>
    obtain ⟨n, r⟩ := p
    rw [hC] at h
    obtain ⟨e1, e2, e3⟩ := many_sound n r ss h
    obtain ⟨e4, e5⟩ := takeC_sound hC
    refine ⟨?_, (joinOk_iff ss).2 ⟨by omega, e3⟩⟩
    rw [e4, e1, joinB, e2]

theorem texts_prefix : ∀ (ss ss' : List ByteArray) (r r' : List UInt8), ss.length = ss'.length → textsB ss ++ r = textsB ss' ++ r' → ss = ss' ∧ r = r'
  | [], [], r, r', _, h => ⟨rfl, by simpa [textsB] using h⟩
  | s :: t, s' :: t', r, r', hl, h => by
    have e : ∀ (x : ByteArray) (y : List ByteArray) (z : List UInt8), textsB (x :: y) ++ z = numB x.size ++ (x.data.toList ++ (textsB y ++ z)) := by
      intro x y z
      simp [textsB, textB_data]
    rw [e, e] at h
    obtain ⟨h1, h2⟩ := numB_prefix h
    have h3 : s.data.toList.length = s'.data.toList.length := by rw [size_list, size_list]; omega
    obtain ⟨h4, h5⟩ := List.append_inj h2 h3
    obtain ⟨h6, h7⟩ := texts_prefix t t' r r' (by simpa using hl) h5
    rw [bytes_inj h4, h6]
    exact ⟨rfl, h7⟩
  | [], _ :: _, _, _, hl, _ => by simp at hl
  | _ :: _, [], _, _, hl, _ => by simp at hl

theorem join_prefix {ss ss' : List ByteArray} {r r' : List UInt8} (h : joinB ss ++ r = joinB ss' ++ r') : ss = ss' ∧ r = r' := by
  unfold joinB at h
  rw [List.append_assoc, List.append_assoc] at h
  obtain ⟨h1, h2⟩ := numB_prefix h
  exact texts_prefix ss ss' r r' (by omega) h2

theorem split_cut (ss : List ByteArray) (k : Nat) (hk : k < (joinB ss).length) : splitL ((⟨(joinB ss).toArray⟩ : ByteArray).extract 0 k) = none := by
  cases h : splitL ((⟨(joinB ss).toArray⟩ : ByteArray).extract 0 k) with
  | none => rfl
  | some ss' =>
    exfalso
    obtain ⟨h1, _⟩ := split_sound h
    rw [cut_list] at h1
    have h2 : joinB ss' ++ (joinB ss).drop k = joinB ss ++ [] := by
      rw [← h1, List.append_nil]; exact List.take_append_drop k (joinB ss)
    have h3 := congrArg List.length (join_prefix h2).2
    simp at h3
    omega

theorem split_more (ss : List ByteArray) : splitL (⟨(joinB ss).toArray⟩ ++ ⟨#[0]⟩) = none := by
  cases h : splitL (⟨(joinB ss).toArray⟩ ++ ⟨#[0]⟩) with
  | none => rfl
  | some ss' =>
    exfalso
    obtain ⟨h1, _⟩ := split_sound h
    rw [app_list] at h1
    have h2 : joinB ss' ++ [] = joinB ss ++ [0] := by rw [List.append_nil]; exact h1.symm
    have h3 := (join_prefix h2).2
    cases h3

theorem num_cut (n : Int) (k : Nat) (hk : k < (numB n).length) : takeZ 0 0 ((⟨(numB n).toArray⟩ : ByteArray).extract 0 k).data.toList = none := by
  rw [cut_list]
  show takeZ 0 0 ((numB n).take k) = none
  obtain ⟨pre, c, h1, h2, h3⟩ := uv_shape (Lib.zigzag n + 1) (Lib.zigzag n) (by omega)
  have e : numB n = pre ++ [c] := h1
  rw [e] at hk ⊢
  have hk' : k ≤ pre.length := by simp at hk; omega
  rw [List.take_append_of_le_length hk']
  refine take_none (k := (pre.take k).length) (fun b hb => h3 b ?_) (Nat.le_refl _) (.inr (Nat.le_refl _))
  rw [List.take_length] at hb
  exact List.mem_of_mem_take hb

theorem real_cut (l : List UInt8) (k : Nat) (hk : k < 8) : takeR ((⟨l.toArray⟩ : ByteArray).extract 0 k) = none := by
  unfold takeR
  rw [if_pos]
  rw [← size_list, cut_list, List.length_take]; omega

end Go.Proofs.Ytoppdclmahelmab
