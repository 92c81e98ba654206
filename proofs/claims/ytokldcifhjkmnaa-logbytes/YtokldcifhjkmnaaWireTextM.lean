/- Plain facts: a number and a text that were written are read as they were; what is read is what was written. -/
import Derived.Test.YtokldcifhjkmnaaWireText
namespace Go.Proofs.Ytokldcifhjkmnaa.Wir
open Go.WideShapes (bytes_inj)

theorem textB_data (s : ByteArray) : (textB s).data.toList = numB s.size ++ s.data.toList := by
  simp [textB, ByteArray.data_append]

theorem textB_len (s : ByteArray) (h : s.size ≤ 4000) : (textB s).data.toList.length ≤ 4010 := by
  rw [textB_data, List.length_append]
  have h1 := numB_len (n := (s.size : Int)) (by omega) (by omega)
  have h2 : s.data.toList.length = s.size := Array.length_toList
  omega

theorem size_list (s : ByteArray) : s.data.toList.length = s.size := Array.length_toList
theorem app_list (a b : ByteArray) : (a ++ b).data.toList = a.data.toList ++ b.data.toList := by simp [ByteArray.data_append]
theorem app_size (a b : ByteArray) : (a ++ b).size = a.size + b.size := by
  rw [← size_list, app_list, List.length_append, size_list, size_list]
theorem ext_behind (a b : ByteArray) (k : Nat) (h : k = a.size) : (a ++ b).extract k (a ++ b).size = b := by
  subst h
  refine bytes_inj ?_
  rw [Lib.extract_data, app_list, app_size, ← size_list a, List.drop_left]
  rw [List.take_of_length_le (by rw [size_list]; omega)]
theorem ext_ahead (a b : ByteArray) (k : Nat) (h : k = a.size) : (a ++ b).extract 0 k = a := by
  subst h
  refine bytes_inj ?_
  rw [Lib.extract_data, app_list, List.drop_zero, Nat.sub_zero, ← size_list a, List.take_left]

theorem take_back (n : Int) (r : ByteArray) (h0 : -9223372036854775808 ≤ n) (h1 : n ≤ 9223372036854775807) :
    takeNumV (⟨(numB n).toArray⟩ ++ r) = .tuple #[.int .i64 n, .string r, .int .i64 0] := by
  have h : takeZ 0 0 ((⟨(numB n).toArray⟩ ++ r : ByteArray)).data.toList = some (Lib.zigzag n, (numB n).length) := by
    rw [app_list]; exact take_num n _ h0 h1
  rw [takeNumV_yes h, unzig_zig, ext_behind _ _ _ (mk_size _).symm]

theorem takeC_back (m n : Nat) (r : ByteArray) (hn : n ≤ m) (hm : m ≤ 9223372036854775807) : takeC m (⟨(numB n).toArray⟩ ++ r) = some (n, r) := by
  have h : takeZ 0 0 ((⟨(numB n).toArray⟩ ++ r : ByteArray)).data.toList = some (Lib.zigzag n, (numB n).length) := by
    rw [app_list]; exact take_num n _ (by omega) (by omega)
  unfold takeC
  rw [h]
  simp only [unzig_zig]
  rw [if_pos (by omega), ext_behind _ _ _ (mk_size _).symm]
  rfl

theorem app_assoc (a b c : ByteArray) : a ++ b ++ c = a ++ (b ++ c) := by
  refine bytes_inj ?_
  simp only [app_list, List.append_assoc]

theorem takeT_back (s r : ByteArray) (hs : s.size ≤ 4000) : takeT (textB s ++ r) = some (s, r) := by
  unfold takeT textB
  rw [app_assoc, takeC_back 4000 s.size (s ++ r) hs (by omega)]
  simp only
  rw [if_pos (by rw [app_size]; omega), ext_ahead _ _ _ rfl, ext_behind _ _ _ rfl]

theorem ext_list (s : ByteArray) (k : Nat) : (s.extract k s.size).data.toList = s.data.toList.drop k := by
  rw [Lib.extract_data, List.take_of_length_le]
  rw [List.length_drop, size_list]; omega
theorem cut_list (s : ByteArray) (k : Nat) : (s.extract 0 k).data.toList = s.data.toList.take k := by
  rw [Lib.extract_data]; simp

theorem takeC_sound {m n : Nat} {s r : ByteArray} (h : takeC m s = some (n, r)) : s.data.toList = numB n ++ r.data.toList ∧ n ≤ m := by
  obtain ⟨z, k, h1, h2, h3, h4, _⟩ := takeC_yes h
  obtain ⟨_, _, h5⟩ := take_sound h1
  refine ⟨?_, h4⟩
  rw [← h2, ← h5, ← h3, ext_list, List.take_append_drop]

theorem takeT_sound {s t r : ByteArray} (h : takeT s = some (t, r)) : s.data.toList = (textB t).data.toList ++ r.data.toList ∧ t.size ≤ 4000 := by
  obtain ⟨n, q, h1, h2, h3, h4⟩ := takeT_yes h
  obtain ⟨h5, h6⟩ := takeC_sound h1
  have ht : t.data.toList = q.data.toList.take n := by rw [← h3]; exact cut_list q n
  have hr : r.data.toList = q.data.toList.drop n := by rw [← h4]; exact ext_list q n
  have hn : t.size = n := by rw [← size_list, ht, List.length_take, size_list]; omega
  refine ⟨?_, by omega⟩
  rw [textB_data, hn, h5, List.append_assoc, ht, hr, List.take_append_drop]

theorem text_prefix {s t : ByteArray} {a b : List UInt8} (h : (textB s).data.toList ++ a = (textB t).data.toList ++ b) : s = t ∧ a = b := by
  rw [textB_data, textB_data, List.append_assoc, List.append_assoc] at h
  obtain ⟨h1, h2⟩ := numB_prefix h
  have h3 : s.data.toList.length = t.data.toList.length := by rw [size_list, size_list]; omega
  obtain ⟨h4, h5⟩ := List.append_inj h2 h3
  exact ⟨bytes_inj h4, h5⟩

end Go.Proofs.Ytokldcifhjkmnaa.Wir
