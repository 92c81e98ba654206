/- Plain facts: what was written is read as it was. -/
import Derived.Test.YtoppdclmahelmabWireSplit
import Derived.Test.YtoppdclmahelmabWireRealM
namespace Go.Proofs.Ytoppdclmahelmab
open Go.WideShapes (bytes_inj)

theorem size_list (s : ByteArray) : s.data.toList.length = s.size := Array.length_toList
theorem app_list (a b : ByteArray) : (a ++ b).data.toList = a.data.toList ++ b.data.toList := by simp [ByteArray.data_append]
theorem app_size (a b : ByteArray) : (a ++ b).size = a.size + b.size := by
  rw [← size_list, app_list, List.length_append, size_list, size_list]
theorem ext_behind (a b : ByteArray) (k : Nat) (h : k = a.size) : (a ++ b).extract k (a ++ b).size = b := by
  subst h
  refine bytes_inj ?_
  rw [Lib.extract_data, app_list, app_size, ← size_list a, List.drop_left]
  rw [List.take_of_length_le (by rw [size_list]; omega)]
theorem ext_ahead (a b : ByteArray) (k : Nat) (h : k = a.size) : (a ++ b).extract 0 k = a := by
  subst h
  refine bytes_inj ?_
  rw [Lib.extract_data, app_list, List.drop_zero, Nat.sub_zero, ← size_list a, List.take_left]

theorem take_back (n : Int) (r : ByteArray) (h0 : -9223372036854775808 ≤ n) (h1 : n ≤ 9223372036854775807) :
    takeNumV (⟨(numB n).toArray⟩ ++ r) = .tuple #[.int .i64 n, .string r, .int .i64 0] := by
  have h : takeZ 0 0 ((⟨(numB n).toArray⟩ ++ r : ByteArray)).data.toList = some (Lib.zigzag n, (numB n).length) := by
    rw [app_list]; exact take_num n _ h0 h1
  rw [takeNumV_yes h, unzig_zig, ext_behind _ _ _ (mk_size _).symm]

theorem takeC_back (m n : Nat) (r : ByteArray) (hn : n ≤ m) (hm : m ≤ 9223372036854775807) : takeC m (⟨(numB n).toArray⟩ ++ r) = some (n, r) := by
  have h : takeZ 0 0 ((⟨(numB n).toArray⟩ ++ r : ByteArray)).data.toList = some (Lib.zigzag n, (numB n).length) := by
    rw [app_list]; exact take_num n _ (by omega) (by omega)
  unfold takeC
  rw [h]
  simp only [unzig_zig]
  rw [if_pos (by omega), ext_behind _ _ _ (mk_size _).symm]
  rfl

theorem app_assoc (a b c : ByteArray) : a ++ b ++ c = a ++ (b ++ c) := by
  refine bytes_inj ?_
  simp only [app_list, List.append_assoc]

theorem takeT_back (s r : ByteArray) (hs : s.size ≤ 4000) : takeT (textB s ++ r) = some (s, r) := by
  unfold takeT textB
  rw [app_assoc, takeC_back 4000 s.size (s ++ r) hs (by omega)]
  simp only
  rw [if_pos (by rw [app_size]; omega), ext_ahead _ _ _ rfl, ext_behind _ _ _ rfl]

theorem many_back : ∀ (ss : List ByteArray), (∀ s ∈ ss, s.size ≤ 4000) → takeMany ss.length ⟨(textsB ss).toArray⟩ = some ss
  | [], _ => by rw [List.length_nil, takeMany, if_pos (by rfl)]
  | s :: r, h => by
    have e : (⟨(textsB (s :: r)).toArray⟩ : ByteArray) = textB s ++ ⟨(textsB r).toArray⟩ := by
      refine bytes_inj ?_
      rw [app_list]; simp [textsB]
    rw [List.length_cons, takeMany, e, takeT_back s _ (h s (List.mem_cons_self ..))]
    simp only
    rw [many_back r (fun x hx => h x (List.mem_cons_of_mem _ hx))]
    rfl

theorem split_back (ss : List ByteArray) (h : joinOk ss = true) : splitL ⟨(joinB ss).toArray⟩ = some ss := by
  obtain ⟨h1, h2⟩ := (joinOk_iff ss).1 h
  have e : (⟨(joinB ss).toArray⟩ : ByteArray) = ⟨(numB ss.length).toArray⟩ ++ ⟨(textsB ss).toArray⟩ := by
    refine bytes_inj ?_
    rw [app_list]; simp [joinB]
  unfold splitL
  rw [e, takeC_back 1000 ss.length _ h1 (by omega)]
  exact many_back ss h2

theorem join_size (ss : List ByteArray) (h : joinOk ss = true) : (⟨(joinB ss).toArray⟩ : ByteArray).size ≤ maxLen := by
  obtain ⟨h1, h2⟩ := (joinOk_iff ss).1 h
  have a := textsB_len ss h2
  have b := numB_len (n := (ss.length : Int)) (by omega) (by omega)
  rw [mk_size, joinB, List.length_append]
  unfold maxLen; omega

theorem nan_nan : nanB nanW = true := by decide +kernel
theorem nan_any (b : Nat) : FloatKind.f64.format.order nanW b = none := by
  have h : FloatKind.f64.format.read nanW = Ieee.Datum.nan false 2251799813685249 := by kernel_rfl
  show (FloatKind.f64.format.read nanW).order (FloatKind.f64.format.read b) = none
  rw [h]; rfl

theorem realZ_cases (b : Nat) : nanB b = true ∧ realZ b = nanW ∨ nanB b = false ∧ realZ b = b := by
  unfold realZ; cases nanB b <;> simp

theorem realZ_twice (b : Nat) : realZ (realZ b) = realZ b := by
  rcases realZ_cases b with ⟨_, h⟩ | ⟨_, h⟩
  · rw [h]; unfold realZ; rw [nan_nan]; rfl
  · rw [h, h]

theorem takeR_back (b : Nat) (r : ByteArray) (hb : b < 18446744073709551616) : takeR (⟨(beB (realZ b)).toArray⟩ ++ r) = some (realZ b) := by
  have hz : realZ b < 18446744073709551616 := by
    rcases realZ_cases b with ⟨_, h⟩ | ⟨_, h⟩
    · rw [h]; decide
    · rw [h]; exact hb
  have h8 : ((⟨(beB (realZ b)).toArray⟩ ++ r : ByteArray)).data.toList.take 8 = beB (realZ b) := by
    rw [app_list]
    show (beB (realZ b) ++ r.data.toList).take 8 = _
    rw [← beB_len (realZ b), List.take_left]
  unfold takeR
  rw [if_neg (by rw [app_size, mk_size, beB_len]; omega), h8, beV_beB _ hz]
  rw [if_neg]
  rintro ⟨h1, h2⟩
  rcases realZ_cases b with ⟨_, h⟩ | ⟨hn, h⟩
  · exact h2 h
  · rw [h, hn] at h1; cases h1

end Go.Proofs.Ytoppdclmahelmab
