/- The contracts of wire.Text, wire.takeCount and wire.TakeText. -/
import Derived.Test.YtokldcifhjkmnaaWireTz
import Derived.Test.YtokldcifhjkmnaaWireUse
namespace Go.Proofs.Ytokldcifhjkmnaa.Wir
open Go.RowKit Go.Proofs.Ytokldcifhjkmnaa

theorem ext_size (s : ByteArray) (a b : Nat) : (s.extract a b).size ≤ s.size := by
  rw [ByteArray.size_extract]; omega

theorem mk_size (l : List UInt8) : (⟨l.toArray⟩ : ByteArray).size = l.length := by
  show l.toArray.size = l.length
  exact List.size_toArray

/-- A number from 0 to most at the beginning, and what stands behind it. -/
def takeC (most : Nat) (s : ByteArray) : Option (Nat × ByteArray) := match takeZ 0 0 s.data.toList with
  | none => none
  | some (z, k) => if 0 ≤ Lib.unzigzag z ∧ Lib.unzigzag z ≤ most then some ((Lib.unzigzag z).toNat, s.extract k s.size) else none

/-- A text at the beginning, and what stands behind it. -/
def takeT (s : ByteArray) : Option (ByteArray × ByteArray) := match takeC 4000 s with
  | none => none
  | some (n, r) => if n ≤ r.size then some (r.extract 0 n, r.extract n r.size) else none

theorem takeC_yes {m n : Nat} {s r : ByteArray} (h : takeC m s = some (n, r)) : ∃ z k, takeZ 0 0 s.data.toList = some (z, k) ∧ Lib.unzigzag z = (n : Int) ∧ s.extract k s.size = r ∧ n ≤ m ∧ r.size ≤ s.size := by
  unfold takeC at h
  cases hT : takeZ 0 0 s.data.toList with
  | none => rw [hT] at h; cases h
  | some p =>
    obtain ⟨z, k⟩ := p
    rw [hT] at h
    simp only at h
    split at h
    · rename_i hc
      simp only [Option.some.injEq, Prod.mk.injEq] at h
      obtain ⟨rfl, rfl⟩ := h
      exact ⟨z, k, rfl, by omega, rfl, by omega, ext_size _ _ _⟩
    · cases h

theorem takeC_no {m : Nat} {s : ByteArray} (h : takeC m s = none) : takeZ 0 0 s.data.toList = none ∨ ∃ z k, takeZ 0 0 s.data.toList = some (z, k) ∧ (Lib.unzigzag z < 0 ∨ (m : Int) < Lib.unzigzag z) := by
  unfold takeC at h
  cases hT : takeZ 0 0 s.data.toList with
  | none => exact .inl rfl
  | some p =>
    obtain ⟨z, k⟩ := p
    rw [hT] at h
    simp only at h
    split at h
    · cases h
    · exact .inr ⟨z, k, rfl, by omega⟩

theorem takeT_yes {s t r : ByteArray} (h : takeT s = some (t, r)) : ∃ n q, takeC 4000 s = some (n, q) ∧ n ≤ q.size ∧ q.extract 0 n = t ∧ q.extract n q.size = r := by
  unfold takeT at h
  cases hT : takeC 4000 s with
  | none => rw [hT] at h; cases h
  | some p =>
    obtain ⟨n, q⟩ := p
    rw [hT] at h
    simp only at h
    split at h
    · rename_i hc
      simp only [Option.some.injEq, Prod.mk.injEq] at h
      exact ⟨n, q, rfl, hc, h.1, h.2⟩
    · cases h

theorem takeT_no {s : ByteArray} (h : takeT s = none) : takeC 4000 s = none ∨ ∃ n q, takeC 4000 s = some (n, q) ∧ q.size < n := by
  unfold takeT at h
  cases hT : takeC 4000 s with
  | none => exact .inl rfl
  | some p =>
    obtain ⟨n, q⟩ := p
    rw [hT] at h
    simp only at h
    split at h
    · cases h
    · exact .inr ⟨n, q, rfl, by omega⟩

/-- The bytes of a text. -/
def textB (s : ByteArray) : ByteArray := ⟨(numB s.size).toArray⟩ ++ s

set_option maxRecDepth 100000 in
set_option maxHeartbeats 400000 in
theorem text_yes (s : ByteArray) (w : World) (hs : s.size ≤ 4000) :
    Calls Try.prog 74 #[.string s] w fun e w' => e = .returned (.tuple #[.string (textB s), .int .i64 0]) ∧ Below w.heap.size w w' := by
  have hl := numB_len (n := (s.size : Int)) (by omega) (by omega)
  have ha := fun (w : World) => run_string_add_sum (P := Try.prog) w ⟨(numB s.size).toArray⟩ s (by rw [mk_size]; omega)
  go_enter Try.func74, Try.ntmps74
  go_wp2_with fail
  refine (num_any (s.size : Int) _ (by omega) (by omega)).mono ?_
  rintro e w1 ⟨rfl, b1⟩
  go_wp2
  go_ret2
  exact ⟨rfl, b1⟩

set_option maxHeartbeats 400000 in
theorem text_no (s : ByteArray) (w : World) (hs : 4000 < s.size) :
    Calls Try.prog 74 #[.string s] w fun e w' => e = .returned (.tuple #[.string ⟨#[]⟩, .int .i64 4]) ∧ Below w.heap.size w w' := by
  go_enter Try.func74, Try.ntmps74
  go_wp2
  go_ret2
  exact ⟨rfl, Below.refl _ _⟩

set_option maxRecDepth 100000 in
set_option maxHeartbeats 400000 in
theorem count_yes (s : ByteArray) (m n : Nat) (r : ByteArray) (w : World) (hs : s.size ≤ maxLen) (h : takeC m s = some (n, r)) :
    Calls Try.prog 89 #[.string s, .int .i64 m] w fun e w' => e = .returned (.tuple #[.int .i64 n, .string r, .int .i64 0]) ∧ Below w.heap.size w w' := by
  obtain ⟨z, k, h1, h2, h3, h4, h5⟩ := takeC_yes h
  have H1 : Hid (takeNumV s = .tuple #[.int .i64 n, .string r, .int .i64 0]) := by rw [← h2, ← h3]; exact takeNumV_yes h1
  clear h h1 h2 h3
  go_enter Try.func89, Try.ntmps89
  go_wp2_with fail
  refine (takeNum_val s _ _ hs H1.out).mono ?_
  rintro e w1 ⟨rfl, b1⟩
  go_wp2
  go_ret3
  exact ⟨rfl, b1⟩

set_option maxRecDepth 100000 in
set_option maxHeartbeats 400000 in
theorem count_no (s : ByteArray) (m : Nat) (w : World) (hs : s.size ≤ maxLen) (h : takeC m s = none) :
    Calls Try.prog 89 #[.string s, .int .i64 m] w fun e w' => e = .returned (.tuple #[.int .i64 0, .string ⟨#[]⟩, .int .i64 2]) ∧ Below w.heap.size w w' := by
  rcases takeC_no h with h1 | ⟨z, k, h1, h2⟩
  · have H1 : Hid _ := takeNumV_no h1
    clear h h1
    go_enter Try.func89, Try.ntmps89
    go_wp2_with fail
    refine (takeNum_val s _ _ hs H1.out).mono ?_
    rintro e w1 ⟨rfl, b1⟩
    go_wp2
    go_ret3
    exact ⟨rfl, b1⟩
  · have H1 : Hid _ := takeNumV_yes h1
    clear h h1
    generalize s.extract k s.size = r at *
    generalize Lib.unzigzag z = N at *
    rcases h2 with h2 | h2
    all_goals
      go_enter Try.func89, Try.ntmps89
      go_wp2_with fail
      refine (takeNum_val s _ _ hs H1.out).mono ?_
      rintro e w1 ⟨rfl, b1⟩
      go_wp2
      all_goals go_ret3
      all_goals exact ⟨rfl, b1⟩

set_option maxRecDepth 100000 in
set_option maxHeartbeats 400000 in
theorem takeText_yes (s t r : ByteArray) (w : World) (hs : s.size ≤ maxLen) (h : takeT s = some (t, r)) :
    Calls Try.prog 83 #[.string s] w fun e w' => e = .returned (.tuple #[.string t, .string r, .int .i64 0]) ∧ Below w.heap.size w w' := by
  obtain ⟨n, q, h1, h2, h3, h4⟩ := takeT_yes h
  subst h3 h4
  have hn : n ≤ 4000 := by obtain ⟨_, _, _, _, _, h, _⟩ := takeC_yes h1; exact h
  have hq : q.size ≤ s.size := by obtain ⟨_, _, _, _, _, _, h⟩ := takeC_yes h1; exact h
  have H1 : Hid (takeC 4000 s = some (n, q)) := h1
  have HS : Hid (s.size ≤ maxLen) := hs
  unfold maxLen at hs
  clear h h1
  go_enter Try.func83, Try.ntmps83
  go_wp2_with fail
  refine (count_yes s 4000 n q _ HS.out H1.out).mono ?_
  rintro e w1 ⟨rfl, b1⟩
  go_wp2
  refine wp_region_quiet_lit (by kernel_rfl) (by kernel_rfl) ?_
  repeat (first | go_big_quiet_step (fail) | quiet_step (fail))
  refine wpQuiet_nil ?_
  rintro _ ⟨nq, rfl⟩
  go_wp2
  go_ret3
  exact ⟨rfl, below_drewN b1 _⟩

set_option maxRecDepth 100000 in
set_option maxHeartbeats 400000 in
theorem takeText_no (s : ByteArray) (w : World) (hs : s.size ≤ maxLen) (h : takeT s = none) :
    Calls Try.prog 83 #[.string s] w fun e w' => e = .returned (.tuple #[.string ⟨#[]⟩, .string ⟨#[]⟩, .int .i64 2]) ∧ Below w.heap.size w w' := by
  rcases takeT_no h with h1 | ⟨n, q, h1, h2⟩
  · have H1 : Hid (takeC 4000 s = none) := h1
    clear h h1
    go_enter Try.func83, Try.ntmps83
    go_wp2_with fail
    refine (count_no s 4000 _ hs H1.out).mono ?_
    rintro e w1 ⟨rfl, b1⟩
    go_wp2
    go_ret3
    exact ⟨rfl, b1⟩
  · have H1 : Hid (takeC 4000 s = some (n, q)) := h1
    have hn : n ≤ 4000 := by obtain ⟨_, _, _, _, _, h, _⟩ := takeC_yes h1; exact h
    clear h h1
    go_enter Try.func83, Try.ntmps83
    go_wp2_with fail
    refine (count_yes s 4000 n q _ hs H1.out).mono ?_
    rintro e w1 ⟨rfl, b1⟩
    go_wp2
    go_ret3
    exact ⟨rfl, b1⟩

end Go.Proofs.Ytokldcifhjkmnaa.Wir
