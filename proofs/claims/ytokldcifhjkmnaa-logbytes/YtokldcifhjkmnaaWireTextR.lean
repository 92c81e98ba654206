/- The contracts of tabulariumref01.Text and tabulariumref01.TakeText. -/
import Derived.Test.YtokldcifhjkmnaaWireText
import Derived.Test.YtokldcifhjkmnaaWireRefT
namespace Go.Proofs.Ytokldcifhjkmnaa.Wir
open Go.RowKit Go.Proofs.Ytokldcifhjkmnaa

set_option maxRecDepth 100000 in
set_option maxHeartbeats 400000 in
theorem refText_yes (s : ByteArray) (w : World) (hs : s.size ≤ 4000) :
    Calls Try.prog 58 #[.string s] w fun e w' => e = .returned (.tuple #[.string (textB s), .bool true]) ∧ Below w.heap.size w w' := by
  have hl := numB_len (n := (s.size : Int)) (by omega) (by omega)
  have ha := fun (w : World) => run_string_add_sum (P := Try.prog) w ⟨(numB s.size).toArray⟩ s (by rw [mk_size]; omega)
  go_enter Try.func58, Try.ntmps58
  go_wp2_with fail
  refine (refNum_any (s.size : Int) _ (by omega) (by omega)).mono ?_
  rintro e w1 ⟨rfl, b1⟩
  go_wp2
  go_ret2
  exact ⟨rfl, b1⟩

set_option maxHeartbeats 400000 in
theorem refText_no (s : ByteArray) (w : World) (hs : 4000 < s.size) :
    Calls Try.prog 58 #[.string s] w fun e w' => e = .returned (.tuple #[.string ⟨#[]⟩, .bool false]) ∧ Below w.heap.size w w' := by
  go_enter Try.func58, Try.ntmps58
  go_wp2
  go_ret2
  exact ⟨rfl, Below.refl _ _⟩

set_option maxRecDepth 100000 in
set_option maxHeartbeats 400000 in
theorem refTakeText_yes (s t r : ByteArray) (w : World) (hs : s.size ≤ maxLen) (h : takeT s = some (t, r)) :
    Calls Try.prog 78 #[.string s] w fun e w' => e = .returned (.tuple #[.string t, .string r, .bool true]) ∧ Below w.heap.size w w' := by
  obtain ⟨n, q, h1, h2, h3, h4⟩ := takeT_yes h
  subst h3 h4
  obtain ⟨z, k, g1, g2, g3, g4, g5⟩ := takeC_yes h1
  have H1 : Hid (refTakeV s = .tuple #[.int .i64 n, .string q, .bool true]) := by rw [← g2, ← g3]; exact refTakeV_yes g1
  have HS : Hid (s.size ≤ maxLen) := hs
  unfold maxLen at hs
  clear h h1 g1 g2 g3
  go_enter Try.func78, Try.ntmps78
  go_wp2_with fail
  refine (refTake_val s _ _ HS.out H1.out).mono ?_
  rintro e w1 ⟨rfl, b1⟩
  go_wp2
  refine wp_region_quiet_lit (by kernel_rfl) (by kernel_rfl) ?_
  repeat (first | go_big_quiet_step (fail) | quiet_step (fail))
  refine wpQuiet_nil ?_
  rintro _ ⟨nq, rfl⟩
  go_wp2
  go_ret3
  exact ⟨rfl, below_drewN b1 _⟩

set_option maxRecDepth 100000 in
set_option maxHeartbeats 400000 in
theorem refTakeText_no (s : ByteArray) (w : World) (hs : s.size ≤ maxLen) (h : takeT s = none) :
    Calls Try.prog 78 #[.string s] w fun e w' => e = .returned (.tuple #[.string ⟨#[]⟩, .string ⟨#[]⟩, .bool false]) ∧ Below w.heap.size w w' := by
  have hcase : refTakeV s = .tuple #[.int .i64 0, .string ⟨#[]⟩, .bool false] ∨ ∃ (N : Int) (q : ByteArray), refTakeV s = .tuple #[.int .i64 N, .string q, .bool true] ∧ (N < 0 ∨ 4000 < N ∨ 0 ≤ N ∧ N ≤ 4000 ∧ (q.size : Int) < N) := by
    rcases takeT_no h with h1 | ⟨n, q, h1, h2⟩
    · rcases takeC_no h1 with g1 | ⟨z, k, g1, g2⟩
      · exact .inl (refTakeV_no g1)
      · exact .inr ⟨_, _, refTakeV_yes g1, by omega⟩
    · obtain ⟨z, k, g1, g2, g3, g4, g5⟩ := takeC_yes h1
      refine .inr ⟨(n : Int), q, by rw [← g2, ← g3]; exact refTakeV_yes g1, .inr (.inr ⟨by omega, by omega, by omega⟩)⟩
  clear h
  rcases hcase with h1 | ⟨N, q, h1, h2⟩
  · have H1 : Hid _ := h1
    clear h1
    go_enter Try.func78, Try.ntmps78
    go_wp2_with fail
    refine (refTake_val s _ _ hs H1.out).mono ?_
    rintro e w1 ⟨rfl, b1⟩
    go_wp2
    go_ret3
    exact ⟨rfl, b1⟩
  · have H1 : Hid _ := h1
    clear h1
    rcases h2 with h2 | h2 | ⟨h2, h3, h4⟩
    all_goals
      go_enter Try.func78, Try.ntmps78
      go_wp2_with fail
      refine (refTake_val s _ _ hs H1.out).mono ?_
      rintro e w1 ⟨rfl, b1⟩
      go_wp2
      all_goals go_ret3
      all_goals exact ⟨rfl, b1⟩

end Go.Proofs.Ytokldcifhjkmnaa.Wir
