/- The contracts of sum.Seal and sum.Open. -/
import Derived.Test.YtokldcifhjkmnaaSumText
import Derived.Test.YtokldcifhjkmnaaWireText
import Derived.Lib.QuietBelow
import Derived.Deep.QuietTactic
import Derived.BigQuiet
namespace Go.Proofs.Ytokldcifhjkmnaa.Smm
open Go.RowKit Go.Proofs.Ytokldcifhjkmnaa.Wir

theorem bytes_ne {a b : ByteArray} (h : ¬ a = b) : (a.toList == b.toList) = false := by
  rw [ByteArray.toList_eq, ByteArray.toList_eq, beq_eq_false_iff_ne]
  intro e
  apply h
  cases a; cases b
  simp at e
  rw [e]

/-- The bytes of a sealed text. -/
def sealB (s : ByteArray) : ByteArray := textB s ++ sum4 s

theorem textB_size (s : ByteArray) (h : s.size ≤ 4000) : (textB s).size ≤ 4010 ∧ s.size + 1 ≤ (textB s).size := by
  have h1 := numB_len (n := (s.size : Int)) (by omega) (by omega)
  have h2 : 0 < (numB s.size).length := by unfold numB; exact Lib.uvarint_pos _
  unfold textB
  rw [ByteArray.size_append, mk_size]
  omega

set_option maxRecDepth 100000 in
set_option maxHeartbeats 400000 in
theorem seal_yes (s : ByteArray) (w : World) (hs : s.size ≤ 4000) :
    Calls Try.prog 56 #[.string s] w fun e w' => e = .returned (.tuple #[.string (sealB s), .int .i64 0]) ∧ Below w.heap.size w w' := by
  have hl := textB_size s hs
  have h4 := sum4_size s
  have ha := fun (w : World) => run_string_add_sum (P := Try.prog) w (textB s) (sum4 s) (by omega)
  have hm : s.size ≤ maxLen := by unfold maxLen; omega
  unfold sealB
  clear hl h4
  go_enter Try.func56, Try.ntmps56
  go_wp2_with fail
  refine (text_yes s _ hs).mono ?_
  rintro e w1 ⟨rfl, b1⟩
  go_wp2_with fail
  refine (sumText_any s _ hm).mono ?_
  rintro e w2 ⟨rfl, b2⟩
  go_wp2
  go_ret2
  exact ⟨rfl, bel_trans b1 b2⟩

set_option maxHeartbeats 400000 in
theorem seal_no (s : ByteArray) (w : World) (hs : 4000 < s.size) :
    Calls Try.prog 56 #[.string s] w fun e w' => e = .returned (.tuple #[.string ⟨#[]⟩, .int .i64 4]) ∧ Below w.heap.size w w' := by
  go_enter Try.func56, Try.ntmps56
  go_wp2_with fail
  refine (text_no s _ hs).mono ?_
  rintro e w1 ⟨rfl, b1⟩
  go_wp2
  go_ret2
  exact ⟨rfl, b1⟩

/-- What is opened: the text, what stands behind, the error's number. -/
def openT (b : ByteArray) : ByteArray × ByteArray × Nat := match takeT b with
  | none => (⟨#[]⟩, ⟨#[]⟩, 2)
  | some (t, r) => if r.size < 4 then (⟨#[]⟩, ⟨#[]⟩, 2) else if r.extract 0 4 = sum4 t then (t, r.extract 4 r.size, 0) else (⟨#[]⟩, ⟨#[]⟩, 3)

theorem openT_cases (b : ByteArray) : (takeT b = none ∧ openT b = (⟨#[]⟩, ⟨#[]⟩, 2)) ∨ ∃ t r, takeT b = some (t, r) ∧
    ((r.size < 4 ∧ openT b = (⟨#[]⟩, ⟨#[]⟩, 2)) ∨ (4 ≤ r.size ∧ r.extract 0 4 = sum4 t ∧ openT b = (t, r.extract 4 r.size, 0)) ∨ (4 ≤ r.size ∧ ¬ r.extract 0 4 = sum4 t ∧ openT b = (⟨#[]⟩, ⟨#[]⟩, 3))) := by
  unfold openT
  cases hT : takeT b with
  | none => exact .inl ⟨rfl, rfl⟩
  | some p =>
    obtain ⟨t, r⟩ := p
    refine .inr ⟨t, r, rfl, ?_⟩
    simp only
    by_cases h4 : r.size < 4
    · exact .inl ⟨h4, by rw [if_pos h4]⟩
    · rw [if_neg h4]
      by_cases he : r.extract 0 4 = sum4 t
      · exact .inr (.inl ⟨by omega, he, by rw [if_pos he]⟩)
      · exact .inr (.inr ⟨by omega, he, by rw [if_neg he]⟩)

theorem takeT_size {b t r : ByteArray} (h : takeT b = some (t, r)) : t.size ≤ 4000 ∧ r.size ≤ b.size := by
  obtain ⟨n, q, h1, h2, h3, h4⟩ := takeT_yes h
  obtain ⟨_, _, _, _, _, h5, h6⟩ := takeC_yes h1
  subst h3 h4
  refine ⟨?_, Nat.le_trans (ext_size _ _ _) h6⟩
  rw [ByteArray.size_extract]; omega

set_option maxRecDepth 100000 in
set_option maxHeartbeats 1000000 in
theorem open_any (b : ByteArray) (T R : ByteArray) (E : Nat) (w : World) (hb : b.size ≤ maxLen) (hO : openT b = (T, R, E)) :
    Calls Try.prog 76 #[.string b] w fun e w' => e = .returned (.tuple #[.string T, .string R, .int .i64 E]) ∧ Below w.heap.size w w' := by
  rcases openT_cases b with ⟨hT, h⟩ | ⟨t, r, hT, h⟩
  · rw [hO] at h
    simp only [Prod.mk.injEq] at h
    obtain ⟨rfl, rfl, rfl⟩ := h
    have HT : Hid _ := hT
    clear hT hO
    go_enter Try.func76, Try.ntmps76
    go_wp2_with fail
    refine (takeText_no b _ hb HT.out).mono ?_
    rintro e w1 ⟨rfl, b1⟩
    go_wp2
    go_ret3
    exact ⟨rfl, b1⟩
  · have hsz := takeT_size hT
    have htm : t.size ≤ maxLen := by unfold maxLen; omega
    have hrm : r.size ≤ 9223372036854775807 := by unfold maxLen at hb; omega
    have HT : Hid _ := hT
    have HM : Hid _ := htm
    clear hT htm hsz
    rw [hO] at h
    simp only [Prod.mk.injEq] at h
    rcases h with ⟨h4, rfl, rfl, rfl⟩ | ⟨h4, he, rfl, rfl, rfl⟩ | ⟨h4, he, rfl, rfl, rfl⟩
    · clear hO
      go_enter Try.func76, Try.ntmps76
      go_wp2_with fail
      refine (takeText_yes b t r _ hb HT.out).mono ?_
      rintro e w1 ⟨rfl, b1⟩
      go_wp2
      go_ret3
      exact ⟨rfl, b1⟩
    · clear hO
      rename ByteArray => t
      go_enter Try.func76, Try.ntmps76
      go_wp2_with fail
      refine (takeText_yes b _ _ _ hb HT.out).mono ?_
      rintro e w1 ⟨rfl, b1⟩
      go_wp2
      refine wp_region_quiet_below (by kernel_rfl) (by kernel_rfl) ?_
      repeat (first | go_big_quiet_step (exact Calls.regrown_of (sumText_any _ _ HM.out)) | quiet_step (exact Calls.regrown_of (sumText_any _ _ HM.out)))
      refine wpQuiet_nil ?_
      intro _ hw'
      obtain ⟨⟨dq, osq⟩, hw''⟩ := hw'
      subst hw''
      go_wp2
      have b2 := bel_trans b1 (below_regrown w1 dq osq)
      generalize Sort.grow (redrawn w1 dq) osq = w2 at *
      refine wp_region_quiet_lit (by kernel_rfl) (by kernel_rfl) ?_
      repeat (first | go_big_quiet_step (fail) | quiet_step (fail))
      refine wpQuiet_nil ?_
      rintro _ ⟨nq, rfl⟩
      go_wp2
      go_ret3
      exact ⟨rfl, below_drewN b2 _⟩
    · clear hO
      have hne := bytes_ne he
      go_enter Try.func76, Try.ntmps76
      go_wp2_with fail
      refine (takeText_yes b t r _ hb HT.out).mono ?_
      rintro e w1 ⟨rfl, b1⟩
      go_wp2
      refine wp_region_quiet_below (by kernel_rfl) (by kernel_rfl) ?_
      repeat (first | go_big_quiet_step (exact Calls.regrown_of (sumText_any _ _ HM.out)) | quiet_step (exact Calls.regrown_of (sumText_any _ _ HM.out)))
      refine wpQuiet_nil ?_
      intro _ hw'
      obtain ⟨⟨dq, osq⟩, hw''⟩ := hw'
      subst hw''
      go_wp2
      go_ret3
      exact ⟨rfl, bel_trans b1 (below_regrown w1 dq osq)⟩

end Go.Proofs.Ytokldcifhjkmnaa.Smm
