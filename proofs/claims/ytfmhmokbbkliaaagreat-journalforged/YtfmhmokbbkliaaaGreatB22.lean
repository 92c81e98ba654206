/- Part 22 of the proof: SumSealR. -/
import Derived.Test.YtfmhmokbbkliaaaGreatB06
import Derived.Test.YtfmhmokbbkliaaaGreatB07
import Derived.Test.YtfmhmokbbkliaaaGreatB21

/- The contracts of tabulariumref02.Seal and tabulariumref02.Open. -/
namespace Go.Proofs.YtfmhmokbbkliaaaGreat.Smm
open Go.RowKit Go.Proofs.YtfmhmokbbkliaaaGreat.Wir

theorem four_sum (s : ByteArray) (N : Nat) (w : World) (hN : sumN s.data.toList = N) :
    Calls Tryz.prog 104 #[.int .u32 (N : Int)] w fun e w' => e = .returned (.string (sum4 s)) ∧ Below w.heap.size w w' := by
  subst hN; exact four_any _ w (sumN_lt _)
theorem refSum_bel (s : ByteArray) (N : Nat) (w : World) (hs : s.size ≤ maxLen) (hN : sumN s.data.toList = N) :
    Calls Tryz.prog 105 #[.string s] w fun e w' => e = .returned (.int .u32 (N : Int)) ∧ Below w.heap.size w w' :=
  (refSum_nat s N w hs hN).mono fun e w' h => ⟨h.1, by rw [h.2]; exact Below.refl _ _⟩

set_option maxRecDepth 100000 in
set_option maxHeartbeats 400000 in
theorem refSeal_yes (s : ByteArray) (w : World) (hs : s.size ≤ 4000) :
    Calls Tryz.prog 128 #[.string s] w fun e w' => e = .returned (.tuple #[.string (sealB s), .bool true]) ∧ Below w.heap.size w w' := by
  have hl := textB_size s hs
  have h4 := sum4_size s
  have ha := fun (w : World) => run_string_add_sum (P := Tryz.prog) w (textB s) (sum4 s) (by omega)
  have hm : s.size ≤ maxLen := by unfold maxLen; omega
  obtain ⟨N, hN⟩ : ∃ N, sumN s.data.toList = N := ⟨_, rfl⟩
  have HN : Hid _ := hN
  unfold sealB
  clear hl h4 hN
  go_enter Tryz.func128, Tryz.ntmps128
  go_wp2_with fail
  refine (refText_yes s _ hs).mono ?_
  rintro e w1 ⟨rfl, b1⟩
  go_wp2_with fail
  refine (refSum_nat s N _ hm HN.out).mono ?_
  rintro e w2 ⟨rfl, rfl⟩
  go_wp2_with fail
  refine (four_sum s N _ HN.out).mono ?_
  rintro e w3 ⟨rfl, b3⟩
  go_wp2
  go_ret2
  exact ⟨rfl, bel_trans b1 b3⟩

set_option maxHeartbeats 400000 in
theorem refSeal_no (s : ByteArray) (w : World) (hs : 4000 < s.size) :
    Calls Tryz.prog 128 #[.string s] w fun e w' => e = .returned (.tuple #[.string ⟨#[]⟩, .bool false]) ∧ Below w.heap.size w w' := by
  go_enter Tryz.func128, Tryz.ntmps128
  go_wp2_with fail
  refine (refText_no s _ hs).mono ?_
  rintro e w1 ⟨rfl, b1⟩
  go_wp2
  go_ret2
  exact ⟨rfl, b1⟩

set_option maxRecDepth 100000 in
set_option maxHeartbeats 1000000 in
theorem refOpen_any (b : ByteArray) (T R : ByteArray) (E : Nat) (w : World) (hb : b.size ≤ maxLen) (hO : openT b = (T, R, E)) :
    Calls Tryz.prog 60 #[.string b] w fun e w' => e = .returned (.tuple #[.string T, .string R, .int .i64 E]) ∧ Below w.heap.size w w' := by
  rcases openT_cases b with ⟨hT, h⟩ | ⟨t, r, hT, h⟩
  · rw [hO] at h
    simp only [Prod.mk.injEq] at h
    obtain ⟨rfl, rfl, rfl⟩ := h
    have HT : Hid _ := hT
    clear hT hO
    go_enter Tryz.func60, Tryz.ntmps60
    go_wp2_with fail
    refine (refTakeText_no b _ hb HT.out).mono ?_
    rintro e w1 ⟨rfl, b1⟩
    go_wp2
    go_ret3
    exact ⟨rfl, b1⟩
  · have hsz := takeT_size hT
    have htm : t.size ≤ maxLen := by unfold maxLen; omega
    have hrm : r.size ≤ 9223372036854775807 := by unfold maxLen at hb; omega
    obtain ⟨N, hN⟩ : ∃ N, sumN t.data.toList = N := ⟨_, rfl⟩
    have HT : Hid _ := hT
    have HM : Hid _ := htm
    have HN : Hid _ := hN
    clear hT htm hsz hN
    rw [hO] at h
    simp only [Prod.mk.injEq] at h
    rcases h with ⟨h4, rfl, rfl, rfl⟩ | ⟨h4, he, rfl, rfl, rfl⟩ | ⟨h4, he, rfl, rfl, rfl⟩
    · clear hO
      go_enter Tryz.func60, Tryz.ntmps60
      go_wp2_with fail
      refine (refTakeText_yes b t r _ hb HT.out).mono ?_
      rintro e w1 ⟨rfl, b1⟩
      go_wp2
      go_ret3
      exact ⟨rfl, b1⟩
    · clear hO
      go_enter Tryz.func60, Tryz.ntmps60
      go_wp2_with fail
      refine (refTakeText_yes b _ _ _ hb HT.out).mono ?_
      rintro e w1 ⟨rfl, b1⟩
      go_wp2
      refine wp_region_quiet_below (by kernel_rfl) (by kernel_rfl) ?_
      repeat (first | go_big_quiet_step (first | (go_at_call 105; exact Calls.regrown_of (refSum_bel _ N _ HM.out HN.out)) | (go_at_call 104; exact Calls.regrown_of (four_sum _ N _ HN.out))) | quiet_step (first | (go_at_call 105; exact Calls.regrown_of (refSum_bel _ N _ HM.out HN.out)) | (go_at_call 104; exact Calls.regrown_of (four_sum _ N _ HN.out))))
      refine wpQuiet_nil ?_
      intro _ hw'
      obtain ⟨⟨dq, osq⟩, hw''⟩ := hw'
      subst hw''
      go_wp2
      have b2 := bel_trans b1 (below_regrown w1 dq osq)
      generalize Sort.grow (redrawn w1 dq) osq = w2 at *
      refine wp_region_quiet_lit (by kernel_rfl) (by kernel_rfl) ?_
      repeat (first | go_big_quiet_step (fail) | quiet_step (fail))
      refine wpQuiet_nil ?_
      rintro _ ⟨nq, rfl⟩
      go_wp2
      go_ret3
      exact ⟨rfl, below_drewN b2 _⟩
    · clear hO
      have hne := bytes_ne he
      go_enter Tryz.func60, Tryz.ntmps60
      go_wp2_with fail
      refine (refTakeText_yes b t r _ hb HT.out).mono ?_
      rintro e w1 ⟨rfl, b1⟩
      go_wp2
      refine wp_region_quiet_below (by kernel_rfl) (by kernel_rfl) ?_
      repeat (first | go_big_quiet_step (first | (go_at_call 105; exact Calls.regrown_of (refSum_bel _ N _ HM.out HN.out)) | (go_at_call 104; exact Calls.regrown_of (four_sum _ N _ HN.out))) | quiet_step (first | (go_at_call 105; exact Calls.regrown_of (refSum_bel _ N _ HM.out HN.out)) | (go_at_call 104; exact Calls.regrown_of (four_sum _ N _ HN.out))))
      refine wpQuiet_nil ?_
      intro _ hw'
      obtain ⟨⟨dq, osq⟩, hw''⟩ := hw'
      subst hw''
      go_wp2
      go_ret3
      exact ⟨rfl, bel_trans b1 (below_regrown w1 dq osq)⟩

end Go.Proofs.YtfmhmokbbkliaaaGreat.Smm
