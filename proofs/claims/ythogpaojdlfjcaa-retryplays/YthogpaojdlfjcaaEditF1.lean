/- The contracts of edit.within, limitsOf, allWithin. -/
import Derived.Test.YthogpaojdlfjcaaEditR
import Derived.Test.YthogpaojdlfjcaaWireText
namespace Go.Proofs.Ythogpaojdlfjcaa.Edi
open Go.RowKit Go.Proofs.Ythogpaojdlfjcaa Go.Proofs.Ythogpaojdlfjcaa.Wir

set_option maxRecDepth 100000 in
theorem within_val (n lo hi : Int) (w : World) :
    Calls Try.prog 32 #[.int .i64 n, .int .i64 lo, .int .i64 hi] w fun e w' => e = .returned (.bool (inB lo n hi)) ∧ w' = w := by
  by_cases h1 : lo ≤ n
  · by_cases h2 : n ≤ hi
    · rw [inB_yes h1 h2]
      have e1 : decide (lo ≤ n) = true := decide_eq_true h1
      have e2 : decide (n ≤ hi) = true := decide_eq_true h2
      clear h1 h2
      go_enter Try.func32, Try.ntmps32
      go_wp2
      go_ret
      exact ⟨rfl, rfl⟩
    · rw [inB_no (by omega)]
      have e1 : decide (lo ≤ n) = true := decide_eq_true h1
      have e2 : decide (n ≤ hi) = false := decide_eq_false h2
      clear h1 h2
      go_enter Try.func32, Try.ntmps32
      go_wp2
      go_ret
      exact ⟨rfl, rfl⟩
  · rw [inB_no (by omega)]
    have e1 : decide (lo ≤ n) = false := decide_eq_false h1
    clear h1
    go_enter Try.func32, Try.ntmps32
    go_wp2
    go_ret
    exact ⟨rfl, rfl⟩

def limV (k : Int) : Value := .agg #[.int .i64 (toM k), .int .i64 (loN k), .int .i64 (hiN k), .int .i64 (lenM k)]

set_option maxRecDepth 100000 in
set_option maxHeartbeats 1000000 in
theorem limits_val (k : Int) (w : World) :
    Calls Try.prog 31 #[.int .i64 k] w fun e w' => e = .returned (limV k) ∧ Below w.heap.size w w' := by
  unfold limV
  by_cases h4 : k = 4
  · subst h4
    rw [show toM 4 = 120 from rfl, show loN 4 = 0 from rfl, show hiN 4 = 0 from rfl, show lenM 4 = 0 from rfl]
    go_enter Try.func31, Try.ntmps31
    go_wp2
    exact bodyPost_ret (by simp [results, Try.results31, go_sem]) rfl ⟨rfl, bel_al _ _⟩
  by_cases h5 : k = 5
  · subst h5
    rw [show toM 5 = 0 from rfl, show loN 5 = 0 from rfl, show hiN 5 = 0 from rfl, show lenM 5 = 8 from rfl]
    go_enter Try.func31, Try.ntmps31
    go_wp2
    exact bodyPost_ret (by simp [results, Try.results31, go_sem]) rfl ⟨rfl, bel_al _ _⟩
  by_cases h6 : k = 6
  · subst h6
    rw [show toM 6 = 0 from rfl, show loN 6 = 0 from rfl, show hiN 6 = 0 from rfl, show lenM 6 = 8 from rfl]
    go_enter Try.func31, Try.ntmps31
    go_wp2
    exact bodyPost_ret (by simp [results, Try.results31, go_sem]) rfl ⟨rfl, bel_al _ _⟩
  by_cases h7 : k = 7
  · subst h7
    rw [show toM 7 = 0 from rfl, show loN 7 = -1 from rfl, show hiN 7 = 9007199254740991 from rfl, show lenM 7 = 0 from rfl]
    go_enter Try.func31, Try.ntmps31
    go_wp2
    exact bodyPost_ret (by simp [results, Try.results31, go_sem]) rfl ⟨rfl, bel_al _ _⟩
  by_cases h8 : k = 8
  · subst h8
    rw [show toM 8 = 0 from rfl, show loN 8 = 0 from rfl, show hiN 8 = 9007199254740991 from rfl, show lenM 8 = 0 from rfl]
    go_enter Try.func31, Try.ntmps31
    go_wp2
    exact bodyPost_ret (by simp [results, Try.results31, go_sem]) rfl ⟨rfl, bel_al _ _⟩
  by_cases h9 : k = 9
  · subst h9
    rw [show toM 9 = 0 from rfl, show loN 9 = 0 from rfl, show hiN 9 = 9007199254740991 from rfl, show lenM 9 = 0 from rfl]
    go_enter Try.func31, Try.ntmps31
    go_wp2
    exact bodyPost_ret (by simp [results, Try.results31, go_sem]) rfl ⟨rfl, bel_al _ _⟩
  rw [show toM k = 0 by unfold toM; rw [if_neg h4], show loN k = 0 by unfold loN; rw [if_neg h7], show hiN k = 0 by unfold hiN; rw [if_neg (by omega)], show lenM k = 0 by unfold lenM; rw [if_neg (by omega)]]
  have e4 : (k == 4) = false := beq_eq_false_iff_ne.2 h4
  have e5 : (k == 5) = false := beq_eq_false_iff_ne.2 h5
  have e6 : (k == 6) = false := beq_eq_false_iff_ne.2 h6
  have e7 : (k == 7) = false := beq_eq_false_iff_ne.2 h7
  have e8 : (k == 8) = false := beq_eq_false_iff_ne.2 h8
  have e9 : (k == 9) = false := beq_eq_false_iff_ne.2 h9
  clear h4 h5 h6 h7 h8 h9
  go_enter Try.func31, Try.ntmps31
  go_wp2
  exact bodyPost_ret (by simp [results, Try.results31, go_sem]) rfl ⟨rfl, bel_al _ _⟩

theorem all_take {lo hi : Int} {zs : List Int} {i : Nat} (hi' : i < zs.length) (h : allB lo hi (zs.take i) = true) (hz : inB lo zs[i] hi = true) : allB lo hi (zs.take (i + 1)) = true := by
  unfold allB at *
  rw [List.take_succ_eq_append_getElem hi', List.all_append, h]
  simpa using hz
theorem all_not {lo hi : Int} {zs : List Int} {i : Nat} (hi' : i < zs.length) (hz : inB lo zs[i] hi = false) : allB lo hi zs = false := by
  rw [Bool.eq_false_iff]
  intro e
  have := List.all_eq_true.1 e zs[i] (List.getElem_mem hi')
  rw [hz] at this
  cases this

set_option maxRecDepth 100000 in
set_option maxHeartbeats 1000000 in
theorem allWithin_val {a : Option Addr} {m q : Nat} {zs : List Int} {w : World} (h : Nm w a m zs) (lo hi : Int) :
    Calls Try.prog 33 #[.slice a m q, .int .i64 lo, .int .i64 hi] w fun e w' => e = .returned (.bool (allB lo hi zs)) ∧ w' = w := by
  have HN : Hid (zs.length = m) := h.len
  have hlid := h.lid
  unfold maxLen at hlid
  have HC : Hid _ := h
  clear h
  go_enter Try.func33, Try.ntmps33
  go_wp2
  go_loopw [11] (fun v wr => ∃ i : Nat, i ≤ m ∧ v = .int .i64 i ∧ wr = w ∧ allB lo hi (zs.take i) = true) (fun v _ => m - (intOf v).toNat)
  case atStart => exact ⟨0, by omega, rfl, rfl, rfl⟩
  case round =>
    obtain ⟨i, hil, rfl, hw, hall⟩ := hrel
    subst hw
    have HA : Hid _ := hall
    clear hall
    by_cases hlt : i < m
    · have hix : i < zs.length := by rw [HN.out]; exact hlt
      obtain ⟨b, off, rfl, hat⟩ := HC.out.at (by omega)
      have e0 := hat i hix
      have HT : Hid (inB lo zs[i] hi = true → allB lo hi (zs.take (i + 1)) = true) := fun e => all_take hix HA.out e
      have HF : Hid (inB lo zs[i] hi = false → allB lo hi zs = false) := fun e => all_not hix e
      clear hat
      generalize zs[i] = z at *
      cases hz : inB lo z hi with
      | true =>
        have HZ : Hid _ := HT.out hz
        clear HT HF
        go_wp2_with (go_at_call 32; refine (within_val _ _ _ _).mono ?_; rintro e w1 ⟨rfl, hw1⟩; subst hw1)
        go_roundw
        case rel => exact ⟨i + 1, by omega, by go_num, by simp, HZ.out⟩
        case measure => simp [intOf]; omega
      | false =>
        have HZ : Hid (allB lo hi zs = false) := HF.out hz
        clear HT HF
        go_wp2_with (go_at_call 32; refine (within_val _ _ _ _).mono ?_; rintro e w1 ⟨rfl, hw1⟩; subst hw1)
        go_ret
        exact ⟨congrArg (fun b => Ending.returned (.bool b)) HZ.out.symm, rfl⟩
    · obtain rfl : i = m := by omega
      have hgd : decide ((i : Int) < (i : Int)) = false := decide_eq_false (by omega)
      have hz := HA.out
      rw [List.take_of_length_le (by rw [HN.out]; omega)] at hz
      have HZ : Hid (allB lo hi zs = true) := hz
      clear hlt hz
      go_wp2
      go_ret
      exact ⟨congrArg (fun b => Ending.returned (.bool b)) HZ.out.symm, rfl⟩

end Go.Proofs.Ythogpaojdlfjcaa.Edi
