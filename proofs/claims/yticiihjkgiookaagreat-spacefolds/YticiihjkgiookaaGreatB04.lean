/- Part 4 of the proof: PathF1. -/
import Derived.Test.YticiihjkgiookaaGreatB03
import Derived.Below
import Derived.BigQuiet
import Derived.BigRegion
import Derived.Deep.LoopGhost
import Derived.Deep.QuietTactic
import Derived.Deep.RegionWith
import Derived.Lib.QuietBelow
import Derived.OwnWalk
import Derived.Test.YticiihjkgiookaaGreatProg
import Derived.Test.YticiihjkgiookaaGreatRows
import Derived.WalkKit
import Derived.WalkLawsBesides
import Derived.WalkSpells

/- The contracts of path.inName, path.Name and tabulariumref06.Name. -/
namespace Go.Proofs.YticiihjkgiookaaGreat
open Go.RowKit

theorem bel_trans {a b c : World} (h : Below a.heap.size a b) (k : Below b.heap.size b c) : Below a.heap.size a c := h.trans (k.mono h.size)
theorem bel_drewN (w : World) (n : Nat) : Below w.heap.size w (w.drewN n) := below_drewN (Below.refl _ _) n

set_option maxRecDepth 100000 in
set_option maxHeartbeats 400000 in
theorem inName_val (b : UInt8) (v : Bool) (w : World) (hv : inN b = v) :
    Calls Tryz.prog 168 #[.int .u8 (b.toNat : Int)] w fun e w' => e = .returned (.bool v) ∧ w' = w := by
  subst hv
  unfold inN
  have hb : b.toNat < 256 := b.toNat_lt
  generalize b.toNat = n at *
  go_enter Tryz.func168, Tryz.ntmps168
  go_wp2
  all_goals go_ret
  all_goals (refine ⟨congrArg (fun b => Ending.returned (Value.bool b)) ?_, rfl⟩; rw [Bool.eq_iff_iff])
  all_goals (first | (simp; done) | (simp; omega))

theorem nameB_early {s : ByteArray} (h : ¬ (1 ≤ s.size ∧ s.size ≤ 20 ∧ (s.toList == [46]) = false ∧ (s.toList == [46, 46]) = false)) : nameB s = false := by
  unfold nameB nameL
  rw [list_sz, ← Lib.toList_data]
  rw [Bool.eq_false_iff]
  intro e
  simp only [Bool.and_eq_true, decide_eq_true_eq, Bool.not_eq_true'] at e
  exact h ⟨e.1.1.1.1, e.1.1.1.2, e.1.1.2, e.1.2⟩

theorem nameB_late {s : ByteArray} (h : 1 ≤ s.size ∧ s.size ≤ 20 ∧ (s.toList == [46]) = false ∧ (s.toList == [46, 46]) = false) : nameB s = s.data.toList.all inN := by
  unfold nameB nameL
  rw [list_sz, ← Lib.toList_data, h.2.2.1, h.2.2.2]
  simp [h.1, h.2.1]

theorem all_step {s : ByteArray} {k : Nat} (hk : k < s.size) : (s.data.toList.drop k).all inN = (inN s[k] && (s.data.toList.drop (k + 1)).all inN) := by
  have hl : k < s.data.toList.length := by rw [list_sz]; exact hk
  rw [List.drop_eq_getElem_cons hl, List.all_cons]
  rfl

set_option maxRecDepth 100000 in
set_option maxHeartbeats 400000 in
theorem name_val (s : ByteArray) (v : Bool) (w : World) (hs : s.size ≤ maxLen) (hv : nameB s = v) :
    Calls Tryz.prog 149 #[.string s] w fun e w' => e = .returned (.bool v) ∧ w' = w := by
  have hs2 : s.size ≤ 9223372036854775807 := by unfold maxLen at hs; omega
  have HV : Hid (nameB s = v) := hv
  clear hv hs
  by_cases h : 1 ≤ s.size ∧ s.size ≤ 20 ∧ (s.toList == [46]) = false ∧ (s.toList == [46, 46]) = false
  · have HA : Hid (s.data.toList.all inN = v) := (nameB_late h).symm.trans HV.out
    obtain ⟨h1, h2, h3, h4⟩ := h
    clear HV
    go_enter Tryz.func149, Tryz.ntmps149
    go_wp2
    go_loop [22] (fun i => ∃ k : Nat, k ≤ s.size ∧ i = .int .i64 k ∧ (s.data.toList.drop k).all inN = v) (fun i => s.size - (intOf i).toNat)
    case atStart => exact ⟨0, by omega, rfl, HA.out⟩
    case round =>
      obtain ⟨k, hk, rfl, hA⟩ := hrel
      have E : Hid ((s.data.toList.drop k).all inN = v) := hA
      clear hA HA
      by_cases hlt : k < s.size
      · have HS : Hid ((s.data.toList.drop k).all inN = (inN s[k] && (s.data.toList.drop (k + 1)).all inN)) := all_step hlt
        cases hb : inN s[k] with
        | false =>
          have HV : Hid (false = v) := by have h := E.out; rw [HS.out, hb] at h; exact h
          clear E HS
          go_wp2_with (go_at_call 168; refine (inName_val s[k] false _ hb).mono ?_; rintro e w1 ⟨rfl, rfl⟩)
          go_ret
          exact ⟨by rw [← HV.out]; rfl, rfl⟩
        | true =>
          have HV : Hid ((s.data.toList.drop (k + 1)).all inN = v) := by have h := E.out; rw [HS.out, hb] at h; exact h
          clear E HS
          go_wp2_with (go_at_call 168; refine (inName_val s[k] true _ hb).mono ?_; rintro e w1 ⟨rfl, rfl⟩)
          go_round
          case rel => exact ⟨k + 1, by omega, by go_num, HV.out⟩
          case measure => simp [intOf]; omega
      · have hkn : k = s.size := by omega
        have HV : Hid (true = v) := by have h := E.out; rw [hkn, ← list_sz, List.drop_length] at h; exact h
        clear E
        go_wp2
        go_ret
        exact ⟨by rw [← HV.out]; rfl, rfl⟩
  · have HF : Hid (false = v) := (nameB_early h).symm.trans HV.out
    have HH : Hid _ := h
    clear h HV
    go_enter Tryz.func149, Tryz.ntmps149
    go_wp2
    all_goals (first
      | (go_ret; exact ⟨by rw [← HF.out]; rfl, rfl⟩)
      | (refine absurd ?_ HH.out; refine ⟨by omega, by omega, ?_, ?_⟩ <;> simp_all))

end Go.Proofs.YticiihjkgiookaaGreat
