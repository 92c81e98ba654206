/- The contract of tabulariumref06.Name. -/
import Derived.Test.YtlfehfajaelmlaaPathF1
namespace Go.Proofs.Ytlfehfajaelmlaa
open Go.RowKit

theorem inN_iff (b : UInt8) : inN b = true ↔ ((97 ≤ b.toNat ∧ b.toNat ≤ 122) ∨ (48 ≤ b.toNat ∧ b.toNat ≤ 57) ∨ b.toNat = 46 ∨ b.toNat = 95 ∨ b.toNat = 45) := by
  unfold inN
  simp only [Bool.or_eq_true, Bool.and_eq_true, decide_eq_true_eq, beq_iff_eq, or_assoc]

set_option maxRecDepth 100000 in
set_option maxHeartbeats 400000 in
theorem refName_val (s : ByteArray) (v : Bool) (w : World) (hs : s.size ≤ maxLen) (hv : nameB s = v) :
    Calls Try.prog 55 #[.string s] w fun e w' => e = .returned (.bool v) ∧ w' = w := by
  have hs2 : s.size ≤ 9223372036854775807 := by unfold maxLen at hs; omega
  have HV : Hid (nameB s = v) := hv
  clear hv hs
  by_cases h : 1 ≤ s.size ∧ s.size ≤ 20 ∧ (s.toList == [46]) = false ∧ (s.toList == [46, 46]) = false
  · have HA : Hid (s.data.toList.all inN = v) := (nameB_late h).symm.trans HV.out
    obtain ⟨h1, h2, h3, h4⟩ := h
    clear HV
    go_enter Try.func55, Try.ntmps55
    go_wp2
    go_loop [3] (fun i => ∃ k : Nat, k ≤ s.size ∧ i = .int .i64 k ∧ (s.data.toList.drop k).all inN = v) (fun i => s.size - (intOf i).toNat)
    case atStart => exact ⟨0, by omega, rfl, HA.out⟩
    case round =>
      obtain ⟨k, hk, rfl, hA⟩ := hrel
      have E : Hid ((s.data.toList.drop k).all inN = v) := hA
      clear hA HA
      by_cases hlt : k < s.size
      · have HS : Hid ((s.data.toList.drop k).all inN = (inN s[k] && (s.data.toList.drop (k + 1)).all inN)) := all_step hlt
        have hN := inN_iff s[k]
        have h256 : s[k].toNat < 256 := UInt8.toNat_lt _
        cases hb : inN s[k] with
        | false =>
          have HV : Hid (v = false) := by have h := E.out; rw [HS.out, hb] at h; exact h.symm
          have HN : Hid (¬ ((97 ≤ s[k].toNat ∧ s[k].toNat ≤ 122) ∨ (48 ≤ s[k].toNat ∧ s[k].toNat ≤ 57) ∨ s[k].toNat = 46 ∨ s[k].toNat = 95 ∨ s[k].toNat = 45)) := fun h => by rw [hN.2 h] at hb; cases hb
          clear E HS hN hb
          go_wp2
          all_goals (first | (exfalso; have h := HN.out; omega) | (exfalso; have h := HN.out; clear HN; simp only [bne_eq_false_iff_eq, bne_iff_ne, ne_eq] at *; omega) | (go_ret; exact ⟨by rw [HV.out]; rfl, rfl⟩))
        | true =>
          have HV : Hid ((s.data.toList.drop (k + 1)).all inN = v) := by have h := E.out; rw [HS.out, hb] at h; exact h
          have HN : Hid ((97 ≤ s[k].toNat ∧ s[k].toNat ≤ 122) ∨ (48 ≤ s[k].toNat ∧ s[k].toNat ≤ 57) ∨ s[k].toNat = 46 ∨ s[k].toNat = 95 ∨ s[k].toNat = 45) := hN.1 hb
          clear E HS hN hb
          go_wp2
          all_goals (first
            | (exfalso; have h := HN.out; omega) | (exfalso; have h := HN.out; clear HN; simp only [bne_eq_false_iff_eq, bne_iff_ne, ne_eq] at *; omega)
            | exact ⟨⟨k + 1, by omega, by go_num, HV.out⟩, by simp [intOf]; omega⟩)
      · have hkn : k = s.size := by omega
        have HV : Hid (true = v) := by have h := E.out; rw [hkn, ← list_sz, List.drop_length] at h; exact h
        clear E
        go_wp2
        go_ret
        exact ⟨by rw [← HV.out]; rfl, rfl⟩
  · have HF : Hid (false = v) := (nameB_early h).symm.trans HV.out
    have HH : Hid _ := h
    clear h HV
    go_enter Try.func55, Try.ntmps55
    go_wp2
    all_goals (first
      | (go_ret; exact ⟨by rw [← HF.out]; rfl, rfl⟩)
      | (refine absurd ?_ HH.out; refine ⟨by omega, by omega, ?_, ?_⟩ <;> simp_all))

end Go.Proofs.Ytlfehfajaelmlaa
