/- The contract of tabulariumref06.Join. -/
import Derived.Test.YtlfehfajaelmlaaPathF4
import Derived.Test.YtlfehfajaelmlaaPathRN
namespace Go.Proofs.Ytlfehfajaelmlaa
open Go.RowKit

theorem pathL_take {ss : List ByteArray} {k : Nat} (hk : k < ss.length) : pathL (ss.take (k + 1)) = pathL (ss.take k) ++ 47 :: ss[k].data.toList := by
  rw [List.take_succ_eq_append_getElem hk, pathL_app, pathL_cons, pathL_nil, List.append_nil]

set_option maxRecDepth 100000 in
set_option maxHeartbeats 1000000 in
theorem refJoin_any (a : Option Addr) (b off cap : Nat) (ss : List ByteArray) (X : ByteArray × Int) (w : World) (hS : Strs w a b off ss) (hX : joinX ss = X) :
    Calls Try.prog 54 #[.slice a ss.length cap] w fun e w' => e = .returned (.tuple #[.string X.1, .int .i64 X.2]) ∧ Below w.heap.size w w' := by
  have HX : Hid (joinX ss = X) := hX
  have hm := hS.len
  unfold maxLen at hm
  have HS : Hid (Strs w a b off ss) := hS
  clear hX hS
  go_enter Try.func54, Try.ntmps54
  go_wp2
  go_loop [4] (fun c => ∃ k : Nat, k ≤ ss.length ∧ c = .int .i64 k ∧ (ss.take k).all nameB = true) (fun c => ss.length - (intOf c).toNat)
  case atStart => exact ⟨0, by omega, rfl, by simp⟩
  case round =>
    obtain ⟨k, hk, rfl, hA⟩ := hrel
    have HA : Hid ((ss.take k).all nameB = true) := hA
    clear hA
    by_cases hlt : k < ss.length
    · obtain rfl := HS.out.addr (by omega)
      have hc := HS.out.cell k hlt
      have hsm := HS.out.small ss[k] (List.getElem_mem hlt)
      cases hb : nameB ss[k] with
      | false =>
        have HV : Hid (X = (⟨#[]⟩, 1)) := HX.out.symm.trans (joinX_bad (all_of_bad hlt hb))
        have HB : Hid (nameB ss[k] = false) := hb
        clear HA hb
        go_wp2_with (go_at_call 55; refine (refName_val ss[k] false _ hsm HB.out).mono ?_; rintro e w1 ⟨rfl, rfl⟩)
        go_ret2
        exact ⟨by rw [HV.out]; rfl, Below.refl _ _⟩
      | true =>
        have HA2 : Hid ((ss.take (k + 1)).all nameB = true) := by show _ = _; rw [take_succ_all hlt, HA.out, hb]; rfl
        have HB : Hid (nameB ss[k] = true) := hb
        clear HA hb
        go_wp2_with (go_at_call 55; refine (refName_val ss[k] true _ hsm HB.out).mono ?_; rintro e w1 ⟨rfl, rfl⟩)
        go_round
        case rel => exact ⟨k + 1, by omega, by go_num, HA2.out⟩
        case measure => simp [intOf]; omega
    · have HALL : Hid (ss.all nameB = true) := by
        have h := HA.out
        rw [List.take_of_length_le (by omega)] at h; exact h
      clear HA
      by_cases h6 : 6 < ss.length
      · have HV : Hid (X = (⟨#[]⟩, 4)) := HX.out.symm.trans (joinX_long HALL.out (.inl h6))
        go_wp2
        go_ret2
        exact ⟨by rw [HV.out]; rfl, Below.refl _ _⟩
      · have HSM : Hid (∀ x ∈ ss, x.size ≤ 20) := all_small HALL.out
        by_cases h0 : ss.length = 0
        · have HV : Hid (X = (⟨#[47]⟩, 0)) := by
            have e : ss = [] := List.length_eq_zero_iff.1 h0
            have h := HX.out
            rw [e, joinX_good good_nil] at h
            exact h.symm
          go_wp2
          go_ret2
          exact ⟨by rw [HV.out]; rfl, Below.refl _ _⟩
        · go_wp2
          go_loop [6, 7] (fun s c => ∃ (k : Nat) (A : ByteArray), k ≤ ss.length ∧ c = .int .i64 k ∧ s = .string A ∧ A.data.toList = pathL (ss.take k)) (fun _ c => ss.length - (intOf c).toNat)
          case atStart => exact ⟨0, ⟨#[]⟩, by omega, rfl, rfl, by simp [pathL]⟩
          case round =>
            obtain ⟨k, A, hk, rfl, rfl, hA⟩ := hrel
            have HA : Hid (A.data.toList = pathL (ss.take k)) := hA
            have hAs : A.size ≤ 200 := by
              have h := pathL_small (ss.take k) (fun x hx => HSM.out x (List.mem_of_mem_take hx))
              rw [← hA, list_sz, List.length_take] at h; omega
            by_cases hlt : k < ss.length
            · obtain rfl := HS.out.addr (by omega)
              have hc := HS.out.cell k hlt
              have hsm := HSM.out ss[k] (List.getElem_mem hlt)
              have ha1 := fun (w : World) => run_string_add_sum (P := Try.prog) w A (⟨#[47]⟩ : ByteArray) (by
                have : (⟨#[47]⟩ : ByteArray).size = 1 := rfl
                omega)
              obtain ⟨B, hB⟩ : ∃ B : ByteArray, A ++ ⟨#[47]⟩ = B := ⟨_, rfl⟩
              rw [hB] at ha1
              have hBl : B.data.toList = pathL (ss.take k) ++ [47] := by rw [← hB, ba_app, hA]
              have hBs : B.size = A.size + 1 := by rw [← list_sz, ← hB, ba_app, List.length_append, list_sz]; rfl
              have ha2 := fun (w : World) => run_string_add_sum (P := Try.prog) w B ss[k] (by omega)
              obtain ⟨D, hD⟩ : ∃ D : ByteArray, B ++ ss[k] = D := ⟨_, rfl⟩
              rw [hD] at ha2
              have HD : Hid (D.data.toList = pathL (ss.take (k + 1))) := by
                show _ = _
                rw [pathL_take hlt, ← hD, ba_app, hBl, List.append_assoc]; rfl
              clear hA HA hB hBl hBs hD
              go_wp2
              go_round
              case rel => exact ⟨k + 1, D, by omega, by go_num, rfl, HD.out⟩
              case measure => simp [intOf]; omega
            · have HA2 : Hid (A.data.toList = pathL ss) := by
                have h := HA.out
                rw [List.take_of_length_le (by omega)] at h; exact h
              have hAl : A.size = (pathL ss).length := by rw [← list_sz, HA2.out]
              have HAL : Hid (A.size = (pathL ss).length) := hAl
              have hne : ss ≠ [] := fun e => h0 (by rw [e]; rfl)
              by_cases hlong : 120 < A.size
              · have HV : Hid (X = (⟨#[]⟩, 4)) := HX.out.symm.trans (joinX_long HALL.out (.inr (by omega)))
                clear hA HA HA2 hAl
                go_wp2
                go_ret2
                exact ⟨by rw [HV.out]; rfl, Below.refl _ _⟩
              · have hG : Good ss := ⟨List.all_eq_true.1 HALL.out, by omega, by omega⟩
                have HV : Hid (X = (A, 0)) := by
                  have h := HX.out
                  rw [joinX_good hG, pathT_ne hne, ← HA2.out, mk_of] at h
                  exact h.symm
                clear hA HA HA2 hAl hG
                go_wp2
                go_ret2
                exact ⟨by rw [HV.out]; rfl, Below.refl _ _⟩

end Go.Proofs.Ytlfehfajaelmlaa
