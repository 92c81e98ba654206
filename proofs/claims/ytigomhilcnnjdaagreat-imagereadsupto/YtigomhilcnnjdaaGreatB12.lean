/- Part 12 of the proof: PathF4, PathRJ. -/
import Derived.Test.YtigomhilcnnjdaaGreatB00
import Derived.Test.YtigomhilcnnjdaaGreatB09
import Derived.Test.YtigomhilcnnjdaaGreatB11

/- The contract of path.Join. -/
namespace Go.Proofs.YtigomhilcnnjdaaGreat
open Go.RowKit

theorem ba_app (a b : ByteArray) : (a ++ b).data.toList = a.data.toList ++ b.data.toList := by simp [ByteArray.data_append]

theorem tail_path : ∀ (r : List ByteArray), Lib.joinTail [47] (r.map (·.data.toList)) = pathL r
  | [] => rfl
  | n :: r => by
    have ih := tail_path r
    unfold Lib.joinTail at *
    rw [List.map_cons, List.map_cons, List.flatten_cons, ih, pathL_cons]
    rfl

/-- A slash, and the names with slashes between them. -/
theorem pathT_join (ss : List ByteArray) : (⟨#[47]⟩ : ByteArray) ++ ⟨(Lib.join (ss.map (·.data.toList)) [47]).toArray⟩ = pathT ss := by
  refine ba_inj ?_
  rw [ba_app, mk_list]
  cases ss with
  | nil => rw [List.map_nil, Lib.join_nil, pathT_nil]; rfl
  | cons n r => rw [List.map_cons, Lib.join_cons, tail_path, pathT_ne (by simp), mk_list, pathL_cons]; rfl

theorem pathL_small : ∀ (ss : List ByteArray), (∀ x ∈ ss, x.size ≤ 20) → (pathL ss).length ≤ 21 * ss.length
  | [], _ => by simp [pathL]
  | n :: ss, h => by
    have ih := pathL_small ss (fun x hx => h x (by simp [hx]))
    have h1 := h n (by simp)
    rw [pathL_cons, List.length_cons, List.length_append, list_sz, List.length_cons]; omega

theorem pathT_size (ss : List ByteArray) : (pathT ss).size = if ss = [] then 1 else (pathL ss).length := by
  unfold pathT; split
  · rfl
  · exact mk_sz _

theorem all_small {ss : List ByteArray} (h : ss.all nameB = true) : ∀ x ∈ ss, x.size ≤ 20 := fun x hx => by
  have := nameL_len (List.all_eq_true.1 h x hx)
  rw [list_sz] at this; exact this.2

theorem sjoin_any (a : Option Addr) (b off cap : Nat) (ss : List ByteArray) (J : ByteArray) (w : World) (hS : Strs w a b off ss) (hcap : ss.length ≤ cap) (hl : ss.length ≤ 6) (hx : ∀ x ∈ ss, x.size ≤ 20) (hJ : ⟨(Lib.join (ss.map (·.data.toList)) [47]).toArray⟩ = J) :
    Calls Tryz.prog 103 #[.slice a ss.length cap, .string ⟨#[47]⟩] w fun e w' => e = .returned (.string J) ∧ Below w.heap.size w w' := by
  subst hJ
  cases ss with
  | nil =>
    refine (strings_Join_none a cap ⟨#[47]⟩ w).mono ?_
    rintro e w1 ⟨rfl, rfl⟩
    exact ⟨rfl, Below.refl _ _⟩
  | cons n r =>
    obtain rfl := hS.addr (by simp)
    refine strings_Join b off cap (n :: r) ⟨#[47]⟩ w (fun j x hj => ?_) (hS.lt (by simp)) (by omega) hcap ?_
    · obtain ⟨h1, h2⟩ := List.getElem?_eq_some_iff.1 hj
      rw [hS.cell j h1, h2]
    · have h1 := pathL_small (n :: r) hx
      have h2 := congrArg ByteArray.size (pathT_join (n :: r))
      rw [pathT_size, if_neg (by simp)] at h2
      have h3 : (⟨#[47]⟩ ++ ⟨(Lib.join ((n :: r).map (·.data.toList)) [47]).toArray⟩ : ByteArray).size = 1 + (Lib.join ((n :: r).map (·.data.toList)) [47]).length := by
        rw [← list_sz, ba_app, List.length_append, mk_list]; rfl
      rw [h3] at h2
      show (Lib.join ((n :: r).map (·.data.toList)) [47]).length ≤ _
      omega

theorem take_succ_all {ss : List ByteArray} {k : Nat} (hk : k < ss.length) : (ss.take (k + 1)).all nameB = ((ss.take k).all nameB && nameB ss[k]) := by
  rw [List.take_succ_eq_append_getElem hk, List.all_append]; simp
theorem all_of_bad {ss : List ByteArray} {k : Nat} (hk : k < ss.length) (h : nameB ss[k] = false) : ss.all nameB = false := by
  cases e : ss.all nameB with
  | false => rfl
  | true => rw [List.all_eq_true.1 e _ (List.getElem_mem hk)] at h; cases h

set_option maxRecDepth 100000 in
set_option maxHeartbeats 1000000 in
theorem join_any (a : Option Addr) (b off cap : Nat) (ss : List ByteArray) (X : ByteArray × Int) (w : World) (hS : Strs w a b off ss) (hcap : ss.length ≤ cap) (hX : joinX ss = X) :
    Calls Tryz.prog 93 #[.slice a ss.length cap] w fun e w' => e = .returned (.tuple #[.string X.1, .int .i64 X.2]) ∧ Below w.heap.size w w' := by
  have HX : Hid (joinX ss = X) := hX
  have hm := hS.len
  unfold maxLen at hm
  have HS : Hid (Strs w a b off ss) := hS
  have HCAP : Hid (ss.length ≤ cap) := hcap
  clear hX hS hcap
  go_enter Tryz.func93, Tryz.ntmps93
  go_wp2
  go_loop [9] (fun c => ∃ k : Nat, k ≤ ss.length ∧ c = .int .i64 k ∧ (ss.take k).all nameB = true) (fun c => ss.length - (intOf c).toNat)
  case atStart => exact ⟨0, by omega, rfl, by simp⟩
  case round =>
    obtain ⟨k, hk, rfl, hA⟩ := hrel
    have HA : Hid ((ss.take k).all nameB = true) := hA
    clear hA
    by_cases hlt : k < ss.length
    · obtain rfl := HS.out.addr (by omega)
      have hc := HS.out.cell k hlt
      have hsm := HS.out.small ss[k] (List.getElem_mem hlt)
      cases hb : nameB ss[k] with
      | false =>
        have HV : Hid (X = (⟨#[]⟩, 1)) := HX.out.symm.trans (joinX_bad (all_of_bad hlt hb))
        have HB : Hid (nameB ss[k] = false) := hb
        clear HA hb
        go_wp2_with (go_at_call 102; refine (name_val ss[k] false _ hsm HB.out).mono ?_; rintro e w1 ⟨rfl, rfl⟩)
        go_ret2
        exact ⟨by rw [HV.out]; rfl, Below.refl _ _⟩
      | true =>
        have HA2 : Hid ((ss.take (k + 1)).all nameB = true) := by show _ = _; rw [take_succ_all hlt, HA.out, hb]; rfl
        have HB : Hid (nameB ss[k] = true) := hb
        clear HA hb
        go_wp2_with (go_at_call 102; refine (name_val ss[k] true _ hsm HB.out).mono ?_; rintro e w1 ⟨rfl, rfl⟩)
        go_round
        case rel => exact ⟨k + 1, by omega, by go_num, HA2.out⟩
        case measure => simp [intOf]; omega
    · have HALL : Hid (ss.all nameB = true) := by
        have h := HA.out
        rw [List.take_of_length_le (by omega)] at h; exact h
      clear HA
      by_cases h6 : 6 < ss.length
      · have HV : Hid (X = (⟨#[]⟩, 4)) := HX.out.symm.trans (joinX_long HALL.out (.inl h6))
        go_wp2
        go_ret2
        exact ⟨by rw [HV.out]; rfl, Below.refl _ _⟩
      · have HSM : Hid (∀ x ∈ ss, x.size ≤ 20) := all_small HALL.out
        obtain ⟨J, hJ⟩ : ∃ J : ByteArray, ⟨(Lib.join (ss.map (·.data.toList)) [47]).toArray⟩ = J := ⟨_, rfl⟩
        have hPJ := pathT_join ss
        rw [hJ] at hPJ
        have hsz := pathT_size ss
        have hle := pathL_small ss HSM.out
        have hJs : J.size ≤ 200 := by
          have e1 : (pathT ss).size = 1 + J.size := by rw [← hPJ, ← list_sz, ba_app, List.length_append, list_sz J]; rfl
          rw [hsz] at e1
          split at e1 <;> omega
        have hadd := fun (w : World) => run_string_add_sum (P := Tryz.prog) w (⟨#[47]⟩ : ByteArray) J (by
          have : (⟨#[47]⟩ : ByteArray).size = 1 := rfl
          omega)
        rw [hPJ] at hadd
        have HJ : Hid (⟨(Lib.join (ss.map (·.data.toList)) [47]).toArray⟩ = J) := hJ
        by_cases hlong : 120 < (pathL ss).length
        · have HV : Hid (X = (⟨#[]⟩, 4)) := HX.out.symm.trans (joinX_long HALL.out (.inr hlong))
          have hne : ss ≠ [] := by rintro rfl; simp [pathL] at hlong
          have hP : 120 < (pathT ss).size := by rw [hsz, if_neg hne]; exact hlong
          have hP2 : (pathT ss).size ≤ 200 := by rw [hsz, if_neg hne]; omega
          generalize pathT ss = P at *
          clear hPJ hsz hle hJ hne hlong HX
          go_wp2_with (go_at_call 103; refine (sjoin_any a b off cap ss J _ HS.out HCAP.out (by omega) HSM.out HJ.out).mono ?_; rintro e w1 ⟨rfl, b1⟩)
          go_ret2
          exact ⟨by rw [HV.out]; rfl, b1⟩
        · have hG : Good ss := ⟨List.all_eq_true.1 HALL.out, by omega, by omega⟩
          have HV : Hid (X = (pathT ss, 0)) := HX.out.symm.trans (joinX_good hG)
          have hP : (pathT ss).size ≤ 120 := by rw [hsz]; split <;> omega
          generalize pathT ss = P at *
          clear hPJ hsz hle hJ hlong HX hG
          go_wp2_with (go_at_call 103; refine (sjoin_any a b off cap ss J _ HS.out HCAP.out (by omega) HSM.out HJ.out).mono ?_; rintro e w1 ⟨rfl, b1⟩)
          go_ret2
          exact ⟨by rw [HV.out]; rfl, b1⟩

end Go.Proofs.YtigomhilcnnjdaaGreat

/- The contract of tabulariumref06.Join. -/
namespace Go.Proofs.YtigomhilcnnjdaaGreat
open Go.RowKit

theorem pathL_take {ss : List ByteArray} {k : Nat} (hk : k < ss.length) : pathL (ss.take (k + 1)) = pathL (ss.take k) ++ 47 :: ss[k].data.toList := by
  rw [List.take_succ_eq_append_getElem hk, pathL_app, pathL_cons, pathL_nil, List.append_nil]

set_option maxRecDepth 100000 in
set_option maxHeartbeats 1000000 in
theorem refJoin_any (a : Option Addr) (b off cap : Nat) (ss : List ByteArray) (X : ByteArray × Int) (w : World) (hS : Strs w a b off ss) (hX : joinX ss = X) :
    Calls Tryz.prog 99 #[.slice a ss.length cap] w fun e w' => e = .returned (.tuple #[.string X.1, .int .i64 X.2]) ∧ Below w.heap.size w w' := by
  have HX : Hid (joinX ss = X) := hX
  have hm := hS.len
  unfold maxLen at hm
  have HS : Hid (Strs w a b off ss) := hS
  clear hX hS
  go_enter Tryz.func99, Tryz.ntmps99
  go_wp2
  go_loop [4] (fun c => ∃ k : Nat, k ≤ ss.length ∧ c = .int .i64 k ∧ (ss.take k).all nameB = true) (fun c => ss.length - (intOf c).toNat)
  case atStart => exact ⟨0, by omega, rfl, by simp⟩
  case round =>
    obtain ⟨k, hk, rfl, hA⟩ := hrel
    have HA : Hid ((ss.take k).all nameB = true) := hA
    clear hA
    by_cases hlt : k < ss.length
    · obtain rfl := HS.out.addr (by omega)
      have hc := HS.out.cell k hlt
      have hsm := HS.out.small ss[k] (List.getElem_mem hlt)
      cases hb : nameB ss[k] with
      | false =>
        have HV : Hid (X = (⟨#[]⟩, 1)) := HX.out.symm.trans (joinX_bad (all_of_bad hlt hb))
        have HB : Hid (nameB ss[k] = false) := hb
        clear HA hb
        go_wp2_with (go_at_call 116; refine (refName_val ss[k] false _ hsm HB.out).mono ?_; rintro e w1 ⟨rfl, rfl⟩)
        go_ret2
        exact ⟨by rw [HV.out]; rfl, Below.refl _ _⟩
      | true =>
        have HA2 : Hid ((ss.take (k + 1)).all nameB = true) := by show _ = _; rw [take_succ_all hlt, HA.out, hb]; rfl
        have HB : Hid (nameB ss[k] = true) := hb
        clear HA hb
        go_wp2_with (go_at_call 116; refine (refName_val ss[k] true _ hsm HB.out).mono ?_; rintro e w1 ⟨rfl, rfl⟩)
        go_round
        case rel => exact ⟨k + 1, by omega, by go_num, HA2.out⟩
        case measure => simp [intOf]; omega
    · have HALL : Hid (ss.all nameB = true) := by
        have h := HA.out
        rw [List.take_of_length_le (by omega)] at h; exact h
      clear HA
      by_cases h6 : 6 < ss.length
      · have HV : Hid (X = (⟨#[]⟩, 4)) := HX.out.symm.trans (joinX_long HALL.out (.inl h6))
        go_wp2
        go_ret2
        exact ⟨by rw [HV.out]; rfl, Below.refl _ _⟩
      · have HSM : Hid (∀ x ∈ ss, x.size ≤ 20) := all_small HALL.out
        by_cases h0 : ss.length = 0
        · have HV : Hid (X = (⟨#[47]⟩, 0)) := by
            have e : ss = [] := List.length_eq_zero_iff.1 h0
            have h := HX.out
            rw [e, joinX_good good_nil] at h
            exact h.symm
          go_wp2
          go_ret2
          exact ⟨by rw [HV.out]; rfl, Below.refl _ _⟩
        · go_wp2
          go_loop [6, 7] (fun s c => ∃ (k : Nat) (A : ByteArray), k ≤ ss.length ∧ c = .int .i64 k ∧ s = .string A ∧ A.data.toList = pathL (ss.take k)) (fun _ c => ss.length - (intOf c).toNat)
          case atStart => exact ⟨0, ⟨#[]⟩, by omega, rfl, rfl, by simp [pathL]⟩
          case round =>
            obtain ⟨k, A, hk, rfl, rfl, hA⟩ := hrel
            have HA : Hid (A.data.toList = pathL (ss.take k)) := hA
            have hAs : A.size ≤ 200 := by
              have h := pathL_small (ss.take k) (fun x hx => HSM.out x (List.mem_of_mem_take hx))
              rw [← hA, list_sz, List.length_take] at h; omega
            by_cases hlt : k < ss.length
            · obtain rfl := HS.out.addr (by omega)
              have hc := HS.out.cell k hlt
              have hsm := HSM.out ss[k] (List.getElem_mem hlt)
              have ha1 := fun (w : World) => run_string_add_sum (P := Tryz.prog) w A (⟨#[47]⟩ : ByteArray) (by
                have : (⟨#[47]⟩ : ByteArray).size = 1 := rfl
                omega)
              obtain ⟨B, hB⟩ : ∃ B : ByteArray, A ++ ⟨#[47]⟩ = B := ⟨_, rfl⟩
              rw [hB] at ha1
              have hBl : B.data.toList = pathL (ss.take k) ++ [47] := by rw [← hB, ba_app, hA]
              have hBs : B.size = A.size + 1 := by rw [← list_sz, ← hB, ba_app, List.length_append, list_sz]; rfl
              have ha2 := fun (w : World) => run_string_add_sum (P := Tryz.prog) w B ss[k] (by omega)
              obtain ⟨D, hD⟩ : ∃ D : ByteArray, B ++ ss[k] = D := ⟨_, rfl⟩
              rw [hD] at ha2
              have HD : Hid (D.data.toList = pathL (ss.take (k + 1))) := by
                show _ = _
                rw [pathL_take hlt, ← hD, ba_app, hBl, List.append_assoc]; rfl
              clear hA HA hB hBl hBs hD
              go_wp2
              go_round
              case rel => exact ⟨k + 1, D, by omega, by go_num, rfl, HD.out⟩
              case measure => simp [intOf]; omega
            · have HA2 : Hid (A.data.toList = pathL ss) := by
                have h := HA.out
                rw [List.take_of_length_le (by omega)] at h; exact h
              have hAl : A.size = (pathL ss).length := by rw [← list_sz, HA2.out]
              have HAL : Hid (A.size = (pathL ss).length) := hAl
              have hne : ss ≠ [] := fun e => h0 (by rw [e]; rfl)
              by_cases hlong : 120 < A.size
              · have HV : Hid (X = (⟨#[]⟩, 4)) := HX.out.symm.trans (joinX_long HALL.out (.inr (by omega)))
                clear hA HA HA2 hAl
                go_wp2
                go_ret2
                exact ⟨by rw [HV.out]; rfl, Below.refl _ _⟩
              · have hG : Good ss := ⟨List.all_eq_true.1 HALL.out, by omega, by omega⟩
                have HV : Hid (X = (A, 0)) := by
                  have h := HX.out
                  rw [joinX_good hG, pathT_ne hne, ← HA2.out, mk_of] at h
                  exact h.symm
                clear hA HA HA2 hAl hG
                go_wp2
                go_ret2
                exact ⟨by rw [HV.out]; rfl, Below.refl _ _⟩

end Go.Proofs.YtigomhilcnnjdaaGreat
