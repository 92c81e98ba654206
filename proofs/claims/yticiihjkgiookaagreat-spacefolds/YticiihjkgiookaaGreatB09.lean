/- Part 9 of the proof: PathF4. -/
import Derived.Test.YticiihjkgiookaaGreatB04
import Derived.Test.YticiihjkgiookaaGreatB05
import Derived.Test.YticiihjkgiookaaGreatB08

/- The contract of path.Join. -/
namespace Go.Proofs.YticiihjkgiookaaGreat
open Go.RowKit

theorem ba_app (a b : ByteArray) : (a ++ b).data.toList = a.data.toList ++ b.data.toList := by simp [ByteArray.data_append]

theorem tail_path : ∀ (r : List ByteArray), Lib.joinTail [47] (r.map (·.data.toList)) = pathL r
  | [] => rfl
  | n :: r => by
    have ih := tail_path r
    unfold Lib.joinTail at *
    rw [List.map_cons, List.map_cons, List.flatten_cons, ih, pathL_cons]
    rfl

/-- A slash, and the names with slashes between them. -/
theorem pathT_join (ss : List ByteArray) : (⟨#[47]⟩ : ByteArray) ++ ⟨(Lib.join (ss.map (·.data.toList)) [47]).toArray⟩ = pathT ss := by
  refine ba_inj ?_
  rw [ba_app, mk_list]
  cases ss with
  | nil => rw [List.map_nil, Lib.join_nil, pathT_nil]; rfl
  | cons n r => rw [List.map_cons, Lib.join_cons, tail_path, pathT_ne (by simp), mk_list, pathL_cons]; rfl

theorem pathL_small : ∀ (ss : List ByteArray), (∀ x ∈ ss, x.size ≤ 20) → (pathL ss).length ≤ 21 * ss.length
  | [], _ => by simp [pathL]
  | n :: ss, h => by
    have ih := pathL_small ss (fun x hx => h x (by simp [hx]))
    have h1 := h n (by simp)
    rw [pathL_cons, List.length_cons, List.length_append, list_sz, List.length_cons]; omega

theorem pathT_size (ss : List ByteArray) : (pathT ss).size = if ss = [] then 1 else (pathL ss).length := by
  unfold pathT; split
  · rfl
  · exact mk_sz _

theorem all_small {ss : List ByteArray} (h : ss.all nameB = true) : ∀ x ∈ ss, x.size ≤ 20 := fun x hx => by
  have := nameL_len (List.all_eq_true.1 h x hx)
  rw [list_sz] at this; exact this.2

theorem sjoin_any (a : Option Addr) (b off cap : Nat) (ss : List ByteArray) (J : ByteArray) (w : World) (hS : Strs w a b off ss) (hcap : ss.length ≤ cap) (hl : ss.length ≤ 6) (hx : ∀ x ∈ ss, x.size ≤ 20) (hJ : ⟨(Lib.join (ss.map (·.data.toList)) [47]).toArray⟩ = J) :
    Calls Tryz.prog 157 #[.slice a ss.length cap, .string ⟨#[47]⟩] w fun e w' => e = .returned (.string J) ∧ Below w.heap.size w w' := by
  subst hJ
  cases ss with
  | nil =>
    refine (strings_Join_none a cap ⟨#[47]⟩ w).mono ?_
    rintro e w1 ⟨rfl, rfl⟩
    exact ⟨rfl, Below.refl _ _⟩
  | cons n r =>
    obtain rfl := hS.addr (by simp)
    refine strings_Join b off cap (n :: r) ⟨#[47]⟩ w (fun j x hj => ?_) (hS.lt (by simp)) (by omega) hcap ?_
    · obtain ⟨h1, h2⟩ := List.getElem?_eq_some_iff.1 hj
      rw [hS.cell j h1, h2]
    · have h1 := pathL_small (n :: r) hx
      have h2 := congrArg ByteArray.size (pathT_join (n :: r))
      rw [pathT_size, if_neg (by simp)] at h2
      have h3 : (⟨#[47]⟩ ++ ⟨(Lib.join ((n :: r).map (·.data.toList)) [47]).toArray⟩ : ByteArray).size = 1 + (Lib.join ((n :: r).map (·.data.toList)) [47]).length := by
        rw [← list_sz, ba_app, List.length_append, mk_list]; rfl
      rw [h3] at h2
      show (Lib.join ((n :: r).map (·.data.toList)) [47]).length ≤ _
      omega

theorem take_succ_all {ss : List ByteArray} {k : Nat} (hk : k < ss.length) : (ss.take (k + 1)).all nameB = ((ss.take k).all nameB && nameB ss[k]) := by
  rw [List.take_succ_eq_append_getElem hk, List.all_append]; simp
theorem all_of_bad {ss : List ByteArray} {k : Nat} (hk : k < ss.length) (h : nameB ss[k] = false) : ss.all nameB = false := by
  cases e : ss.all nameB with
  | false => rfl
  | true => rw [List.all_eq_true.1 e _ (List.getElem_mem hk)] at h; cases h

set_option maxRecDepth 100000 in
set_option maxHeartbeats 1000000 in
theorem join_any (a : Option Addr) (b off cap : Nat) (ss : List ByteArray) (X : ByteArray × Int) (w : World) (hS : Strs w a b off ss) (hcap : ss.length ≤ cap) (hX : joinX ss = X) :
    Calls Tryz.prog 128 #[.slice a ss.length cap] w fun e w' => e = .returned (.tuple #[.string X.1, .int .i64 X.2]) ∧ Below w.heap.size w w' := by
  have HX : Hid (joinX ss = X) := hX
  have hm := hS.len
  unfold maxLen at hm
  have HS : Hid (Strs w a b off ss) := hS
  have HCAP : Hid (ss.length ≤ cap) := hcap
  clear hX hS hcap
  go_enter Tryz.func128, Tryz.ntmps128
  go_wp2
  go_loop [9] (fun c => ∃ k : Nat, k ≤ ss.length ∧ c = .int .i64 k ∧ (ss.take k).all nameB = true) (fun c => ss.length - (intOf c).toNat)
  case atStart => exact ⟨0, by omega, rfl, by simp⟩
  case round =>
    obtain ⟨k, hk, rfl, hA⟩ := hrel
    have HA : Hid ((ss.take k).all nameB = true) := hA
    clear hA
    by_cases hlt : k < ss.length
    · obtain rfl := HS.out.addr (by omega)
      have hc := HS.out.cell k hlt
      have hsm := HS.out.small ss[k] (List.getElem_mem hlt)
      cases hb : nameB ss[k] with
      | false =>
        have HV : Hid (X = (⟨#[]⟩, 1)) := HX.out.symm.trans (joinX_bad (all_of_bad hlt hb))
        have HB : Hid (nameB ss[k] = false) := hb
        clear HA hb
        go_wp2_with (go_at_call 149; refine (name_val ss[k] false _ hsm HB.out).mono ?_; rintro e w1 ⟨rfl, rfl⟩)
        go_ret2
        exact ⟨by rw [HV.out]; rfl, Below.refl _ _⟩
      | true =>
        have HA2 : Hid ((ss.take (k + 1)).all nameB = true) := by show _ = _; rw [take_succ_all hlt, HA.out, hb]; rfl
        have HB : Hid (nameB ss[k] = true) := hb
        clear HA hb
        go_wp2_with (go_at_call 149; refine (name_val ss[k] true _ hsm HB.out).mono ?_; rintro e w1 ⟨rfl, rfl⟩)
        go_round
        case rel => exact ⟨k + 1, by omega, by go_num, HA2.out⟩
        case measure => simp [intOf]; omega
    · have HALL : Hid (ss.all nameB = true) := by
        have h := HA.out
        rw [List.take_of_length_le (by omega)] at h; exact h
      clear HA
      by_cases h6 : 6 < ss.length
      · have HV : Hid (X = (⟨#[]⟩, 4)) := HX.out.symm.trans (joinX_long HALL.out (.inl h6))
        go_wp2
        go_ret2
        exact ⟨by rw [HV.out]; rfl, Below.refl _ _⟩
      · have HSM : Hid (∀ x ∈ ss, x.size ≤ 20) := all_small HALL.out
        obtain ⟨J, hJ⟩ : ∃ J : ByteArray, ⟨(Lib.join (ss.map (·.data.toList)) [47]).toArray⟩ = J := ⟨_, rfl⟩
        have hPJ := pathT_join ss
        rw [hJ] at hPJ
        have hsz := pathT_size ss
        have hle := pathL_small ss HSM.out
        have hJs : J.size ≤ 200 := by
          have e1 : (pathT ss).size = 1 + J.size := by rw [← hPJ, ← list_sz, ba_app, List.length_append, list_sz J]; rfl
          rw [hsz] at e1
          split at e1 <;> omega
        have hadd := fun (w : World) => run_string_add_sum (P := Tryz.prog) w (⟨#[47]⟩ : ByteArray) J (by
          have : (⟨#[47]⟩ : ByteArray).size = 1 := rfl
          omega)
        rw [hPJ] at hadd
        have HJ : Hid (⟨(Lib.join (ss.map (·.data.toList)) [47]).toArray⟩ = J) := hJ
        by_cases hlong : 120 < (pathL ss).length
        · have HV : Hid (X = (⟨#[]⟩, 4)) := HX.out.symm.trans (joinX_long HALL.out (.inr hlong))
          have hne : ss ≠ [] := by rintro rfl; simp [pathL] at hlong
          have hP : 120 < (pathT ss).size := by rw [hsz, if_neg hne]; exact hlong
          have hP2 : (pathT ss).size ≤ 200 := by rw [hsz, if_neg hne]; omega
          generalize pathT ss = P at *
          clear hPJ hsz hle hJ hne hlong HX
          go_wp2_with (go_at_call 157; refine (sjoin_any a b off cap ss J _ HS.out HCAP.out (by omega) HSM.out HJ.out).mono ?_; rintro e w1 ⟨rfl, b1⟩)
          go_ret2
          exact ⟨by rw [HV.out]; rfl, b1⟩
        · have hG : Good ss := ⟨List.all_eq_true.1 HALL.out, by omega, by omega⟩
          have HV : Hid (X = (pathT ss, 0)) := HX.out.symm.trans (joinX_good hG)
          have hP : (pathT ss).size ≤ 120 := by rw [hsz]; split <;> omega
          generalize pathT ss = P at *
          clear hPJ hsz hle hJ hlong HX hG
          go_wp2_with (go_at_call 157; refine (sjoin_any a b off cap ss J _ HS.out HCAP.out (by omega) HSM.out HJ.out).mono ?_; rintro e w1 ⟨rfl, b1⟩)
          go_ret2
          exact ⟨by rw [HV.out]; rfl, b1⟩

end Go.Proofs.YticiihjkgiookaaGreat
