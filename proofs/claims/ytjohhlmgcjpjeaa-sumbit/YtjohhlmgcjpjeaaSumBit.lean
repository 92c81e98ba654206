/- SumBit: for every string and two numbers: the statement's function returns true; nothing that was there is changed. No condition. -/
import Derived.Test.YtjohhlmgcjpjeaaSumSealM
import Derived.Test.YtjohhlmgcjpjeaaSumEx
import Derived.Test.YtjohhlmgcjpjeaaSumByte
import Derived.Deep.RegionWith
import Derived.BigRegion
import Derived.ProofKit
import Derived.OpenShut
import Derived.ShutString
import Derived.ChangeOld
import Derived.Below
namespace Go.Proofs.Ytjohhlmgcjpjeaa.sumBit
open Go.ChangeShapes Go.WideShapes Go.ChangeAt Go.RowKit
open Go.ChangeMaps (open_string shut_string)
set_option linter.unusedVariables false

theorem own : ownKnob Try.prog.godebug = none := by kernel_rfl

theorem rems (a D : Int) (h0 : -9223372036854775808 ≤ a) (hD : 0 < D) : ∃ Q : Nat, (a < 0 → -(a + 1).tmod D = (Q : Int)) ∧ (¬ a < 0 → a.tmod D = (Q : Int)) ∧ (¬ a < 0 → a % D = (Q : Int)) ∧ (Q : Int) < D := by
  by_cases h : a < 0
  · have e : -(a + 1).tmod D = (-(a + 1)) % D := by rw [← Int.neg_tmod, Int.tmod_eq_emod_of_nonneg (by omega)]
    have e1 := Int.emod_nonneg (-(a + 1)) (b := D) (by omega)
    have e2 := Int.emod_lt_of_pos (-(a + 1)) hD
    exact ⟨((-(a + 1)) % D).toNat, fun _ => by omega, fun h' => absurd h h', fun h' => absurd h h', by omega⟩
  · have e : a.tmod D = a % D := Int.tmod_eq_emod_of_nonneg (by omega)
    have e1 := Int.emod_nonneg a (b := D) (by omega)
    have e2 := Int.emod_lt_of_pos a hD
    exact ⟨(a % D).toNat, fun h' => absurd h' h, fun _ => by omega, fun _ => by omega, by omega⟩

set_option maxRecDepth 100000 in
set_option maxHeartbeats 1000000 in
theorem walk_m (s B : ByteArray) (a1 a2 : Int) (nl : Nat) (w : World) (hs : s.size ≤ 3000) (hB : sealB s = B) (hnl : (numB s.size).length = nl) (h0 : -9223372036854775808 ≤ a1) (h1 : a1 ≤ 9223372036854775807) (h2 : -9223372036854775808 ≤ a2) (h3 : a2 ≤ 9223372036854775807) :
    Calls Try.prog 6 #[.string s, .int .i64 a1, .int .i64 a2] w fun e w' => e = .returned (.bool true) ∧ Below w.heap.size w w' := by
  have hsz : B.size = nl + s.size + 4 := by rw [← hB, sealB_size, hnl]
  have hn10 := numB_len (n := (s.size : Int)) (by omega) (by omega)
  have hn1 : 0 < nl := by rw [← hnl]; unfold numB; exact Lib.uvarint_pos _
  rw [hnl] at hn10
  have hfirst : (B.size : Int) - (s.size : Int) - 4 = (nl : Int) := by omega
  have hBm : B.size ≤ maxLen := by unfold maxLen; omega
  have hBl : B.size ≤ 3014 := by omega
  have hBs : s.size + 4 < B.size := by omega
  obtain ⟨Q, hQ1, hQ2, hQ3, hQ⟩ := rems a1 (8 * ((s.size : Int) + 4)) h0 (by omega)
  obtain ⟨k, hk1, hk2, hk3, hk⟩ := rems a2 (B.size : Int) h2 (by omega)
  have hq : nl + Q / 8 < B.size := by omega
  have HB : Hid _ := hB
  have Hnl : Hid _ := hnl
  have Hsz : Hid _ := hsz
  clear hB hnl hsz
  by_cases hneg : a1 < 0
  all_goals by_cases hneg2 : a2 < 0
  all_goals
    first
      | (have e1 := hQ1 hneg)
      | (have e1 := hQ2 hneg
         have e1' := hQ3 hneg)
    first
      | (have e2 := hk1 hneg2)
      | (have e2 := hk2 hneg2
         have e2' := hk3 hneg2)
    clear hQ1 hQ2 hQ3 hk1 hk2 hk3
    go_enter Try.func6, Try.ntmps6
    go_wp2_with fail
    refine (examples2_any _).mono ?_
    rintro e w1 ⟨rfl, b1⟩
    go_wp2_with fail
    have hse := seal_yes s w1 (by omega)
    rw [HB.out] at hse
    refine hse.mono ?_
    rintro e w2 ⟨rfl, b2⟩
    clear hse
    obtain ⟨v0, w3, hcv, hrow, bb⟩ := bytes_row (P := Try.prog) w2 9 40 5 B Try.underlying9 Try.underlying40 Try.underlying5 hBm w2.heap.size (Nat.le_refl _)
    obtain ⟨g, gcap, rfl, hrow2⟩ := hrow.open
    have hsl : B.data.toList.length = B.size := Array.length_toList
    rw [hsl] at hcv
    clear hsl
    have hw2 := (bel_trans b1 b2).size
    have b3 := bel_trans (bel_trans b1 b2) bb
    have HRow : Hid _ := hrow2
    clear hrow hrow2 bb b1 b2
    go_wp2
    obtain ⟨q, hqq⟩ : ∃ q : Nat, Q / 8 = q := ⟨_, rfl⟩
    obtain ⟨r, hrr⟩ : ∃ r : Nat, Q % 8 = r := ⟨_, rfl⟩
    have e3 : (Q : Int) / 8 = (q : Int) := by omega
    have e4 : (Q : Int) % 8 = (r : Int) := by omega
    have hr8 : r < 8 := by omega
    have hqs : q < s.size + 4 := by omega
    rw [hqq] at hq
    have hlq : nl + q < B.data.toList.length := by rw [Array.length_toList]; exact hq
    have hfz := HRow.out.live (nl + q) (by have := HRow.out.fits; omega)
    have hcl := HRow.out.cell (nl + q) hlq
    have hgo := List.getElem?_eq_getElem hlq
    generalize B.data.toList[nl + q] = old at *
    have hpw : 0 < (2 : Int) ^ r % 256 ∧ (2 : Int) ^ r % 256 < 256 := by
      match r, hr8 with
      | 0, _ => decide
      | 1, _ => decide
      | 2, _ => decide
      | 3, _ => decide
      | 4, _ => decide
      | 5, _ => decide
      | 6, _ => decide
      | 7, _ => decide
    obtain ⟨y, hy, hyo⟩ := xor8 old ((2 : Int) ^ r % 256) hpw.1 hpw.2
    have HX : Hid (openT ⟨(B.data.toList.set (nl + q) y).toArray⟩ = (⟨#[]⟩, ⟨#[]⟩, 3)) := by
      have h := open_set s (by omega) q y hqs (by rw [HB.out, Hnl.out, hgo]; intro e; exact hyo (Option.some.inj e).symm)
      rw [HB.out, Hnl.out] at h
      exact h
    have HC : Hid (openT (B.extract 0 k) = (⟨#[]⟩, ⟨#[]⟩, 2)) := by
      have h := open_cut s k (by rw [HB.out]; omega)
      rw [HB.out] at h
      exact h
    have HS : Hid _ := HRow.out.set (nl + q) hlq y
    have HY : Hid _ := hy
    have hb4 := HRow.out.set_below b3 (by omega) (nl + q) (.int .u8 (y.toNat : Int))
    clear hqq hrr hcv e1 hQ hgo hpw hy hyo
    try clear e1'
    go_region
    rw [HY.out]
    have hrow := HS.out.below ((Below.refl _ _).drew)
    have b5 := hb4.drew
    clear hb4 HS HRow b3 hcl hfz
    generalize (w3.setCell ⟨g, nl + q, none⟩ (.int .u8 (y.toNat : Int))).drew = w4 at *
    have hcv := hrow.string (P := Try.prog) 40 9 5 Try.underlying40 Try.underlying5 Try.underlying9 w4 (Below.refl _ _)
    have hsl : B.data.toList.length = B.size := Array.length_toList
    rw [List.length_set, hsl] at hcv
    have hXs : (⟨(B.data.toList.set (nl + q) y).toArray⟩ : ByteArray).size ≤ maxLen := by
      show (B.data.toList.set (nl + q) y).toArray.size ≤ _
      rw [List.size_toArray, List.length_set, Array.length_toList]; exact hBm
    have hCs : (B.extract 0 k).size ≤ maxLen := Nat.le_trans (ext_size _ _ _) hBm
    generalize (⟨(B.data.toList.set (nl + q) y).toArray⟩ : ByteArray) = X at *
    clear hrow hlq hsl
    go_wp2_with fail
    refine (open_any X ⟨#[]⟩ ⟨#[]⟩ 3 _ hXs HX.out).mono ?_
    rintro e w5 ⟨rfl, b6⟩
    clear hcv
    go_wp2_with fail
    refine (open_any (B.extract 0 k) ⟨#[]⟩ ⟨#[]⟩ 2 _ hCs HC.out).mono ?_
    rintro e w6 ⟨rfl, b7⟩
    go_wp2
    go_ret
    exact ⟨rfl, bel_trans (bel_trans b5 b6) b7⟩

set_option maxRecDepth 100000 in
set_option maxHeartbeats 1000000 in
theorem walk (a0 : ByteArray) (a1 a2 : Int) (w0 : a0.size ≤ maxLen) (w1 : (Lit.int .i64 a1).wf = true) (w2 : (Lit.int .i64 a2).wf = true) (w : World) :
    Calls Try.prog 6 #[.string a0, .int .i64 a1, .int .i64 a2] w fun e w' => e = .returned (.bool true) ∧ Below w.heap.size w w' := by
  by_cases h3 : a0.size ≤ 3000
  · exact walk_m a0 _ a1 a2 _ w h3 rfl rfl (bounds_i64 w1).1 (bounds_i64 w1).2 (bounds_i64 w2).1 (bounds_i64 w2).2
  · have hmx : a0.size ≤ 9223372036854775807 := by unfold maxLen at w0; omega
    by_cases h4 : a0.size ≤ 4000
    · go_enter Try.func6, Try.ntmps6
      go_wp2_with fail
      refine (examples2_any _).mono ?_
      rintro e w1 ⟨rfl, b1⟩
      go_wp2_with fail
      refine (seal_yes a0 _ h4).mono ?_
      rintro e w2 ⟨rfl, b2⟩
      go_wp2
      go_ret
      exact ⟨rfl, bel_trans b1 b2⟩
    · have h4' : 4000 < a0.size := by omega
      go_enter Try.func6, Try.ntmps6
      go_wp2_with fail
      refine (examples2_any _).mono ?_
      rintro e w1 ⟨rfl, b1⟩
      go_wp2_with fail
      refine (seal_no a0 _ h4').mono ?_
      rintro e w2 ⟨rfl, b2⟩
      go_wp2
      go_ret
      exact ⟨rfl, bel_trans b1 b2⟩

set_option maxRecDepth 100000 in
theorem lifted (os : Os) (started : os.Started) (H : Type) (enc : TypeId × Value → H) :
    ReturnsInHanded {} Try.checked os 6 .any (Rows.sumBitSpec.pre6 enc Try.prog Try.f6 Rows.sumBitRow.domain false) (Rows.sumBitSpec.post enc Try.prog Try.f6 false true false false) := by
  refine returnsInHanded_of_change (C := Try.checked) own started (by kernel_rfl) Try.func6
    (ChangeSpec.witness6 (enc := enc) (C := Try.checked) false ⟨#[], #[.string ByteArray.empty, .int .i64 0, .int .i64 0], []⟩ 8 (by kernel_rfl) (by kernel_rfl) (by kernel_rfl) (by kernel_rfl)) ?_
  intro W base args ds gs before hval0 hW hcnd _
  have hval : ∀ (j : Nat) t v, Try.f6.params[j]? = some t → args[j]? = some v → Value.okWide Try.prog W .any base t v := hval0
  have hW' := hW
  obtain ⟨p, q, hA0, hV, rfl, hfz, hnd⟩ := hW
  have hA : DataW.TrodAll enc Try.prog W 0 (fun _ => true) true Try.f6.params.toList args.toList ds p := hA0
  rw [Try.params6] at hA hval
  obtain ⟨v0, vs0, d0, ds0, p0, q0, hargs, rfl, rfl, h0, r0⟩ := trodAll_cons hA
  obtain ⟨v1, vs1, d1, ds1, p1, q1, rfl, rfl, rfl, h1, r1⟩ := trodAll_cons r0
  obtain ⟨v2, vs2, d2, ds2, p2, q2, rfl, rfl, rfl, h2, r2⟩ := trodAll_cons r1
  obtain ⟨rfl, rfl, rfl⟩ := trodAll_nil r2
  obtain rfl : args = #[v0, v1, v2] := by cases args; simp_all
  obtain ⟨rfl, rfl⟩ := trodVars_none hV
  obtain ⟨a0, rfl, rfl, rfl, w0⟩ := open_string Try.underlying9 (hval 0 9 v0 rfl rfl) h0
  obtain ⟨a1, rfl, rfl, rfl, w1⟩ := open_int Try.underlying3 (hval 1 3 v1 rfl rfl) h1
  obtain ⟨a2, rfl, rfl, rfl, w2⟩ := open_int Try.underlying3 (hval 2 3 v2 rfl rfl) h2
  clear hA0 hval0
  refine (walk a0 a1 a2 w0 w1 w2 W).mono fun e W' ⟨he, bel⟩ => ?_
  subst he
  exact ⟨_, rfl, _, _, _, [], _, [], hW', trodAll_mk1 (shut_bool Try.underlying4 _), (trodAll_cons_mk (shut_string Try.underlying9 w0) (trodAll_cons_mk (shut_int Try.underlying3 w1) (trodAll_cons_mk (shut_int Try.underlying3 w2) trodAll_mk0))), rfl, bel.frame _, fun h => by cases h⟩

theorem over : Rows.sumBitRow.holds Try.pinned (OpenSpec.ofChange Rows.sumBitSpec) :=
  OpenClaim.holds_of_wide 6 Try.f6 rfl rfl rfl rfl rfl rfl rfl ⟨rfl, rfl, rfl, rfl, rfl⟩ rfl rfl rfl rfl rfl (by kernel_rfl) Try.func6 (by kernel_rfl)
    (of_decide_eq_true (by kernel_rfl)) (by unfold Func.isWrapper; first | (rw [if_pos (by decide +kernel)]; kernel_rfl) | (rw [if_neg (by decide +kernel)]; exact ⟨rfl, rfl⟩))
    (fun os started H enc _ => lifted os started H enc)
end Go.Proofs.Ytjohhlmgcjpjeaa.sumBit

namespace Go.Proofs.Ytjohhlmgcjpjeaa
/-- The statement. -/
theorem sumBit_holds : Rows.SumBitSaid := sumBit.over
#print axioms sumBit_holds
end Go.Proofs.Ytjohhlmgcjpjeaa
