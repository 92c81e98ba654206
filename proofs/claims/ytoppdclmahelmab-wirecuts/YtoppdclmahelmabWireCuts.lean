/- WireCuts: for every two numbers of 64 bits, every float64 and every list of strings: the statement's function returns true; nothing that was there is changed. No condition. -/
import Derived.Test.YtoppdclmahelmabWireCutsM
import Derived.Test.YtoppdclmahelmabWireOpen
import Derived.Laws.Cover2
import Derived.Deep.RegionWith
namespace Go.Proofs.Ytoppdclmahelmab.wireCuts
open Go.ChangeShapes Go.WideShapes Go.ChangeAt Go.RowKit
open Go.ChangeMaps (open_string shut_string)
set_option linter.unusedVariables false

theorem own : ownKnob Try.prog.godebug = none := by kernel_rfl

theorem join_val (a : Option Addr) (b off cap : Nat) (ss : List ByteArray) (V : Value) (w : World) (hS : Strs w a b off ss) (hV : joinV ss = V) :
    Calls Try.prog 11 #[.slice a ss.length cap] w fun e w' => e = .returned V ∧ Below w.heap.size w w' := by
  subst hV; exact join_any a b off cap ss w hS
theorem split_no (s : ByteArray) (w : World) (hs : s.size ≤ maxLen) (h : splitL s = none) :
    Calls Try.prog 12 #[.string s] w fun e w' => e = .returned (.tuple #[.slice none 0 0, .int .i64 2]) ∧ Below w.heap.size w w' := by
  refine (split_any s w hs).mono fun e w' ⟨h1, h2⟩ => ?_
  rw [h] at h1
  exact ⟨h1, h2⟩
theorem takeReal_no (s : ByteArray) (w : World) (hs : s.size ≤ maxLen) (h : takeR s = none) :
    Calls Try.prog 10 #[.string s] w fun e w' => e = .returned (.tuple #[.float .f64 0, .string ⟨#[]⟩, .int .i64 2]) ∧ Below w.heap.size w w' :=
  takeReal_any s _ w hs (by rw [h])

theorem empty_num : takeNumV ByteArray.empty = .tuple #[.int .i64 0, .string ⟨#[]⟩, .int .i64 2] := by rfl
theorem empty_split : splitL ByteArray.empty = none := by rfl

/-- A cut: where it is made, and what comes. -/
theorem cut_at (T : Nat) (X : ByteArray) (h : 1 ≤ X.size) : ∃ k : Nat, k < X.size ∧ (T : Int) % (X.size : Int) = (k : Int) :=
  ⟨T % X.size, Nat.mod_lt _ h, by omega⟩

set_option maxRecDepth 100000 in
set_option maxHeartbeats 1000000 in
theorem walk_b (a0 : Int) (a1 : Nat) (a2 : Option Addr) (b2 off2 cap2 : Nat) (ss2 : List ByteArray) (a3 : Int) (w : World) (h0 : -9223372036854775808 ≤ a0) (h0' : a0 ≤ 9223372036854775807) (h3 : -9223372036854775808 ≤ a3) (h3' : a3 ≤ 9223372036854775807)
    (S2 : Strs w a2 b2 off2 ss2) :
    Calls Try.prog 3 #[.int .i64 a0, .float .f64 a1, .slice a2 ss2.length cap2, .int .i64 a3] w fun e w' => e = .returned (.bool true) ∧ Below w.heap.size w w' := by
  obtain ⟨T, hT1, hT2⟩ : ∃ T : Nat, (a3 < 0 → -(a3 + 1) = (T : Int)) ∧ (¬ a3 < 0 → a3 = (T : Int)) := by
    by_cases h : a3 < 0
    · exact ⟨(-(a3 + 1)).toNat, fun _ => by omega, fun h' => absurd h h'⟩
    · exact ⟨a3.toNat, fun h' => absurd h' h, fun _ => by omega⟩
  obtain ⟨N, hN⟩ : ∃ N : ByteArray, ⟨(numB a0).toArray⟩ = N := ⟨_, rfl⟩
  have hN1 : 1 ≤ N.size := by rw [← hN, mk_size]; exact numB_pos a0
  have hN2 : N.size ≤ 10 := by rw [← hN, mk_size]; exact numB_len h0 h0'
  obtain ⟨k1, hk1, hm1⟩ := cut_at T N hN1
  have HN : Hid (⟨(numB a0).toArray⟩ = N) := hN
  have HV1 : Hid (takeNumV (N.extract 0 k1) = .tuple #[.int .i64 0, .string ⟨#[]⟩, .int .i64 2]) := by
    rw [← hN]; rw [← hN, mk_size] at hk1; exact takeNumV_no (num_cut a0 k1 hk1)
  obtain ⟨R, hR⟩ : ∃ R : ByteArray, ⟨(beB (realZ a1)).toArray⟩ = R := ⟨_, rfl⟩
  have hR8 : R.size = 8 := by rw [← hR, mk_size, beB_len]
  have HR : Hid (⟨(beB (realZ a1)).toArray⟩ = R) := hR
  obtain ⟨k2, hk2, hm2⟩ := cut_at T R (by omega)
  have HV2 : Hid (takeR (R.extract 0 k2) = none) := by rw [← hR]; exact real_cut _ k2 (by omega)
  have HR8 : Hid (R.size = 8) := hR8
  obtain ⟨J, hJ⟩ : ∃ J : ByteArray, ⟨(joinB ss2).toArray⟩ = J := ⟨_, rfl⟩
  have hJ1 : 1 ≤ J.size := by
    rw [← hJ, mk_size, joinB, List.length_append]
    have := numB_pos (ss2.length : Int)
    omega
  have HJL : Hid (joinOk ss2 = true → J.size ≤ 5000000) := by
    intro h
    obtain ⟨g1, g2⟩ := (joinOk_iff ss2).1 h
    have a := textsB_len ss2 g2
    have b := numB_len (n := (ss2.length : Int)) (by omega) (by omega)
    rw [← hJ, mk_size, joinB, List.length_append]
    omega
  obtain ⟨k3, hk3, hm3⟩ := cut_at T J hJ1
  have HJ : Hid (⟨(joinB ss2).toArray⟩ = J) := hJ
  have HV3 : Hid (splitL (J.extract 0 k3) = none) := by rw [← hJ]; rw [← hJ, mk_size] at hk3; exact split_cut ss2 k3 hk3
  have HV4 : Hid (splitL (J ++ ⟨#[0]⟩) = none) := by rw [← hJ]; exact split_more ss2
  have HS2 : Hid (Strs w a2 b2 off2 ss2) := S2
  have HM1 : Hid ((T : Int) % (N.size : Int) = (k1 : Int)) := hm1
  have HM2 : Hid ((T : Int) % (R.size : Int) = (k2 : Int)) := hm2
  have HM3 : Hid ((T : Int) % (J.size : Int) = (k3 : Int)) := hm3
  clear hN hR hJ hR8 S2 hm1 hm2 hm3
  have hTm : T ≤ 9223372036854775807 := by
    by_cases h : a3 < 0
    · have := hT1 h; omega
    · have := hT2 h; omega
  by_cases hneg : a3 < 0
  all_goals
    first
    | have ht := hT1 hneg
    | have ht := hT2 hneg
    have HTT : Hid _ := ht
    clear ht hT1 hT2
    go_enter Try.func3, Try.ntmps3
    go_wp2_with fail
    refine (examples_any _).mono ?_
    rintro e w1 ⟨rfl, c1⟩
    go_wp2_with fail
    refine (num_any a0 _ h0 h0').mono ?_
    rintro e w2 ⟨rfl, c2⟩
    rw [HN.out, HTT.out]
    have cc2 := bel_trans c1 c2
    clear c1 c2 HN HTT hneg h3 h3' h0 h0'
    rcases (show N.size ≤ 1 ∨ 1 < N.size by omega) with hN3 | hN3
    all_goals
      have hm1 := HM1.out
      clear HM1
      go_wp2_with fail
      first
      | (go_at_call_of 8 (Value.string (N.extract 0 k1)); refine (takeNum_val (N.extract 0 k1) _ _ (Nat.le_trans (ext_size _ _ _) (by unfold maxLen; omega)) HV1.out).mono ?_)
      | (go_at_call_of 8 (Value.string ByteArray.empty); refine (takeNum_val ByteArray.empty _ _ (by decide) empty_num).mono ?_)
      rintro e w3 ⟨rfl, c3⟩
      have cc3 := bel_trans cc2 c3
      clear cc2 c3 hm1 HV1 hk1 hN3 hN1 hN2
      go_wp2_with fail
      refine (real_any a1 _).mono ?_
      rintro e w4 ⟨rfl, c4⟩
      rw [HR.out]
      have cc4 := bel_trans cc3 c4
      have hR1 : 1 < R.size := by rw [HR8.out]; decide
      have hR2 : R.size ≤ 8 := by rw [HR8.out]; decide
      have hm2 := HM2.out
      clear cc3 c4 HR HM2 HR8
      go_wp2_with fail
      refine (takeReal_no (R.extract 0 k2) _ (Nat.le_trans (ext_size _ _ _) (by unfold maxLen; omega)) HV2.out).mono ?_
      rintro e w5 ⟨rfl, c5⟩
      have cc5 := bel_trans cc4 c5
      clear cc4 c5 hm2 HV2 hk2 hR1 hR2
      cases hj : joinOk ss2 with
      | false =>
        have HJN : Hid (joinOk ss2 = false) := hj
        clear hj
        go_wp2_with fail
        refine (join_val a2 b2 off2 cap2 ss2 _ _ (HS2.out.below cc5) (joinV_no HJN.out)).mono ?_
        rintro e w6 ⟨rfl, c6⟩
        have cc6 := bel_trans cc5 c6
        clear cc5 c6 HJN HS2
        go_wp2
        go_ret
        exact ⟨rfl, cc6⟩
      | true =>
        have hJ2 := HJL.out hj
        have HJY : Hid (joinOk ss2 = true) := hj
        clear hj HJL
        go_wp2_with fail
        refine (join_val a2 b2 off2 cap2 ss2 _ _ (HS2.out.below cc5) (joinV_yes HJY.out)).mono ?_
        rintro e w6 ⟨rfl, c6⟩
        rw [HJ.out]
        have cc6 := bel_trans cc5 c6
        have hm3 := HM3.out
        have ha0 := fun (w : World) => run_string_add_sum (P := Try.prog) w J ⟨#[0]⟩ (by show J.size + 1 ≤ _; omega)
        have hl4 : (J ++ ⟨#[0]⟩ : ByteArray).size ≤ maxLen := by
          rw [app_size]
          show J.size + 1 ≤ _
          unfold maxLen; omega
        obtain ⟨Q, hQ, ha, hq4, hl5⟩ : ∃ Q : ByteArray, J ++ ⟨#[0]⟩ = Q ∧ (∀ w : World, (Op.stringOp .add J ⟨#[0]⟩).run Try.prog w = .ok (.string Q) w) ∧ splitL Q = none ∧ Q.size ≤ maxLen := ⟨_, rfl, ha0, HV4.out, hl4⟩
        have HQ4 : Hid (splitL Q = none) := hq4
        have HL4 : Hid (Q.size ≤ maxLen) := hl5
        clear hQ ha0 hl4 hq4 hl5 HV4
        clear cc5 c6 HJY HS2 HM3 HJ
        rcases (show J.size ≤ 1 ∨ 1 < J.size by omega) with hJ3 | hJ3
        all_goals
          go_wp2_with fail
          first
          | (go_at_call_of 12 (Value.string (J.extract 0 k3)); refine (split_no (J.extract 0 k3) _ (Nat.le_trans (ext_size _ _ _) (by unfold maxLen; omega)) HV3.out).mono ?_)
          | (go_at_call_of 12 (Value.string ByteArray.empty); refine (split_no ByteArray.empty _ (by decide) empty_split).mono ?_)
          rintro e w7 ⟨rfl, c7⟩
          have cc7 := bel_trans cc6 c7
          go_wp2_with fail
          refine (split_no Q _ HL4.out HQ4.out).mono ?_
          rintro e w8 ⟨rfl, c8⟩
          have cc8 := bel_trans cc7 c8
          clear cc6 c7 cc7 c8 HV3 HQ4 HL4 hm3 ha
          go_wp2
          go_ret
          exact ⟨rfl, cc8⟩

theorem walk (a0 : Int) (a1 : Nat) (a2 : Option Addr) (b2 off2 cap2 : Nat) (ss2 : List ByteArray) (a3 : Int) (w : World) (w0 : (Lit.int .i64 a0).wf = true) (w1 : (Lit.float .f64 a1).wf = true) (w2 : Strs w a2 b2 off2 ss2) (w3 : (Lit.int .i64 a3).wf = true) :
    Calls Try.prog 3 #[.int .i64 a0, .float .f64 a1, .slice a2 ss2.length cap2, .int .i64 a3] w fun e w' => e = .returned (.bool true) ∧ Below w.heap.size w w' :=
  walk_b a0 a1 a2 b2 off2 cap2 ss2 a3 w (bounds_i64 w0).1 (bounds_i64 w0).2 (bounds_i64 w3).1 (bounds_i64 w3).2 w2

set_option maxRecDepth 100000 in
theorem lifted (os : Os) (started : os.Started) (H : Type) (enc : TypeId × Value → H) :
    ReturnsInHanded {} Try.checked os 3 .any (Rows.wireCutsSpec.pre6 enc Try.prog Try.f3 Rows.wireCutsRow.domain false) (Rows.wireCutsSpec.post enc Try.prog Try.f3 false true false false) := by
  refine returnsInHanded_of_change (C := Try.checked) own started (by kernel_rfl) Try.func3
    (ChangeSpec.witness6 (enc := enc) (C := Try.checked) false ⟨#[], #[.int .i64 0, .float .f64 0, .slice none 0 0, .int .i64 0], []⟩ 8 (by kernel_rfl) (by kernel_rfl) (by kernel_rfl) (by kernel_rfl)) ?_
  intro W base args ds gs before hval0 hW hcnd _
  have hval : ∀ (j : Nat) t v, Try.f3.params[j]? = some t → args[j]? = some v → Value.okWide Try.prog W .any base t v := hval0
  have hW' := hW
  obtain ⟨p, q, hA0, hV, rfl, hfz, hnd⟩ := hW
  have hA : DataW.TrodAll enc Try.prog W 0 (fun _ => true) true Try.f3.params.toList args.toList ds p := hA0
  rw [Try.params3] at hA hval
  obtain ⟨v0, vs0, d0, ds0, p0, q0, hargs, rfl, rfl, h0, r0⟩ := trodAll_cons hA
  obtain ⟨v1, vs1, d1, ds1, p1, q1, rfl, rfl, rfl, h1, r1⟩ := trodAll_cons r0
  obtain ⟨v2, vs2, d2, ds2, p2, q2, rfl, rfl, rfl, h2, r2⟩ := trodAll_cons r1
  obtain ⟨v3, vs3, d3, ds3, p3, q3, rfl, rfl, rfl, h3, r3⟩ := trodAll_cons r2
  obtain ⟨rfl, rfl, rfl⟩ := trodAll_nil r3
  obtain rfl : args = #[v0, v1, v2, v3] := by cases args; simp_all
  obtain ⟨rfl, rfl⟩ := trodVars_none hV
  obtain ⟨a0, rfl, rfl, rfl, w0⟩ := open_int Try.underlying3 (hval 0 3 v0 rfl rfl) h0
  obtain ⟨a1, rfl, rfl, rfl, w1⟩ := open_float Try.underlying22 (hval 1 22 v1 rfl rfl) h1
  obtain ⟨a2, len2, cap2, rfl⟩ := okWide_slice Try.underlying23 (hval 2 23 v2 rfl rfl)
  have k2 := h2
  have lt2 : ∀ x ∈ p2, x.block < W.heap.size := by obtain ⟨m, hm⟩ := k2; exact DataW.trod_lt m _ _ _ hm
  obtain ⟨b2, off2, ss2, rfl, w2⟩ := open_strs Try.underlying23 Try.underlying9 (by kernel_rfl) h2
  obtain ⟨a3, rfl, rfl, rfl, w3⟩ := open_int Try.underlying3 (hval 3 3 v3 rfl rfl) h3
  clear hA0 hval0
  refine (walk a0 a1 a2 b2 off2 cap2 ss2 a3 W w0 w1 w2 w3).mono fun e W' ⟨he, bel⟩ => ?_
  subst he
  exact ⟨_, rfl, _, _, _, [], _, [], hW', trodAll_mk1 (shut_bool Try.underlying4 _), (trodAll_cons_mk (shut_int Try.underlying3 w0) (trodAll_cons_mk (shut_float Try.underlying22 w1) (trodAll_cons_mk (Below.trod laidOut (by kernel_rfl) (of_decide_eq_true (by kernel_rfl)) k2 bel lt2) (trodAll_cons_mk (shut_int Try.underlying3 w3) trodAll_mk0)))), rfl, bel.frame _, fun h => by cases h⟩

theorem over : Rows.wireCutsRow.holds Try.pinned (OpenSpec.ofChange Rows.wireCutsSpec) :=
  OpenClaim.holds_of_wide 3 Try.f3 rfl rfl rfl rfl rfl rfl rfl ⟨rfl, rfl, rfl, rfl, rfl⟩ rfl rfl rfl rfl rfl (by kernel_rfl) Try.func3 (by kernel_rfl)
    (of_decide_eq_true (by kernel_rfl)) (by unfold Func.isWrapper; first | (rw [if_pos (by decide +kernel)]; kernel_rfl) | (rw [if_neg (by decide +kernel)]; exact ⟨rfl, rfl⟩))
    (fun os started H enc _ => lifted os started H enc)
end Go.Proofs.Ytoppdclmahelmab.wireCuts

namespace Go.Proofs.Ytoppdclmahelmab
/-- The statement. -/
theorem wireCuts_holds : Rows.WireCutsSaid := wireCuts.over
#print axioms wireCuts_holds
end Go.Proofs.Ytoppdclmahelmab
