/- WireSizes: for every two numbers of 64 bits: the statement's function returns true; nothing that was there is changed. No condition. -/
import Derived.Test.YtoppdclmahelmabWireEx
import Derived.ProofKit
import Derived.OpenShut
import Derived.ShutString
import Derived.ChangeOld
import Derived.Below
namespace Go.Proofs.Ytoppdclmahelmab.wireSizes
open Go.ChangeShapes Go.WideShapes Go.ChangeAt Go.RowKit
open Go.ChangeMaps (open_string shut_string)
set_option linter.unusedVariables false

theorem own : ownKnob Try.prog.godebug = none := by kernel_rfl

theorem mk_size (l : List UInt8) : (⟨l.toArray⟩ : ByteArray).size = l.length := by
  show l.toArray.size = l.length
  exact List.size_toArray

theorem uv_len : ∀ (j z : Nat), 128 ^ j ≤ z → z < 128 ^ (j + 1) → (Lib.uvarint z).length = j + 1
  | 0, z, _, h => by rw [Lib.uvarint_small (by simpa using h)]; rfl
  | j + 1, z, h0, h => by
    have h128 : 128 ≤ z := by
      rw [Nat.pow_succ] at h0
      have : 1 ≤ 128 ^ j := Nat.one_le_pow _ _ (by decide)
      omega
    rw [Lib.uvarint_big h128, List.length_cons, uv_len j (z / 128)]
    · rw [Nat.pow_succ] at h0; exact (Nat.le_div_iff_mul_le (by decide)).2 h0
    · rw [Nat.pow_succ] at h; exact Nat.div_lt_of_lt_mul (by rw [Nat.mul_comm]; exact h)

theorem len_pair (m : Nat) : (Lib.uvarint (2 * m)).length = (Lib.uvarint (2 * m + 1)).length := by
  by_cases h : 2 * m < 128
  · rw [Lib.uvarint_small h, Lib.uvarint_small (by omega)]; rfl
  · rw [Lib.uvarint_big (by omega), Lib.uvarint_big (x := 2 * m + 1) (by omega), show (2 * m + 1) / 128 = 2 * m / 128 by omega]; rfl

theorem len_turn (n : Int) : (numB n).length = (numB (-n - 1)).length := by
  unfold numB
  by_cases h : 0 ≤ n
  · rw [show Lib.zigzag n = 2 * n.toNat by unfold Lib.zigzag; rw [if_pos h]; omega, show Lib.zigzag (-n - 1) = 2 * n.toNat + 1 by unfold Lib.zigzag; rw [if_neg (by omega)]; omega]
    exact len_pair _
  · rw [show Lib.zigzag n = 2 * (-n - 1).toNat + 1 by unfold Lib.zigzag; rw [if_neg h]; omega, show Lib.zigzag (-n - 1) = 2 * (-n - 1).toNat by unfold Lib.zigzag; rw [if_pos (by omega)]; omega]
    exact (len_pair _).symm

/-- The four numbers at which the form gets longer. -/
theorem len_edges (k : Nat) (P : Int) (hP : P = ((2 ^ (6 + 7 * k) : Nat) : Int)) :
    (numB (P - 1)).length = k + 1 ∧ (numB P).length = k + 2 ∧ (numB (-P)).length = k + 1 ∧ (numB (-P - 1)).length = k + 2 := by
  have e : 2 * 2 ^ (6 + 7 * k) = 128 ^ (k + 1) := by
    rw [show (128 : Nat) = 2 ^ 7 by decide, ← Nat.pow_mul, show 7 * (k + 1) = (6 + 7 * k) + 1 by omega, Nat.pow_succ]; omega
  have h64 : 64 ≤ 2 ^ (6 + 7 * k) := by
    have := Nat.pow_le_pow_right (show 0 < 2 by decide) (show 6 ≤ 6 + 7 * k by omega)
    omega
  have e3 : 128 ^ (k + 2) = 128 * 128 ^ (k + 1) := by rw [Nat.pow_succ, Nat.mul_comm]
  have e4 : 128 ^ (k + 1) = 128 * 128 ^ k := by rw [Nat.pow_succ, Nat.mul_comm]
  generalize 2 ^ (6 + 7 * k) = p at *
  subst hP
  have one : 1 ≤ 128 ^ k := Nat.one_le_pow _ _ (by decide)
  refine ⟨?_, ?_, ?_, ?_⟩
  · unfold numB
    rw [show Lib.zigzag ((p : Int) - 1) = 2 * p - 2 by unfold Lib.zigzag; rw [if_pos (by omega)]; omega]
    exact uv_len k _ (by omega) (by omega)
  · unfold numB
    rw [show Lib.zigzag (p : Int) = 2 * p by unfold Lib.zigzag; rw [if_pos (by omega)]; omega]
    exact uv_len (k + 1) _ (by omega) (by omega)
  · unfold numB
    rw [show Lib.zigzag (-(p : Int)) = 2 * p - 1 by unfold Lib.zigzag; rw [if_neg (by omega)]; omega]
    exact uv_len k _ (by omega) (by omega)
  · unfold numB
    rw [show Lib.zigzag (-(p : Int) - 1) = 2 * p + 1 by unfold Lib.zigzag; rw [if_neg (by omega)]; omega]
    exact uv_len (k + 1) _ (by omega) (by omega)

theorem num_sz (n : Int) (L : Nat) (w : World) (h0 : -9223372036854775808 ≤ n) (h1 : n ≤ 9223372036854775807) (hL : (numB n).length = L) :
    Calls Try.prog 7 #[.int .i64 n] w fun e w' => ∃ s : ByteArray, e = .returned (.string s) ∧ s.size = L ∧ Below w.heap.size w w' :=
  (num_any n w h0 h1).mono fun e w' h => ⟨_, h.1, by rw [mk_size]; exact hL, h.2⟩

theorem turn_wrap (n : Int) (h0 : -9223372036854775808 ≤ n) (h1 : n ≤ 9223372036854775807) : wrap64 (-wrap64 (n + 1)) = -n - 1 := by
  unfold wrap64; omega

set_option maxRecDepth 100000 in
set_option maxHeartbeats 1000000 in
theorem walk_b (a0 a1 : Int) (w : World) (h0 : -9223372036854775808 ≤ a0) (h1 : a0 ≤ 9223372036854775807) (k0 : -9223372036854775808 ≤ a1) (k1 : a1 ≤ 9223372036854775807) :
    Calls Try.prog 4 #[.int .i64 a0, .int .i64 a1] w fun e w' => e = .returned (.bool true) ∧ Below w.heap.size w w' := by
  obtain ⟨K, hK8, hk1, hk2⟩ : ∃ K : Nat, K ≤ 8 ∧ (a1 < 0 → (a1 + 1).tmod 9 = -(K : Int)) ∧ (¬ a1 < 0 → a1 % 9 = (K : Int)) := by
    by_cases h : a1 < 0
    · refine ⟨((-(a1 + 1)) % 9).toNat, by omega, fun _ => ?_, fun h' => absurd h h'⟩
      have e := Int.neg_tmod (a1 + 1) 9
      rw [Int.tmod_eq_emod_of_nonneg (a := -(a1 + 1)) (by omega)] at e
      omega
    · exact ⟨(a1 % 9).toNat, by omega, fun h' => absurd h' h, fun _ => by omega⟩
  obtain ⟨P, hPd⟩ : ∃ P : Int, P = ((2 ^ (6 + 7 * K) : Nat) : Int) := ⟨_, rfl⟩
  obtain ⟨e1, e2, e3, e4⟩ := len_edges K P hPd
  have e0 := len_turn a0
  have hP1 : 64 ≤ P := by
    have := Nat.pow_le_pow_right (show 0 < 2 by decide) (show 6 ≤ 6 + 7 * K by omega)
    rw [hPd]; omega
  have hP2 : P ≤ 4611686018427387904 := by
    have := Nat.pow_le_pow_right (show 0 < 2 by decide) (show 6 + 7 * K ≤ 62 by omega)
    rw [hPd]; omega
  have hPw : wrap64 (2 ^ (6 + 7 * K)) = P := by
    have e : ((2 : Int) ^ (6 + 7 * K)) = P := by rw [hPd, Int.natCast_pow]; rfl
    rw [e]; exact IntWalk.wrap64_in P ⟨by omega, by omega⟩
  have HP : Hid (wrap64 (2 ^ (6 + 7 * K)) = P) := hPw
  obtain ⟨L, hL⟩ : ∃ L, (numB a0).length = L := ⟨_, rfl⟩
  have E0 : Hid ((numB a0).length = L) := hL
  have E5 : Hid ((numB (-a0 - 1)).length = L) := by rw [← hL]; exact e0.symm
  have E1 : Hid ((numB (P - 1)).length = K + 1) := e1
  have E2 : Hid ((numB P).length = K + 2) := e2
  have E3 : Hid ((numB (-P)).length = K + 1) := e3
  have E4 : Hid ((numB (-P - 1)).length = K + 2) := e4
  clear hPw e0 e1 e2 e3 e4 hPd hL
  by_cases hneg : a1 < 0
  all_goals
    first
    | have hk := hk1 hneg
    | have hk := hk2 hneg
    clear hk1 hk2
    go_enter Try.func4, Try.ntmps4
    go_wp2_with fail
    refine (examples_any _).mono ?_
    rintro e w1 ⟨rfl, b1⟩
    go_wp2_with fail
    rw [HP.out]
    try rw [hk]
    clear hk
    refine (num_sz a0 L _ h0 h1 E0.out).mono ?_
    rintro e w2 ⟨s0, rfl, hs0, b2⟩
    go_wp2_with fail
    rw [turn_wrap a0 h0 h1]
    refine (num_sz (-a0 - 1) L _ (by omega) (by omega) E5.out).mono ?_
    rintro e w3 ⟨s1, rfl, hs1, b3⟩
    go_wp2_with fail
    refine (num_sz (P - 1) (K + 1) _ (by omega) (by omega) E1.out).mono ?_
    rintro e w4 ⟨s2, rfl, hs2, b4⟩
    go_wp2_with fail
    refine (num_sz P (K + 2) _ (by omega) (by omega) E2.out).mono ?_
    rintro e w5 ⟨s3, rfl, hs3, b5⟩
    go_wp2_with fail
    refine (num_sz (-P) (K + 1) _ (by omega) (by omega) E3.out).mono ?_
    rintro e w6 ⟨s4, rfl, hs4, b6⟩
    go_wp2_with fail
    refine (num_sz (-P - 1) (K + 2) _ (by omega) (by omega) E4.out).mono ?_
    rintro e w7 ⟨s5, rfl, hs5, b7⟩
    have bb := bel_trans (bel_trans (bel_trans (bel_trans (bel_trans (bel_trans b1 b2) b3) b4) b5) b6) b7
    clear b1 b2 b3 b4 b5 b6 b7
    go_wp2
    go_ret
    exact ⟨rfl, bb⟩

theorem walk (a0 : Int) (a1 : Int) (w0 : (Lit.int .i64 a0).wf = true) (w1 : (Lit.int .i64 a1).wf = true) (w : World) :
    Calls Try.prog 4 #[.int .i64 a0, .int .i64 a1] w fun e w' => e = .returned (.bool true) ∧ Below w.heap.size w w' :=
  walk_b a0 a1 w (bounds_i64 w0).1 (bounds_i64 w0).2 (bounds_i64 w1).1 (bounds_i64 w1).2

set_option maxRecDepth 100000 in
theorem lifted (os : Os) (started : os.Started) (H : Type) (enc : TypeId × Value → H) :
    ReturnsInHanded {} Try.checked os 4 .any (Rows.wireSizesSpec.pre6 enc Try.prog Try.f4 Rows.wireSizesRow.domain false) (Rows.wireSizesSpec.post enc Try.prog Try.f4 false true false false) := by
  refine returnsInHanded_of_change (C := Try.checked) own started (by kernel_rfl) Try.func4
    (ChangeSpec.witness6 (enc := enc) (C := Try.checked) false ⟨#[], #[.int .i64 0, .int .i64 0], []⟩ 8 (by kernel_rfl) (by kernel_rfl) (by kernel_rfl) (by kernel_rfl)) ?_
  intro W base args ds gs before hval0 hW hcnd _
  have hval : ∀ (j : Nat) t v, Try.f4.params[j]? = some t → args[j]? = some v → Value.okWide Try.prog W .any base t v := hval0
  have hW' := hW
  obtain ⟨p, q, hA0, hV, rfl, hfz, hnd⟩ := hW
  have hA : DataW.TrodAll enc Try.prog W 0 (fun _ => true) true Try.f4.params.toList args.toList ds p := hA0
  rw [Try.params4] at hA hval
  obtain ⟨v0, vs0, d0, ds0, p0, q0, hargs, rfl, rfl, h0, r0⟩ := trodAll_cons hA
  obtain ⟨v1, vs1, d1, ds1, p1, q1, rfl, rfl, rfl, h1, r1⟩ := trodAll_cons r0
  obtain ⟨rfl, rfl, rfl⟩ := trodAll_nil r1
  obtain rfl : args = #[v0, v1] := by cases args; simp_all
  obtain ⟨rfl, rfl⟩ := trodVars_none hV
  obtain ⟨a0, rfl, rfl, rfl, w0⟩ := open_int Try.underlying3 (hval 0 3 v0 rfl rfl) h0
  obtain ⟨a1, rfl, rfl, rfl, w1⟩ := open_int Try.underlying3 (hval 1 3 v1 rfl rfl) h1
  clear hA0 hval0
  refine (walk a0 a1 w0 w1 W).mono fun e W' ⟨he, bel⟩ => ?_
  subst he
  exact ⟨_, rfl, _, _, _, [], _, [], hW', trodAll_mk1 (shut_bool Try.underlying4 _), (trodAll_cons_mk (shut_int Try.underlying3 w0) (trodAll_cons_mk (shut_int Try.underlying3 w1) trodAll_mk0)), rfl, bel.frame _, fun h => by cases h⟩

theorem over : Rows.wireSizesRow.holds Try.pinned (OpenSpec.ofChange Rows.wireSizesSpec) :=
  OpenClaim.holds_of_wide 4 Try.f4 rfl rfl rfl rfl rfl rfl rfl ⟨rfl, rfl, rfl, rfl, rfl⟩ rfl rfl rfl rfl rfl (by kernel_rfl) Try.func4 (by kernel_rfl)
    (of_decide_eq_true (by kernel_rfl)) (by unfold Func.isWrapper; first | (rw [if_pos (by decide +kernel)]; kernel_rfl) | (rw [if_neg (by decide +kernel)]; exact ⟨rfl, rfl⟩))
    (fun os started H enc _ => lifted os started H enc)
end Go.Proofs.Ytoppdclmahelmab.wireSizes

namespace Go.Proofs.Ytoppdclmahelmab
/-- The statement. -/
theorem wireSizes_holds : Rows.WireSizesSaid := wireSizes.over
#print axioms wireSizes_holds
end Go.Proofs.Ytoppdclmahelmab
