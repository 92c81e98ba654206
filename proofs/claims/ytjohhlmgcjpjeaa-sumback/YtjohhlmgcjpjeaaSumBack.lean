/- SumBack: for all strings: the statement's function returns true; nothing that was there is changed. No condition (a string is at most as long as the row's reach lets it be). -/
import Derived.Test.YtjohhlmgcjpjeaaSumSealM
import Derived.Test.YtjohhlmgcjpjeaaSumEx
import Derived.ProofKit
import Derived.OpenShut
import Derived.ShutString
import Derived.ChangeOld
import Derived.Below
import Derived.SizedLaws
namespace Go.Proofs.Ytjohhlmgcjpjeaa.sumBack
open Go.ChangeShapes Go.WideShapes Go.ChangeAt Go.RowKit
open Go.ChangeMaps (open_string shut_string)
set_option linter.unusedVariables false

theorem own : ownKnob Try.prog.godebug = none := by kernel_rfl

set_option maxRecDepth 100000 in
set_option maxHeartbeats 1000000 in
theorem walk (s r : ByteArray) (h0 : s.size ≤ maxLen) (h1 : r.size ≤ maxLen) (w : World) (z0 : s.size ≤ 140737488351232) (z1 : r.size ≤ 140737488351232) :
    Calls Try.prog 5 #[.string s, .string r] w fun e w' => e = .returned (.bool true) ∧ Below w.heap.size w w' := by
  by_cases hl : s.size ≤ 4000
  · have hB : openT (sealB s ++ r) = (s, r, 0) := open_back s r hl
    have hsz := sealB_size s
    have hn := numB_len (n := (s.size : Int)) (by omega) (by omega)
    have hp : 0 < (numB s.size).length := by unfold numB; exact Lib.uvarint_pos _
    have ha := fun (w : World) => run_string_add_sum (P := Try.prog) w (sealB s) r (by omega)
    have hgt : s.size + 4 < (sealB s).size := by omega
    have hX : (sealB s ++ r).size ≤ maxLen := by rw [app_size]; unfold maxLen; omega
    generalize hB1 : sealB s = B at *
    generalize hB2 : B ++ r = X at *
    have HB : Hid _ := hB
    have H1 : Hid _ := hB1
    have HX : Hid _ := hX
    clear hB hB1 hX hsz hB2 hn hp
    go_enter Try.func5, Try.ntmps5
    go_wp2_with fail
    refine (examples2_any _).mono ?_
    rintro e w1 ⟨rfl, b1⟩
    go_wp2_with fail
    have hse := seal_yes s w1 hl
    rw [H1.out] at hse
    refine hse.mono ?_
    rintro e w2 ⟨rfl, b2⟩
    clear hse
    go_wp2_with fail
    refine (open_any X s r 0 _ HX.out HB.out).mono ?_
    rintro e w3 ⟨rfl, b3⟩
    go_wp2
    go_ret
    refine ⟨ret_bool ?_, bel_trans (bel_trans b1 b2) b3⟩
    have h : (s.size : Int) + 4 < (B.size : Int) := by omega
    simpa using h
  · have hl' : 4000 < s.size := by omega
    go_enter Try.func5, Try.ntmps5
    go_wp2_with fail
    refine (examples2_any _).mono ?_
    rintro e w1 ⟨rfl, b1⟩
    go_wp2_with fail
    refine (seal_no s _ hl').mono ?_
    rintro e w2 ⟨rfl, b2⟩
    go_wp2
    go_ret
    exact ⟨rfl, bel_trans b1 b2⟩

set_option maxRecDepth 100000 in
theorem lifted (os : Os) (started : os.Started) (H : Type) (enc : TypeId × Value → H) :
    ReturnsInHanded {} Try.checked os 5 .any (Rows.sumBackSpec.pre6 enc Try.prog Try.f5 Rows.sumBackRow.domain false) (Rows.sumBackSpec.post enc Try.prog Try.f5 false true false false) := by
  refine returnsInHanded_of_change_sized (C := Try.checked) own started (by kernel_rfl) Try.func5
    (ChangeSpec.witness6 (enc := enc) (C := Try.checked) false ⟨#[], #[.string ByteArray.empty, .string ByteArray.empty], []⟩ 8 (by kernel_rfl) (by kernel_rfl) (by kernel_rfl) (by kernel_rfl)) ?_
  intro W base args ds gs before hval0 hW hcnd hsz0 _
  have hval : ∀ (j : Nat) t v, Try.f5.params[j]? = some t → args[j]? = some v → Value.okWide Try.prog W .any base t v := hval0
  have hW' := hW
  obtain ⟨p, q, hA0, hV, rfl, hfz, hnd⟩ := hW
  have hA : DataW.TrodAll enc Try.prog W 0 (fun _ => true) true Try.f5.params.toList args.toList ds p := hA0
  have hsz : (DataW.weightsEach Try.prog (Try.f5.params.toList ++ Rows.sumBackSpec.plain.varTypes Try.prog) (ds ++ gs)).all (· ≤ reachBytes) = true := hsz0
  rw [Try.params5] at hA hval hsz
  obtain ⟨v0, vs0, d0, ds0, p0, q0, hargs, rfl, rfl, h0, r0⟩ := trodAll_cons hA
  obtain ⟨v1, vs1, d1, ds1, p1, q1, rfl, rfl, rfl, h1, r1⟩ := trodAll_cons r0
  obtain ⟨rfl, rfl, rfl⟩ := trodAll_nil r1
  obtain rfl : args = #[v0, v1] := by cases args; simp_all
  obtain ⟨rfl, rfl⟩ := trodVars_none hV
  obtain ⟨a0, rfl, rfl, rfl, w0⟩ := open_string Try.underlying9 (hval 0 9 v0 rfl rfl) h0
  obtain ⟨a1, rfl, rfl, rfl, w1⟩ := open_string Try.underlying9 (hval 1 9 v1 rfl rfl) h1
  have z0 : a0.size ≤ 140737488351232 := by have h := sized_string hsz (j := 0) (t := 9) rfl rfl; rw [Array.length_toList] at h; exact h
  have z1 : a1.size ≤ 140737488351232 := by have h := sized_string hsz (j := 1) (t := 9) rfl rfl; rw [Array.length_toList] at h; exact h
  clear hA0 hval0
  refine (walk a0 a1 w0 w1 W z0 z1).mono fun e W' ⟨he, bel⟩ => ?_
  subst he
  exact ⟨_, rfl, _, _, _, [], _, [], hW', trodAll_mk1 (shut_bool Try.underlying4 _), (trodAll_cons_mk (shut_string Try.underlying9 w0) (trodAll_cons_mk (shut_string Try.underlying9 w1) trodAll_mk0)), rfl, bel.frame _, fun h => by cases h⟩

theorem over : Rows.sumBackRow.holds Try.pinned (OpenSpec.ofChange Rows.sumBackSpec) :=
  OpenClaim.holds_of_wide 5 Try.f5 rfl rfl rfl rfl rfl rfl rfl ⟨rfl, rfl, rfl, rfl, rfl⟩ rfl rfl rfl rfl rfl (by kernel_rfl) Try.func5 (by kernel_rfl)
    (of_decide_eq_true (by kernel_rfl)) (by unfold Func.isWrapper; first | (rw [if_pos (by decide +kernel)]; kernel_rfl) | (rw [if_neg (by decide +kernel)]; exact ⟨rfl, rfl⟩))
    (fun os started H enc _ => lifted os started H enc)
end Go.Proofs.Ytjohhlmgcjpjeaa.sumBack

namespace Go.Proofs.Ytjohhlmgcjpjeaa
/-- The statement. -/
theorem sumBack_holds : Rows.SumBackSaid := sumBack.over
#print axioms sumBack_holds
end Go.Proofs.Ytjohhlmgcjpjeaa
