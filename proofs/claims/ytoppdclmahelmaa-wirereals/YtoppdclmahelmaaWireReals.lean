/- WireReals: for every float64 and every string: the statement's function returns true; nothing that was there is changed. No condition. -/
import Derived.Test.YtoppdclmahelmaaWireRealR
import Derived.ProofKit
import Derived.OpenShut
import Derived.ShutString
import Derived.ChangeOld
import Derived.Below
import Derived.Laws.Cover2
namespace Go.Proofs.Ytoppdclmahelmaa.wireReals
open Go.ChangeShapes Go.WideShapes Go.ChangeAt Go.RowKit
open Go.ChangeMaps (open_string shut_string)
set_option linter.unusedVariables false

theorem own : ownKnob Try.prog.godebug = none := by kernel_rfl

theorem take_both (s : ByteArray) (hs : s.size ≤ maxLen) : ∃ (b : Nat) (r : ByteArray) (e : Int) (ok : Bool), (∀ w, Calls Try.prog 14 #[.string s] w fun x w' => x = .returned (.tuple #[.float .f64 b, .string r, .int .i64 e]) ∧ Below w.heap.size w w') ∧
    (∀ w, Calls Try.prog 15 #[.string s] w fun x w' => x = .returned (.tuple #[.float .f64 b, .string r, .bool ok]) ∧ Below w.heap.size w w') ∧ (ok = true ∧ e = 0 ∨ ok = false ∧ e = 2) := by
  cases h : takeR s with
  | none => exact ⟨_, _, 2, false, fun w => takeReal_any s _ w hs (by rw [h]), fun w => refTakeReal_any s _ w hs (by rw [h]), .inr ⟨rfl, rfl⟩⟩
  | some b => exact ⟨b, _, 0, true, fun w => takeReal_any s _ w hs (by rw [h]), fun w => refTakeReal_any s _ w hs (by rw [h]), .inl ⟨rfl, rfl⟩⟩

set_option maxRecDepth 100000 in
set_option maxHeartbeats 1000000 in
theorem walk (a0 : Nat) (a1 : ByteArray) (h0 : (Lit.float .f64 a0).wf = true) (h1 : a1.size ≤ maxLen) (w : World) :
    Calls Try.prog 4 #[.float .f64 a0, .string a1] w fun e w' => e = .returned (.bool true) ∧ Below w.heap.size w w' := by
  obtain ⟨b, r, f, fine, c3, c4, hy⟩ := take_both a1 h1
  have C3 : Hid _ := c3
  have C4 : Hid _ := c4
  clear c3 c4 h0 h1
  rcases hy with ⟨rfl, rfl⟩ | ⟨rfl, rfl⟩
  all_goals
    go_enter Try.func4, Try.ntmps4
    go_wp2_with fail
    refine (examples_any _).mono ?_
    rintro e w1 ⟨rfl, b1⟩
    go_wp2_with fail
    refine (C3.out _).mono ?_
    rintro e w2 ⟨rfl, b2⟩
    go_wp2_with fail
    refine (C4.out _).mono ?_
    rintro e w3 ⟨rfl, b3⟩
    go_wp2_with fail
    refine (same_any b _).mono ?_
    rintro e w4 ⟨rfl, b4⟩
    go_wp2_with fail
    refine (real_any a0 _).mono ?_
    rintro e w5 ⟨rfl, b5⟩
    go_wp2_with fail
    refine (refReal_any a0 _).mono ?_
    rintro e w6 ⟨rfl, b6⟩
    have bb := bel_trans (bel_trans (bel_trans (bel_trans (bel_trans b1 b2) b3) b4) b5) b6
    clear b1 b2 b3 b4 b5 b6 C3 C4
    generalize beB (realZ a0) = x at *
    go_wp2
    go_ret
    exact ⟨rfl, bb⟩

set_option maxRecDepth 100000 in
theorem lifted (os : Os) (started : os.Started) (H : Type) (enc : TypeId × Value → H) :
    ReturnsInHanded {} Try.checked os 4 .any (Rows.wireRealsSpec.pre6 enc Try.prog Try.f4 Rows.wireRealsRow.domain false) (Rows.wireRealsSpec.post enc Try.prog Try.f4 false true false false) := by
  refine returnsInHanded_of_change (C := Try.checked) own started (by kernel_rfl) Try.func4
    (ChangeSpec.witness6 (enc := enc) (C := Try.checked) false ⟨#[], #[.float .f64 0, .string ByteArray.empty], []⟩ 8 (by kernel_rfl) (by kernel_rfl) (by kernel_rfl) (by kernel_rfl)) ?_
  intro W base args ds gs before hval0 hW hcnd _
  have hval : ∀ (j : Nat) t v, Try.f4.params[j]? = some t → args[j]? = some v → Value.okWide Try.prog W .any base t v := hval0
  have hW' := hW
  obtain ⟨p, q, hA0, hV, rfl, hfz, hnd⟩ := hW
  have hA : DataW.TrodAll enc Try.prog W 0 (fun _ => true) true Try.f4.params.toList args.toList ds p := hA0
  rw [Try.params4] at hA hval
  obtain ⟨v0, vs0, d0, ds0, p0, q0, hargs, rfl, rfl, h0, r0⟩ := trodAll_cons hA
  obtain ⟨v1, vs1, d1, ds1, p1, q1, rfl, rfl, rfl, h1, r1⟩ := trodAll_cons r0
  obtain ⟨rfl, rfl, rfl⟩ := trodAll_nil r1
  obtain rfl : args = #[v0, v1] := by cases args; simp_all
  obtain ⟨rfl, rfl⟩ := trodVars_none hV
  obtain ⟨a0, rfl, rfl, rfl, w0⟩ := open_float Try.underlying30 (hval 0 30 v0 rfl rfl) h0
  obtain ⟨a1, rfl, rfl, rfl, w1⟩ := open_string Try.underlying9 (hval 1 9 v1 rfl rfl) h1
  clear hA0 hval0
  refine (walk a0 a1 w0 w1 W).mono fun e W' ⟨he, bel⟩ => ?_
  subst he
  exact ⟨_, rfl, _, _, _, [], _, [], hW', trodAll_mk1 (shut_bool Try.underlying4 _), (trodAll_cons_mk (shut_float Try.underlying30 w0) (trodAll_cons_mk (shut_string Try.underlying9 w1) trodAll_mk0)), rfl, bel.frame _, fun h => by cases h⟩

theorem over : Rows.wireRealsRow.holds Try.pinned (OpenSpec.ofChange Rows.wireRealsSpec) :=
  OpenClaim.holds_of_wide 4 Try.f4 rfl rfl rfl rfl rfl rfl rfl ⟨rfl, rfl, rfl, rfl, rfl⟩ rfl rfl rfl rfl rfl (by kernel_rfl) Try.func4 (by kernel_rfl)
    (of_decide_eq_true (by kernel_rfl)) (by unfold Func.isWrapper; first | (rw [if_pos (by decide +kernel)]; kernel_rfl) | (rw [if_neg (by decide +kernel)]; exact ⟨rfl, rfl⟩))
    (fun os started H enc _ => lifted os started H enc)
end Go.Proofs.Ytoppdclmahelmaa.wireReals

namespace Go.Proofs.Ytoppdclmahelmaa
/-- The statement. -/
theorem wireReals_holds : Rows.WireRealsSaid := wireReals.over
#print axioms wireReals_holds
end Go.Proofs.Ytoppdclmahelmaa
