/- PathMoves: for every three strings: the statement's function returns true; nothing that was there is changed. No condition. -/
import Derived.Test.YtnoblmpelebemaaPathEx
import Derived.Test.YtnoblmpelebemaaPathLM
import Derived.Test.YtnoblmpelebemaaOpenAll
namespace Go.Proofs.Ytnoblmpelebemaa.pathMoves
open Go.ChangeShapes Go.WideShapes Go.ChangeAt Go.RowKit
open Go.ChangeMaps (open_string shut_string)
set_option linter.unusedVariables false

theorem own : ownKnob Try.prog.godebug = none := by kernel_rfl

set_option maxRecDepth 100000 in
set_option maxHeartbeats 1000000 in
theorem walk (a0 a1 a2 : ByteArray) (h0 : a0.size ≤ maxLen) (h1 : a1.size ≤ maxLen) (h2 : a2.size ≤ maxLen) (w : World) :
    Calls Try.prog 7 #[.string a0, .string a1, .string a2] w fun e w' => e = .returned (.bool true) ∧ Below w.heap.size w w' := by
  obtain ⟨⟨T, F⟩, hM⟩ : ∃ x, moveX a0 a1 a2 = x := ⟨_, rfl⟩
  by_cases hF : F = 0
  · subst hF
    obtain ⟨hB, hU, hs⟩ := move_back hM
    have h3 : T.size ≤ maxLen := by unfold maxLen; omega
    have HM : Hid (moveX a0 a1 a2 = (T, 0)) := hM
    have HB : Hid (moveX T a2 a1 = (a0, 0)) := hB
    have HU : Hid (underB a2 T = true) := hU
    clear hM hB hU hs
    go_enter Try.func7, Try.ntmps7
    go_wp2_with fail
    refine (examples_any _).mono ?_
    rintro e w1 ⟨rfl, c1⟩
    go_wp2_with fail
    refine (move_val a0 a1 a2 T 0 _ h0 h1 h2 HM.out).mono ?_
    rintro e w2 ⟨rfl, c2⟩
    go_wp2_with fail
    refine (move_val T a2 a1 a0 0 _ h3 h2 h1 HB.out).mono ?_
    rintro e w3 ⟨rfl, c3⟩
    have cc := bel_trans c1 (bel_trans c2 c3)
    go_wp2_with (go_at_call 21; refine (under_val a2 T true _ h2 h3 HU.out).mono ?_; rintro e w4 ⟨rfl, c4⟩)
    go_ret
    exact ⟨rfl, bel_trans cc c4⟩
  · have hT := moveX_empty hM hF
    subst hT
    have HM : Hid (moveX a0 a1 a2 = (⟨#[]⟩, F)) := hM
    clear hM
    go_enter Try.func7, Try.ntmps7
    go_wp2_with fail
    refine (examples_any _).mono ?_
    rintro e w1 ⟨rfl, c1⟩
    go_wp2_with fail
    refine (move_val a0 a1 a2 ⟨#[]⟩ F _ h0 h1 h2 HM.out).mono ?_
    rintro e w2 ⟨rfl, c2⟩
    go_wp2
    go_ret
    exact ⟨rfl, bel_trans c1 c2⟩

set_option maxRecDepth 100000 in
theorem lifted (os : Os) (started : os.Started) (H : Type) (enc : TypeId × Value → H) :
    ReturnsInHanded {} Try.checked os 7 .any (Rows.pathMovesSpec.pre6 enc Try.prog Try.f7 Rows.pathMovesRow.domain false) (Rows.pathMovesSpec.post enc Try.prog Try.f7 false true false false) := by
  refine returnsInHanded_of_change (C := Try.checked) own started (by kernel_rfl) Try.func7
    (ChangeSpec.witness6 (enc := enc) (C := Try.checked) false ⟨#[], #[.string ByteArray.empty, .string ByteArray.empty, .string ByteArray.empty], []⟩ 8 (by kernel_rfl) (by kernel_rfl) (by kernel_rfl) (by kernel_rfl)) ?_
  intro W base args ds gs before hval0 hW hcnd _
  have hval : ∀ (j : Nat) t v, Try.f7.params[j]? = some t → args[j]? = some v → Value.okWide Try.prog W .any base t v := hval0
  have hW' := hW
  obtain ⟨p, q, hA0, hV, rfl, hfz, hnd⟩ := hW
  have hA : DataW.TrodAll enc Try.prog W 0 (fun _ => true) true Try.f7.params.toList args.toList ds p := hA0
  rw [Try.params7] at hA hval
  obtain ⟨v0, vs0, d0, ds0, p0, q0, hargs, rfl, rfl, h0, r0⟩ := trodAll_cons hA
  obtain ⟨v1, vs1, d1, ds1, p1, q1, rfl, rfl, rfl, h1, r1⟩ := trodAll_cons r0
  obtain ⟨v2, vs2, d2, ds2, p2, q2, rfl, rfl, rfl, h2, r2⟩ := trodAll_cons r1
  obtain ⟨rfl, rfl, rfl⟩ := trodAll_nil r2
  obtain rfl : args = #[v0, v1, v2] := by cases args; simp_all
  obtain ⟨rfl, rfl⟩ := trodVars_none hV
  obtain ⟨a0, rfl, rfl, rfl, w0⟩ := open_string Try.underlying9 (hval 0 9 v0 rfl rfl) h0
  obtain ⟨a1, rfl, rfl, rfl, w1⟩ := open_string Try.underlying9 (hval 1 9 v1 rfl rfl) h1
  obtain ⟨a2, rfl, rfl, rfl, w2⟩ := open_string Try.underlying9 (hval 2 9 v2 rfl rfl) h2
  clear hA0 hval0
  refine (walk a0 a1 a2 w0 w1 w2 W).mono fun e W' ⟨he, bel⟩ => ?_
  subst he
  exact ⟨_, rfl, _, _, _, [], _, [], hW', trodAll_mk1 (shut_bool Try.underlying4 _), (trodAll_cons_mk (shut_string Try.underlying9 w0) (trodAll_cons_mk (shut_string Try.underlying9 w1) (trodAll_cons_mk (shut_string Try.underlying9 w2) trodAll_mk0))), rfl, bel.frame _, fun h => by cases h⟩

theorem over : Rows.pathMovesRow.holds Try.pinned (OpenSpec.ofChange Rows.pathMovesSpec) :=
  OpenClaim.holds_of_wide 7 Try.f7 rfl rfl rfl rfl rfl rfl rfl ⟨rfl, rfl, rfl, rfl, rfl⟩ rfl rfl rfl rfl rfl (by kernel_rfl) Try.func7 (by kernel_rfl)
    (of_decide_eq_true (by kernel_rfl)) (by unfold Func.isWrapper; first | (rw [if_pos (by decide +kernel)]; kernel_rfl) | (rw [if_neg (by decide +kernel)]; exact ⟨rfl, rfl⟩))
    (fun os started H enc _ => lifted os started H enc)
end Go.Proofs.Ytnoblmpelebemaa.pathMoves

namespace Go.Proofs.Ytnoblmpelebemaa
/-- The statement. -/
theorem pathMoves_holds : Rows.PathMovesSaid := pathMoves.over
#print axioms pathMoves_holds
end Go.Proofs.Ytnoblmpelebemaa
