/- PathTells: for every three strings: the statement's function returns true; nothing that was there is changed. No condition. -/
import Derived.Test.YtnoblmpelebemaaPathEx
import Derived.Test.YtnoblmpelebemaaPathRT
import Derived.Test.YtnoblmpelebemaaOpenAll
namespace Go.Proofs.Ytnoblmpelebemaa.pathTells
open Go.ChangeShapes Go.WideShapes Go.ChangeAt Go.RowKit
open Go.ChangeMaps (open_string shut_string)
set_option linter.unusedVariables false

theorem own : ownKnob Try.prog.godebug = none := by kernel_rfl

set_option maxRecDepth 100000 in
set_option maxHeartbeats 1000000 in
theorem walk (a0 a1 a2 : ByteArray) (h0 : a0.size ≤ maxLen) (h1 : a1.size ≤ maxLen) (h2 : a2.size ≤ maxLen) (w : World) :
    Calls Try.prog 4 #[.string a0, .string a1, .string a2] w fun e w' => e = .returned (.bool true) ∧ Below w.heap.size w w' := by
  obtain ⟨⟨d, n, E⟩, hP⟩ : ∃ x, parentX a0 = x := ⟨_, rfl⟩
  obtain ⟨⟨T, F⟩, hM⟩ : ∃ x, moveX a0 a1 a2 = x := ⟨_, rfl⟩
  obtain ⟨u, hU⟩ : ∃ x, underB a1 a0 = x := ⟨_, rfl⟩
  have HP : Hid (parentX a0 = (d, n, E)) := hP
  have HM : Hid (moveX a0 a1 a2 = (T, F)) := hM
  have HU : Hid (underB a1 a0 = u) := hU
  clear hP hM hU
  go_enter Try.func4, Try.ntmps4
  go_wp2_with fail
  refine (examples_any _).mono ?_
  rintro e w1 ⟨rfl, cc⟩
  go_wp2_with (first
    | (go_at_call 17; refine (parent_val a0 d n E _ h0 HP.out).mono ?_; rintro e wn ⟨rfl, c⟩; replace cc := bel_trans cc c; clear c)
    | (go_at_call 18; refine (refParent_val a0 d n E _ h0 HP.out).mono ?_; rintro e wn ⟨rfl, c⟩; replace cc := bel_trans cc c; clear c)
    | (go_at_call 19; refine (move_val a0 a1 a2 T F _ h0 h1 h2 HM.out).mono ?_; rintro e wn ⟨rfl, c⟩; replace cc := bel_trans cc c; clear c)
    | (go_at_call 20; refine (refMove_val a0 a1 a2 T F _ h0 h1 h2 HM.out).mono ?_; rintro e wn ⟨rfl, c⟩; replace cc := bel_trans cc c; clear c)
    | (go_at_call 21; refine (under_val a1 a0 u _ h1 h0 HU.out).mono ?_; rintro e wn ⟨rfl, c⟩; replace cc := bel_trans cc c; clear c)
    | (go_at_call 22; refine (refUnder_val a1 a0 u _ h1 h0 HU.out).mono ?_; rintro e wn ⟨rfl, c⟩; replace cc := bel_trans cc c; clear c))
  go_ret
  exact ⟨rfl, cc⟩

set_option maxRecDepth 100000 in
theorem lifted (os : Os) (started : os.Started) (H : Type) (enc : TypeId × Value → H) :
    ReturnsInHanded {} Try.checked os 4 .any (Rows.pathTellsSpec.pre6 enc Try.prog Try.f4 Rows.pathTellsRow.domain false) (Rows.pathTellsSpec.post enc Try.prog Try.f4 false true false false) := by
  refine returnsInHanded_of_change (C := Try.checked) own started (by kernel_rfl) Try.func4
    (ChangeSpec.witness6 (enc := enc) (C := Try.checked) false ⟨#[], #[.string ByteArray.empty, .string ByteArray.empty, .string ByteArray.empty], []⟩ 8 (by kernel_rfl) (by kernel_rfl) (by kernel_rfl) (by kernel_rfl)) ?_
  intro W base args ds gs before hval0 hW hcnd _
  have hval : ∀ (j : Nat) t v, Try.f4.params[j]? = some t → args[j]? = some v → Value.okWide Try.prog W .any base t v := hval0
  have hW' := hW
  obtain ⟨p, q, hA0, hV, rfl, hfz, hnd⟩ := hW
  have hA : DataW.TrodAll enc Try.prog W 0 (fun _ => true) true Try.f4.params.toList args.toList ds p := hA0
  rw [Try.params4] at hA hval
  obtain ⟨v0, vs0, d0, ds0, p0, q0, hargs, rfl, rfl, h0, r0⟩ := trodAll_cons hA
  obtain ⟨v1, vs1, d1, ds1, p1, q1, rfl, rfl, rfl, h1, r1⟩ := trodAll_cons r0
  obtain ⟨v2, vs2, d2, ds2, p2, q2, rfl, rfl, rfl, h2, r2⟩ := trodAll_cons r1
  obtain ⟨rfl, rfl, rfl⟩ := trodAll_nil r2
  obtain rfl : args = #[v0, v1, v2] := by cases args; simp_all
  obtain ⟨rfl, rfl⟩ := trodVars_none hV
  obtain ⟨a0, rfl, rfl, rfl, w0⟩ := open_string Try.underlying9 (hval 0 9 v0 rfl rfl) h0
  obtain ⟨a1, rfl, rfl, rfl, w1⟩ := open_string Try.underlying9 (hval 1 9 v1 rfl rfl) h1
  obtain ⟨a2, rfl, rfl, rfl, w2⟩ := open_string Try.underlying9 (hval 2 9 v2 rfl rfl) h2
  clear hA0 hval0
  refine (walk a0 a1 a2 w0 w1 w2 W).mono fun e W' ⟨he, bel⟩ => ?_
  subst he
  exact ⟨_, rfl, _, _, _, [], _, [], hW', trodAll_mk1 (shut_bool Try.underlying4 _), (trodAll_cons_mk (shut_string Try.underlying9 w0) (trodAll_cons_mk (shut_string Try.underlying9 w1) (trodAll_cons_mk (shut_string Try.underlying9 w2) trodAll_mk0))), rfl, bel.frame _, fun h => by cases h⟩

theorem over : Rows.pathTellsRow.holds Try.pinned (OpenSpec.ofChange Rows.pathTellsSpec) :=
  OpenClaim.holds_of_wide 4 Try.f4 rfl rfl rfl rfl rfl rfl rfl ⟨rfl, rfl, rfl, rfl, rfl⟩ rfl rfl rfl rfl rfl (by kernel_rfl) Try.func4 (by kernel_rfl)
    (of_decide_eq_true (by kernel_rfl)) (by unfold Func.isWrapper; first | (rw [if_pos (by decide +kernel)]; kernel_rfl) | (rw [if_neg (by decide +kernel)]; exact ⟨rfl, rfl⟩))
    (fun os started H enc _ => lifted os started H enc)
end Go.Proofs.Ytnoblmpelebemaa.pathTells

namespace Go.Proofs.Ytnoblmpelebemaa
/-- The statement. -/
theorem pathTells_holds : Rows.PathTellsSaid := pathTells.over
#print axioms pathTells_holds
end Go.Proofs.Ytnoblmpelebemaa
