/- PathUnder: for every three strings: the statement's function returns true; nothing that was there is changed. No condition. -/
import Derived.Test.YtnoblmpelebemaaPathEx
import Derived.Test.YtnoblmpelebemaaPathLM
import Derived.Test.YtnoblmpelebemaaOpenAll
namespace Go.Proofs.Ytnoblmpelebemaa.pathUnder
open Go.ChangeShapes Go.WideShapes Go.ChangeAt Go.RowKit
open Go.ChangeMaps (open_string shut_string)
set_option linter.unusedVariables false

theorem own : ownKnob Try.prog.godebug = none := by kernel_rfl

theorem under_is (a b : ByteArray) (w : World) (hs : a.size ≤ maxLen) (hs2 : b.size ≤ maxLen) :
    Calls Try.prog 21 #[.string a, .string b] w fun e w' => e = .returned (.bool (underB a b)) ∧ Below w.heap.size w w' := under_val a b _ w hs hs2 rfl

theorem ways (a b c : ByteArray) : underB a b = false ∨ (underB a b = true ∧ underB b a = false ∧ underB b c = false) ∨ (underB a b = true ∧ underB b a = false ∧ underB b c = true ∧ underB a c = true) ∨ (a = b ∧ underB a b = true ∧ underB b c = false) ∨ (a = b ∧ underB a b = true ∧ underB b c = true) := by
  cases e1 : underB a b with
  | false => exact .inl rfl
  | true =>
    cases e2 : underB b a with
    | false =>
      cases e3 : underB b c with
      | false => exact .inr (.inl ⟨rfl, rfl, rfl⟩)
      | true => exact .inr (.inr (.inl ⟨rfl, rfl, rfl, under_trans e1 e3⟩))
    | true =>
      have e := under_both e1 e2
      cases e3 : underB b c with
      | false => exact .inr (.inr (.inr (.inl ⟨e, rfl, rfl⟩)))
      | true => exact .inr (.inr (.inr (.inr ⟨e, rfl, rfl⟩)))

/-- From Parent on: the walk's end is the same, whatever came ahead. -/
theorem parts (a0 : ByteArray) : ∃ (d n : ByteArray) (E : Int) (N : List ByteArray) (F : Int) (l : Nat), Hid (parentX a0 = (d, n, E)) ∧ Hid (splitX a0 = (N, F)) ∧ Hid (N.length = l) ∧
    ((E = 0 ∧ d.size ≤ maxLen ∧ n.size ≤ maxLen ∧ underB d a0 = true ∧ underB a0 a0 = true ∧ underB a0 d = false ∧ nameB n = true ∧ underB ⟨#[47]⟩ a0 = true) ∨ (E ≠ 0 ∧ F ≠ 0) ∨ (E ≠ 0 ∧ F = 0 ∧ (a0.toList == [47]) = true)) := by
  obtain ⟨⟨d, n, E⟩, hP⟩ : ∃ x, parentX a0 = x := ⟨_, rfl⟩
  refine ⟨d, n, E, splitN a0, splitE a0, _, hP, splitX_pair a0, rfl, ?_⟩
  by_cases hE : E = 0
  · subst hE
    obtain ⟨v1, v2, v3, v4, v5, v6, v7⟩ := parent_unders hP
    exact .inl ⟨rfl, by unfold maxLen; omega, by unfold maxLen; omega, v1, v2, v3, v4, v5⟩
  · by_cases hF : splitE a0 = 0
    · rcases parent_bad hP hE with h | h
      · exact absurd hF h
      · exact .inr (.inr ⟨hE, hF, h⟩)
    · exact .inr (.inl ⟨hE, hF⟩)

theorem size47 : (⟨#[47]⟩ : ByteArray).size ≤ maxLen := lit_le _ (by decide)

set_option maxRecDepth 100000 in
set_option maxHeartbeats 2000000 in
theorem walk (a0 a1 a2 : ByteArray) (h0 : a0.size ≤ maxLen) (h1 : a1.size ≤ maxLen) (h2 : a2.size ≤ maxLen) (w : World) :
    Calls Try.prog 6 #[.string a0, .string a1, .string a2] w fun e w' => e = .returned (.bool true) ∧ Below w.heap.size w w' := by
  obtain ⟨d, n, E, N, F, l, HP, HX, HL, hW⟩ := parts a0
  have HW : Hid _ := hW
  clear hW
  have h47 := size47
  rcases ways a0 a1 a2 with k1 | ⟨k1, k2, k3⟩ | ⟨k1, k2, k3, k4⟩ | ⟨rfl, k1, k3⟩ | ⟨rfl, k1, k3⟩
  all_goals
    go_enter Try.func6, Try.ntmps6
    go_wp2_with fail
    refine (examples_any _).mono ?_
    rintro e w1 ⟨rfl, cc⟩
    go_wp2_with (go_at_call 21; refine (under_is _ _ _ (by assumption) (by assumption)).mono ?_; rintro e wn ⟨rfl, c⟩; replace cc := bel_trans cc c; clear c)
    refine (parent_val a0 d n E _ h0 HP.out).mono ?_
    rintro e wp ⟨rfl, c⟩
    replace cc := bel_trans cc c
    clear c
    go_wp2_with fail
    refine (split_val a0 N F l _ h0 HX.out HL.out).mono ?_
    rintro e wq ⟨ax, bx, capx, rfl, hSx, c⟩
    replace cc := bel_trans cc c
    clear c hSx k1
    rcases HW.out with ⟨rfl, hd, hn, v1, v2, v3, v4, v5⟩ | ⟨hE, hF⟩ | ⟨hE, hF, h4⟩
    · clear HW
      go_wp2_with (first
        | (go_at_call 21; refine (under_is _ _ _ (by assumption) (by assumption)).mono ?_; rintro e wn ⟨rfl, c⟩; replace cc := bel_trans cc c; clear c)
        | (go_at_call 15; refine (name_val n true _ hn v4).mono ?_; rintro e wn ⟨rfl, rfl⟩))
      go_ret
      exact ⟨rfl, cc⟩
    · clear HW
      go_wp2
      go_ret
      exact ⟨rfl, cc⟩
    · clear HW
      go_wp2
      go_ret
      exact ⟨rfl, cc⟩

set_option maxRecDepth 100000 in
theorem lifted (os : Os) (started : os.Started) (H : Type) (enc : TypeId × Value → H) :
    ReturnsInHanded {} Try.checked os 6 .any (Rows.pathUnderSpec.pre6 enc Try.prog Try.f6 Rows.pathUnderRow.domain false) (Rows.pathUnderSpec.post enc Try.prog Try.f6 false true false false) := by
  refine returnsInHanded_of_change (C := Try.checked) own started (by kernel_rfl) Try.func6
    (ChangeSpec.witness6 (enc := enc) (C := Try.checked) false ⟨#[], #[.string ByteArray.empty, .string ByteArray.empty, .string ByteArray.empty], []⟩ 8 (by kernel_rfl) (by kernel_rfl) (by kernel_rfl) (by kernel_rfl)) ?_
  intro W base args ds gs before hval0 hW hcnd _
  have hval : ∀ (j : Nat) t v, Try.f6.params[j]? = some t → args[j]? = some v → Value.okWide Try.prog W .any base t v := hval0
  have hW' := hW
  obtain ⟨p, q, hA0, hV, rfl, hfz, hnd⟩ := hW
  have hA : DataW.TrodAll enc Try.prog W 0 (fun _ => true) true Try.f6.params.toList args.toList ds p := hA0
  rw [Try.params6] at hA hval
  obtain ⟨v0, vs0, d0, ds0, p0, q0, hargs, rfl, rfl, h0, r0⟩ := trodAll_cons hA
  obtain ⟨v1, vs1, d1, ds1, p1, q1, rfl, rfl, rfl, h1, r1⟩ := trodAll_cons r0
  obtain ⟨v2, vs2, d2, ds2, p2, q2, rfl, rfl, rfl, h2, r2⟩ := trodAll_cons r1
  obtain ⟨rfl, rfl, rfl⟩ := trodAll_nil r2
  obtain rfl : args = #[v0, v1, v2] := by cases args; simp_all
  obtain ⟨rfl, rfl⟩ := trodVars_none hV
  obtain ⟨a0, rfl, rfl, rfl, w0⟩ := open_string Try.underlying9 (hval 0 9 v0 rfl rfl) h0
  obtain ⟨a1, rfl, rfl, rfl, w1⟩ := open_string Try.underlying9 (hval 1 9 v1 rfl rfl) h1
  obtain ⟨a2, rfl, rfl, rfl, w2⟩ := open_string Try.underlying9 (hval 2 9 v2 rfl rfl) h2
  clear hA0 hval0
  refine (walk a0 a1 a2 w0 w1 w2 W).mono fun e W' ⟨he, bel⟩ => ?_
  subst he
  exact ⟨_, rfl, _, _, _, [], _, [], hW', trodAll_mk1 (shut_bool Try.underlying4 _), (trodAll_cons_mk (shut_string Try.underlying9 w0) (trodAll_cons_mk (shut_string Try.underlying9 w1) (trodAll_cons_mk (shut_string Try.underlying9 w2) trodAll_mk0))), rfl, bel.frame _, fun h => by cases h⟩

theorem over : Rows.pathUnderRow.holds Try.pinned (OpenSpec.ofChange Rows.pathUnderSpec) :=
  OpenClaim.holds_of_wide 6 Try.f6 rfl rfl rfl rfl rfl rfl rfl ⟨rfl, rfl, rfl, rfl, rfl⟩ rfl rfl rfl rfl rfl (by kernel_rfl) Try.func6 (by kernel_rfl)
    (of_decide_eq_true (by kernel_rfl)) (by unfold Func.isWrapper; first | (rw [if_pos (by decide +kernel)]; kernel_rfl) | (rw [if_neg (by decide +kernel)]; exact ⟨rfl, rfl⟩))
    (fun os started H enc _ => lifted os started H enc)
end Go.Proofs.Ytnoblmpelebemaa.pathUnder

namespace Go.Proofs.Ytnoblmpelebemaa
/-- The statement. -/
theorem pathUnder_holds : Rows.PathUnderSaid := pathUnder.over
#print axioms pathUnder_holds
end Go.Proofs.Ytnoblmpelebemaa
