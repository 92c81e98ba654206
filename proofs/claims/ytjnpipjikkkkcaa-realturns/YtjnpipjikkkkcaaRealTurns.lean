/- RealTurns: for every three float64: the statement's function returns true; nothing that was there is changed. No condition. -/
import Derived.Test.YtjnpipjikkkkcaaRealSh
import Derived.ProofKit
import Derived.OpenShut
import Derived.ShutString
import Derived.ChangeOld
import Derived.Below
import Derived.Laws.Cover2
namespace Go.Proofs.Ytjnpipjikkkkcaa.realTurns
open Go.ChangeShapes Go.WideShapes Go.ChangeAt Go.RowKit
open Go.ChangeMaps (open_string shut_string)
set_option linter.unusedVariables false

theorem own : ownKnob Try.prog.godebug = none := by kernel_rfl

theorem wf_lt {b : Nat} (h : (Lit.float .f64 b).wf = true) : b < 18446744073709551616 := by simpa [Lit.wf] using h
theorem cmp3 (x y : Int) : x < y ∧ cmpZ x y = -1 ∨ x = y ∧ cmpZ x y = 0 ∨ y < x ∧ cmpZ x y = 1 := by
  unfold cmpZ
  rcases Int.lt_trichotomy x y with h | h | h
  · exact .inl ⟨h, by rw [if_pos h]⟩
  · exact .inr (.inl ⟨h, by rw [if_neg (by omega), if_neg (by omega)]⟩)
  · exact .inr (.inr ⟨h, by rw [if_neg (by omega), if_pos h]⟩)
theorem no_lt {a b : Nat} (h : ¬ key a < key b) : (FloatKind.f64.format.order a b == some .lt) = false := by
  rcases hO : FloatKind.f64.format.order a b with _ | _ | _ | _ <;> first | rfl | skip
  obtain ⟨h1, h2, h3⟩ := fo_some_lt hO
  exact absurd (key_sr h1 h2 h3) h

/-- All that the statement asks for, of whole numbers. -/
structure Tf (a b c : Nat) (X Y Z : Int) (l : Bool) : Prop where
  x : cmpZ (key a) (key b) = X
  x' : cmpZ (key b) (key a) = -X
  y : cmpZ (key b) (key c) = Y
  z : cmpZ (key a) (key c) = Z
  fl : (FloatKind.f64.format.order a b == some .lt) = l
  same : X = 0 ∧ l = false ∧ (a = b ∨ a ≠ b ∧ isN a = true ∧ isN b = true) ∨ (X = -1 ∨ X = 1 ∧ l = false) ∧ a ≠ b ∧ (isN a = false ∨ isN a = true ∧ isN b = false)
  yz : 0 < Y ∨ Y ≤ 0 ∧ (X = -1 ∧ Z < 0 ∨ X = 0 ∧ Z ≤ 0 ∨ X = 1)

theorem facts (a b c : Nat) (ha : a < 18446744073709551616) (hb : b < 18446744073709551616) : ∃ X Y Z l, Tf a b c X Y Z l := by
  refine ⟨_, _, _, _, ⟨rfl, ?_, rfl, rfl, rfl, ?_, ?_⟩⟩
  · rcases cmp3 (key a) (key b) with ⟨h, e⟩ | ⟨h, e⟩ | ⟨h, e⟩ <;> rcases cmp3 (key b) (key a) with ⟨h', e'⟩ | ⟨h', e'⟩ | ⟨h', e'⟩ <;> rw [e, e'] <;> omega
  · rcases cmp3 (key a) (key b) with ⟨h, e⟩ | ⟨h, e⟩ | ⟨h, e⟩
    · refine .inr ⟨.inl e, ?_, .inl ?_⟩
      · rintro rfl; omega
      · cases hn : isN a
        · rfl
        · rw [key_nan hn] at h; cases hm : isN b
          · have := key_lt_nan hm; omega
          · rw [key_nan hm] at h; omega
    · refine .inl ⟨e, no_lt (by omega), ?_⟩
      by_cases hab : a = b
      · exact .inl hab
      · exact .inr ⟨hab, (key_same ha hb h).resolve_right hab⟩
    · refine .inr ⟨.inr ⟨e, no_lt (by omega)⟩, ?_, ?_⟩
      · rintro rfl; omega
      · cases hn : isN a
        · exact .inl rfl
        · refine .inr ⟨rfl, ?_⟩
          cases hm : isN b
          · rfl
          · rw [key_nan hm, key_nan hn] at h; omega
  · rcases cmp3 (key a) (key b) with ⟨h, e⟩ | ⟨h, e⟩ | ⟨h, e⟩ <;> rcases cmp3 (key b) (key c) with ⟨h', e'⟩ | ⟨h', e'⟩ | ⟨h', e'⟩ <;> rcases cmp3 (key a) (key c) with ⟨h'', e''⟩ | ⟨h'', e''⟩ | ⟨h'', e''⟩ <;> rw [e, e', e''] <;> omega

set_option maxRecDepth 100000 in
set_option maxHeartbeats 2000000 in
theorem walk (a0 a1 a2 : Nat) (h0 : (Lit.float .f64 a0).wf = true) (h1 : (Lit.float .f64 a1).wf = true) (h2 : (Lit.float .f64 a2).wf = true) (w : World) :
    Calls Try.prog 6 #[.float .f64 a0, .float .f64 a1, .float .f64 a2] w fun e w' => e = .returned (.bool true) ∧ Below w.heap.size w w' := by
  have hrb := rbits
  obtain ⟨X, Y, Z, l, F⟩ := facts a0 a1 a2 (wf_lt h0) (wf_lt h1)
  have C1 : Hid _ := fun w => order_val a0 a1 X w (wf_lt h0) (wf_lt h1) F.x
  have C2 : Hid _ := fun w => order_val a1 a2 Y w (wf_lt h1) (wf_lt h2) F.y
  have C3 : Hid _ := fun w => order_val a0 a2 Z w (wf_lt h0) (wf_lt h2) F.z
  have C4 : Hid _ := fun w => order_val a1 a0 (-X) w (wf_lt h1) (wf_lt h0) F.x'
  have hl := F.fl
  have hs := F.same
  have hy := F.yz
  clear F h0 h1 h2
  unfold isN at hs
  go_enter Try.func6, Try.ntmps6
  go_wp2_with fail
  refine (examples3_any _).mono ?_
  rintro e w1 ⟨rfl, rfl⟩
  go_wp2_with fail
  refine (C1.out _).mono ?_
  rintro e w1 ⟨rfl, rfl⟩
  go_wp2_with fail
  refine (C2.out _).mono ?_
  rintro e w1 ⟨rfl, rfl⟩
  go_wp2_with fail
  refine (C3.out _).mono ?_
  rintro e w1 ⟨rfl, rfl⟩
  clear C1 C2 C3
  rcases hs with ⟨rfl, rfl, rfl | ⟨hne, hn1, hn2⟩⟩ | ⟨rfl | ⟨rfl, rfl⟩, hne, hn1 | ⟨hn1, hn2⟩⟩
  all_goals
    first | (have hab : ((a0 : Int) == (a1 : Int)) = false := by simp; omega) | skip
    first | clear hne | skip
    have HY : Hid _ := hy
    clear hy
    go_wp2_with (refine (C4.out _).mono ?_; rintro e w1 ⟨rfl, rfl⟩)
    all_goals
      have hy := HY.out
      go_ret
      refine ⟨retB ?_, Below.refl _ _⟩
      simp at hy ⊢
      try omega

set_option maxRecDepth 100000 in
theorem lifted (os : Os) (started : os.Started) (H : Type) (enc : TypeId × Value → H) :
    ReturnsInHanded {} Try.checked os 6 .any (Rows.realTurnsSpec.pre6 enc Try.prog Try.f6 Rows.realTurnsRow.domain false) (Rows.realTurnsSpec.post enc Try.prog Try.f6 false true false false) := by
  refine returnsInHanded_of_change (C := Try.checked) own started (by kernel_rfl) Try.func6
    (ChangeSpec.witness6 (enc := enc) (C := Try.checked) false ⟨#[], #[.float .f64 0, .float .f64 0, .float .f64 0], []⟩ 8 (by kernel_rfl) (by kernel_rfl) (by kernel_rfl) (by kernel_rfl)) ?_
  intro W base args ds gs before hval0 hW hcnd _
  have hval : ∀ (j : Nat) t v, Try.f6.params[j]? = some t → args[j]? = some v → Value.okWide Try.prog W .any base t v := hval0
  have hW' := hW
  obtain ⟨p, q, hA0, hV, rfl, hfz, hnd⟩ := hW
  have hA : DataW.TrodAll enc Try.prog W 0 (fun _ => true) true Try.f6.params.toList args.toList ds p := hA0
  rw [Try.params6] at hA hval
  obtain ⟨v0, vs0, d0, ds0, p0, q0, hargs, rfl, rfl, h0, r0⟩ := trodAll_cons hA
  obtain ⟨v1, vs1, d1, ds1, p1, q1, rfl, rfl, rfl, h1, r1⟩ := trodAll_cons r0
  obtain ⟨v2, vs2, d2, ds2, p2, q2, rfl, rfl, rfl, h2, r2⟩ := trodAll_cons r1
  obtain ⟨rfl, rfl, rfl⟩ := trodAll_nil r2
  obtain rfl : args = #[v0, v1, v2] := by cases args; simp_all
  obtain ⟨rfl, rfl⟩ := trodVars_none hV
  obtain ⟨a0, rfl, rfl, rfl, w0⟩ := open_float Try.underlying22 (hval 0 22 v0 rfl rfl) h0
  obtain ⟨a1, rfl, rfl, rfl, w1⟩ := open_float Try.underlying22 (hval 1 22 v1 rfl rfl) h1
  obtain ⟨a2, rfl, rfl, rfl, w2⟩ := open_float Try.underlying22 (hval 2 22 v2 rfl rfl) h2
  clear hA0 hval0
  refine (walk a0 a1 a2 w0 w1 w2 W).mono fun e W' ⟨he, bel⟩ => ?_
  subst he
  exact ⟨_, rfl, _, _, _, [], _, [], hW', trodAll_mk1 (shut_bool Try.underlying4 _), (trodAll_cons_mk (shut_float Try.underlying22 w0) (trodAll_cons_mk (shut_float Try.underlying22 w1) (trodAll_cons_mk (shut_float Try.underlying22 w2) trodAll_mk0))), rfl, bel.frame _, fun h => by cases h⟩

theorem over : Rows.realTurnsRow.holds Try.pinned (OpenSpec.ofChange Rows.realTurnsSpec) :=
  OpenClaim.holds_of_wide 6 Try.f6 rfl rfl rfl rfl rfl rfl rfl ⟨rfl, rfl, rfl, rfl, rfl⟩ rfl rfl rfl rfl rfl (by kernel_rfl) Try.func6 (by kernel_rfl)
    (of_decide_eq_true (by kernel_rfl)) (by unfold Func.isWrapper; first | (rw [if_pos (by decide +kernel)]; kernel_rfl) | (rw [if_neg (by decide +kernel)]; exact ⟨rfl, rfl⟩))
    (fun os started H enc _ => lifted os started H enc)
end Go.Proofs.Ytjnpipjikkkkcaa.realTurns

namespace Go.Proofs.Ytjnpipjikkkkcaa
/-- The statement. -/
theorem realTurns_holds : Rows.RealTurnsSaid := realTurns.over
#print axioms realTurns_holds
end Go.Proofs.Ytjnpipjikkkkcaa
