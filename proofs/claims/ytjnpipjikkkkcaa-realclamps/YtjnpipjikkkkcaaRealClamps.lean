/- RealClamps: for every three float64: the statement's function returns true; nothing that was there is changed. No condition. -/
import Derived.Test.YtjnpipjikkkkcaaRealCl
import Derived.ProofKit
import Derived.OpenShut
import Derived.ShutString
import Derived.ChangeOld
import Derived.Below
import Derived.Laws.Cover2
namespace Go.Proofs.Ytjnpipjikkkkcaa.realClamps
open Go.ChangeShapes Go.WideShapes Go.ChangeAt Go.RowKit
open Go.ChangeMaps (open_string shut_string)
set_option linter.unusedVariables false

theorem own : ownKnob Try.prog.godebug = none := by kernel_rfl

/-- How x lies between lo and hi, to the machine. -/
structure Cf (f lo hi x : Nat) : Prop where
  ge : FloatKind.f64.format.order x lo = some .gt ∨ FloatKind.f64.format.order x lo = some .eq
  le : FloatKind.f64.format.order x hi = some .lt ∨ FloatKind.f64.format.order x hi = some .eq
  same : (FloatKind.f64.format.order f lo = none ∨ FloatKind.f64.format.order f lo = some .lt) ∨ (FloatKind.f64.format.order f lo = some .gt ∨ FloatKind.f64.format.order f lo = some .eq) ∧ FloatKind.f64.format.order f hi = some .gt ∨ FloatKind.f64.format.order x f = some .eq

theorem fo_refl {a : Nat} (h : isN a = false) : FloatKind.f64.format.order a a = some .eq := fo_eqv h h rfl
theorem fo_ge {a b : Nat} (ha : isN a = false) (hb : isN b = false) (h : sr b ≤ sr a) : FloatKind.f64.format.order a b = some .gt ∨ FloatKind.f64.format.order a b = some .eq := by
  rcases fo_three ha hb with ⟨k, k1, -⟩ | ⟨k, k1, -⟩ | ⟨k, k1, -⟩
  · omega
  · exact .inr k1
  · exact .inl k1
theorem fo_le {a b : Nat} (ha : isN a = false) (hb : isN b = false) (h : sr a ≤ sr b) : FloatKind.f64.format.order a b = some .lt ∨ FloatKind.f64.format.order a b = some .eq := by
  rcases fo_three ha hb with ⟨k, k1, -⟩ | ⟨k, k1, -⟩ | ⟨k, k1, -⟩
  · exact .inl k1
  · exact .inr k1
  · omega

theorem facts (f lo hi : Nat) : (FloatKind.f64.format.order lo hi = none ∨ FloatKind.f64.format.order lo hi = some .gt) ∨ (FloatKind.f64.format.order lo hi = some .lt ∨ FloatKind.f64.format.order lo hi = some .eq) ∧ Cf f lo hi (clampB f lo hi) := by
  cases h1 : isN lo
  case true => exact .inl (.inl (fo_nan_l _ h1))
  cases h2 : isN hi
  case true => exact .inl (.inl (fo_nan_r _ h2))
  by_cases hle : sr lo ≤ sr hi
  · refine .inr ⟨fo_le h1 h2 hle, ?_⟩
    unfold clampB
    cases h3 : isN f
    · rw [h1, h2]
      by_cases k : sr f < sr lo
      · rw [if_pos (.inr (.inr (.inr k)))]
        exact ⟨.inr (fo_refl h1), fo_le h1 h2 hle, .inl (.inr (fo_lt h3 h1 k))⟩
      · rw [if_neg (by simp; omega)]
        by_cases l : sr hi < sr f
        · rw [if_pos l]
          exact ⟨fo_ge h2 h1 hle, .inr (fo_refl h2), .inr (.inl ⟨fo_ge h3 h1 (by omega), fo_gt h3 h2 l⟩)⟩
        · rw [if_neg l]
          exact ⟨fo_ge h3 h1 (by omega), fo_le h3 h2 (by omega), .inr (.inr (fo_refl h3))⟩
    · rw [if_pos (.inl rfl)]
      exact ⟨.inr (fo_refl h1), fo_le h1 h2 hle, .inl (.inl (fo_nan_l _ h3))⟩
  · exact .inl (.inr (fo_gt h1 h2 (by omega)))

set_option maxRecDepth 100000 in
set_option maxHeartbeats 2000000 in
theorem walk (a0 a1 a2 : Nat) (h0 : (Lit.float .f64 a0).wf = true) (h1 : (Lit.float .f64 a1).wf = true) (h2 : (Lit.float .f64 a2).wf = true) (w : World) :
    Calls Try.prog 8 #[.float .f64 a0, .float .f64 a1, .float .f64 a2] w fun e w' => e = .returned (.bool true) ∧ Below w.heap.size w w' := by
  have F := facts a0 a1 a2
  obtain ⟨x, hx⟩ : ∃ x, clampB a0 a1 a2 = x := ⟨_, rfl⟩
  have C1 : Hid _ := fun w => clamp_val a0 a1 a2 x w hx
  rw [hx] at F
  clear hx h0 h1 h2
  go_enter Try.func8, Try.ntmps8
  go_wp2_with fail
  refine (examples3_any _).mono ?_
  rintro e w1 ⟨rfl, rfl⟩
  go_wp2_with fail
  refine (C1.out _).mono ?_
  rintro e w1 ⟨rfl, rfl⟩
  clear C1
  rcases F with (h | h) | ⟨h, ⟨hg, hl, hs⟩⟩
  · go_wp2
    go_ret
    exact ⟨rfl, Below.refl _ _⟩
  · go_wp2
    go_ret
    exact ⟨rfl, Below.refl _ _⟩
  · have hlo : ((FloatKind.f64.format.order a1 a2 == some .lt) || (FloatKind.f64.format.order a1 a2 == some .eq)) = true := by rcases h with h | h <;> rw [h] <;> rfl
    have hge : ((FloatKind.f64.format.order x a1 == some .gt) || (FloatKind.f64.format.order x a1 == some .eq)) = true := by rcases hg with h | h <;> rw [h] <;> rfl
    have hle : ((FloatKind.f64.format.order x a2 == some .lt) || (FloatKind.f64.format.order x a2 == some .eq)) = true := by rcases hl with h | h <;> rw [h] <;> rfl
    clear h hg hl
    have two : ∃ b1 b2 : Bool, ((FloatKind.f64.format.order a0 a1 == some .gt) || (FloatKind.f64.format.order a0 a1 == some .eq)) = b1 ∧ ((FloatKind.f64.format.order a0 a2 == some .lt) || (FloatKind.f64.format.order a0 a2 == some .eq)) = b2 ∧ (b1 = false ∨ b1 = true ∧ b2 = false ∨ b1 = true ∧ b2 = true ∧ FloatKind.f64.format.order x a0 = some .eq) := by
      refine ⟨_, _, rfl, rfl, ?_⟩
      rcases hs with (hs | hs) | ⟨hs | hs, ht⟩ | hs
      · rw [hs]; exact .inl rfl
      · rw [hs]; exact .inl rfl
      · rw [hs, ht]; exact .inr (.inl ⟨rfl, rfl⟩)
      · rw [hs, ht]; exact .inr (.inl ⟨rfl, rfl⟩)
      · cases ((FloatKind.f64.format.order a0 a1 == some .gt) || (FloatKind.f64.format.order a0 a1 == some .eq))
        · exact .inl rfl
        · cases ((FloatKind.f64.format.order a0 a2 == some .lt) || (FloatKind.f64.format.order a0 a2 == some .eq))
          · exact .inr (.inl ⟨rfl, rfl⟩)
          · exact .inr (.inr ⟨rfl, rfl, hs⟩)
    clear hs
    obtain ⟨b1, b2, hb1, hb2, rfl | ⟨rfl, rfl⟩ | ⟨rfl, rfl, hs⟩⟩ := two
    all_goals
      go_wp2
      go_ret
      exact ⟨rfl, Below.refl _ _⟩

set_option maxRecDepth 100000 in
theorem lifted (os : Os) (started : os.Started) (H : Type) (enc : TypeId × Value → H) :
    ReturnsInHanded {} Try.checked os 8 .any (Rows.realClampsSpec.pre6 enc Try.prog Try.f8 Rows.realClampsRow.domain false) (Rows.realClampsSpec.post enc Try.prog Try.f8 false true false false) := by
  refine returnsInHanded_of_change (C := Try.checked) own started (by kernel_rfl) Try.func8
    (ChangeSpec.witness6 (enc := enc) (C := Try.checked) false ⟨#[], #[.float .f64 0, .float .f64 0, .float .f64 0], []⟩ 8 (by kernel_rfl) (by kernel_rfl) (by kernel_rfl) (by kernel_rfl)) ?_
  intro W base args ds gs before hval0 hW hcnd _
  have hval : ∀ (j : Nat) t v, Try.f8.params[j]? = some t → args[j]? = some v → Value.okWide Try.prog W .any base t v := hval0
  have hW' := hW
  obtain ⟨p, q, hA0, hV, rfl, hfz, hnd⟩ := hW
  have hA : DataW.TrodAll enc Try.prog W 0 (fun _ => true) true Try.f8.params.toList args.toList ds p := hA0
  rw [Try.params8] at hA hval
  obtain ⟨v0, vs0, d0, ds0, p0, q0, hargs, rfl, rfl, h0, r0⟩ := trodAll_cons hA
  obtain ⟨v1, vs1, d1, ds1, p1, q1, rfl, rfl, rfl, h1, r1⟩ := trodAll_cons r0
  obtain ⟨v2, vs2, d2, ds2, p2, q2, rfl, rfl, rfl, h2, r2⟩ := trodAll_cons r1
  obtain ⟨rfl, rfl, rfl⟩ := trodAll_nil r2
  obtain rfl : args = #[v0, v1, v2] := by cases args; simp_all
  obtain ⟨rfl, rfl⟩ := trodVars_none hV
  obtain ⟨a0, rfl, rfl, rfl, w0⟩ := open_float Try.underlying22 (hval 0 22 v0 rfl rfl) h0
  obtain ⟨a1, rfl, rfl, rfl, w1⟩ := open_float Try.underlying22 (hval 1 22 v1 rfl rfl) h1
  obtain ⟨a2, rfl, rfl, rfl, w2⟩ := open_float Try.underlying22 (hval 2 22 v2 rfl rfl) h2
  clear hA0 hval0
  refine (walk a0 a1 a2 w0 w1 w2 W).mono fun e W' ⟨he, bel⟩ => ?_
  subst he
  exact ⟨_, rfl, _, _, _, [], _, [], hW', trodAll_mk1 (shut_bool Try.underlying4 _), (trodAll_cons_mk (shut_float Try.underlying22 w0) (trodAll_cons_mk (shut_float Try.underlying22 w1) (trodAll_cons_mk (shut_float Try.underlying22 w2) trodAll_mk0))), rfl, bel.frame _, fun h => by cases h⟩

theorem over : Rows.realClampsRow.holds Try.pinned (OpenSpec.ofChange Rows.realClampsSpec) :=
  OpenClaim.holds_of_wide 8 Try.f8 rfl rfl rfl rfl rfl rfl rfl ⟨rfl, rfl, rfl, rfl, rfl⟩ rfl rfl rfl rfl rfl (by kernel_rfl) Try.func8 (by kernel_rfl)
    (of_decide_eq_true (by kernel_rfl)) (by unfold Func.isWrapper; first | (rw [if_pos (by decide +kernel)]; kernel_rfl) | (rw [if_neg (by decide +kernel)]; exact ⟨rfl, rfl⟩))
    (fun os started H enc _ => lifted os started H enc)
end Go.Proofs.Ytjnpipjikkkkcaa.realClamps

namespace Go.Proofs.Ytjnpipjikkkkcaa
/-- The statement. -/
theorem realClamps_holds : Rows.RealClampsSaid := realClamps.over
#print axioms realClamps_holds
end Go.Proofs.Ytjnpipjikkkkcaa
