/- QuotaTells: for every list of nodes and every string: the statement's function returns true; nothing that was there is changed. No condition. -/
import Derived.Test.YtlfehfajaelmlaaQuotaL
import Derived.Test.YtlfehfajaelmlaaQuotaR2
import Derived.Test.YtlfehfajaelmlaaQuotaR3
import Derived.Test.YtlfehfajaelmlaaTreeOpen
namespace Go.Proofs.Ytlfehfajaelmlaa.quotaTells
open Go.ChangeShapes Go.WideShapes Go.ChangeAt Go.RowKit
open Go.ChangeMaps (open_string shut_string)
set_option linter.unusedVariables false

theorem own : ownKnob Try.prog.godebug = none := by kernel_rfl

set_option maxRecDepth 100000 in
set_option maxHeartbeats 2000000 in
theorem core {a : Option Addr} {n c : Nat} {xs : NS} (p : ByteArray) (hp : p.size ≤ maxLen) (w : World) (h : NL w a n xs) :
    Calls Try.prog 3 #[.slice a n c, .string p] w fun e w' => e = .returned (.bool true) ∧ Below w.heap.size w w' := by
  obtain ⟨u, hu⟩ : ∃ u : Bool, (u = true ↔ Right xs) := by
    by_cases hR : Right xs
    · exact ⟨true, fun _ => hR, fun _ => rfl⟩
    · exact ⟨false, fun e => (by cases e), fun e => absurd e hR⟩
  obtain ⟨F, hF⟩ : ∃ F, countN u xs p = F := ⟨_, rfl⟩
  obtain ⟨R, hR⟩ : ∃ R, rooms u xs p = R := ⟨_, rfl⟩
  obtain ⟨ys, hy⟩ : ∃ ys, overs u xs = ys := ⟨_, rfl⟩
  obtain ⟨m, hm⟩ : ∃ m, ys.length = m := ⟨_, rfl⟩
  have HSM : Hid (∀ s ∈ ys, s.size ≤ maxLen) := fun s hs => by
    rw [← hy] at hs
    unfold overs at hs
    split at hs
    · unfold overL at hs
      obtain ⟨x, hx, rfl⟩ := List.mem_map.1 hs
      exact h.small x (List.mem_filter.1 hx).1
    · cases hs
  have O1 : Hid (∀ W, Below w.heap.size w W → Calls Try.prog 10 #[.slice a n c] W fun e w' => TextsR W.heap.size ys m e w' ∧ Below W.heap.size W w') := fun W hb => over_val (h.below hb) u hu ys hy m hm
  have O2 : Hid (∀ W, Below w.heap.size w W → Calls Try.prog 11 #[.slice a n c] W fun e w' => TextsR W.heap.size ys m e w' ∧ Below W.heap.size W w') := fun W hb => refOver_val (h.below hb) u hu ys hy m hm
  have C1 : Hid (∀ W, Below w.heap.size w W → Calls Try.prog 12 #[.slice a n c, .string p] W fun e w' => e = .returned (.int .i64 (F : Int)) ∧ Below W.heap.size W w') := fun W hb => count_val (h.below hb) u hu p hp F hF
  have C2 : Hid (∀ W, Below w.heap.size w W → Calls Try.prog 13 #[.slice a n c, .string p] W fun e w' => e = .returned (.int .i64 (F : Int)) ∧ Below W.heap.size W w') := fun W hb => refCount_val (h.below hb) u hu p hp F hF
  have R1 : Hid (∀ W, Below w.heap.size w W → Calls Try.prog 14 #[.slice a n c, .string p] W fun e w' => e = .returned (.int .i64 R) ∧ Below W.heap.size W w') := fun W hb => room_val (h.below hb) u hu p hp R hR
  have R2 : Hid (∀ W, Below w.heap.size w W → Calls Try.prog 15 #[.slice a n c, .string p] W fun e w' => e = .returned (.int .i64 R) ∧ Below W.heap.size W w') := fun W hb => refRoom_val (h.below hb) u hu p hp R hR
  have HM : Hid (ys.length = m) := hm
  clear h hu hF hR hy hm hp
  go_enter Try.func3, Try.ntmps3
  go_wp2_with fail
  refine (examples_val _).mono ?_
  rintro e w1 ⟨rfl, c1⟩
  have B1 : Hid (Below w.heap.size w w1) := c1
  clear c1
  go_wp2_with fail
  refine (O1.out _ B1.out).mono ?_
  rintro e w2 ⟨⟨a2, c2, g2, rfl, hC2⟩, d2⟩
  have B2 : Hid (Below w.heap.size w w2) := bel_tr B1.out d2
  have H2 : Hid _ := hC2
  clear d2 hC2
  go_wp2_with fail
  refine (O2.out _ B2.out).mono ?_
  rintro e w3 ⟨⟨a3, c3, g3, rfl, hC3⟩, d3⟩
  have B3 : Hid (Below w.heap.size w w3) := bel_tr B2.out d3
  obtain ⟨b2, hS2⟩ := (H2.out.below d3).strs HM.out HSM.out
  obtain ⟨b3, hS3⟩ := hC3.strs HM.out HSM.out
  have S2 : Hid _ := hS2
  have S3 : Hid _ := hS3
  clear d3 hC3 hS2 hS3 H2 B1 B2 O1 O2
  go_wp2_with fail
  refine (texts_same a2 a3 b2 0 c2 b3 0 c3 m ys _ S2.out S3.out HM.out).mono ?_
  rintro e w4 ⟨rfl, c4⟩
  have B4 : Hid (Below w.heap.size w w4) := bel_tr B3.out c4
  clear c4 S2 S3 B3
  go_wp2_with (first
    | (go_at_call 12; refine (C1.out _ B4.out).mono ?_; rintro e w5 ⟨rfl, c5⟩; have B5 : Hid _ := bel_tr B4.out c5; clear c5)
    | (go_at_call 13; refine (C2.out _ B5.out).mono ?_; rintro e w6 ⟨rfl, c6⟩; have B6 : Hid _ := bel_tr B5.out c6; clear c6)
    | (go_at_call 14; refine (R1.out _ B6.out).mono ?_; rintro e w7 ⟨rfl, c7⟩; have B7 : Hid _ := bel_tr B6.out c7; clear c7)
    | (go_at_call 15; refine (R2.out _ B7.out).mono ?_; rintro e w8 ⟨rfl, c8⟩; have B8 : Hid _ := bel_tr B7.out c8; clear c8))
  go_ret
  exact ⟨rfl, B8.out⟩

theorem walk (a0 : Option Addr) (b0 off0 cap0 : Nat) (ss0 : List NR) (a1 : ByteArray) (W : World) (h0 : Nds W a0 b0 off0 ss0) (h1 : a1.size ≤ maxLen) :
    Calls Try.prog 3 #[.slice a0 (ss0.map (·.1)).length cap0, .string a1] W fun e w' => e = .returned (.bool true) ∧ Below W.heap.size W w' :=
  core a1 h1 W ⟨b0, off0, ss0, rfl, rfl, h0⟩

set_option maxRecDepth 100000 in
theorem lifted (os : Os) (started : os.Started) (H : Type) (enc : TypeId × Value → H) :
    ReturnsInHanded {} Try.checked os 3 .any (Rows.quotaTellsSpec.pre6 enc Try.prog Try.f3 Rows.quotaTellsRow.domain false) (Rows.quotaTellsSpec.post enc Try.prog Try.f3 false true false false) := by
  refine returnsInHanded_of_change (C := Try.checked) own started (by kernel_rfl) Try.func3
    (ChangeSpec.witness6 (enc := enc) (C := Try.checked) false ⟨#[], #[.slice none 0 0, .string ByteArray.empty], []⟩ 8 (by kernel_rfl) (by kernel_rfl) (by kernel_rfl) (by kernel_rfl)) ?_
  intro W base args ds gs before hval0 hW hcnd _
  have hval : ∀ (j : Nat) t v, Try.f3.params[j]? = some t → args[j]? = some v → Value.okWide Try.prog W .any base t v := hval0
  have hW' := hW
  obtain ⟨p, q, hA0, hV, rfl, hfz, hnd⟩ := hW
  have hA : DataW.TrodAll enc Try.prog W 0 (fun _ => true) true Try.f3.params.toList args.toList ds p := hA0
  rw [Try.params3] at hA hval
  obtain ⟨v0, vs0, d0, ds0, p0, q0, hargs, rfl, rfl, h0, r0⟩ := trodAll_cons hA
  obtain ⟨v1, vs1, d1, ds1, p1, q1, rfl, rfl, rfl, h1, r1⟩ := trodAll_cons r0
  obtain ⟨rfl, rfl, rfl⟩ := trodAll_nil r1
  obtain rfl : args = #[v0, v1] := by cases args; simp_all
  obtain ⟨rfl, rfl⟩ := trodVars_none hV
  obtain ⟨a0, len0, cap0, rfl⟩ := okWide_slice Try.underlying22 (hval 0 22 v0 rfl rfl)
  have k0 := h0
  have lt0 : ∀ x ∈ p0, x.block < W.heap.size := by obtain ⟨m, hm⟩ := k0; exact DataW.trod_lt m _ _ _ hm
  obtain ⟨b0, off0, ss0, rfl, w0, n0⟩ := open_nodes h0
  obtain ⟨a1, rfl, rfl, rfl, w1⟩ := open_string Try.underlying9 (hval 1 9 v1 rfl rfl) h1
  clear hA0 hval0
  refine (walk a0 b0 off0 cap0 ss0 a1 W w0 w1).mono fun e W' ⟨he, bel⟩ => ?_
  subst he
  exact ⟨_, rfl, _, _, _, [], _, [], hW', trodAll_mk1 (shut_bool Try.underlying4 _), (trodAll_cons_mk (Below.trod laidOut (by kernel_rfl) (of_decide_eq_true (by kernel_rfl)) k0 bel lt0) (trodAll_cons_mk (shut_string Try.underlying9 w1) trodAll_mk0)), rfl, bel.frame _, fun h => by cases h⟩

theorem over : Rows.quotaTellsRow.holds Try.pinned (OpenSpec.ofChange Rows.quotaTellsSpec) :=
  OpenClaim.holds_of_wide 3 Try.f3 rfl rfl rfl rfl rfl rfl rfl ⟨rfl, rfl, rfl, rfl, rfl⟩ rfl rfl rfl rfl rfl (by kernel_rfl) Try.func3 (by kernel_rfl)
    (of_decide_eq_true (by kernel_rfl)) (by unfold Func.isWrapper; first | (rw [if_pos (by decide +kernel)]; kernel_rfl) | (rw [if_neg (by decide +kernel)]; exact ⟨rfl, rfl⟩))
    (fun os started H enc _ => lifted os started H enc)
end Go.Proofs.Ytlfehfajaelmlaa.quotaTells

namespace Go.Proofs.Ytlfehfajaelmlaa
/-- The statement. -/
theorem quotaTells_holds : Rows.QuotaTellsSaid := quotaTells.over
#print axioms quotaTells_holds
end Go.Proofs.Ytlfehfajaelmlaa
