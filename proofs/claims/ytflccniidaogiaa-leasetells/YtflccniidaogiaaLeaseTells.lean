/- LeaseTells: for every list of leases, every client, every time: the statement's function returns true; nothing that was there is changed. No condition. -/
import Derived.Test.YtflccniidaogiaaLeaseL
import Derived.Test.YtflccniidaogiaaLeaseR2
import Derived.Test.YtflccniidaogiaaLeaseOpen
namespace Go.Proofs.Ytflccniidaogiaa.leaseTells
open Go.ChangeShapes Go.WideShapes Go.ChangeAt Go.RowKit Go.Proofs.Ytflccniidaogiaa Go.Proofs.Ytflccniidaogiaa.Lea
set_option linter.unusedVariables false

theorem own : ownKnob Try.prog.godebug = none := by kernel_rfl

set_option maxRecDepth 100000 in
set_option maxHeartbeats 4000000 in
theorem core {a : Option Addr} {n c : Nat} {xs : LS} (w : World) (h : LL w a n c xs) (k now : Int) :
    Calls Try.prog 3 #[.slice a n c, .int .i64 k, .int .i64 now] w fun e w' => e = .returned (.bool true) ∧ Below w.heap.size w w' := by
  obtain ⟨u, v, hu⟩ : ∃ u v, untilX xs k = (u, v) := ⟨_, _, rfl⟩
  obtain ⟨zs, r, hz⟩ : ∃ zs r, lateX xs now = (zs, r) := ⟨_, _, rfl⟩
  obtain ⟨m, hm⟩ : ∃ m, zs.length = m := ⟨_, rfl⟩
  have hr : r = true ↔ Rt xs := by
    by_cases hR : Rt xs
    · rw [lateX_yes hR] at hz
      simp only [Prod.mk.injEq] at hz
      rw [← hz.2]; exact ⟨fun _ => hR, fun _ => rfl⟩
    · rw [lateX_no hR] at hz
      simp only [Prod.mk.injEq] at hz
      rw [← hz.2]; exact ⟨fun e => (by cases e), fun e => absurd e hR⟩
  have hm4 : m ≤ 4 := by
    by_cases hR : Rt xs
    · rw [lateX_yes hR] at hz
      simp only [Prod.mk.injEq] at hz
      have := late_len now xs
      have := hR.few
      rw [hz.1, hm] at *; omega
    · rw [lateX_no hR] at hz
      simp only [Prod.mk.injEq] at hz
      rw [← hz.1] at hm; simp at hm; omega
  have CU : Hid (∀ W, Below w.heap.size w W → Calls Try.prog 8 #[.slice a n c, .int .i64 k] W fun e w' => e = .returned (.tuple #[.int .i64 u, .bool v]) ∧ Below W.heap.size W w') := fun W hb => until_val (h.below hb) k u v hu
  have CV : Hid (∀ W, Below w.heap.size w W → Calls Try.prog 9 #[.slice a n c, .int .i64 k] W fun e w' => e = .returned (.tuple #[.int .i64 u, .bool v]) ∧ Below W.heap.size W w') := fun W hb => refUntil_val (h.below hb) k u v hu
  have CL : Hid (∀ W, Below w.heap.size w W → Calls Try.prog 10 #[.slice a n c, .int .i64 now] W fun e w' => NumR zs m (errV r) e w' ∧ Below W.heap.size W w') := fun W hb => late_val (h.below hb) now zs r m hz hm
  have CM : Hid (∀ W, Below w.heap.size w W → Calls Try.prog 11 #[.slice a n c, .int .i64 now] W fun e w' => NumR zs m (.bool r) e w' ∧ Below W.heap.size W w') := fun W hb => refLate_val (h.below hb) now zs r m hz hm
  have CR : Hid (∀ W, Below w.heap.size w W → Calls Try.prog 13 #[.slice a n c] W fun e w' => e = .returned (.bool r) ∧ Below W.heap.size W w') := fun W hb => right_val (h.below hb) r hr
  have CS : Hid (∀ W, Below w.heap.size w W → Calls Try.prog 14 #[.slice a n c] W fun e w' => e = .returned (.bool r) ∧ Below W.heap.size W w') := fun W hb => refRight_val (h.below hb) r hr
  have HM : Hid (zs.length = m) := hm
  clear h hu hz hm hr
  unfold errV at CL
  cases r
  all_goals
    simp only [Bool.false_eq_true, if_false, if_true] at CL
    cases v
    all_goals
      go_enter Try.func3, Try.ntmps3
      go_wp2_with (first
        | (go_at_call 7; refine (examples_val _).mono ?_; rintro e w1 ⟨rfl, b1⟩; have B1 : Hid (Below w.heap.size w w1) := b1; clear b1)
        | (go_at_call 8; refine (CU.out _ B1.out).mono ?_; rintro e w2 ⟨rfl, bb⟩; have B2 : Hid (Below w.heap.size w w2) := bel_tr B1.out bb; clear bb)
        | (go_at_call 9; refine (CV.out _ B2.out).mono ?_; rintro e w3 ⟨rfl, bb⟩; have B3 : Hid (Below w.heap.size w w3) := bel_tr B2.out bb; clear bb)
        | (go_at_call 10; refine (CL.out _ B3.out).mono ?_; rintro e w4 ⟨⟨a4, b4, c4, rfl, hn4, hI⟩, bb⟩; have I4 : Hid (Ints w4 .i64 a4 b4 0 zs) := hI; have B4 : Hid (Below w.heap.size w w4) := bel_tr B3.out bb; clear hI hn4 bb)
        | (go_at_call 11; refine (CM.out _ B4.out).mono ?_; rintro e w5 ⟨⟨a5, b5, c5, rfl, hn5, hI⟩, bb⟩; have J4 : Hid (Ints w5 .i64 a4 b4 0 zs) := I4.out.below bb; have I5 : Hid (Ints w5 .i64 a5 b5 0 zs) := hI; have B5 : Hid (Below w.heap.size w w5) := bel_tr B4.out bb; clear hI hn5 bb)
        | (go_at_call 12; refine (numbers_val HM.out hm4 J4.out I5.out).mono ?_; rintro e w6 ⟨rfl, bb⟩; have B6 : Hid (Below w.heap.size w w6) := bel_tr B5.out bb; clear bb)
        | (go_at_call 13; refine (CR.out _ B6.out).mono ?_; rintro e w7 ⟨rfl, bb⟩; have B7 : Hid (Below w.heap.size w w7) := bel_tr B6.out bb; clear bb)
        | (go_at_call 14; refine (CS.out _ B7.out).mono ?_; rintro e w8 ⟨rfl, bb⟩; have B8 : Hid (Below w.heap.size w w8) := bel_tr B7.out bb; clear bb))
      go_ret
      exact ⟨rfl, B8.out⟩

theorem walk (a : Option Addr) (n c : Nat) (xs : LS) (k now : Int) (w : World) (h : LL w a n c xs) (h1 : (Lit.int .i64 k).wf = true) (h2 : (Lit.int .i64 now).wf = true) :
    Calls Try.prog 3 #[.slice a n c, .int .i64 k, .int .i64 now] w fun e w' => e = .returned (.bool true) ∧ Below w.heap.size w w' := core w h k now

set_option maxRecDepth 100000 in
theorem lifted (os : Os) (started : os.Started) (H : Type) (enc : TypeId × Value → H) :
    ReturnsInHanded {} Try.checked os 3 .any (Rows.leaseTellsSpec.pre6 enc Try.prog Try.f3 Rows.leaseTellsRow.domain false) (Rows.leaseTellsSpec.post enc Try.prog Try.f3 false true false false) := by
  refine returnsInHanded_of_change (C := Try.checked) own started (by kernel_rfl) Try.func3
    (ChangeSpec.witness6 (enc := enc) (C := Try.checked) false ⟨#[], #[.slice none 0 0, .int .i64 0, .int .i64 0], []⟩ 8 (by kernel_rfl) (by kernel_rfl) (by kernel_rfl) (by kernel_rfl)) ?_
  intro W base args ds gs before hval0 hW hcnd _
  have hval : ∀ (j : Nat) t v, Try.f3.params[j]? = some t → args[j]? = some v → Value.okWide Try.prog W .any base t v := hval0
  have hW' := hW
  obtain ⟨p, q, hA0, hV, rfl, hfz, hnd⟩ := hW
  have hA : DataW.TrodAll enc Try.prog W 0 (fun _ => true) true Try.f3.params.toList args.toList ds p := hA0
  rw [Try.params3] at hA hval
  obtain ⟨v0, vs0, d0, ds0, p0, q0, hargs, rfl, rfl, h0, r0⟩ := trodAll_cons hA
  obtain ⟨v1, vs1, d1, ds1, p1, q1, rfl, rfl, rfl, h1, r1⟩ := trodAll_cons r0
  obtain ⟨v2, vs2, d2, ds2, p2, q2, rfl, rfl, rfl, h2, r2⟩ := trodAll_cons r1
  obtain ⟨rfl, rfl, rfl⟩ := trodAll_nil r2
  obtain rfl : args = #[v0, v1, v2] := by cases args; simp_all
  obtain ⟨rfl, rfl⟩ := trodVars_none hV
  obtain ⟨a0, len0, cap0, rfl⟩ := okWide_slice Try.underlying22 (hval 0 22 v0 rfl rfl)
  have k0 := h0
  have lt0 : ∀ x ∈ p0, x.block < W.heap.size := by obtain ⟨m, hm⟩ := k0; exact DataW.trod_lt m _ _ _ hm
  obtain ⟨ss0, w0, n0⟩ := Lea.open_leases h0
  obtain ⟨a1, rfl, rfl, rfl, w1⟩ := open_int Try.underlying3 (hval 1 3 v1 rfl rfl) h1
  obtain ⟨a2, rfl, rfl, rfl, w2⟩ := open_int Try.underlying3 (hval 2 3 v2 rfl rfl) h2
  clear hA0 hval0
  refine (walk a0 len0 cap0 ss0 a1 a2 W w0 w1 w2).mono fun e W' ⟨he, bel⟩ => ?_
  subst he
  exact ⟨_, rfl, _, _, _, [], _, [], hW', trodAll_mk1 (shut_bool Try.underlying4 _), (trodAll_cons_mk (Below.trod laidOut (by kernel_rfl) (of_decide_eq_true (by kernel_rfl)) k0 bel lt0) (trodAll_cons_mk (shut_int Try.underlying3 w1) (trodAll_cons_mk (shut_int Try.underlying3 w2) trodAll_mk0))), rfl, bel.frame _, fun h => by cases h⟩

theorem over : Rows.leaseTellsRow.holds Try.pinned (OpenSpec.ofChange Rows.leaseTellsSpec) :=
  OpenClaim.holds_of_wide 3 Try.f3 rfl rfl rfl rfl rfl rfl rfl ⟨rfl, rfl, rfl, rfl, rfl⟩ rfl rfl rfl rfl rfl (by kernel_rfl) Try.func3 (by kernel_rfl)
    (of_decide_eq_true (by kernel_rfl)) (by unfold Func.isWrapper; first | (rw [if_pos (by decide +kernel)]; kernel_rfl) | (rw [if_neg (by decide +kernel)]; exact ⟨rfl, rfl⟩))
    (fun os started H enc _ => lifted os started H enc)
end Go.Proofs.Ytflccniidaogiaa.leaseTells

namespace Go.Proofs.Ytflccniidaogiaa
/-- The statement. -/
theorem leaseTells_holds : Rows.LeaseTellsSaid := leaseTells.over
#print axioms leaseTells_holds
end Go.Proofs.Ytflccniidaogiaa
