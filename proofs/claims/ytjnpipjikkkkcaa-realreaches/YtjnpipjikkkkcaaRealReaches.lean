/- RealReaches: for all whole numbers, every float64 and every slice of float64: the statement's function returns true; nothing that was there is changed. No condition. -/
import Derived.Test.YtjnpipjikkkkcaaRealMeanR
import Derived.Test.YtjnpipjikkkkcaaRealRef
import Derived.Laws.Cover2
namespace Go.Proofs.Ytjnpipjikkkkcaa.realReaches
open Go.ChangeShapes Go.WideShapes Go.ChangeAt Go.RowKit
open Go.ChangeMaps (open_string shut_string)
set_option linter.unusedVariables false

theorem own : ownKnob Try.prog.godebug = none := by kernel_rfl
theorem wf_int {n : Int} (h : (Lit.int .i64 n).wf = true) : n ≤ 9223372036854775807 := by
  simp [Lit.wf, IntKind.max, IntKind.min, IntKind.signed, IntKind.bits] at h; omega

set_option maxRecDepth 100000 in
set_option maxHeartbeats 2000000 in
theorem walk (a0 a1 : Int) (a2 : Nat) (a3 : Option Addr) (b3 off3 cap3 : Nat) (xs : List Nat) (w : World) (h0 : (Lit.int .i64 a0).wf = true) (h1 : (Lit.int .i64 a1).wf = true) (h2 : (Lit.float .f64 a2).wf = true) (h3 : Flts w a3 b3 off3 xs ∧ (xs.length ≤ maxLen ∧ xs.length ≤ cap3) ∧ ∀ x ∈ xs, x < 18446744073709551616) :
    Calls Try.prog 5 #[.int .i64 a0, .int .i64 a1, .float .f64 a2, .slice a3 xs.length cap3] w fun e w' => e = .returned (.bool true) ∧ Below w.heap.size w w' := by
  have hn := wf_int h1
  obtain ⟨hI, ⟨hl, hcap⟩, hx⟩ := h3
  obtain ⟨n, hlen⟩ : ∃ n, xs.length = n := ⟨_, rfl⟩
  rw [hlen] at hl hcap ⊢
  obtain ⟨M, hM⟩ : ∃ M : Nat, min (n : Int) 100 = (M : Int) := ⟨min n 100, by omega⟩
  have hM100 : M ≤ 100 := by omega
  have hMn : M ≤ n := by omega
  have hMl : (xs.take M).length = M := by rw [List.length_take]; omega
  have hIt := hI.take M
  have hxt : ∀ x ∈ xs.take M, x < 18446744073709551616 := fun x h => hx x (List.mem_of_mem_take h)
  obtain ⟨v, hv⟩ : ∃ v, reachB a0 a1 a2 = v := ⟨_, rfl⟩
  obtain ⟨q, hq⟩ : ∃ q, meanB (xs.take M) = q := ⟨_, rfl⟩
  have C1 : Hid _ := fun w => reached_val a0 a1 a2 v w hn hv
  have C2 : Hid _ := fun w => refReached_val a0 a1 a2 v w hn hv
  have C3 : Hid _ := fun a cap w h => mean_val a b3 off3 cap M q (xs.take M) w hMl (by unfold maxLen at *; omega) h hxt hq
  have C4 : Hid _ := fun a cap w h => refMean_val a b3 off3 cap M q (xs.take M) w hMl (by unfold maxLen at *; omega) h hxt hq
  have HI : Hid _ := hIt
  have hal : 0 < M → a3 = some ⟨b3, off3, none⟩ := fun h => hI.addr (by omega)
  have HA : Hid _ := hal
  clear hv hq hI hIt hx hxt hMl hn h0 h1 h2 hlen hal
  unfold maxLen at hl
  go_enter Try.func5, Try.ntmps5
  go_wp2_with fail
  refine (examples3_any _).mono ?_
  rintro e w1 ⟨rfl, rfl⟩
  go_wp2_with fail
  refine (C3.out _ _ _ HI.out).mono ?_
  rintro e w1 ⟨rfl, rfl⟩
  go_wp2_with fail
  refine (C4.out _ _ _ HI.out).mono ?_
  rintro e w1 ⟨rfl, d, rfl⟩
  clear C3 C4
  go_wp2_with (first
    | (go_at_call 15; refine (sameR _ _).mono ?_; rintro e w1 ⟨rfl, rfl⟩)
    | (go_at_call 22; refine (C1.out _).mono ?_; rintro e w1 ⟨rfl, rfl⟩)
    | (go_at_call 23; refine (C2.out _).mono ?_; rintro e w1 ⟨rfl, rfl⟩))
  go_ret
  refine ⟨retB ?_, belD _ _⟩
  simp

set_option maxRecDepth 100000 in
theorem lifted (os : Os) (started : os.Started) (H : Type) (enc : TypeId × Value → H) :
    ReturnsInHanded {} Try.checked os 5 .any (Rows.realReachesSpec.pre6 enc Try.prog Try.f5 Rows.realReachesRow.domain false) (Rows.realReachesSpec.post enc Try.prog Try.f5 false true false false) := by
  refine returnsInHanded_of_change (C := Try.checked) own started (by kernel_rfl) Try.func5
    (ChangeSpec.witness6 (enc := enc) (C := Try.checked) false ⟨#[], #[.int .i64 0, .int .i64 0, .float .f64 0, .slice none 0 0], []⟩ 8 (by kernel_rfl) (by kernel_rfl) (by kernel_rfl) (by kernel_rfl)) ?_
  intro W base args ds gs before hval0 hW hcnd _
  have hval : ∀ (j : Nat) t v, Try.f5.params[j]? = some t → args[j]? = some v → Value.okWide Try.prog W .any base t v := hval0
  have hW' := hW
  obtain ⟨p, q, hA0, hV, rfl, hfz, hnd⟩ := hW
  have hA : DataW.TrodAll enc Try.prog W 0 (fun _ => true) true Try.f5.params.toList args.toList ds p := hA0
  rw [Try.params5] at hA hval
  obtain ⟨v0, vs0, d0, ds0, p0, q0, hargs, rfl, rfl, h0, r0⟩ := trodAll_cons hA
  obtain ⟨v1, vs1, d1, ds1, p1, q1, rfl, rfl, rfl, h1, r1⟩ := trodAll_cons r0
  obtain ⟨v2, vs2, d2, ds2, p2, q2, rfl, rfl, rfl, h2, r2⟩ := trodAll_cons r1
  obtain ⟨v3, vs3, d3, ds3, p3, q3, rfl, rfl, rfl, h3, r3⟩ := trodAll_cons r2
  obtain ⟨rfl, rfl, rfl⟩ := trodAll_nil r3
  obtain rfl : args = #[v0, v1, v2, v3] := by cases args; simp_all
  obtain ⟨rfl, rfl⟩ := trodVars_none hV
  obtain ⟨a0, rfl, rfl, rfl, w0⟩ := open_int Try.underlying3 (hval 0 3 v0 rfl rfl) h0
  obtain ⟨a1, rfl, rfl, rfl, w1⟩ := open_int Try.underlying3 (hval 1 3 v1 rfl rfl) h1
  obtain ⟨a2, rfl, rfl, rfl, w2⟩ := open_float Try.underlying22 (hval 2 22 v2 rfl rfl) h2
  obtain ⟨a3, len3, cap3, rfl⟩ := okWide_slice Try.underlying23 (hval 3 23 v3 rfl rfl)
  have k3 := h3
  have lt3 : ∀ x ∈ p3, x.block < W.heap.size := by obtain ⟨m, hm⟩ := k3; exact DataW.trod_lt m _ _ _ hm
  obtain ⟨b3, off3, ss3, rfl, w3⟩ := open_flts Try.underlying23 Try.underlying22 (by kernel_rfl) h3
  clear hA0 hval0
  refine (walk a0 a1 a2 a3 b3 off3 cap3 ss3 W w0 w1 w2 w3).mono fun e W' ⟨he, bel⟩ => ?_
  subst he
  exact ⟨_, rfl, _, _, _, [], _, [], hW', trodAll_mk1 (shut_bool Try.underlying4 _), (trodAll_cons_mk (shut_int Try.underlying3 w0) (trodAll_cons_mk (shut_int Try.underlying3 w1) (trodAll_cons_mk (shut_float Try.underlying22 w2) (trodAll_cons_mk (Below.trod laidOutF (by kernel_rfl) (of_decide_eq_true (by kernel_rfl)) k3 bel lt3) trodAll_mk0)))), rfl, bel.frame _, fun h => by cases h⟩

theorem over : Rows.realReachesRow.holds Try.pinned (OpenSpec.ofChange Rows.realReachesSpec) :=
  OpenClaim.holds_of_wide 5 Try.f5 rfl rfl rfl rfl rfl rfl rfl ⟨rfl, rfl, rfl, rfl, rfl⟩ rfl rfl rfl rfl rfl (by kernel_rfl) Try.func5 (by kernel_rfl)
    (of_decide_eq_true (by kernel_rfl)) (by unfold Func.isWrapper; first | (rw [if_pos (by decide +kernel)]; kernel_rfl) | (rw [if_neg (by decide +kernel)]; exact ⟨rfl, rfl⟩))
    (fun os started H enc _ => lifted os started H enc)
end Go.Proofs.Ytjnpipjikkkkcaa.realReaches

namespace Go.Proofs.Ytjnpipjikkkkcaa
/-- The statement. -/
theorem realReaches_holds : Rows.RealReachesSaid := realReaches.over
#print axioms realReaches_holds
end Go.Proofs.Ytjnpipjikkkkcaa
