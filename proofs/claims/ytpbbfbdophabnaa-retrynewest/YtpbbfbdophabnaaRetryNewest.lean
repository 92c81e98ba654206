/- RetryNewest: for every two numbers: the statement's function returns true; nothing that was there is changed. No condition. -/
import Derived.Test.YtpbbfbdophabnaaRetryP
import Derived.Lib.MinMax
namespace Go.Proofs.Ytpbbfbdophabnaa.retryNewest
open Go.ChangeShapes Go.WideShapes Go.ChangeAt Go.RowKit Go.Proofs.Ytpbbfbdophabnaa Go.Proofs.Ytpbbfbdophabnaa.Edi Go.Proofs.Ytpbbfbdophabnaa.Rty
set_option linter.unusedVariables false

theorem own : ownKnob Try.prog.godebug = none := by kernel_rfl

set_option maxRecDepth 100000 in
set_option maxHeartbeats 16000000 in
theorem core (a0 a1 : Int) (h0 : In64 a0) (h1 : In64 a1) (w : World) : Calls Try.prog 4 #[.int .i64 a0, .int .i64 a1] w fun x w' => x = .returned (.bool true) ∧ Below w.heap.size w w' := by
  obtain ⟨c, hc⟩ : ∃ c, keepN a0 % 4 = c := ⟨_, rfl⟩
  obtain ⟨n, hn⟩ : ∃ n, keepN a1 % 61 = n := ⟨_, rfl⟩
  have hc4 : c < 4 := by rw [← hc]; exact Nat.mod_lt _ (by omega)
  have hn60 : n < 61 := by rw [← hn]; exact Nat.mod_lt _ (by omega)
  have P0 : Hid (∀ W, Calls Try.prog 9 #[.int .i64 a0, .int .i64 4] W fun e w' => e = .returned (.int .i64 (c : Int)) ∧ w' = W) := fun W => pick_val a0 4 c W h0 (by omega) hc
  have P1 : Hid (∀ W, Calls Try.prog 9 #[.int .i64 a1, .int .i64 61] W fun e w' => e = .returned (.int .i64 (n : Int)) ∧ w' = W) := fun W => pick_val a1 61 n W h1 (by omega) hn
  have CP : Hid (∀ (i : Nat) L W cb, i < n → Sep w L W (Cac cb (newL (c : Int) i) i) Non → Calls Try.prog 10 #[.pointer (some ⟨cb, 0, none⟩), .int .i64 (c : Int), .int .i64 (i : Int), .agg #[.int .i64 3, .string ⟨#[47, 120]⟩, .string ⟨#[]⟩, .int .i64 (c : Int), .int .i64 (i : Int), .int .i64 0, .slice none 0 0], .agg #[.int .i64 0, .int .i64 0, .int .i64 0, .int .i64 0, .slice none 0 0, .string ⟨#[]⟩, .bool false, .int .i64 0, .slice none 0 0, .int .i64 0, .int .i64 (i : Int)]] W fun y w' => y = .returned (.int .i64 0) ∧ Sep w L w' (Cac cb (newL (c : Int) (i + 1)) (i + 1)) Non) := fun i L W cb hi h => s_put (e := edP 3 px (c : Int) (i : Int)) (x := anP (i : Int)) (s := ⟨none, 0, none, 0⟩) h stNon (by omega) (Nm.nil W) (anP_in _ _ _ _) (newL_putE (by omega) (by omega))
  have CG : Hid (∀ (i : Nat) L W cb o er, i < n → getA (newL (c : Int) n) (c : Int) (i : Int) (edP 3 px (c : Int) (i : Int)) = (o, er) → Sep w L W (Cac cb (newL (c : Int) n) n) Non → Calls Try.prog 12 #[.pointer (some ⟨cb, 0, none⟩), .int .i64 (c : Int), .int .i64 (i : Int), .agg #[.int .i64 3, .string ⟨#[47, 120]⟩, .string ⟨#[]⟩, .int .i64 (c : Int), .int .i64 (i : Int), .int .i64 0, .slice none 0 0]] W fun y w' => GetR W.heap.size o er y w' ∧ Sep w L w' (Cac cb (newL (c : Int) n) n) Non) := fun i L W cb o er hi ho h => s_get (e := edP 3 px (c : Int) (i : Int)) h stNon (Nm.nil W) (by unfold In64; omega) (by unfold In64; omega) o er ho
  clear h0 h1 hc hn
  go_enter Try.func4, Try.ntmps4
  go_wp2_with fail
  refine (examples13_val w).mono ?_
  rintro x w1 ⟨rfl, b1⟩
  have B1 : Hid (Below w.heap.size w w1) := b1
  clear b1
  go_wp2_with fail
  refine (s_new B1.out).mono ?_
  rintro x w2 ⟨rfl, h⟩
  obtain ⟨cb, hcb⟩ : ∃ cb, w1.heap.size + 1 = cb := ⟨_, rfl⟩
  rw [hcb] at h ⊢
  have H0 : Hid (Sep w [] w2 (Cac cb [] 0) Non) := h
  clear h hcb
  go_wp2_with fail
  refine (P0.out _).mono ?_
  rintro x w3 ⟨rfl, rfl⟩
  go_wp2_with fail
  refine (P1.out _).mono ?_
  rintro x w4 ⟨rfl, rfl⟩
  go_wp2
  go_loopw [7] (fun v wr => ∃ i : Nat, i ≤ n ∧ v = .int .i64 i ∧ Sep w [] wr (Cac cb (newL (c : Int) i) i) Non) (fun v _ => n - (intOf v).toNat)
  case atStart => exact ⟨0, by omega, rfl, H0.out⟩
  case round =>
    obtain ⟨i, hi, rfl, hS⟩ := hrel
    have HS : Hid (Sep w [] wr (Cac cb (newL (c : Int) i) i) Non) := hS
    clear hS H0
    by_cases hlt : i < n
    · have HB : Hid (∀ T, Sep w [] (wr.alloc (.cells #[.int .i64 3, .string ⟨#[47, 120]⟩, .string ⟨#[]⟩, .int .i64 (c : Int), .int .i64 (i : Int), .int .i64 0, .slice none 0 0] T)) (Cac cb (newL (c : Int) i) i) Non) := fun T => HS.out.below (stCac _ _ _) stNon (bel_al _ _)
      have CP2 : Hid _ := CP.out i
      go_wp2_with (go_at_call 10; refine (CP2.out _ _ _ hlt (HB.out _)).mono ?_; rintro x w5 ⟨rfl, h5⟩; have H5 : Hid _ := h5; clear h5)
      go_roundw
      case rel => exact ⟨i + 1, by omega, by go_num, H5.out⟩
      case measure => simp [intOf]; omega
    · obtain rfl : i = n := by omega
      have hgd : decide ((i : Int) < (i : Int)) = false := decide_eq_false (by omega)
      clear hlt CP P0 P1
      go_wp2
      go_loopw [9] (fun v wr => ∃ j : Nat, j ≤ i ∧ v = .int .i64 j ∧ Sep w [] wr (Cac cb (newL (c : Int) i) i) Non) (fun v _ => i - (intOf v).toNat)
      case atStart => exact ⟨0, by omega, rfl, HS.out⟩
      case round =>
        obtain ⟨j, hj, rfl, hS⟩ := hrel
        have HA : Hid (Rty.Apart (newL (c : Int) i)) := hS.apart.1
        have HJ : Hid (Sep w [] wr (Cac cb (newL (c : Int) i) i) Non) := hS
        clear hS HS
        by_cases hlt : j < i
        · have HB : Hid (∀ T, Sep w [] (wr.alloc (.cells #[.int .i64 3, .string ⟨#[47, 120]⟩, .string ⟨#[]⟩, .int .i64 (c : Int), .int .i64 (j : Int), .int .i64 0, .slice none 0 0] T)) (Cac cb (newL (c : Int) i) i) Non) := fun T => HJ.out.below (stCac _ _ _) stNon (bel_al _ _)
          by_cases h20 : i - 20 ≤ j
          · have hg := newL_yes HA.out h20 hlt
            have CG2 : Hid _ := fun L W cb => CG.out j L W cb _ _ hlt hg
            have hge : decide ((i : Int) - 20 ≤ (j : Int)) = true := decide_eq_true (by omega)
            clear hg CG
            go_wp2_with (go_at_call 12; refine (CG2.out _ _ _ (HB.out _)).mono ?_; rintro x w5 ⟨⟨s, ga, gb, rfl, -⟩, h5⟩; have H5 : Hid (Sep w [] w5 (Cac cb (newL (c : Int) i) i) Non) := h5; clear h5; unfold anV anP; simp only [Option.getD_some, Option.isSome_some])
            go_roundw
            case rel => exact ⟨j + 1, by omega, by go_num, H5.out.below (stCac _ _ _) stNon (bel_al _ _)⟩
            case measure => simp [intOf]; omega
          · have hg := newL_no (cl := (c : Int)) (n := i) (i := j) (by omega)
            have CG2 : Hid _ := fun L W cb => CG.out j L W cb _ _ hlt hg
            have hge : decide ((i : Int) - 20 ≤ (j : Int)) = false := decide_eq_false (by omega)
            clear hg CG
            go_wp2_with (go_at_call 12; refine (CG2.out _ _ _ (HB.out _)).mono ?_; rintro x w5 ⟨⟨s, ga, gb, rfl, -⟩, h5⟩; have H5 : Hid (Sep w [] w5 (Cac cb (newL (c : Int) i) i) Non) := h5; clear h5; unfold anV zeroA; simp only [Option.getD_none, Option.isSome_none])
            go_roundw
            case rel => exact ⟨j + 1, by omega, by go_num, H5.out.below (stCac _ _ _) stNon (bel_al _ _)⟩
            case measure => simp [intOf]; omega
        · obtain rfl : j = i := by omega
          have hgd : decide ((j : Int) < (j : Int)) = false := decide_eq_false (by omega)
          obtain ⟨M, hM⟩ : ∃ M, min j 20 = M := ⟨_, rfl⟩
          have hM2 : min (j : Int) 20 = (M : Int) := by omega
          have CL : Hid (Calls Try.prog 17 #[.pointer (some ⟨cb, 0, none⟩)] wr fun e w' => e = .returned (.int .i64 (M : Int)) ∧ w' = wr) := s_len HJ.out M (by rw [newL_len]; exact hM)
          clear hlt CG hM
          go_wp2_with (go_at_call 17; refine CL.out.mono ?_; rintro x w5 ⟨rfl, rfl⟩)
          go_ret
          exact ⟨rfl, HJ.out.bel⟩

theorem walk (a0 a1 : Int) (w0 : (Lit.int .i64 a0).wf = true) (w1 : (Lit.int .i64 a1).wf = true) (W : World) :
    Calls Try.prog 4 #[.int .i64 a0, .int .i64 a1] W fun x w' => x = .returned (.bool true) ∧ Below W.heap.size W w' := core a0 a1 (wf_in64 w0) (wf_in64 w1) W

set_option maxRecDepth 100000 in
theorem lifted (os : Os) (started : os.Started) (H : Type) (enc : TypeId × Value → H) :
    ReturnsInHanded {} Try.checked os 4 .any (Rows.retryNewestSpec.pre6 enc Try.prog Try.f4 Rows.retryNewestRow.domain false) (Rows.retryNewestSpec.post enc Try.prog Try.f4 false true false false) := by
  refine returnsInHanded_of_change (C := Try.checked) own started (by kernel_rfl) Try.func4
    (ChangeSpec.witness6 (enc := enc) (C := Try.checked) false ⟨#[], #[.int .i64 0, .int .i64 0], []⟩ 8 (by kernel_rfl) (by kernel_rfl) (by kernel_rfl) (by kernel_rfl)) ?_
  intro W base args ds gs before hval0 hW hcnd _
  have hval : ∀ (j : Nat) t v, Try.f4.params[j]? = some t → args[j]? = some v → Value.okWide Try.prog W .any base t v := hval0
  have hW' := hW
  obtain ⟨p, q, hA0, hV, rfl, hfz, hnd⟩ := hW
  have hA : DataW.TrodAll enc Try.prog W 0 (fun _ => true) true Try.f4.params.toList args.toList ds p := hA0
  rw [Try.params4] at hA hval
  obtain ⟨v0, vs0, d0, ds0, p0, q0, hargs, rfl, rfl, h0, r0⟩ := trodAll_cons hA
  obtain ⟨v1, vs1, d1, ds1, p1, q1, rfl, rfl, rfl, h1, r1⟩ := trodAll_cons r0
  obtain ⟨rfl, rfl, rfl⟩ := trodAll_nil r1
  obtain rfl : args = #[v0, v1] := by cases args; simp_all
  obtain ⟨rfl, rfl⟩ := trodVars_none hV
  obtain ⟨a0, rfl, rfl, rfl, w0⟩ := open_int Try.underlying3 (hval 0 3 v0 rfl rfl) h0
  obtain ⟨a1, rfl, rfl, rfl, w1⟩ := open_int Try.underlying3 (hval 1 3 v1 rfl rfl) h1
  clear hA0 hval0
  refine (walk a0 a1 w0 w1 W).mono fun e W' ⟨he, bel⟩ => ?_
  subst he
  exact ⟨_, rfl, _, _, _, [], _, [], hW', trodAll_mk1 (shut_bool Try.underlying4 _), (trodAll_cons_mk (shut_int Try.underlying3 w0) (trodAll_cons_mk (shut_int Try.underlying3 w1) trodAll_mk0)), rfl, bel.frame _, fun h => by cases h⟩

theorem over : Rows.retryNewestRow.holds Try.pinned (OpenSpec.ofChange Rows.retryNewestSpec) :=
  OpenClaim.holds_of_wide 4 Try.f4 rfl rfl rfl rfl rfl rfl rfl ⟨rfl, rfl, rfl, rfl, rfl⟩ rfl rfl rfl rfl rfl (by kernel_rfl) Try.func4 (by kernel_rfl)
    (of_decide_eq_true (by kernel_rfl)) (by unfold Func.isWrapper; first | (rw [if_pos (by decide +kernel)]; kernel_rfl) | (rw [if_neg (by decide +kernel)]; exact ⟨rfl, rfl⟩))
    (fun os started H enc _ => lifted os started H enc)
end Go.Proofs.Ytpbbfbdophabnaa.retryNewest

namespace Go.Proofs.Ytpbbfbdophabnaa
/-- The statement. -/
theorem retryNewest_holds : Rows.RetryNewestSaid := retryNewest.over
#print axioms retryNewest_holds
end Go.Proofs.Ytpbbfbdophabnaa
