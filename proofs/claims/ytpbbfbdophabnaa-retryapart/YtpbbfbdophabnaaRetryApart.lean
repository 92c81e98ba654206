/- RetryApart: for every two numbers: the statement's function returns true; nothing that was there is changed. No condition. -/
import Derived.Test.YtpbbfbdophabnaaRetryP
import Derived.Lib.MinMax
namespace Go.Proofs.Ytpbbfbdophabnaa.retryApart
open Go.ChangeShapes Go.WideShapes Go.ChangeAt Go.RowKit Go.Proofs.Ytpbbfbdophabnaa Go.Proofs.Ytpbbfbdophabnaa.Edi Go.Proofs.Ytpbbfbdophabnaa.Rty
set_option linter.unusedVariables false

theorem own : ownKnob Try.prog.godebug = none := by kernel_rfl

/-- What is there ahead of a turn. -/
def atT (N : Nat) : Nat → CL
  | 0 => []
  | 1 => twoL N 1 0
  | _ => twoL N 1 N
theorem atT_start (N T : Nat) (hT : T < 2) : atT N T = twoL N T 0 := by
  match T, hT with
  | 0, _ => rfl
  | 1, _ => rfl
theorem atT_end (N T : Nat) (hT : T < 2) : twoL N T N = atT N (T + 1) := by
  match T, hT with
  | 0, _ => exact twoL_next N
  | 1, _ => rfl

set_option maxRecDepth 100000 in
set_option maxHeartbeats 16000000 in
theorem core (a0 a1 : Int) (h0 : In64 a0) (h1 : In64 a1) (w : World) : Calls Try.prog 5 #[.int .i64 a0, .int .i64 a1] w fun x w' => x = .returned (.bool true) ∧ Below w.heap.size w w' := by
  obtain ⟨n, hn⟩ : ∃ n, keepN a0 % 10 = n := ⟨_, rfl⟩
  obtain ⟨b, hb⟩ : ∃ b, keepN a1 % 12 = b := ⟨_, rfl⟩
  have hn10 : n < 10 := by rw [← hn]; exact Nat.mod_lt _ (by omega)
  have hb12 : b < 12 := by rw [← hb]; exact Nat.mod_lt _ (by omega)
  have P0 : Hid (∀ W, Calls Try.prog 9 #[.int .i64 a0, .int .i64 10] W fun e w' => e = .returned (.int .i64 (n : Int)) ∧ w' = W) := fun W => pick_val a0 10 n W h0 (by omega) hn
  have P1 : Hid (∀ W, Calls Try.prog 9 #[.int .i64 a1, .int .i64 12] W fun e w' => e = .returned (.int .i64 (b : Int)) ∧ w' = W) := fun W => pick_val a1 12 b W h1 (by omega) hb
  obtain ⟨N, hN⟩ : ∃ N, 2 * n = N := ⟨_, rfl⟩
  have HN : Hid (2 * n = N) := hN
  have CP : Hid (∀ (T i k q : Nat) L W cb, T < 2 → i < n → k < 2 → q ≤ 100 → Sep w L W (Cac cb (twoL N T (2 * i + k)) q) Non → Calls Try.prog 10 #[.pointer (some ⟨cb, 0, none⟩), .int .i64 (k : Int), .int .i64 (i : Int), .agg #[.int .i64 1, .string ⟨#[47, 120]⟩, .string ⟨#[]⟩, .int .i64 (k : Int), .int .i64 (i : Int), .int .i64 0, .slice none 0 0], .agg #[.int .i64 0, .int .i64 0, .int .i64 0, .int .i64 0, .slice none 0 0, .string ⟨#[]⟩, .bool false, .int .i64 0, .slice none 0 0, .int .i64 0, .int .i64 (10 * (T : Int) + (i : Int))]] W fun y w' => y = .returned (.int .i64 0) ∧ Sep w L w' (Cac cb (twoL N T (2 * i + (k + 1))) (q + 1)) Non) := fun T i k q L W cb hT hi hk hq h => by
    have hp := twoL_putE (N := N) (T := T) (m := 2 * i + k) hT (by omega) (by omega)
    rw [show (2 * i + k) % 2 = k by omega, show (2 * i + k) / 2 = i by omega, show ((10 * T + i : Nat) : Int) = 10 * (T : Int) + (i : Int) by omega] at hp
    exact s_put (e := edP 1 px (k : Int) (i : Int)) (x := anP (10 * (T : Int) + (i : Int))) (s := ⟨none, 0, none, 0⟩) h stNon (by omega) (Nm.nil W) (anP_in _ _ _ _) hp
  have CG : Hid (∀ (c : Int) (i q : Nat) L W cb o er, 0 ≤ c ∧ c ≤ 1 → i < n → getA (leftL n b) c (i : Int) (edP 1 px c (i : Int)) = (o, er) → Sep w L W (Cac cb (leftL n b) q) Non → Calls Try.prog 12 #[.pointer (some ⟨cb, 0, none⟩), .int .i64 c, .int .i64 (i : Int), .agg #[.int .i64 1, .string ⟨#[47, 120]⟩, .string ⟨#[]⟩, .int .i64 c, .int .i64 (i : Int), .int .i64 0, .slice none 0 0]] W fun y w' => GetR W.heap.size o er y w' ∧ Sep w L w' (Cac cb (leftL n b) q) Non) := fun c i q L W cb o er hc hi ho h => s_get (e := edP 1 px c (i : Int)) h stNon (Nm.nil W) (by unfold In64; omega) (by unfold In64; omega) o er ho
  clear h0 h1 hn hb hN
  go_enter Try.func5, Try.ntmps5
  go_wp2_with fail
  refine (examples13_val w).mono ?_
  rintro x w1 ⟨rfl, b1⟩
  have B1 : Hid (Below w.heap.size w w1) := b1
  clear b1
  go_wp2_with fail
  refine (s_new B1.out).mono ?_
  rintro x w2 ⟨rfl, h⟩
  obtain ⟨cb, hcb⟩ : ∃ cb, w1.heap.size + 1 = cb := ⟨_, rfl⟩
  rw [hcb] at h ⊢
  have H0 : Hid (Sep w [] w2 (Cac cb [] 0) Non) := h
  clear h hcb
  go_wp2_with fail
  refine (P0.out _).mono ?_
  rintro x w3 ⟨rfl, rfl⟩
  go_wp2_with fail
  refine (P1.out _).mono ?_
  rintro x w4 ⟨rfl, rfl⟩
  go_wp2
  clear P0 P1
  go_loopw [7] (fun v wr => ∃ T q : Nat, T ≤ 2 ∧ v = .int .i64 T ∧ q ≤ 18 * T ∧ Sep w [] wr (Cac cb (atT N T) q) Non) (fun v _ => 2 - (intOf v).toNat)
  case atStart => exact ⟨0, 0, by omega, rfl, by omega, H0.out⟩
  case round =>
    obtain ⟨T, q, hT, rfl, hq, hS⟩ := hrel
    have HS : Hid (Sep w [] wr (Cac cb (atT N T) q) Non) := hS
    clear hS H0
    by_cases hT2 : T < 2
    · have HS2 : Hid (Sep w [] wr (Cac cb (twoL N T 0) q) Non) := by have := HS.out; rw [atT_start N T hT2] at this; exact this
      have hTb : decide ((T : Int) < 2) = true := decide_eq_true (by omega)
      clear HS CG
      go_wp2
      rename World => wo
      go_loopw [8] (fun v wi => ∃ i q : Nat, i ≤ n ∧ v = .int .i64 i ∧ q ≤ 18 * T + 2 * i ∧ Sep w [] wi (Cac cb (twoL N T (2 * i)) q) Non) (fun v _ => n - (intOf v).toNat)
      case atStart => exact ⟨0, q, by omega, rfl, by omega, HS2.out⟩
      case round =>
        obtain ⟨i, q, hi, rfl, hq, hS⟩ := hrel
        have HI : Hid (Sep w [] wr (Cac cb (twoL N T (2 * i)) q) Non) := hS
        clear hS HS2
        by_cases hlt : i < n
        · go_wp2
          rename World => wp
          go_loopw [9] (fun v wk => ∃ k q : Nat, k ≤ 2 ∧ v = .int .i64 k ∧ q ≤ 18 * T + 2 * i + k ∧ Sep w [] wk (Cac cb (twoL N T (2 * i + k)) q) Non) (fun v _ => 2 - (intOf v).toNat)
          case atStart => exact ⟨0, q, by omega, rfl, by omega, HI.out⟩
          case round =>
            obtain ⟨k, q, hk, rfl, hq, hS⟩ := hrel
            have HK : Hid (Sep w [] wr (Cac cb (twoL N T (2 * i + k)) q) Non) := hS
            clear hS HI
            by_cases hk2 : k < 2
            · have HB : Hid (∀ t, Sep w [] (wr.alloc (.cells #[.int .i64 1, .string ⟨#[47, 120]⟩, .string ⟨#[]⟩, .int .i64 (k : Int), .int .i64 (i : Int), .int .i64 0, .slice none 0 0] t)) (Cac cb (twoL N T (2 * i + k)) q) Non) := fun t => HK.out.below (stCac _ _ _) stNon (bel_al _ _)
              have CP2 : Hid _ := fun L W cb => CP.out T i k q L W cb hT2 hlt hk2 (by omega)
              have HQ : Hid (q ≤ 18 * T + 2 * i + k) := hq
              clear CP hq
              go_wp2_with (go_at_call 10; refine (CP2.out _ _ _ (HB.out _)).mono ?_; rintro x w5 ⟨rfl, h5⟩; have H5 : Hid _ := h5; clear h5)
              go_roundw
              case rel => exact ⟨k + 1, q + 1, by omega, by go_num, by have := HQ.out; omega, H5.out⟩
              case measure => simp [intOf]; omega
            · obtain rfl : k = 2 := by omega
              have HQ : Hid (q ≤ 18 * T + 2 * i + 2) := hq
              have HK2 : Hid (Sep w [] wr (Cac cb (twoL N T (2 * (i + 1))) q) Non) := HK.out
              clear hq hk2 hk HK
              go_wp2
              go_roundw
              case rel => exact ⟨i + 1, q, by omega, by go_num, by have := HQ.out; omega, HK2.out⟩
              case measure => simp [intOf]; omega
        · obtain rfl : i = n := by omega
          have hgd : decide ((i : Int) < (i : Int)) = false := decide_eq_false (by omega)
          have HQ : Hid (q ≤ 18 * T + 2 * i) := hq
          have HI2 : Hid (Sep w [] wr (Cac cb (atT N (T + 1)) q) Non) := by have h := HI.out; rw [HN.out, atT_end N T hT2] at h; exact h
          clear hq hlt hi HI
          go_wp2
          go_roundw
          case rel => exact ⟨T + 1, q, by omega, by go_num, by have := HQ.out; omega, HI2.out⟩
          case measure => simp [intOf]; omega
    · obtain rfl : T = 2 := by omega
      have HS2 : Hid (Sep w [] wr (Cac cb (twoL N 1 N) q) Non) := HS.out
      have HF : Hid (∀ W, Sep w [] W (Cac cb (twoL N 1 N) q) Non → Calls Try.prog 15 #[.pointer (some ⟨cb, 0, none⟩), .int .i64 0, .int .i64 (b : Int)] W fun e w' => e = .returned (.tuple #[]) ∧ Sep w [] w' (Cac cb (leftL n b) q) Non) := fun W h => by
        have := s_forget h stNon 0 (b : Int)
        rw [← HN.out, leftL_is] at this
        exact this
      clear HS hT2 hT hq CP
      go_wp2_with (go_at_call 15; refine (HF.out _ HS2.out).mono ?_; rintro x w5 ⟨rfl, h5⟩; have H5 : Hid (Sep w [] w5 (Cac cb (leftL n b) q) Non) := h5; clear h5)
      clear HF HS2
      go_loopw [11] (fun v wr => ∃ j : Nat, j ≤ n ∧ v = .int .i64 j ∧ Sep w [] wr (Cac cb (leftL n b) q) Non) (fun v _ => n - (intOf v).toNat)
      case atStart => exact ⟨0, by omega, rfl, H5.out⟩
      case round =>
        obtain ⟨j, hj, rfl, hS⟩ := hrel
        have HA : Hid (Rty.Apart (leftL n b)) := hS.apart.1
        have HJ : Hid (Sep w [] wr (Cac cb (leftL n b) q) Non) := hS
        clear hS H5
        by_cases hlt : j < n
        · have hg1 := leftL_one HA.out hlt
          rw [show ((10 + j : Nat) : Int) = 10 + (j : Int) by omega] at hg1
          have CG1 : Hid _ := fun L W cb => CG.out 1 j q L W cb _ _ (by omega) hlt hg1
          by_cases hbj : b ≤ j
          · have hg := leftL_yes HA.out hlt hbj
            rw [show ((10 + j : Nat) : Int) = 10 + (j : Int) by omega] at hg
            have CG0 : Hid _ := fun L W cb => CG.out 0 j q L W cb _ _ (by omega) hlt hg
            have hge : decide ((b : Int) ≤ (j : Int)) = true := decide_eq_true (by omega)
            have hge2 : decide (b ≤ j) = true := decide_eq_true (by omega)
            clear hg hg1 CG
            go_wp2_with fail
            refine (CG0.out _ _ _ HJ.out).mono ?_
            rintro x w5 ⟨⟨s, ga, gb, rfl, -⟩, h5⟩
            unfold anV anP
            simp only [Option.getD_some, Option.isSome_some]
            have H5 : Hid _ := h5.box (stCac _ _ _) stNon [.int .i64 0, .int .i64 0, .int .i64 0, .int .i64 0, .slice s.a1 0 s.c1, .string ⟨#[]⟩, .bool false, .int .i64 0, .slice s.a2 0 s.c2, .int .i64 0, .int .i64 (10 + (j : Int))] 41
            clear h5 CG0
            go_wp2_with fail
            refine (CG1.out _ _ _ H5.out).mono ?_
            rintro x w6 ⟨⟨s6, ga6, gb6, rfl, -⟩, h6⟩
            unfold anV anP
            simp only [Option.getD_some, Option.isSome_some]
            have K6 := (h6.cells (b := w5.heap.size) (vs := [.int .i64 0, .int .i64 0, .int .i64 0, .int .i64 0, .slice s.a1 0 s.c1, .string ⟨#[]⟩, .bool false, .int .i64 0, .slice s.a2 0 s.c2, .int .i64 0, .int .i64 (10 + (j : Int))]) (by simp))
            have k10 : ∀ o, (w6.alloc o).cell? ⟨w5.heap.size, 10, none⟩ = some (.int .i64 (10 + (j : Int))) := fun o => bel_cell (bel_al _ _) (K6.val 10 _ rfl)
            have H6 : Hid (Sep w [] w6 (Cac cb (leftL n b) q) Non) := h6.less (fun q hq => by cases hq)
            clear h6 K6 CG1 H5
            go_wp2
            go_roundw
            case rel => exact ⟨j + 1, by omega, by go_num, H6.out.below (stCac _ _ _) stNon (bel_al _ _)⟩
            case measure => simp [intOf]; omega
          · have hg := leftL_no (n := n) (below := b) (i := j) (by omega)
            have CG0 : Hid _ := fun L W cb => CG.out 0 j q L W cb _ _ (by omega) hlt hg
            have hge : decide ((b : Int) ≤ (j : Int)) = false := decide_eq_false (by omega)
            have hge2 : decide (b ≤ j) = false := decide_eq_false (by omega)
            clear hg hg1 CG
            go_wp2_with fail
            refine (CG0.out _ _ _ HJ.out).mono ?_
            rintro x w5 ⟨⟨s, ga, gb, rfl, -⟩, h5⟩
            unfold anV zeroA
            simp only [Option.getD_none, Option.isSome_none]
            have H5 : Hid (∀ o, Sep w [] (w5.alloc o) (Cac cb (leftL n b) q) Non) := fun o => h5.below (stCac _ _ _) stNon (bel_al _ _)
            clear h5 CG0
            go_wp2_with fail
            refine (CG1.out _ _ _ (H5.out _)).mono ?_
            rintro x w6 ⟨⟨s6, ga6, gb6, rfl, -⟩, h6⟩
            unfold anV anP
            simp only [Option.getD_some, Option.isSome_some]
            have H6 : Hid (Sep w [] w6 (Cac cb (leftL n b) q) Non) := h6
            clear h6 CG1 H5
            go_wp2
            go_roundw
            case rel => exact ⟨j + 1, by omega, by go_num, H6.out.below (stCac _ _ _) stNon (bel_al _ _)⟩
            case measure => simp [intOf]; omega
        · obtain rfl : j = n := by omega
          have hgd : decide ((j : Int) < (j : Int)) = false := decide_eq_false (by omega)
          obtain ⟨M, hM⟩ : ∃ M, j + (j - b) = M := ⟨_, rfl⟩
          obtain ⟨M2, hM2⟩ : ∃ M2, j - b = M2 := ⟨_, rfl⟩
          have hM3 : max 0 ((j : Int) - (b : Int)) = (M2 : Int) := by omega
          have hM4 : (j : Int) + (M2 : Int) = (M : Int) := by omega
          have CL : Hid (Calls Try.prog 17 #[.pointer (some ⟨cb, 0, none⟩)] wr fun e w' => e = .returned (.int .i64 (M : Int)) ∧ w' = wr) := s_len HJ.out M (by rw [leftL_len]; exact hM)
          clear hlt CG hM hM2 HN
          go_wp2_with (go_at_call 17; refine CL.out.mono ?_; rintro x w5 ⟨rfl, rfl⟩)
          go_ret
          exact ⟨rfl, HJ.out.bel⟩

theorem walk (a0 a1 : Int) (w0 : (Lit.int .i64 a0).wf = true) (w1 : (Lit.int .i64 a1).wf = true) (W : World) :
    Calls Try.prog 5 #[.int .i64 a0, .int .i64 a1] W fun x w' => x = .returned (.bool true) ∧ Below W.heap.size W w' := core a0 a1 (wf_in64 w0) (wf_in64 w1) W

set_option maxRecDepth 100000 in
theorem lifted (os : Os) (started : os.Started) (H : Type) (enc : TypeId × Value → H) :
    ReturnsInHanded {} Try.checked os 5 .any (Rows.retryApartSpec.pre6 enc Try.prog Try.f5 Rows.retryApartRow.domain false) (Rows.retryApartSpec.post enc Try.prog Try.f5 false true false false) := by
  refine returnsInHanded_of_change (C := Try.checked) own started (by kernel_rfl) Try.func5
    (ChangeSpec.witness6 (enc := enc) (C := Try.checked) false ⟨#[], #[.int .i64 0, .int .i64 0], []⟩ 8 (by kernel_rfl) (by kernel_rfl) (by kernel_rfl) (by kernel_rfl)) ?_
  intro W base args ds gs before hval0 hW hcnd _
  have hval : ∀ (j : Nat) t v, Try.f5.params[j]? = some t → args[j]? = some v → Value.okWide Try.prog W .any base t v := hval0
  have hW' := hW
  obtain ⟨p, q, hA0, hV, rfl, hfz, hnd⟩ := hW
  have hA : DataW.TrodAll enc Try.prog W 0 (fun _ => true) true Try.f5.params.toList args.toList ds p := hA0
  rw [Try.params5] at hA hval
  obtain ⟨v0, vs0, d0, ds0, p0, q0, hargs, rfl, rfl, h0, r0⟩ := trodAll_cons hA
  obtain ⟨v1, vs1, d1, ds1, p1, q1, rfl, rfl, rfl, h1, r1⟩ := trodAll_cons r0
  obtain ⟨rfl, rfl, rfl⟩ := trodAll_nil r1
  obtain rfl : args = #[v0, v1] := by cases args; simp_all
  obtain ⟨rfl, rfl⟩ := trodVars_none hV
  obtain ⟨a0, rfl, rfl, rfl, w0⟩ := open_int Try.underlying3 (hval 0 3 v0 rfl rfl) h0
  obtain ⟨a1, rfl, rfl, rfl, w1⟩ := open_int Try.underlying3 (hval 1 3 v1 rfl rfl) h1
  clear hA0 hval0
  refine (walk a0 a1 w0 w1 W).mono fun e W' ⟨he, bel⟩ => ?_
  subst he
  exact ⟨_, rfl, _, _, _, [], _, [], hW', trodAll_mk1 (shut_bool Try.underlying4 _), (trodAll_cons_mk (shut_int Try.underlying3 w0) (trodAll_cons_mk (shut_int Try.underlying3 w1) trodAll_mk0)), rfl, bel.frame _, fun h => by cases h⟩

theorem over : Rows.retryApartRow.holds Try.pinned (OpenSpec.ofChange Rows.retryApartSpec) :=
  OpenClaim.holds_of_wide 5 Try.f5 rfl rfl rfl rfl rfl rfl rfl ⟨rfl, rfl, rfl, rfl, rfl⟩ rfl rfl rfl rfl rfl (by kernel_rfl) Try.func5 (by kernel_rfl)
    (of_decide_eq_true (by kernel_rfl)) (by unfold Func.isWrapper; first | (rw [if_pos (by decide +kernel)]; kernel_rfl) | (rw [if_neg (by decide +kernel)]; exact ⟨rfl, rfl⟩))
    (fun os started H enc _ => lifted os started H enc)
end Go.Proofs.Ytpbbfbdophabnaa.retryApart

namespace Go.Proofs.Ytpbbfbdophabnaa
/-- The statement. -/
theorem retryApart_holds : Rows.RetryApartSaid := retryApart.over
#print axioms retryApart_holds
end Go.Proofs.Ytpbbfbdophabnaa
