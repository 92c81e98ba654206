/- MailTwins: for every two numbers of 64 bits: the statement's function returns true; nothing that was there is changed. No condition. -/
import Derived.Test.YtgjbafpjllfdeaaMailNums
import Derived.ProofKit
import Derived.OpenShut
import Derived.ShutString
import Derived.ChangeOld
import Derived.Below
import Derived.Laws.Cover2
namespace Go.Proofs.Ytgjbafpjllfdeaa.mailTwins
open Go.ChangeShapes Go.WideShapes Go.ChangeAt Go.RowKit
open Go.ChangeMaps (open_string shut_string)
set_option linter.unusedVariables false

theorem own : ownKnob Try.prog.godebug = none := by kernel_rfl

set_option maxRecDepth 100000 in
set_option maxHeartbeats 4000000 in
theorem walk_b (a0 a1 : Int) (w : World) (h0 : -9223372036854775808 ≤ a0 ∧ a0 ≤ 9223372036854775807) (h1 : -9223372036854775808 ≤ a1 ∧ a1 ≤ 9223372036854775807) :
    Calls Try.prog 6 #[.int .i64 a0, .int .i64 a1] w fun e w' => e = .returned (.bool true) ∧ Below w.heap.size w w' := by
  obtain ⟨N0, hN0⟩ : ∃ N, keepN a0 % 20 = N := ⟨_, rfl⟩
  have hN2 : N0 < 20 := by rw [← hN0]; exact Nat.mod_lt _ (by omega)
  have HN0 : Hid _ := hN0
  obtain ⟨N, hN⟩ : ∃ N, 1 + N0 = N := ⟨_, rfl⟩
  have hNz : 1 + (N0 : Int) = (N : Int) := by omega
  have hNa : 1 ≤ N := by omega
  have hNb : N ≤ 20 := by omega
  obtain ⟨I, hI⟩ : ∃ I, keepN a1 % N = I := ⟨_, rfl⟩
  have hIN : I < N := by rw [← hI]; exact Nat.mod_lt _ (by omega)
  have HI : Hid _ := hI
  obtain ⟨M, hM⟩ : ∃ M, N + 1 = M := ⟨_, rfl⟩
  obtain ⟨K, hK⟩ : ∃ K, N - 1 = K := ⟨_, rfl⟩
  have hMz : (N : Int) + 1 = (M : Int) := by omega
  have hKz : (N : Int) - 1 = (K : Int) := by omega
  obtain ⟨d, hd⟩ : ∃ d : ByteArray, (⟨#[120]⟩ : ByteArray) = d := ⟨_, rfl⟩
  have hds : d.size ≤ 4000 := by rw [← hd]; decide
  have hMb : M ≤ 21 := by omega
  -- the lists
  obtain ⟨X, hX⟩ : ∃ X, nums d N ++ [((⟨(I : Int), d⟩ : Msg), 0)] = X := ⟨_, rfl⟩
  obtain ⟨Y, hY⟩ : ∃ Y, (nums d N).eraseIdx I = Y := ⟨_, rfl⟩
  have hIl : I < (nums d N).length := by rw [nums_len]; exact hIN
  have hXl : X.length = M := by rw [← hX, List.length_append, nums_len]; exact hM
  have hYl : Y.length = K := by rw [← hY, List.length_eraseIdx, if_pos hIl, nums_len]; exact hK
  have hat : atM (nums d N) (I : Int) = some ⟨(I : Int), d⟩ := by rw [atM_nat hIl, nums_at]
  have t1e : twinE (nums d N) (I : Int) = 0 := by unfold twinE; rw [hat]; simp only; rw [if_neg (by rw [nums_len]; omega)]
  have t1l : twinL (nums d N) (I : Int) = X := by unfold twinL; rw [hat]; simp only; rw [if_neg (by rw [nums_len]; omega), hX]
  have o2 : atM X (M : Int) = none := atM_out (.inr (by rw [hXl]; omega))
  have o3 : atM X (-1) = none := atM_out (.inl (by omega))
  have t2e : twinE X (M : Int) = 5 := by unfold twinE; rw [o2]
  have t2l : twinL X (M : Int) = X := by unfold twinL; rw [o2]
  have t3e : twinE X (-1) = 5 := by unfold twinE; rw [o3]
  have t3l : twinL X (-1) = X := by unfold twinL; rw [o3]
  have k1o : atM X (N : Int) = some ⟨(I : Int), d⟩ := by
    have hN1 : N < X.length := by omega
    rw [atM_nat hN1]
    have : X[N]? = some ((⟨(I : Int), d⟩ : Msg), 0) := by rw [← hX, List.getElem?_append_right (by rw [nums_len]; omega), nums_len, Nat.sub_self]; rfl
    rw [List.getElem?_eq_getElem hN1] at this
    rw [Option.some.inj this]
  have k1l : takeL X (N : Int) = nums d N := by
    unfold takeL
    rw [if_pos (by omega), Int.toNat_natCast, ← hX, List.eraseIdx_append_of_length_le (by rw [nums_len]; omega), nums_len, Nat.sub_self]
    simp
  have k2l : takeL (nums d N) (I : Int) = Y := by unfold takeL; rw [if_pos (by omega), Int.toNat_natCast, hY]
  have hmm : ∀ j m, (X.map (·.1))[j]? = some m → ∀ (h : j < (X.map (·.1)).length), (X.map (·.1))[j] = m := fun j m h1 h2 => by rw [List.getElem?_eq_getElem h2] at h1; exact Option.some.inj h1
  have m1 : (X.map (·.1))[N]? = some ⟨(I : Int), d⟩ := by rw [List.getElem?_map, ← hX, List.getElem?_append_right (by rw [nums_len]; omega), nums_len, Nat.sub_self]; rfl
  have m2 : (X.map (·.1))[I]? = some ⟨(I : Int), d⟩ := by rw [List.getElem?_map, ← hX, List.getElem?_append_left hIl, List.getElem?_eq_getElem hIl, nums_at]; rfl
  subst hd
  have P1 : Hid _ := t1e
  have P2 : Hid _ := t1l
  have P3 : Hid _ := t2e
  have P4 : Hid _ := t2l
  have P5 : Hid _ := t3e
  have P6 : Hid _ := t3l
  have P7 : Hid _ := k1o
  have P8 : Hid _ := k1l
  have P9 : Hid _ := hat
  have P10 : Hid _ := k2l
  have PM : Hid _ := hmm
  have PM1 : Hid _ := m1
  have PM2 : Hid _ := m2
  have PX : Hid _ := hXl
  have PY : Hid _ := hYl
  have PMM : Hid (N + 1 = M) := hM
  clear t1e t1l t2e t2l t3e t3l k1o k1l hat k2l hmm m1 m2 hXl hYl hM hK hI hN hN0 hIl hX hY o2 o3 hds
  go_enter Try.func6, Try.ntmps6
  go_wp2_with fail
  refine (examples_val _).mono ?_
  rintro e w1 ⟨rfl, b1⟩
  have B1 : Hid _ := b1
  clear b1
  go_wp2_with fail
  refine (s_new (w0 := w) B1.out).mono ?_
  rintro e w2 ⟨p, rfl, h2⟩
  have H2 : Hid (Sep w [] w2 (fun O w => MAt O w p []) Non) := h2
  clear h2 B1
  go_wp2_with fail
  refine (pick_val a0 20 N0 _ h0 (by omega) HN0.out).mono ?_
  rintro e w3 ⟨rfl, rfl⟩
  go_wp2_with fail
  refine (pick_val a1 N I _ h1 (by omega) HI.out).mono ?_
  rintro e w4 ⟨rfl, rfl⟩
  go_wp2
  go_loopw [7] (fun v wr => ∃ k : Nat, k ≤ N ∧ v = .int .i64 k ∧ Sep w [] wr (fun O w => MAt O w p (nums ⟨#[120]⟩ k)) Non) (fun v _ => N - (intOf v).toNat)
  case atStart => exact ⟨0, by omega, rfl, H2.out⟩
  case round =>
    obtain ⟨k, hk, rfl, hS⟩ := hrel
    have HS : Hid (Sep w [] wr (fun O w => MAt O w p (nums ⟨#[120]⟩ k)) Non) := hS
    clear hS H2
    by_cases hlt : k < N
    · have CS : Hid (Calls Try.prog 10 #[.pointer (some ⟨p, 0, none⟩), .agg #[.int .i64 (k : Int), .string ⟨#[120]⟩]] wr fun e w' => e = .returned (.int .i64 0) ∧ Sep w [] w' (fun O w => MAt O w p (nums ⟨#[120]⟩ (k + 1))) Non) :=
        s_send HS.out stNon (k : Int) ⟨#[120]⟩ (by rw [nums_len]; omega) (by unfold maxLen; decide) 0 (nums_send _ k (by omega) (by decide)).1 (nums_send _ k (by omega) (by decide)).2
      go_wp2_with (refine CS.out.mono ?_; rintro e w4 ⟨rfl, h4⟩; have H4 : Hid _ := h4; clear h4)
      go_roundw
      case rel => exact ⟨k + 1, by omega, by go_num, H4.out⟩
      case measure => simp [intOf]; omega
    · obtain rfl : k = N := by omega
      have hgd : decide ((k : Int) < (k : Int)) = false := decide_eq_false (by omega)
      clear hlt
      go_wp2_with fail
      refine (s_twin HS.out stNon _ (by rw [nums_len]; omega) 0 P1.out P2.out).mono ?_
      rintro e w4 ⟨rfl, h4⟩
      have H4 : Hid _ := h4
      clear h4 HS
      go_wp2_with fail
      refine (s_twin H4.out stNon _ (by rw [PX.out]; omega) 5 P3.out P4.out).mono ?_
      rintro e w5 ⟨rfl, h5⟩
      have H5 : Hid _ := h5
      clear h5 H4
      go_wp2_with fail
      refine (s_twin H5.out stNon _ (by rw [PX.out]; omega) 5 P5.out P6.out).mono ?_
      rintro e w6 ⟨rfl, h6⟩
      have H6 : Hid _ := h6
      clear h6 H5
      go_wp2_with fail
      refine (s_all H6.out M PX.out (by omega)).mono ?_
      rintro e w7 ⟨oa, oc, og, rfl, hc, b7⟩
      obtain ⟨b, hoa, hog⟩ := hc.at2 (by omega)
      subst hoa hog
      have h7 := H6.out.keep (stM _ _) stNon b7 b hc.lt.2 hc.lt.1
      obtain ⟨b', hm, hb'⟩ := hc.msgs (by rw [List.length_map]; exact PX.out)
      have hb2 := hb' (by omega)
      cases hb2
      have hml : (X.map (·.1)).length = M := by rw [List.length_map]; exact PX.out
      have g0 : w7.cell? ⟨b, k * 2, none⟩ = some (.int .i64 (I : Int)) := by rw [hm.c0 k (by rw [hml, ← PMM.out]; omega), PM.out k _ PM1.out]
      have g1 : w7.cell? ⟨b, k * 2 + 1, none⟩ = some (.string ⟨#[120]⟩) := by rw [hm.c1 k (by rw [hml, ← PMM.out]; omega), PM.out k _ PM1.out]
      have g2 : w7.cell? ⟨b, I * 2, none⟩ = some (.int .i64 (I : Int)) := by rw [hm.c0 I (by rw [hml, ← PMM.out]; omega), PM.out I _ PM2.out]
      have g3 : w7.cell? ⟨b, I * 2 + 1, none⟩ = some (.string ⟨#[120]⟩) := by rw [hm.c1 I (by rw [hml, ← PMM.out]; omega), PM.out I _ PM2.out]
      have G : Hid _ := And.intro g0 (And.intro g1 (And.intro g2 g3))
      have H7 : Hid _ := h7
      clear h7 g0 g1 g2 g3 hm hml hc b7 hb' H6
      go_wp2_with fail
      refine (s_take H7.out stNon _ (by rw [PX.out]; omega) _ P7.out P8.out).mono ?_
      rintro e w8 ⟨rfl, h8⟩
      have H8 : Hid _ := h8
      clear h8
      simp only [Option.getD_some, Option.isSome_some]
      have hst := run_store_str
      go_wp2_with fail
      have H9 : Hid (Sep w _ (w8.alloc (.cells #[.int .i64 (I : Int), .string ⟨#[120]⟩] 32)) _ Non) := H8.out.box (stM _ _) stNon (.cells #[.int .i64 (I : Int), .string ⟨#[120]⟩] 32)
      refine (s_take H9.out stNon _ (by rw [nums_len]; omega) _ P9.out P10.out).mono ?_
      rintro e w10 ⟨rfl, h10⟩
      have x0 : w10.cell? ⟨w8.heap.size, 0, none⟩ = some (.int .i64 (I : Int)) := h10.cell (.head _) rfl (World.cell?_alloc_new w8 _ _ 0)
      have x1 : w10.cell? ⟨w8.heap.size, 1, none⟩ = some (.string ⟨#[120]⟩) := h10.cell (.head _) rfl (World.cell?_alloc_new w8 _ _ 1)
      have q0 := h10.cell (.tail _ (.head _)) rfl G.out.1
      have q1 := h10.cell (.tail _ (.head _)) rfl G.out.2.1
      have q2 := h10.cell (.tail _ (.head _)) rfl G.out.2.2.1
      have q3 := h10.cell (.tail _ (.head _)) rfl G.out.2.2.2
      have x0a := cell_al x0
      have x1a := cell_al x1
      have q0a := cell_al q0
      have q1a := cell_al q1
      have q2a := cell_al q2
      have q3a := cell_al q3
      have H10 : Hid _ := fun (o : Obj) => h10.below (stM _ _) stNon ((Below.refl _ w10).alloc (Nat.le_refl _) o)
      have hKM : k < M := by have := PMM.out; omega
      clear h10 H7 H8 H9 G x0 x1 q0 q1 q2 q3
      simp only [Option.getD_some, Option.isSome_some]
      go_wp2
      have X0 := x0a (.cells #[.int .i64 (I : Int), .string ⟨#[120]⟩] 32)
      have X1 := x1a (.cells #[.int .i64 (I : Int), .string ⟨#[120]⟩] 32)
      have Q0 := q0a (.cells #[.int .i64 (I : Int), .string ⟨#[120]⟩] 32)
      have Q1 := q1a (.cells #[.int .i64 (I : Int), .string ⟨#[120]⟩] 32)
      have Q2 := q2a (.cells #[.int .i64 (I : Int), .string ⟨#[120]⟩] 32)
      have Q3 := q3a (.cells #[.int .i64 (I : Int), .string ⟨#[120]⟩] 32)
      have Y0 : (w10.alloc (.cells #[.int .i64 (I : Int), .string ⟨#[120]⟩] 32)).cell? ⟨w10.heap.size, 0, none⟩ = some (.int .i64 (I : Int)) := World.cell?_alloc_new w10 _ _ 0
      have Y1 : (w10.alloc (.cells #[.int .i64 (I : Int), .string ⟨#[120]⟩] 32)).cell? ⟨w10.heap.size, 1, none⟩ = some (.string ⟨#[120]⟩) := World.cell?_alloc_new w10 _ _ 1
      have HW : Hid _ := H10.out (.cells #[.int .i64 (I : Int), .string ⟨#[120]⟩] 32)
      clear x0a x1a q0a q1a q2a q3a H10
      generalize w10.alloc (.cells #[.int .i64 (I : Int), .string ⟨#[120]⟩] 32) = W at *
      have CL : Hid (∀ d, Calls Try.prog 20 #[.pointer (some ⟨p, 0, none⟩)] (W.drewN d) fun e w' => e = .returned (.int .i64 (K : Int)) ∧ w' = W.drewN d) := fun d => s_len (HW.out.below (stM _ _) stNon (below_drewN (Below.refl _ W) d)) K PY.out
      go_quiet ((go_at_call 20; exact Calls.quiet_of_same (CL.out _)))
      go_wp2
      go_ret
      exact ⟨rfl, below_drewN HW.out.bel _⟩

theorem walk (a0 a1 : Int) (w0 : (Lit.int .i64 a0).wf = true) (w1 : (Lit.int .i64 a1).wf = true) (w : World) :
    Calls Try.prog 6 #[.int .i64 a0, .int .i64 a1] w fun e w' => e = .returned (.bool true) ∧ Below w.heap.size w w' :=
  walk_b a0 a1 w (bounds_i64 w0) (bounds_i64 w1)

set_option maxRecDepth 100000 in
theorem lifted (os : Os) (started : os.Started) (H : Type) (enc : TypeId × Value → H) :
    ReturnsInHanded {} Try.checked os 6 .any (Rows.mailTwinsSpec.pre6 enc Try.prog Try.f6 Rows.mailTwinsRow.domain false) (Rows.mailTwinsSpec.post enc Try.prog Try.f6 false true false false) := by
  refine returnsInHanded_of_change (C := Try.checked) own started (by kernel_rfl) Try.func6
    (ChangeSpec.witness6 (enc := enc) (C := Try.checked) false ⟨#[], #[.int .i64 0, .int .i64 0], []⟩ 8 (by kernel_rfl) (by kernel_rfl) (by kernel_rfl) (by kernel_rfl)) ?_
  intro W base args ds gs before hval0 hW hcnd _
  have hval : ∀ (j : Nat) t v, Try.f6.params[j]? = some t → args[j]? = some v → Value.okWide Try.prog W .any base t v := hval0
  have hW' := hW
  obtain ⟨p, q, hA0, hV, rfl, hfz, hnd⟩ := hW
  have hA : DataW.TrodAll enc Try.prog W 0 (fun _ => true) true Try.f6.params.toList args.toList ds p := hA0
  rw [Try.params6] at hA hval
  obtain ⟨v0, vs0, d0, ds0, p0, q0, hargs, rfl, rfl, h0, r0⟩ := trodAll_cons hA
  obtain ⟨v1, vs1, d1, ds1, p1, q1, rfl, rfl, rfl, h1, r1⟩ := trodAll_cons r0
  obtain ⟨rfl, rfl, rfl⟩ := trodAll_nil r1
  obtain rfl : args = #[v0, v1] := by cases args; simp_all
  obtain ⟨rfl, rfl⟩ := trodVars_none hV
  obtain ⟨a0, rfl, rfl, rfl, w0⟩ := open_int Try.underlying3 (hval 0 3 v0 rfl rfl) h0
  obtain ⟨a1, rfl, rfl, rfl, w1⟩ := open_int Try.underlying3 (hval 1 3 v1 rfl rfl) h1
  clear hA0 hval0
  refine (walk a0 a1 w0 w1 W).mono fun e W' ⟨he, bel⟩ => ?_
  subst he
  exact ⟨_, rfl, _, _, _, [], _, [], hW', trodAll_mk1 (shut_bool Try.underlying4 _), (trodAll_cons_mk (shut_int Try.underlying3 w0) (trodAll_cons_mk (shut_int Try.underlying3 w1) trodAll_mk0)), rfl, bel.frame _, fun h => by cases h⟩

theorem over : Rows.mailTwinsRow.holds Try.pinned (OpenSpec.ofChange Rows.mailTwinsSpec) :=
  OpenClaim.holds_of_wide 6 Try.f6 rfl rfl rfl rfl rfl rfl rfl ⟨rfl, rfl, rfl, rfl, rfl⟩ rfl rfl rfl rfl rfl (by kernel_rfl) Try.func6 (by kernel_rfl)
    (of_decide_eq_true (by kernel_rfl)) (by unfold Func.isWrapper; first | (rw [if_pos (by decide +kernel)]; kernel_rfl) | (rw [if_neg (by decide +kernel)]; exact ⟨rfl, rfl⟩))
    (fun os started H enc _ => lifted os started H enc)
end Go.Proofs.Ytgjbafpjllfdeaa.mailTwins

namespace Go.Proofs.Ytgjbafpjllfdeaa
/-- The statement. -/
theorem mailTwins_holds : Rows.MailTwinsSaid := mailTwins.over
#print axioms mailTwins_holds
end Go.Proofs.Ytgjbafpjllfdeaa
