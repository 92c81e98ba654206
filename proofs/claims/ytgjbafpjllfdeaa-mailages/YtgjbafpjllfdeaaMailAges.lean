/- MailAges: for every two numbers of 64 bits: the statement's function returns true; nothing that was there is changed. No condition. -/
import Derived.Test.YtgjbafpjllfdeaaMailEx
import Derived.ProofKit
import Derived.OpenShut
import Derived.ShutString
import Derived.ChangeOld
import Derived.Below
import Derived.Laws.Cover2
namespace Go.Proofs.Ytgjbafpjllfdeaa.mailAges
open Go.ChangeShapes Go.WideShapes Go.ChangeAt Go.RowKit
open Go.ChangeMaps (open_string shut_string)
set_option linter.unusedVariables false

theorem own : ownKnob Try.prog.godebug = none := by kernel_rfl

/-- n, n - 1, .., 1. -/
def desc : Nat → List Nat
  | 0 => []
  | n + 1 => (n + 1) :: desc n

theorem desc_len : ∀ n, (desc n).length = n
  | 0 => rfl
  | n + 1 => by simp [desc, desc_len n]
theorem desc_le : ∀ n, ∀ a ∈ desc n, a ≤ n
  | 0, a, h => by cases h
  | n + 1, a, h => by
    rcases List.mem_cons.1 h with rfl | h
    · exact Nat.le_refl _
    · exact Nat.le_succ_of_le (desc_le n a h)
theorem desc_next : ∀ n, (desc n ++ [0]).map (· + 1) = desc (n + 1)
  | 0 => rfl
  | n + 1 => by
    show (n + 1 + 1) :: (desc n ++ [0]).map (· + 1) = _
    rw [desc_next n]; rfl

/-- The ages. -/
def ages (xs : ML) : List Nat := xs.map (·.2)
theorem ages_len (xs : ML) : (ages xs).length = xs.length := by simp [ages]
theorem ages_age (t : Int) : ∀ xs : ML, ages (ageL t xs) = ((ages xs).filter (fun (a : Nat) => !decide (t ≤ (a : Int)))).map (· + 1)
  | [] => rfl
  | x :: xs => by
    have ih := ages_age t xs
    unfold ages ageL keptL at *
    simp only [List.filter_cons, List.map_cons]
    cases h : old t x with
    | true =>
      have h' : decide (t ≤ (x.2 : Int)) = true := h
      simp only [h', Bool.not_true, Bool.false_eq_true, if_false]
      exact ih
    | false =>
      have h' : decide (t ≤ (x.2 : Int)) = false := h
      simp only [h', Bool.not_false, if_true, List.map_cons]
      rw [ih]

theorem fresh_age (T i : Nat) (hT : 1 ≤ T) (hi : i ≤ T) (xs : ML) (hx : ages xs = desc i) (m : Msg) : ages (ageL (T : Int) (xs ++ [(m, 0)])) = desc (min (i + 1) T) := by
  have e : ages (xs ++ [(m, 0)]) = desc i ++ [0] := by rw [← hx]; simp [ages]
  rw [ages_age, e]
  rcases Nat.lt_or_ge i T with h | h
  · rw [Nat.min_eq_left (by omega), List.filter_eq_self.2 (fun a ha => ?_), desc_next]
    have : a ≤ i := by
      rcases List.mem_append.1 ha with ha | ha
      · exact desc_le i a ha
      · have := List.mem_singleton.1 ha; omega
    simp; omega
  · obtain rfl : i = T := by omega
    rw [Nat.min_eq_right (by omega)]
    obtain ⟨j, rfl⟩ : ∃ j, i = j + 1 := ⟨i - 1, by omega⟩
    show (List.filter _ ((j + 1) :: (desc j ++ [0]))).map (· + 1) = _
    rw [List.filter_cons, if_neg (by simp), List.filter_eq_self.2 (fun a ha => ?_), desc_next]
    have : a ≤ j := by
      rcases List.mem_append.1 ha with ha | ha
      · exact desc_le j a ha
      · have := List.mem_singleton.1 ha; omega
    simp; omega

set_option maxRecDepth 100000 in
set_option maxHeartbeats 4000000 in
theorem walk_b (a0 a1 : Int) (w : World) (h0 : -9223372036854775808 ≤ a0 ∧ a0 ≤ 9223372036854775807) (h1 : -9223372036854775808 ≤ a1 ∧ a1 ≤ 9223372036854775807) :
    Calls Try.prog 5 #[.int .i64 a0, .int .i64 a1] w fun e w' => e = .returned (.bool true) ∧ Below w.heap.size w w' := by
  obtain ⟨N, hN⟩ : ∃ N, keepN a0 % 31 = N := ⟨_, rfl⟩
  obtain ⟨T0, hT0⟩ : ∃ T0, keepN a1 % 40 = T0 := ⟨_, rfl⟩
  have hN2 : N < 31 := by rw [← hN]; exact Nat.mod_lt _ (by omega)
  have hT2 : T0 < 40 := by rw [← hT0]; exact Nat.mod_lt _ (by omega)
  have HN : Hid _ := hN
  have HT0 : Hid _ := hT0
  obtain ⟨T, hT⟩ : ∃ T, 1 + T0 = T := ⟨_, rfl⟩
  have hTz : 1 + (T0 : Int) = (T : Int) := by omega
  have hTa : 1 ≤ T := by omega
  have hTb : T ≤ 40 := by omega
  clear hN hT0 hT
  go_enter Try.func5, Try.ntmps5
  go_wp2_with fail
  refine (examples_val _).mono ?_
  rintro e w1 ⟨rfl, b1⟩
  have B1 : Hid _ := b1
  clear b1
  go_wp2_with fail
  refine (s_new (w0 := w) B1.out).mono ?_
  rintro e w2 ⟨p, rfl, h2⟩
  have H2 : Hid (Sep w [] w2 (fun O w => MAt O w p []) Non) := h2
  clear h2 B1
  go_wp2_with fail
  refine (pick_val a0 31 N _ h0 (by omega) HN.out).mono ?_
  rintro e w3 ⟨rfl, rfl⟩
  go_wp2_with fail
  refine (pick_val a1 40 T0 _ h1 (by omega) HT0.out).mono ?_
  rintro e w4 ⟨rfl, rfl⟩
  go_wp2
  go_loopw [7, 8] (fun v _ wr => ∃ (i : Nat) (xs : ML), i ≤ N ∧ v = .int .i64 i ∧ ages xs = desc (min i T) ∧ Sep w [] wr (fun O w => MAt O w p xs) Non) (fun v _ _ => N - (intOf v).toNat)
  case atStart => exact ⟨0, [], by omega, rfl, by rw [Nat.zero_min]; rfl, H2.out⟩
  case round =>
    obtain ⟨i, xs, hi, rfl, hx, hS⟩ := hrel
    have HS : Hid (Sep w [] wr (fun O w => MAt O w p xs) Non) := hS
    have hl : xs.length = min i T := by rw [← ages_len, hx, desc_len]
    have HX : Hid (ages xs = desc (min i T)) := hx
    have HL : Hid (xs.length = min i T) := hl
    clear hS hx hl H2
    by_cases hlt : i < N
    · obtain ⟨ys, hy⟩ : ∃ ys, xs ++ [((⟨(i : Int), ⟨#[]⟩⟩ : Msg), 0)] = ys := ⟨_, rfl⟩
      obtain ⟨zs, hz⟩ : ∃ zs, ageL (T : Int) ys = zs := ⟨_, rfl⟩
      have hxl : xs.length ≤ 40 := by rw [HL.out]; omega
      have hyl : ys.length = min i T + 1 := by rw [← hy, List.length_append, HL.out]; rfl
      have hza : ages zs = desc (min (i + 1) T) := by
        rw [← hz, ← hy, fresh_age T (min i T) hTa (Nat.min_le_right _ _) xs HX.out]
        congr 1; omega
      have hzl : zs.length = min (i + 1) T := by rw [← ages_len, hza, desc_len]
      have hkl : (keptL (T : Int) ys).length = min (i + 1) T := by rw [← ageL_len, hz, hzl]
      have hag : ∀ x ∈ ys, x.2 ≤ 1000000 := fun x hx => by
        rw [← hy] at hx
        rcases List.mem_append.1 hx with hx | hx
        · have : x.2 ∈ ages xs := List.mem_map.2 ⟨x, hx, rfl⟩
          rw [HX.out] at this
          have := desc_le _ _ this
          omega
        · rw [List.mem_singleton.1 hx]; exact Nat.zero_le _
      have hse : sendE xs ⟨(i : Int), ⟨#[]⟩⟩ = 0 := by unfold sendE; exact if_neg (by rintro (h | h); { omega }; { revert h; show ¬ (4000 < 0); omega })
      have hsl : sendL xs ⟨(i : Int), ⟨#[]⟩⟩ = ys := by unfold sendL; rw [if_neg (by rintro (h | h); { omega }; { revert h; show ¬ (4000 < 0); omega }), hy]
      obtain ⟨M, hM⟩ : ∃ M, min (i + 1) T = M := ⟨_, rfl⟩
      have hMz : min ((i : Int) + 1) (T : Int) = (M : Int) := by omega
      obtain ⟨q, hq⟩ : ∃ q, (ys.length : Int) - ((keptL (T : Int) ys).length : Int) = q := ⟨_, rfl⟩
      have hq2 : (i < T → q = 0) ∧ (T ≤ i → q = 1) := by rw [hkl, hyl] at hq; omega
      have CS : Hid (Calls Try.prog 10 #[.pointer (some ⟨p, 0, none⟩), .agg #[.int .i64 (i : Int), .string ⟨#[]⟩]] wr fun e w' => e = .returned (.int .i64 0) ∧ Sep w [] w' (fun O w => MAt O w p ys) Non) := s_send HS.out stNon (i : Int) ⟨#[]⟩ (by omega) (by unfold maxLen; decide) 0 hse hsl
      have CA : Hid (∀ w4, Sep w [] w4 (fun O w => MAt O w p ys) Non → Calls Try.prog 16 #[.pointer (some ⟨p, 0, none⟩), .int .i64 (T : Int)] w4 fun e w' => e = .returned (.int .i64 q) ∧ Sep w [] w' (fun O w => MAt O w p zs) Non) := fun w4 h => s_age h stNon (T : Int) (by omega) hag q hq hz
      have CL : Hid (∀ w5, Sep w [] w5 (fun O w => MAt O w p zs) Non → Calls Try.prog 20 #[.pointer (some ⟨p, 0, none⟩)] w5 fun e w' => e = .returned (.int .i64 (M : Int)) ∧ w' = w5) := fun w5 h => s_len h M (by rw [hzl, hM])
      have HZ : Hid _ := hza
      clear hxl hyl hza hzl hkl hag hse hsl hM hq hy hz
      rcases Nat.lt_or_ge i T with hiT | hiT
      · obtain rfl := hq2.1 hiT
        clear hq2
        go_wp2_with (first
          | (go_at_call 10; refine CS.out.mono ?_; rintro e w4 ⟨rfl, h4⟩; have H4 : Hid _ := h4; clear h4)
          | (go_at_call 16; refine (CA.out _ H4.out).mono ?_; rintro e w5 ⟨rfl, h5⟩; have H5 : Hid _ := h5; clear h5)
          | (go_at_call 20; refine (CL.out _ H5.out).mono ?_; rintro e w6 ⟨rfl, rfl⟩))
        go_roundw
        case rel => exact ⟨i + 1, zs, by omega, by go_num, HZ.out, H5.out⟩
        case measure => simp [intOf]; omega
      · obtain rfl := hq2.2 hiT
        clear hq2
        go_wp2_with (first
          | (go_at_call 10; refine CS.out.mono ?_; rintro e w4 ⟨rfl, h4⟩; have H4 : Hid _ := h4; clear h4)
          | (go_at_call 16; refine (CA.out _ H4.out).mono ?_; rintro e w5 ⟨rfl, h5⟩; have H5 : Hid _ := h5; clear h5)
          | (go_at_call 20; refine (CL.out _ H5.out).mono ?_; rintro e w6 ⟨rfl, rfl⟩))
        go_roundw
        case rel => exact ⟨i + 1, zs, by omega, by go_num, HZ.out, H5.out⟩
        case measure => simp [intOf]; omega
    · obtain rfl : i = N := by omega
      have hgd : decide ((i : Int) < (i : Int)) = false := decide_eq_false (by omega)
      obtain ⟨M, hM⟩ : ∃ M, min i T = M := ⟨_, rfl⟩
      have hk0 : keptL 0 xs = [] := by unfold keptL; rw [List.filter_eq_nil_iff]; intro x _; simp [old]
      have hag : ∀ x ∈ xs, x.2 ≤ 1000000 := fun x hx => by
        have : x.2 ∈ ages xs := List.mem_map.2 ⟨x, hx, rfl⟩
        rw [HX.out] at this
        have := desc_le _ _ this
        omega
      have hM2 : xs.length = M := by rw [HL.out, hM]
      have CL : Hid (∀ w5, Sep w [] w5 (fun O w => MAt O w p xs) Non → Calls Try.prog 20 #[.pointer (some ⟨p, 0, none⟩)] w5 fun e w' => e = .returned (.int .i64 (M : Int)) ∧ w' = w5) := fun w5 h => s_len h M hM2
      have CA : Hid (Calls Try.prog 16 #[.pointer (some ⟨p, 0, none⟩), .int .i64 0] wr fun e w' => e = .returned (.int .i64 (M : Int)) ∧ Sep w [] w' (fun O w => MAt O w p []) Non) := s_age HS.out stNon 0 (by omega) hag M (by rw [hk0, hM2]; simp) (by unfold ageL; rw [hk0]; rfl)
      have CZ : Hid (∀ w5, Sep w [] w5 (fun O w => MAt O w p []) Non → Calls Try.prog 20 #[.pointer (some ⟨p, 0, none⟩)] w5 fun e w' => e = .returned (.int .i64 ((0 : Nat) : Int)) ∧ w' = w5) := fun w5 h => s_len h 0 rfl
      clear hk0 hag hM2 hM hlt
      go_wp2_with fail
      refine (CL.out _ HS.out).mono ?_
      rintro e w4 ⟨rfl, rfl⟩
      go_wp2_with fail
      refine CA.out.mono ?_
      rintro e w5 ⟨rfl, h5⟩
      have H5 : Hid _ := h5
      clear h5
      go_wp2_with fail
      refine (CZ.out _ H5.out).mono ?_
      rintro e w6 ⟨rfl, rfl⟩
      go_wp2
      go_ret
      exact ⟨rfl, H5.out.bel⟩

theorem walk (a0 a1 : Int) (w0 : (Lit.int .i64 a0).wf = true) (w1 : (Lit.int .i64 a1).wf = true) (w : World) :
    Calls Try.prog 5 #[.int .i64 a0, .int .i64 a1] w fun e w' => e = .returned (.bool true) ∧ Below w.heap.size w w' :=
  walk_b a0 a1 w (bounds_i64 w0) (bounds_i64 w1)

set_option maxRecDepth 100000 in
theorem lifted (os : Os) (started : os.Started) (H : Type) (enc : TypeId × Value → H) :
    ReturnsInHanded {} Try.checked os 5 .any (Rows.mailAgesSpec.pre6 enc Try.prog Try.f5 Rows.mailAgesRow.domain false) (Rows.mailAgesSpec.post enc Try.prog Try.f5 false true false false) := by
  refine returnsInHanded_of_change (C := Try.checked) own started (by kernel_rfl) Try.func5
    (ChangeSpec.witness6 (enc := enc) (C := Try.checked) false ⟨#[], #[.int .i64 0, .int .i64 0], []⟩ 8 (by kernel_rfl) (by kernel_rfl) (by kernel_rfl) (by kernel_rfl)) ?_
  intro W base args ds gs before hval0 hW hcnd _
  have hval : ∀ (j : Nat) t v, Try.f5.params[j]? = some t → args[j]? = some v → Value.okWide Try.prog W .any base t v := hval0
  have hW' := hW
  obtain ⟨p, q, hA0, hV, rfl, hfz, hnd⟩ := hW
  have hA : DataW.TrodAll enc Try.prog W 0 (fun _ => true) true Try.f5.params.toList args.toList ds p := hA0
  rw [Try.params5] at hA hval
  obtain ⟨v0, vs0, d0, ds0, p0, q0, hargs, rfl, rfl, h0, r0⟩ := trodAll_cons hA
  obtain ⟨v1, vs1, d1, ds1, p1, q1, rfl, rfl, rfl, h1, r1⟩ := trodAll_cons r0
  obtain ⟨rfl, rfl, rfl⟩ := trodAll_nil r1
  obtain rfl : args = #[v0, v1] := by cases args; simp_all
  obtain ⟨rfl, rfl⟩ := trodVars_none hV
  obtain ⟨a0, rfl, rfl, rfl, w0⟩ := open_int Try.underlying3 (hval 0 3 v0 rfl rfl) h0
  obtain ⟨a1, rfl, rfl, rfl, w1⟩ := open_int Try.underlying3 (hval 1 3 v1 rfl rfl) h1
  clear hA0 hval0
  refine (walk a0 a1 w0 w1 W).mono fun e W' ⟨he, bel⟩ => ?_
  subst he
  exact ⟨_, rfl, _, _, _, [], _, [], hW', trodAll_mk1 (shut_bool Try.underlying4 _), (trodAll_cons_mk (shut_int Try.underlying3 w0) (trodAll_cons_mk (shut_int Try.underlying3 w1) trodAll_mk0)), rfl, bel.frame _, fun h => by cases h⟩

theorem over : Rows.mailAgesRow.holds Try.pinned (OpenSpec.ofChange Rows.mailAgesSpec) :=
  OpenClaim.holds_of_wide 5 Try.f5 rfl rfl rfl rfl rfl rfl rfl ⟨rfl, rfl, rfl, rfl, rfl⟩ rfl rfl rfl rfl rfl (by kernel_rfl) Try.func5 (by kernel_rfl)
    (of_decide_eq_true (by kernel_rfl)) (by unfold Func.isWrapper; first | (rw [if_pos (by decide +kernel)]; kernel_rfl) | (rw [if_neg (by decide +kernel)]; exact ⟨rfl, rfl⟩))
    (fun os started H enc _ => lifted os started H enc)
end Go.Proofs.Ytgjbafpjllfdeaa.mailAges

namespace Go.Proofs.Ytgjbafpjllfdeaa
/-- The statement. -/
theorem mailAges_holds : Rows.MailAgesSaid := mailAges.over
#print axioms mailAges_holds
end Go.Proofs.Ytgjbafpjllfdeaa
