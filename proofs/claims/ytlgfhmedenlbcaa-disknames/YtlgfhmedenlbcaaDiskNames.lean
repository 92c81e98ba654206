/- DiskNames: for all strings and every list of numbers: the statement's function returns true; nothing that was there is changed. No condition. -/
import Derived.Test.YtlgfhmedenlbcaaDiskOk
import Derived.Test.YtlgfhmedenlbcaaOpenAll
namespace Go.Proofs.Ytlgfhmedenlbcaa.diskNames
open Go.ChangeShapes Go.WideShapes Go.ChangeAt Go.RowKit
open Go.ChangeMaps (open_string shut_string)
set_option linter.unusedVariables false

theorem own : ownKnob Try.prog.godebug = none := by kernel_rfl

theorem app_a (A : List UInt8) (h : A.length ≤ 1001) : refA ⟨400000, 0, false, []⟩ [97] A = 0 := refA_ok (by decide) (by show 0 + _ ≤ _; omega) (.inr (by decide)) (by rw [tot_nil]; omega)
theorem app_b (A T : List UInt8) (h : A.length ≤ 1001) (h2 : T.length ≤ 1000) : refA ⟨400000, 0, false, [([97], A, 0)]⟩ [98] T = 0 :=
  refA_ok (by decide) (by show 0 + _ ≤ _; omega) (.inr (by show 1 < 20; omega)) (by rw [tot_cons, tot_nil]; simp only; omega)

theorem crash_b (ks : List Int) (A : List UInt8) (h : 1 ≤ A.length) : crashL ks [([98], A, A.length)] = [([98], A, A.length)] := by
  have e : cutN (A, A.length) (ks.headD 0) = A.length := by
    unfold cutN; simp; omega
  show (if cutN (A, A.length) (ks.headD 0) = 0 then [] else [([98], A.take (cutN (A, A.length) (ks.headD 0)), cutN (A, A.length) (ks.headD 0))]) ++ crashL ks.tail [] = _
  rw [e, crashL_nil, if_neg (by omega), List.take_length]
  rfl

set_option maxRecDepth 100000 in
set_option maxHeartbeats 1000000 in
theorem walk_b (s t X T A : ByteArray) (ka : Option Addr) (kb koff kcap m M M' : Nat) (ks : List Int) (w : World) (hs : s.size ≤ maxLen) (ht : t.size ≤ maxLen) (hM : min (s.size : Int) 1000 = (M : Int)) (hM' : min (t.size : Int) 1000 = (M' : Int)) (hX : s.extract 0 M = X) (hT : t.extract 0 M' = T)
    (hXz : X.size = M) (hTz : T.size = M') (hA : X ++ ⟨#[33]⟩ = A) (hAz : A.size = M + 1) (hm : ks.length = m) (hmx : m ≤ maxLen) (hI : Ints w .i64 ka kb koff ks) (hks : ∀ k ∈ ks, -9223372036854775808 ≤ k ∧ k ≤ 9223372036854775807) :
    Calls Try.prog 6 #[.string s, .string t, .slice ka m kcap] w fun e w' => e = .returned (.bool true) ∧ Below w.heap.size w w' := by
  have hs' : s.size ≤ 9223372036854775807 := by unfold maxLen at hs; omega
  have ht' : t.size ≤ 9223372036854775807 := by unfold maxLen at ht; omega
  have hM1 : M ≤ 1000 := by omega
  have hM2 : M' ≤ 1000 := by omega
  have hMs : M ≤ s.size := by omega
  have hMt : M' ≤ t.size := by omega
  have ha : ∀ w : World, (Op.stringOp .add X ⟨#[33]⟩).run Try.prog w = .ok (.string A) w := fun w => by
    rw [← hA]; exact run_string_add_sum (P := Try.prog) w X ⟨#[33]⟩ (by show X.size + 1 ≤ _; omega)
  have hAl : A.data.toList.length = M + 1 := by rw [← hAz]; exact Array.length_toList
  have hTl : T.data.toList.length = M' := by rw [← hTz]; exact Array.length_toList
  have r1 := app_a A.data.toList (by omega)
  have r2 := app_b A.data.toList T.data.toList (by omega) (by omega)
  have HR1 : Hid _ := r1
  have HR2 : Hid _ := r2
  have HCB : Hid _ := crash_b ks A.data.toList (by omega)
  have HAl : Hid _ := hAl
  have HK : Hid _ := hm
  have HI : Hid _ := hI
  have HKS : Hid _ := hks
  have HAm : Hid (A.size ≤ 140737488355328) := by show A.size ≤ _; omega
  have HTm : Hid (T.size ≤ 140737488355328) := by show T.size ≤ _; omega
  have hAA : (⟨A.data.toList.toArray⟩ : ByteArray) = A := by cases A; simp
  have HAA : Hid _ := hAA
  clear r1 r2 hTl hm hI hks hA hAl hAA
  go_enter Try.func6, Try.ntmps6
  go_wp2_with fail
  refine (examples_val _).mono ?_
  rintro e w1 ⟨rfl, b1⟩
  go_wp2_with fail
  refine (one_new b1 400000 400000 (by omega) (by omega)).mono ?_
  rintro e w2 ⟨pd, rfl, h2⟩
  clear b1
  go_wp2_with fail
  refine (ok_append h2 ⟨#[97]⟩ A (by decide) HAm.out HR1.out (S' := [([97], A.data.toList, 0)]) rfl).mono ?_
  rintro e w3 ⟨rfl, h3⟩
  clear h2
  go_wp2_with fail
  refine (ok_append h3 ⟨#[98]⟩ T (by decide) HTm.out HR2.out (S' := [([97], A.data.toList, 0), ([98], T.data.toList, 0)]) rfl).mono ?_
  rintro e w4 ⟨rfl, h4⟩
  clear h3
  go_wp2_with fail
  refine (ok_sync h4 ⟨#[97]⟩ (by decide) (A.data.toList, 0) rfl (S' := [([97], A.data.toList, A.data.toList.length), ([98], T.data.toList, 0)]) rfl).mono ?_
  rintro e w5 ⟨rfl, h5⟩
  clear h4
  go_wp2_with fail
  refine (ok_rename h5 ⟨#[97]⟩ ⟨#[98]⟩ (by decide) (by decide) (A.data.toList, A.data.toList.length) (by decide) rfl (S' := [([98], A.data.toList, A.data.toList.length)]) rfl).mono ?_
  rintro e w6 ⟨rfl, h6⟩
  clear h5
  go_wp2_with fail
  refine (ok_crash h6 ka kb koff kcap m ks HK.out hmx HI.out HKS.out HCB.out).mono ?_
  rintro e w7 ⟨rfl, h7⟩
  clear h6
  go_wp2_with fail
  refine (ok_read h7 ⟨#[98]⟩ (by decide) A A.data.toList.length rfl).mono ?_
  rintro e w8 ⟨rfl, h8⟩
  clear h7
  go_wp2_with fail
  refine (no_read h8 ⟨#[97]⟩ (by decide) rfl).mono ?_
  rintro e w9 ⟨rfl, h9⟩
  clear h8
  go_wp2_with fail
  refine (ok_used h9 (M + 1) (by rw [tot_cons, tot_nil]; show A.data.toList.length + 0 = _; rw [HAl.out])).mono ?_
  rintro e w10 ⟨rfl, h10⟩
  clear h9
  go_wp2_with fail
  refine (ok_delete h10 ⟨#[98]⟩ (by decide) (A.data.toList, A.data.toList.length) rfl (S' := []) rfl).mono ?_
  rintro e w11 ⟨rfl, h11⟩
  clear h10
  go_wp2_with fail
  refine (ok_crash h11 ka kb koff kcap m ks HK.out hmx HI.out HKS.out (crashL_nil ks)).mono ?_
  rintro e w12 ⟨rfl, h12⟩
  clear h11
  go_wp2_with fail
  refine (one_list h12 0 rfl).mono ?_
  rintro e w13 ⟨la, lc, rfl, h13⟩
  clear h12
  go_wp2_with fail
  refine (ok_used h13 0 rfl).mono ?_
  rintro e w14 ⟨rfl, h14⟩
  clear h13
  go_wp2
  go_ret
  exact ⟨rfl, h14.bel⟩

theorem cut_size (s : ByteArray) (k : Nat) (h : k ≤ s.size) : (s.extract 0 k).size = k := by
  rw [ByteArray.size_extract]; omega

theorem app_size (a b : ByteArray) : (a ++ b).size = a.size + b.size := by simp

theorem walk (a0 a1 : ByteArray) (a2 : Option Addr) (b2 off2 cap2 : Nat) (ss2 : List Int) (w : World) (w0 : a0.size ≤ maxLen) (w1 : a1.size ≤ maxLen) (w2 : Ints w .i64 a2 b2 off2 ss2 ∧ ss2.length ≤ maxLen ∧ ∀ n ∈ ss2, (Lit.int .i64 n).wf = true) :
    Calls Try.prog 6 #[.string a0, .string a1, .slice a2 ss2.length cap2] w fun e w' => e = .returned (.bool true) ∧ Below w.heap.size w w' :=
  walk_b a0 a1 (a0.extract 0 (min a0.size 1000)) (a1.extract 0 (min a1.size 1000)) _ a2 b2 off2 cap2 _ (min a0.size 1000) (min a1.size 1000) ss2 w w0 w1 (by omega) (by omega) rfl rfl
    (cut_size _ _ (by omega)) (cut_size _ _ (by omega)) rfl (by rw [app_size, cut_size _ _ (by omega)]; rfl) rfl w2.2.1 w2.1 (fun k hk => bounds_i64 (w2.2.2 k hk))

set_option maxRecDepth 100000 in
theorem lifted (os : Os) (started : os.Started) (H : Type) (enc : TypeId × Value → H) :
    ReturnsInHanded {} Try.checked os 6 .any (Rows.diskNamesSpec.pre6 enc Try.prog Try.f6 Rows.diskNamesRow.domain false) (Rows.diskNamesSpec.post enc Try.prog Try.f6 false true false false) := by
  refine returnsInHanded_of_change (C := Try.checked) own started (by kernel_rfl) Try.func6
    (ChangeSpec.witness6 (enc := enc) (C := Try.checked) false ⟨#[], #[.string ByteArray.empty, .string ByteArray.empty, .slice none 0 0], []⟩ 8 (by kernel_rfl) (by kernel_rfl) (by kernel_rfl) (by kernel_rfl)) ?_
  intro W base args ds gs before hval0 hW hcnd _
  have hval : ∀ (j : Nat) t v, Try.f6.params[j]? = some t → args[j]? = some v → Value.okWide Try.prog W .any base t v := hval0
  have hW' := hW
  obtain ⟨p, q, hA0, hV, rfl, hfz, hnd⟩ := hW
  have hA : DataW.TrodAll enc Try.prog W 0 (fun _ => true) true Try.f6.params.toList args.toList ds p := hA0
  rw [Try.params6] at hA hval
  obtain ⟨v0, vs0, d0, ds0, p0, q0, hargs, rfl, rfl, h0, r0⟩ := trodAll_cons hA
  obtain ⟨v1, vs1, d1, ds1, p1, q1, rfl, rfl, rfl, h1, r1⟩ := trodAll_cons r0
  obtain ⟨v2, vs2, d2, ds2, p2, q2, rfl, rfl, rfl, h2, r2⟩ := trodAll_cons r1
  obtain ⟨rfl, rfl, rfl⟩ := trodAll_nil r2
  obtain rfl : args = #[v0, v1, v2] := by cases args; simp_all
  obtain ⟨rfl, rfl⟩ := trodVars_none hV
  obtain ⟨a0, rfl, rfl, rfl, w0⟩ := open_string Try.underlying9 (hval 0 9 v0 rfl rfl) h0
  obtain ⟨a1, rfl, rfl, rfl, w1⟩ := open_string Try.underlying9 (hval 1 9 v1 rfl rfl) h1
  obtain ⟨a2, len2, cap2, rfl⟩ := okWide_slice Try.underlying29 (hval 2 29 v2 rfl rfl)
  have k2 := h2
  have lt2 : ∀ x ∈ p2, x.block < W.heap.size := by obtain ⟨m, hm⟩ := k2; exact DataW.trod_lt m _ _ _ hm
  obtain ⟨b2, off2, ss2, rfl, w2⟩ := open_nums Try.underlying29 Try.underlying3 (by kernel_rfl) h2
  clear hA0 hval0
  refine (walk a0 a1 a2 b2 off2 cap2 ss2 W w0 w1 w2).mono fun e W' ⟨he, bel⟩ => ?_
  subst he
  exact ⟨_, rfl, _, _, _, [], _, [], hW', trodAll_mk1 (shut_bool Try.underlying4 _), (trodAll_cons_mk (shut_string Try.underlying9 w0) (trodAll_cons_mk (shut_string Try.underlying9 w1) (trodAll_cons_mk (Below.trod laidOut (by kernel_rfl) (of_decide_eq_true (by kernel_rfl)) k2 bel lt2) trodAll_mk0))), rfl, bel.frame _, fun h => by cases h⟩

theorem over : Rows.diskNamesRow.holds Try.pinned (OpenSpec.ofChange Rows.diskNamesSpec) :=
  OpenClaim.holds_of_wide 6 Try.f6 rfl rfl rfl rfl rfl rfl rfl ⟨rfl, rfl, rfl, rfl, rfl⟩ rfl rfl rfl rfl rfl (by kernel_rfl) Try.func6 (by kernel_rfl)
    (of_decide_eq_true (by kernel_rfl)) (by unfold Func.isWrapper; first | (rw [if_pos (by decide +kernel)]; kernel_rfl) | (rw [if_neg (by decide +kernel)]; exact ⟨rfl, rfl⟩))
    (fun os started H enc _ => lifted os started H enc)
end Go.Proofs.Ytlgfhmedenlbcaa.diskNames

namespace Go.Proofs.Ytlgfhmedenlbcaa
/-- The statement. -/
theorem diskNames_holds : Rows.DiskNamesSaid := diskNames.over
#print axioms diskNames_holds
end Go.Proofs.Ytlgfhmedenlbcaa
