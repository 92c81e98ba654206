/- DiskFuse: for every string, every number and every list of numbers: the statement's function returns true; nothing that was there is changed. No condition. -/
import Derived.Test.YtlgfhmedenlbcaaDiskPick
import Derived.Test.YtlgfhmedenlbcaaOpenAll
namespace Go.Proofs.Ytlgfhmedenlbcaa.diskFuse
open Go.ChangeShapes Go.WideShapes Go.ChangeAt Go.RowKit
open Go.ChangeMaps (open_string shut_string)
set_option linter.unusedVariables false

theorem own : ownKnob Try.prog.godebug = none := by kernel_rfl

/-- The files behind j times "x". -/
def sB (X : List UInt8) (j : Nat) : FS := if j = 0 then [([97], X, X.length)] else [([97], X, X.length), ([98], List.replicate j 120, 0)]

theorem sB_rise (X : List UInt8) (j : Nat) : Rise (sB X j) := by
  unfold sB Rise
  split
  · simp
  · simp [bytesBefore]
theorem sB_next (X : List UInt8) (j : Nat) : fapp [98] [120] (sB X j) = sB X (j + 1) := by
  cases j with
  | zero => rfl
  | succ j =>
    have e : fapp [98] [120] [([97], X, X.length), ([98], List.replicate (j + 1) 120, 0)] = [([97], X, X.length), ([98], List.replicate (j + 1) 120 ++ [120], 0)] := rfl
    have e2 : List.replicate (j + 1 + 1) (120 : UInt8) = List.replicate (j + 1) 120 ++ [120] := by rw [List.replicate_succ' (n := j + 1)]
    show fapp [98] [120] [([97], X, X.length), ([98], List.replicate (j + 1) 120, 0)] = [([97], X, X.length), ([98], List.replicate (j + 1 + 1) 120, 0)]
    rw [e, e2]
theorem sB_ref (X : List UInt8) (j : Nat) (f : Int) (d : List UInt8) (hX : X.length ≤ 1000) (hj : j ≤ 8) (hd : d.length = 1) : refA ⟨400000, f, false, sB X j⟩ [98] d = 0 := by
  cases j with
  | zero =>
    refine refA_ok (by decide) (by show 0 + _ ≤ _; omega) (.inr (by show 1 < 20; omega)) ?_
    show ((tot [([97], X, X.length)] + d.length : Nat) : Int) ≤ _
    rw [tot_cons, tot_nil]; simp only; omega
  | succ j =>
    have hl : (List.replicate (j + 1) (120 : UInt8)).length = j + 1 := by simp
    refine refA_ok (by decide) ?_ (.inr (by show 2 < 20; omega)) ?_
    · show (List.replicate (j + 1) (120 : UInt8)).length + _ ≤ _
      rw [hl]; omega
    · show ((tot [([97], X, X.length), ([98], List.replicate (j + 1) 120, 0)] + d.length : Nat) : Int) ≤ _
      rw [tot_cons, tot_cons, tot_nil]; simp only [hl]; omega
theorem sB_a (X : List UInt8) (j : Nat) : fget (sB X j) [97] = some (X, X.length) := by
  unfold sB
  split <;> rfl

theorem crash_a (ks : List Int) (X : List UInt8) (j : Nat) : fget (crashL ks (sB X j)) [97] = if X.length = 0 then none else some (X, X.length) := by
  obtain ⟨c, hc⟩ := fget_crashL (sB_rise X j) ks [97]
  rw [hc, sB_a]
  have e : cutN (X, X.length) c = X.length := by unfold cutN; simp; omega
  simp only [e, List.take_length]

theorem beg_on (N S f) (h : (2 : Int) ≤ N) : begE ⟨400000, N, false, S⟩ 0 = 0 ∧ doD ⟨400000, N, false, S⟩ 0 f = ⟨400000, N - 1, false, f S⟩ := by
  have h1 : ¬ N = 0 := by omega
  have h2 : ¬ N = 1 := by omega
  unfold doD begE begD
  simp [h1, h2]
theorem beg_off (S f) : begE ⟨400000, 1, false, S⟩ 0 = 12 ∧ doD ⟨400000, 1, false, S⟩ 0 f = ⟨400000, 0, true, S⟩ := by
  unfold doD begE begD
  simp
theorem beg_down (S e f) : begE ⟨400000, 0, true, S⟩ e = 12 ∧ doD ⟨400000, 0, true, S⟩ e f = ⟨400000, 0, true, S⟩ := by
  unfold doD begE begD
  simp

set_option maxRecDepth 100000 in
set_option maxHeartbeats 1000000 in
theorem walk_b (s X : ByteArray) (nn : Int) (ka : Option Addr) (kb koff kcap m M N : Nat) (ks : List Int) (w : World) (hs : s.size ≤ maxLen) (hM : min (s.size : Int) 1000 = (M : Int)) (hX : s.extract 0 M = X) (hXz : X.size = M) (hnn : -9223372036854775808 ≤ nn ∧ nn ≤ 9223372036854775807) (hN : keepN nn % 8 = N)
    (hm : ks.length = m) (hmx : m ≤ maxLen) (hI : Ints w .i64 ka kb koff ks) (hks : ∀ k ∈ ks, -9223372036854775808 ≤ k ∧ k ≤ 9223372036854775807) :
    Calls Try.prog 5 #[.string s, .int .i64 nn, .slice ka m kcap] w fun e w' => e = .returned (.bool true) ∧ Below w.heap.size w w' := by
  have hs' : s.size ≤ 9223372036854775807 := by unfold maxLen at hs; omega
  have hM1 : M ≤ 1000 := by omega
  have hMs : M ≤ s.size := by omega
  have hN8 : N < 8 := by rw [← hN]; exact Nat.mod_lt _ (by omega)
  have hXl : X.data.toList.length = M := by rw [← hXz]; exact Array.length_toList
  have HR1 : Hid (refA ⟨400000, 0, false, []⟩ [97] X.data.toList = 0) := refA_ok (by decide) (by show 0 + _ ≤ _; omega) (.inr (by decide)) (by rw [tot_nil]; omega)
  have HXl : Hid _ := hXl
  have HXm : Hid (X.size ≤ 140737488355328) := by show X.size ≤ _; omega
  have CP : Hid _ := fun w => pick_val nn 8 N w hnn (by omega) hN
  have HK : Hid _ := hm
  have HI : Hid _ := hI
  have HKS : Hid _ := hks
  clear hXl hm hI hks hN
  go_enter Try.func5, Try.ntmps5
  go_wp2_with fail
  refine (examples_val _).mono ?_
  rintro e w1 ⟨rfl, b1⟩
  go_wp2_with fail
  refine (one_new b1 400000 400000 (by omega) (by omega)).mono ?_
  rintro e w2 ⟨pd, rfl, h2⟩
  clear b1
  go_wp2_with fail
  refine (ok_append h2 ⟨#[97]⟩ X (by decide) HXm.out HR1.out (S' := [([97], X.data.toList, 0)]) rfl).mono ?_
  rintro e w3 ⟨rfl, h3⟩
  clear h2
  go_wp2_with fail
  refine (ok_sync h3 ⟨#[97]⟩ (by decide) (X.data.toList, 0) rfl (S' := sB X.data.toList 0) rfl).mono ?_
  rintro e w4 ⟨rfl, h4⟩
  clear h3
  go_wp2_with fail
  refine (CP.out _).mono ?_
  rintro e w5 ⟨rfl, hw5⟩
  subst hw5
  clear CP
  go_wp2_with fail
  refine (one_fuse h4 (1 + (N : Int)) (1 + (N : Int)) (by omega) (by omega)).mono ?_
  rintro e w6 ⟨rfl, h6⟩
  clear h4
  have H6 : Hid _ := h6
  clear h6
  go_wp2
  go_loopw [9] (fun c wr => ∃ j : Nat, j ≤ N ∧ c = .int .i64 ((j : Int) + 1) ∧ One w wr pd ⟨400000, 1 + (N : Int) - (j : Int), false, sB X.data.toList j⟩) (fun c _ => N + 1 - (intOf c).toNat)
  case atStart => exact ⟨0, by omega, rfl, by have := H6.out; rwa [show 1 + (N : Int) - ((0 : Nat) : Int) = 1 + (N : Int) by omega]⟩
  case round =>
    obtain ⟨j, hj, rfl, hO⟩ := hrel
    have hr : ∀ d : List UInt8, d.length = 1 → refA ⟨400000, 1 + (N : Int) - (j : Int), false, sB X.data.toList j⟩ [98] d = 0 := fun d hd => sB_ref _ j _ d (by rw [HXl.out]; exact hM1) (by omega) hd
    have HR : Hid _ := hr
    clear hr
    by_cases hlt : j < N
    · obtain ⟨q1, q2⟩ := beg_on (1 + (N : Int) - (j : Int)) (sB X.data.toList j) (fapp [98] [120]) (by omega)
      have C1 : Hid _ := fun (_ : Unit) => one_append (ds' := ⟨400000, 1 + (N : Int) - (j : Int) - 1, false, fapp [98] [120] (sB X.data.toList j)⟩) hO ⟨#[98]⟩ ⟨#[120]⟩ (by decide) (by decide) 0 (by rw [show refA _ _ _ = 0 from HR.out _ rfl]; exact q1) (by rw [show refA _ _ _ = 0 from HR.out _ rfl]; exact q2)
      clear hO q1 q2
      go_wp2_with fail
      refine (C1.out ()).mono ?_
      rintro e w7 ⟨rfl, h7⟩
      have H7 : Hid _ := h7
      clear C1 h7
      go_wp2
      go_roundw
      case rel => exact ⟨j + 1, by omega, by go_num, by have := H7.out; rw [sB_next] at this; rw [show 1 + (N : Int) - ((j + 1 : Nat) : Int) = 1 + (N : Int) - (j : Int) - 1 by omega]; exact this⟩
      case measure => simp [intOf]; omega
    · obtain rfl : j = N := by omega
      rw [show 1 + (j : Int) - (j : Int) = 1 by omega] at hO HR
      obtain ⟨q1, q2⟩ := beg_off (sB X.data.toList j) (fapp [98] [121])
      have C1 : Hid _ := fun (_ : Unit) => one_append (ds' := ⟨400000, 0, true, sB X.data.toList j⟩) hO ⟨#[98]⟩ ⟨#[121]⟩ (by decide) (by decide) 12 (by rw [show refA _ _ _ = 0 from HR.out _ rfl]; exact q1) (by rw [show refA _ _ _ = 0 from HR.out _ rfl]; exact q2)
      clear hO q1 q2
      go_wp2_with fail
      refine (C1.out ()).mono ?_
      rintro e w7 ⟨rfl, h7⟩
      clear C1
      go_wp2_with fail
      refine (one_delete h7 ⟨#[97]⟩ (by decide) 12 (beg_down _ _ (fun S => S)).1 (beg_down _ _ _).2).mono ?_
      rintro e w8 ⟨rfl, h8⟩
      clear h7
      go_wp2_with fail
      refine (one_read h8 ⟨#[97]⟩ (by decide) ⟨#[]⟩ 12 rfl rfl).mono ?_
      rintro e w9 ⟨rfl, h9⟩
      clear h8
      go_wp2_with fail
      refine (one_down h9 true rfl).mono ?_
      rintro e w10 ⟨rfl, hw10⟩
      subst hw10
      go_wp2_with fail
      refine (one_used h9 0 rfl).mono ?_
      rintro e w11 ⟨rfl, h11⟩
      clear h9
      go_wp2_with fail
      refine (one_list h11 0 rfl).mono ?_
      rintro e w12 ⟨la, lc, rfl, h12⟩
      clear h11
      go_wp2_with fail
      refine (one_crash h12 ka kb koff kcap m ks HK.out hmx HI.out HKS.out).mono ?_
      rintro e w13 ⟨rfl, h13⟩
      clear h12
      have hfa := crash_a ks X.data.toList j
      rw [HXl.out] at hfa
      by_cases h0 : M = 0
      · rw [if_pos h0] at hfa
        go_wp2_with fail
        refine (no_read h13 ⟨#[97]⟩ (by decide) hfa).mono ?_
        rintro e w14 ⟨rfl, h14⟩
        clear h13 hfa
        have hX0 : X = ⟨#[]⟩ := by
          have h1 : X.data.size = 0 := hXz.trans h0
          cases X
          simp only [Array.size_eq_zero_iff] at h1
          rw [h1]
        have hX1 : decide (X = ⟨#[]⟩) = true := decide_eq_true hX0
        go_wp2_with fail
        refine (one_down h14 false rfl).mono ?_
        rintro e w15 ⟨rfl, hw15⟩
        subst hw15
        go_wp2
        go_ret
        exact ⟨rfl, h14.bel⟩
      · rw [if_neg h0] at hfa
        go_wp2_with fail
        refine (ok_read h13 ⟨#[97]⟩ (by decide) X _ hfa).mono ?_
        rintro e w14 ⟨rfl, h14⟩
        clear h13 hfa
        have hX0 : ¬ X = ⟨#[]⟩ := by
          intro e
          apply h0
          rw [← hXz, e]; rfl
        have hX1 : X.toList.isEmpty = false := by
          rw [ByteArray.toList_eq]
          have hl := HXl.out
          cases hc : X.data.toList with
          | nil => rw [hc] at hl; exact absurd hl.symm h0
          | cons _ _ => rfl
        go_wp2_with fail
        refine (one_down h14 false rfl).mono ?_
        rintro e w15 ⟨rfl, hw15⟩
        subst hw15
        go_wp2
        go_ret
        exact ⟨rfl, h14.bel⟩

theorem cut_size (s : ByteArray) (k : Nat) (h : k ≤ s.size) : (s.extract 0 k).size = k := by
  rw [ByteArray.size_extract]; omega

theorem walk (a0 : ByteArray) (a1 : Int) (a2 : Option Addr) (b2 off2 cap2 : Nat) (ss2 : List Int) (w : World) (w0 : a0.size ≤ maxLen) (w1 : (Lit.int .i64 a1).wf = true) (w2 : Ints w .i64 a2 b2 off2 ss2 ∧ ss2.length ≤ maxLen ∧ ∀ n ∈ ss2, (Lit.int .i64 n).wf = true) :
    Calls Try.prog 5 #[.string a0, .int .i64 a1, .slice a2 ss2.length cap2] w fun e w' => e = .returned (.bool true) ∧ Below w.heap.size w w' :=
  walk_b a0 (a0.extract 0 (min a0.size 1000)) a1 a2 b2 off2 cap2 _ (min a0.size 1000) _ ss2 w w0 (by omega) rfl (cut_size _ _ (by omega)) (bounds_i64 w1) rfl rfl w2.2.1 w2.1 (fun k hk => bounds_i64 (w2.2.2 k hk))

set_option maxRecDepth 100000 in
theorem lifted (os : Os) (started : os.Started) (H : Type) (enc : TypeId × Value → H) :
    ReturnsInHanded {} Try.checked os 5 .any (Rows.diskFuseSpec.pre6 enc Try.prog Try.f5 Rows.diskFuseRow.domain false) (Rows.diskFuseSpec.post enc Try.prog Try.f5 false true false false) := by
  refine returnsInHanded_of_change (C := Try.checked) own started (by kernel_rfl) Try.func5
    (ChangeSpec.witness6 (enc := enc) (C := Try.checked) false ⟨#[], #[.string ByteArray.empty, .int .i64 0, .slice none 0 0], []⟩ 8 (by kernel_rfl) (by kernel_rfl) (by kernel_rfl) (by kernel_rfl)) ?_
  intro W base args ds gs before hval0 hW hcnd _
  have hval : ∀ (j : Nat) t v, Try.f5.params[j]? = some t → args[j]? = some v → Value.okWide Try.prog W .any base t v := hval0
  have hW' := hW
  obtain ⟨p, q, hA0, hV, rfl, hfz, hnd⟩ := hW
  have hA : DataW.TrodAll enc Try.prog W 0 (fun _ => true) true Try.f5.params.toList args.toList ds p := hA0
  rw [Try.params5] at hA hval
  obtain ⟨v0, vs0, d0, ds0, p0, q0, hargs, rfl, rfl, h0, r0⟩ := trodAll_cons hA
  obtain ⟨v1, vs1, d1, ds1, p1, q1, rfl, rfl, rfl, h1, r1⟩ := trodAll_cons r0
  obtain ⟨v2, vs2, d2, ds2, p2, q2, rfl, rfl, rfl, h2, r2⟩ := trodAll_cons r1
  obtain ⟨rfl, rfl, rfl⟩ := trodAll_nil r2
  obtain rfl : args = #[v0, v1, v2] := by cases args; simp_all
  obtain ⟨rfl, rfl⟩ := trodVars_none hV
  obtain ⟨a0, rfl, rfl, rfl, w0⟩ := open_string Try.underlying9 (hval 0 9 v0 rfl rfl) h0
  obtain ⟨a1, rfl, rfl, rfl, w1⟩ := open_int Try.underlying3 (hval 1 3 v1 rfl rfl) h1
  obtain ⟨a2, len2, cap2, rfl⟩ := okWide_slice Try.underlying29 (hval 2 29 v2 rfl rfl)
  have k2 := h2
  have lt2 : ∀ x ∈ p2, x.block < W.heap.size := by obtain ⟨m, hm⟩ := k2; exact DataW.trod_lt m _ _ _ hm
  obtain ⟨b2, off2, ss2, rfl, w2⟩ := open_nums Try.underlying29 Try.underlying3 (by kernel_rfl) h2
  clear hA0 hval0
  refine (walk a0 a1 a2 b2 off2 cap2 ss2 W w0 w1 w2).mono fun e W' ⟨he, bel⟩ => ?_
  subst he
  exact ⟨_, rfl, _, _, _, [], _, [], hW', trodAll_mk1 (shut_bool Try.underlying4 _), (trodAll_cons_mk (shut_string Try.underlying9 w0) (trodAll_cons_mk (shut_int Try.underlying3 w1) (trodAll_cons_mk (Below.trod laidOut (by kernel_rfl) (of_decide_eq_true (by kernel_rfl)) k2 bel lt2) trodAll_mk0))), rfl, bel.frame _, fun h => by cases h⟩

theorem over : Rows.diskFuseRow.holds Try.pinned (OpenSpec.ofChange Rows.diskFuseSpec) :=
  OpenClaim.holds_of_wide 5 Try.f5 rfl rfl rfl rfl rfl rfl rfl ⟨rfl, rfl, rfl, rfl, rfl⟩ rfl rfl rfl rfl rfl (by kernel_rfl) Try.func5 (by kernel_rfl)
    (of_decide_eq_true (by kernel_rfl)) (by unfold Func.isWrapper; first | (rw [if_pos (by decide +kernel)]; kernel_rfl) | (rw [if_neg (by decide +kernel)]; exact ⟨rfl, rfl⟩))
    (fun os started H enc _ => lifted os started H enc)
end Go.Proofs.Ytlgfhmedenlbcaa.diskFuse

namespace Go.Proofs.Ytlgfhmedenlbcaa
/-- The statement. -/
theorem diskFuse_holds : Rows.DiskFuseSaid := diskFuse.over
#print axioms diskFuse_holds
end Go.Proofs.Ytlgfhmedenlbcaa
