/- PathBack: for every string and every list of strings: the statement's function returns true; nothing that was there is changed. No condition. -/
import Derived.Test.YtnoblmpelebemaaPathEx
import Derived.Test.YtnoblmpelebemaaPathLM
import Derived.Test.YtnoblmpelebemaaPathOpen
namespace Go.Proofs.Ytnoblmpelebemaa.pathBack
open Go.ChangeShapes Go.WideShapes Go.ChangeAt Go.RowKit
open Go.ChangeMaps (open_string shut_string)
set_option linter.unusedVariables false

theorem own : ownKnob Try.prog.godebug = none := by kernel_rfl

set_option maxRecDepth 100000 in
set_option maxHeartbeats 1000000 in
theorem walk_0 (a0 : ByteArray) (a1 : Option Addr) (b1 off1 cap1 len1 : Nat) (T1 : List ByteArray) (w : World) (h0 : a0.size ≤ maxLen) (S1 : Strs w a1 b1 off1 T1) (n1 : len1 ≤ cap1) (hT : T1.length = len1) :
    Calls Try.prog 5 #[.string a0, .slice a1 len1 cap1] w fun e w' => e = .returned (.bool true) ∧ Below w.heap.size w w' := by
  have HT : Hid (T1.length = len1) := hT
  have HS : Hid (Strs w a1 b1 off1 T1) := S1
  obtain ⟨⟨q, G⟩, hJ⟩ : ∃ x, joinX T1 = x := ⟨_, rfl⟩
  have HJ : Hid (joinX T1 = (q, G)) := hJ
  have HW : Hid ((G = 0 ∧ q.size ≤ maxLen ∧ splitX q = (T1, 0)) ∨ G ≠ 0) := by
    by_cases hG : G = 0
    · subst hG
      obtain ⟨g, rfl⟩ := joinX_ok hJ
      exact .inl ⟨rfl, by have := pathT_small g; unfold maxLen; omega, splitX_good g⟩
    · exact .inr hG
  clear hT S1 hJ
  by_cases hE : splitE a0 = 0
  · have hX : splitX a0 = (splitN a0, 0) := by rw [splitX_pair, hE]
    have hJ2 : joinX (splitN a0) = (a0, 0) := by rw [joinX_good (split_ok hE).1, ← splitX_ok hE]
    have HX : Hid (splitX a0 = (splitN a0, 0)) := hX
    have HJ2 : Hid (joinX (splitN a0) = (a0, 0)) := hJ2
    clear hX hJ2 hE
    generalize splitN a0 = N at *
    obtain ⟨l, hl⟩ : ∃ l, N.length = l := ⟨_, rfl⟩
    have HL : Hid (N.length = l) := hl
    clear hl
    go_enter Try.func5, Try.ntmps5
    go_wp2_with fail
    refine (examples_any _).mono ?_
    rintro e w1 ⟨rfl, cc⟩
    go_wp2_with fail
    refine (split_val a0 N 0 l _ h0 HX.out HL.out).mono ?_
    rintro e w2 ⟨a2, b2, cap2, rfl, hS2, c⟩
    replace cc := bel_trans cc c
    clear c
    have hr := hS2.room
    rw [HL.out] at hr
    have HS2 : Hid (Strs w2 a2 b2 0 N) := hS2.strs
    clear hS2
    go_wp2_with fail
    refine (join_val a2 b2 0 cap2 N l a0 0 _ HS2.out hr HL.out HJ2.out).mono ?_
    rintro e w3 ⟨rfl, c⟩
    replace cc := bel_trans cc c
    clear c HS2
    go_wp2_with fail
    refine (join_val a1 b1 off1 cap1 T1 len1 q G _ (HS.out.below cc) n1 HT.out HJ.out).mono ?_
    rintro e w4 ⟨rfl, c⟩
    replace cc := bel_trans cc c
    clear c
    rcases HW.out with ⟨rfl, hq, hX⟩ | hG
    · clear HW
      have HXq : Hid (splitX q = (T1, 0)) := hX
      clear hX
      go_wp2_with fail
      refine (split_val q T1 0 len1 _ hq HXq.out HT.out).mono ?_
      rintro e w5 ⟨a5, b5, cap5, rfl, hS5, c⟩
      replace cc := bel_trans cc c
      clear c
      have HS5 : Hid (Strs w5 a5 b5 0 T1) := hS5.strs
      clear hS5
      go_wp2_with fail
      refine (texts_same a5 a1 b5 0 cap5 b1 off1 cap1 len1 T1 _ HS5.out (HS.out.below cc) HT.out).mono ?_
      rintro e w6 ⟨rfl, c⟩
      replace cc := bel_trans cc c
      clear c HS5
      go_wp2
      go_ret
      exact ⟨rfl, cc⟩
    · clear HW
      go_wp2
      go_ret
      exact ⟨rfl, cc⟩
  · have HX : Hid (splitX a0 = (splitN a0, splitE a0)) := splitX_pair a0
    generalize splitN a0 = N at *
    generalize splitE a0 = E at *
    obtain ⟨l, hl⟩ : ∃ l, N.length = l := ⟨_, rfl⟩
    have HL : Hid (N.length = l) := hl
    clear hl
    go_enter Try.func5, Try.ntmps5
    go_wp2_with fail
    refine (examples_any _).mono ?_
    rintro e w1 ⟨rfl, cc⟩
    go_wp2_with fail
    refine (split_val a0 N E l _ h0 HX.out HL.out).mono ?_
    rintro e w2 ⟨a2, b2, cap2, rfl, hS2, c⟩
    replace cc := bel_trans cc c
    clear c hS2
    go_wp2_with fail
    refine (join_val a1 b1 off1 cap1 T1 len1 q G _ (HS.out.below cc) n1 HT.out HJ.out).mono ?_
    rintro e w4 ⟨rfl, c⟩
    replace cc := bel_trans cc c
    clear c
    rcases HW.out with ⟨rfl, hq, hX⟩ | hG
    · clear HW
      have HXq : Hid (splitX q = (T1, 0)) := hX
      clear hX
      go_wp2_with fail
      refine (split_val q T1 0 len1 _ hq HXq.out HT.out).mono ?_
      rintro e w5 ⟨a5, b5, cap5, rfl, hS5, c⟩
      replace cc := bel_trans cc c
      clear c
      have HS5 : Hid (Strs w5 a5 b5 0 T1) := hS5.strs
      clear hS5
      go_wp2_with fail
      refine (texts_same a5 a1 b5 0 cap5 b1 off1 cap1 len1 T1 _ HS5.out (HS.out.below cc) HT.out).mono ?_
      rintro e w6 ⟨rfl, c⟩
      replace cc := bel_trans cc c
      clear c HS5
      go_wp2
      go_ret
      exact ⟨rfl, cc⟩
    · clear HW
      go_wp2
      go_ret
      exact ⟨rfl, cc⟩

theorem walk (a0 : ByteArray) (a1 : Option Addr) (b1 off1 cap1 : Nat) (ss1 : List ByteArray) (w : World) (h0 : a0.size ≤ maxLen) (S1 : Strs w a1 b1 off1 ss1) (n1 : (a1 = none → cap1 = 0) ∧ ss1.length ≤ cap1 ∧ cap1 ≤ maxLen) :
    Calls Try.prog 5 #[.string a0, .slice a1 ss1.length cap1] w fun e w' => e = .returned (.bool true) ∧ Below w.heap.size w w' :=
  walk_0 a0 a1 b1 off1 cap1 _ ss1 w h0 S1 n1.2.1 rfl

set_option maxRecDepth 100000 in
theorem lifted (os : Os) (started : os.Started) (H : Type) (enc : TypeId × Value → H) :
    ReturnsInHanded {} Try.checked os 5 .any (Rows.pathBackSpec.pre6 enc Try.prog Try.f5 Rows.pathBackRow.domain false) (Rows.pathBackSpec.post enc Try.prog Try.f5 false true false false) := by
  refine returnsInHanded_of_change (C := Try.checked) own started (by kernel_rfl) Try.func5
    (ChangeSpec.witness6 (enc := enc) (C := Try.checked) false ⟨#[], #[.string ByteArray.empty, .slice none 0 0], []⟩ 8 (by kernel_rfl) (by kernel_rfl) (by kernel_rfl) (by kernel_rfl)) ?_
  intro W base args ds gs before hval0 hW hcnd _
  have hval : ∀ (j : Nat) t v, Try.f5.params[j]? = some t → args[j]? = some v → Value.okWide Try.prog W .any base t v := hval0
  have hW' := hW
  obtain ⟨p, q, hA0, hV, rfl, hfz, hnd⟩ := hW
  have hA : DataW.TrodAll enc Try.prog W 0 (fun _ => true) true Try.f5.params.toList args.toList ds p := hA0
  rw [Try.params5] at hA hval
  obtain ⟨v0, vs0, d0, ds0, p0, q0, hargs, rfl, rfl, h0, r0⟩ := trodAll_cons hA
  obtain ⟨v1, vs1, d1, ds1, p1, q1, rfl, rfl, rfl, h1, r1⟩ := trodAll_cons r0
  obtain ⟨rfl, rfl, rfl⟩ := trodAll_nil r1
  obtain rfl : args = #[v0, v1] := by cases args; simp_all
  obtain ⟨rfl, rfl⟩ := trodVars_none hV
  obtain ⟨a0, rfl, rfl, rfl, w0⟩ := open_string Try.underlying9 (hval 0 9 v0 rfl rfl) h0
  obtain ⟨a1, len1, cap1, rfl⟩ := okWide_slice Try.underlying22 (hval 1 22 v1 rfl rfl)
  have k1 := h1
  have lt1 : ∀ x ∈ p1, x.block < W.heap.size := by obtain ⟨m, hm⟩ := k1; exact DataW.trod_lt m _ _ _ hm
  obtain ⟨b1, off1, ss1, rfl, w1, n1⟩ := open_strs0 Try.underlying22 Try.underlying9 (by kernel_rfl) h1
  clear hA0 hval0
  refine (walk a0 a1 b1 off1 cap1 ss1 W w0 w1 n1).mono fun e W' ⟨he, bel⟩ => ?_
  subst he
  exact ⟨_, rfl, _, _, _, [], _, [], hW', trodAll_mk1 (shut_bool Try.underlying4 _), (trodAll_cons_mk (shut_string Try.underlying9 w0) (trodAll_cons_mk (Below.trod laidOut (by kernel_rfl) (of_decide_eq_true (by kernel_rfl)) k1 bel lt1) trodAll_mk0)), rfl, bel.frame _, fun h => by cases h⟩

theorem over : Rows.pathBackRow.holds Try.pinned (OpenSpec.ofChange Rows.pathBackSpec) :=
  OpenClaim.holds_of_wide 5 Try.f5 rfl rfl rfl rfl rfl rfl rfl ⟨rfl, rfl, rfl, rfl, rfl⟩ rfl rfl rfl rfl rfl (by kernel_rfl) Try.func5 (by kernel_rfl)
    (of_decide_eq_true (by kernel_rfl)) (by unfold Func.isWrapper; first | (rw [if_pos (by decide +kernel)]; kernel_rfl) | (rw [if_neg (by decide +kernel)]; exact ⟨rfl, rfl⟩))
    (fun os started H enc _ => lifted os started H enc)
end Go.Proofs.Ytnoblmpelebemaa.pathBack

namespace Go.Proofs.Ytnoblmpelebemaa
/-- The statement. -/
theorem pathBack_holds : Rows.PathBackSaid := pathBack.over
#print axioms pathBack_holds
end Go.Proofs.Ytnoblmpelebemaa
