/- PathSplits: for every string and every list of strings: the statement's function returns true; nothing that was there is changed. No condition. -/
import Derived.Test.YtnoblmpelebemaaPathEx
import Derived.Test.YtnoblmpelebemaaPathLM
import Derived.Test.YtnoblmpelebemaaPathRT
import Derived.Test.YtnoblmpelebemaaPathOpen
namespace Go.Proofs.Ytnoblmpelebemaa.pathSplits
open Go.ChangeShapes Go.WideShapes Go.ChangeAt Go.RowKit
open Go.ChangeMaps (open_string shut_string)
set_option linter.unusedVariables false

theorem own : ownKnob Try.prog.godebug = none := by kernel_rfl

theorem split_own (p : ByteArray) (N : List ByteArray) (E : Int) (n : Nat) (w : World) (hs : p.size ≤ maxLen) (hX : splitX p = (N, E)) (hn : N.length = n) :
    Calls Try.prog 11 #[.string p] w fun e w' => ∃ a b cap, e = .returned (.tuple #[.slice a n cap, .int .i64 E]) ∧ Sl w' a b 0 cap N ∧ w'.ownsRow w.heap.size 9 1 (.slice a n cap) n (N.map Value.string) ∧ Below w.heap.size w w' := by
  refine (split_any p _ w hs hX).mono ?_
  rintro e w1 ⟨h1, h2⟩
  obtain ⟨v, he, ho⟩ := h1.ends
  have ho2 := ho
  obtain ⟨a, b, cap, rfl, hS⟩ := own_strs ho (by have := h1.few; simp at this ⊢; omega) (fun x hx => by have := h1.small x hx; unfold maxLen; omega)
  subst hn
  exact ⟨a, b, cap, he, hS, ho2, h2⟩

set_option maxRecDepth 100000 in
set_option maxHeartbeats 2000000 in
theorem walk_0 (a0 : ByteArray) (a1 : Option Addr) (b1 off1 cap1 len1 : Nat) (T1 : List ByteArray) (w : World) (h0 : a0.size ≤ maxLen) (S1 : Strs w a1 b1 off1 T1) (n1 : len1 ≤ cap1) (hT : T1.length = len1) :
    Calls Try.prog 3 #[.string a0, .slice a1 len1 cap1] w fun e w' => e = .returned (.bool true) ∧ Below w.heap.size w w' := by
  have HT : Hid (T1.length = len1) := hT
  have HS : Hid (Strs w a1 b1 off1 T1) := S1
  obtain ⟨⟨q, G⟩, hJ⟩ : ∃ x, joinX T1 = x := ⟨_, rfl⟩
  have HJ : Hid (joinX T1 = (q, G)) := hJ
  obtain ⟨v, hv⟩ : ∃ v, nameB a0 = v := ⟨_, rfl⟩
  have HV : Hid (nameB a0 = v) := hv
  have HX : Hid (splitX a0 = (splitN a0, splitE a0)) := splitX_pair a0
  have hl6 : (splitN a0).length ≤ 6 := split_few
  clear hT S1 hJ hv
  generalize splitN a0 = N at *
  generalize splitE a0 = E at *
  obtain ⟨l, hl⟩ : ∃ l, N.length = l := ⟨_, rfl⟩
  have HL : Hid (N.length = l) := hl
  rw [hl] at hl6
  clear hl
  go_enter Try.func3, Try.ntmps3
  go_wp2_with fail
  refine (examples_any _).mono ?_
  rintro e w1 ⟨rfl, cc⟩
  go_wp2_with fail
  refine (refSplit_val a0 N E l _ h0 HX.out HL.out).mono ?_
  rintro e w2 ⟨aw, bw, capw, rfl, hSw, c⟩
  replace cc := bel_trans cc c
  clear c
  have HSw : Hid (Sl w2 aw bw 0 capw N) := hSw
  have HCC : Hid (Below w.heap.size w w2) := cc
  clear hSw cc
  go_wp2_with fail
  go_loopw [8] (fun c wr => ∃ k : Nat, k ≤ 2 ∧ c = .int .i64 k ∧ Below w2.heap.size w2 wr) (fun c _ => 2 - (intOf c).toNat)
  case atStart => exact ⟨0, by omega, rfl, Below.refl _ _⟩
  case round =>
    obtain ⟨k, hk, rfl, hbel⟩ := hrel
    have HB : Hid (Below w2.heap.size w2 wr) := hbel
    clear hbel
    by_cases hlt : k < 2
    · rename World => wo
      go_wp2_with fail
      refine (split_own a0 N E l _ h0 HX.out HL.out).mono ?_
      rintro e w3 ⟨a3, b3, cap3, rfl, hS3, ho3, c3⟩
      have HS3 : Hid (Strs w3 a3 b3 0 N) := hS3.strs
      have HB3 : Hid (Below w2.heap.size w2 w3) := bel_trans HB.out c3
      have HC3 : Hid (wo.heap.size ≤ w3.heap.size) := c3.size
      clear hS3 c3
      go_wp2_with fail
      refine (texts_same a3 aw b3 0 cap3 bw 0 capw l N _ HS3.out (HSw.out.below HB3.out).strs HL.out).mono ?_
      rintro e w4 ⟨rfl, c4⟩
      have ho4 := own_below ho3 c4
      have HB4 : Hid (Below w2.heap.size w2 w4) := bel_trans HB3.out c4
      have HA : Hid (0 < l → a3 = some ⟨b3, 0, none⟩) := fun h => HS3.out.addr (by rw [HL.out]; exact h)
      have HML : Hid ((N.map Value.string).length = l) := by show _ = _; rw [List.length_map, HL.out]
      have HSZ : Hid (w2.heap.size ≤ wo.heap.size) := HB.out.size
      clear ho3 c4 HS3 HB3 HC3
      go_wp2_with fail
      go_loopw [12] (fun c wi => ∃ (i : Nat) (xs : List Value), i ≤ l ∧ c = .int .i64 i ∧ xs.length = l ∧ wi.ownsRow wo.heap.size 9 1 (.slice a3 l cap3) l xs ∧ Below w2.heap.size w2 wi) (fun c _ => l - (intOf c).toNat)
      case atStart => exact ⟨0, _, by omega, rfl, HML.out, ho4, HB4.out⟩
      case round =>
        obtain ⟨i, xs, hi, rfl, hxs, ho, hb⟩ := hrel
        have HXS : Hid (xs.length = l) := hxs
        have HO : Hid (wr.ownsRow wo.heap.size 9 1 (.slice a3 l cap3) l xs) := ho
        have HBI : Hid (Below w2.heap.size w2 wr) := hb
        clear hxs ho hb ho4 HB4
        by_cases hil : i < l
        · obtain rfl := HA.out (by omega)
          have hix : i < xs.length := by rw [HXS.out]; exact hil
          have hc : wr.cell? ⟨b3, i, none⟩ = some xs[i] := by rw [HO.out.cellAt i (by omega), List.getElem?_eq_getElem hix]
          have hf : wr.frozen? ⟨b3, i, none⟩ = false := HO.out.frozenAt i
          have HO2 : Hid ((wr.setCell ⟨b3, i, none⟩ (.string ⟨#[63]⟩)).ownsRow wo.heap.size 9 1 (.slice (some ⟨b3, 0, none⟩) l cap3) l (xs.set i (.string ⟨#[63]⟩))) := (HO.out.stored i _).1
          have HX2 : Hid ((xs.set i (.string ⟨#[63]⟩)).length = l) := by show _ = _; rw [List.length_set, HXS.out]
          have HB2 : Hid (Below w2.heap.size w2 (wr.setCell ⟨b3, i, none⟩ (.string ⟨#[63]⟩))) := HBI.out.setCell (p := ⟨b3, i, none⟩) (Nat.le_trans HSZ.out (HO.out.lt b3 rfl).1) _
          generalize xs[i] = x at *
          go_wp2
          go_roundw
          case rel => exact ⟨i + 1, _, by omega, by go_num, HX2.out, HO2.out, HB2.out⟩
          case measure => simp [intOf]; omega
        · go_wp2
          go_roundw
          case rel => exact ⟨k + 1, by omega, by go_num, HBI.out⟩
          case measure => simp [intOf]; omega
    · have cc := bel_trans HCC.out HB.out
      clear HB HCC HSw
      go_wp2_with (first
        | (go_at_call 13; refine (join_val a1 b1 off1 cap1 T1 len1 q G _ (HS.out.below cc) n1 HT.out HJ.out).mono ?_; rintro e wn ⟨rfl, c⟩; replace cc := bel_trans cc c; clear c)
        | (go_at_call 14; refine (refJoin_val a1 b1 off1 cap1 T1 len1 q G _ (HS.out.below cc) HT.out HJ.out).mono ?_; rintro e wn ⟨rfl, c⟩; replace cc := bel_trans cc c; clear c)
        | (go_at_call 15; refine (name_val a0 v _ h0 HV.out).mono ?_; rintro e wn ⟨rfl, rfl⟩)
        | (go_at_call 16; refine (refName_val a0 v _ h0 HV.out).mono ?_; rintro e wn ⟨rfl, rfl⟩))
      go_ret
      exact ⟨rfl, cc⟩

theorem walk (a0 : ByteArray) (a1 : Option Addr) (b1 off1 cap1 : Nat) (ss1 : List ByteArray) (w : World) (h0 : a0.size ≤ maxLen) (S1 : Strs w a1 b1 off1 ss1) (n1 : (a1 = none → cap1 = 0) ∧ ss1.length ≤ cap1 ∧ cap1 ≤ maxLen) :
    Calls Try.prog 3 #[.string a0, .slice a1 ss1.length cap1] w fun e w' => e = .returned (.bool true) ∧ Below w.heap.size w w' :=
  walk_0 a0 a1 b1 off1 cap1 _ ss1 w h0 S1 n1.2.1 rfl

set_option maxRecDepth 100000 in
theorem lifted (os : Os) (started : os.Started) (H : Type) (enc : TypeId × Value → H) :
    ReturnsInHanded {} Try.checked os 3 .any (Rows.pathSplitsSpec.pre6 enc Try.prog Try.f3 Rows.pathSplitsRow.domain false) (Rows.pathSplitsSpec.post enc Try.prog Try.f3 false true false false) := by
  refine returnsInHanded_of_change (C := Try.checked) own started (by kernel_rfl) Try.func3
    (ChangeSpec.witness6 (enc := enc) (C := Try.checked) false ⟨#[], #[.string ByteArray.empty, .slice none 0 0], []⟩ 8 (by kernel_rfl) (by kernel_rfl) (by kernel_rfl) (by kernel_rfl)) ?_
  intro W base args ds gs before hval0 hW hcnd _
  have hval : ∀ (j : Nat) t v, Try.f3.params[j]? = some t → args[j]? = some v → Value.okWide Try.prog W .any base t v := hval0
  have hW' := hW
  obtain ⟨p, q, hA0, hV, rfl, hfz, hnd⟩ := hW
  have hA : DataW.TrodAll enc Try.prog W 0 (fun _ => true) true Try.f3.params.toList args.toList ds p := hA0
  rw [Try.params3] at hA hval
  obtain ⟨v0, vs0, d0, ds0, p0, q0, hargs, rfl, rfl, h0, r0⟩ := trodAll_cons hA
  obtain ⟨v1, vs1, d1, ds1, p1, q1, rfl, rfl, rfl, h1, r1⟩ := trodAll_cons r0
  obtain ⟨rfl, rfl, rfl⟩ := trodAll_nil r1
  obtain rfl : args = #[v0, v1] := by cases args; simp_all
  obtain ⟨rfl, rfl⟩ := trodVars_none hV
  obtain ⟨a0, rfl, rfl, rfl, w0⟩ := open_string Try.underlying9 (hval 0 9 v0 rfl rfl) h0
  obtain ⟨a1, len1, cap1, rfl⟩ := okWide_slice Try.underlying22 (hval 1 22 v1 rfl rfl)
  have k1 := h1
  have lt1 : ∀ x ∈ p1, x.block < W.heap.size := by obtain ⟨m, hm⟩ := k1; exact DataW.trod_lt m _ _ _ hm
  obtain ⟨b1, off1, ss1, rfl, w1, n1⟩ := open_strs0 Try.underlying22 Try.underlying9 (by kernel_rfl) h1
  clear hA0 hval0
  refine (walk a0 a1 b1 off1 cap1 ss1 W w0 w1 n1).mono fun e W' ⟨he, bel⟩ => ?_
  subst he
  exact ⟨_, rfl, _, _, _, [], _, [], hW', trodAll_mk1 (shut_bool Try.underlying4 _), (trodAll_cons_mk (shut_string Try.underlying9 w0) (trodAll_cons_mk (Below.trod laidOut (by kernel_rfl) (of_decide_eq_true (by kernel_rfl)) k1 bel lt1) trodAll_mk0)), rfl, bel.frame _, fun h => by cases h⟩

theorem over : Rows.pathSplitsRow.holds Try.pinned (OpenSpec.ofChange Rows.pathSplitsSpec) :=
  OpenClaim.holds_of_wide 3 Try.f3 rfl rfl rfl rfl rfl rfl rfl ⟨rfl, rfl, rfl, rfl, rfl⟩ rfl rfl rfl rfl rfl (by kernel_rfl) Try.func3 (by kernel_rfl)
    (of_decide_eq_true (by kernel_rfl)) (by unfold Func.isWrapper; first | (rw [if_pos (by decide +kernel)]; kernel_rfl) | (rw [if_neg (by decide +kernel)]; exact ⟨rfl, rfl⟩))
    (fun os started H enc _ => lifted os started H enc)
end Go.Proofs.Ytnoblmpelebemaa.pathSplits

namespace Go.Proofs.Ytnoblmpelebemaa
/-- The statement. -/
theorem pathSplits_holds : Rows.PathSplitsSaid := pathSplits.over
#print axioms pathSplits_holds
end Go.Proofs.Ytnoblmpelebemaa
