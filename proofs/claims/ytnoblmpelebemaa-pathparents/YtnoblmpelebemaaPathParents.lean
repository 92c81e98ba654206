/- PathParents: for every two strings: the statement's function returns true; nothing that was there is changed. No condition. -/
import Derived.Test.YtnoblmpelebemaaPathEx
import Derived.Test.YtnoblmpelebemaaPathLM
import Derived.Test.YtnoblmpelebemaaOpenAll
namespace Go.Proofs.Ytnoblmpelebemaa.pathParents
open Go.ChangeShapes Go.WideShapes Go.ChangeAt Go.RowKit
open Go.ChangeMaps (open_string shut_string)
set_option linter.unusedVariables false

theorem own : ownKnob Try.prog.godebug = none := by kernel_rfl

theorem under_is (a b : ByteArray) (w : World) (hs : a.size ≤ maxLen) (hs2 : b.size ≤ maxLen) :
    Calls Try.prog 21 #[.string a, .string b] w fun e w' => e = .returned (.bool (underB a b)) ∧ Below w.heap.size w w' := under_val a b _ w hs hs2 rfl

set_option maxRecDepth 100000 in
set_option maxHeartbeats 2000000 in
theorem walk (a0 a1 : ByteArray) (h0 : a0.size ≤ maxLen) (h1 : a1.size ≤ maxLen) (w : World) :
    Calls Try.prog 8 #[.string a0, .string a1] w fun e w' => e = .returned (.bool true) ∧ Below w.heap.size w w' := by
  obtain ⟨i0, hi, hz0, hz1, hz2⟩ := info_parts Try.infoStr
  obtain ⟨⟨d, n, E⟩, hP⟩ : ∃ x, parentX a0 = x := ⟨_, rfl⟩
  have HP : Hid (parentX a0 = (d, n, E)) := hP
  obtain ⟨N, F, q, G, l, HX, HL, hl6, HJ, HW⟩ : ∃ (N : List ByteArray) (F : Int) (q : ByteArray) (G : Int) (l : Nat), Hid (splitX a0 = (N, F)) ∧ Hid (N.length = l) ∧ l ≤ 6 ∧ Hid (joinX (N ++ [a1]) = (q, G)) ∧
      Hid (F ≠ 0 ∨ (F = 0 ∧ ((G ≠ 0 ∧ ((nameB a1 = false ∧ G = 1) ∨ (nameB a1 = true ∧ G = 4))) ∨ (G = 0 ∧ q.size ≤ 120 ∧ nameB a1 = true ∧ underB a0 q = true ∧ underB q a0 = false ∧ a1.size < q.size)))) := by
    obtain ⟨⟨q, G⟩, hJ⟩ : ∃ x, joinX (splitN a0 ++ [a1]) = x := ⟨_, rfl⟩
    refine ⟨splitN a0, splitE a0, q, G, _, splitX_pair a0, rfl, split_few, hJ, ?_⟩
    by_cases hF : splitE a0 = 0
    · refine .inr ⟨hF, ?_⟩
      by_cases hG : G = 0
      · subst hG
        obtain ⟨m1, m2, m3, m4, m5⟩ := more_join hF hJ
        exact .inr ⟨rfl, m5, m1, m2, m3, m4⟩
      · exact .inl ⟨hG, more_bad hF hJ hG⟩
    · exact .inl hF
  by_cases hE : E = 0
  · subst hE
    obtain ⟨-, p2, p3, p4, p5, p6, p7⟩ := parent_ok hP
    have hd : d.size ≤ maxLen := by unfold maxLen; omega
    have hn : n.size ≤ maxLen := by unfold maxLen; omega
    have hXd : splitX d = (splitN d, 0) := by rw [splitX_pair, p2]
    have hPJ := parent_join hP
    have hm6 : (splitN d).length ≤ 6 := split_few
    have HXd : Hid (splitX d = (splitN d, 0)) := hXd
    have HPJ : Hid (joinX (splitN d ++ [n]) = (a0, 0)) := hPJ
    clear hXd hPJ p2 p3 p4 p5 p6 p7 hP
    generalize splitN d = D at *
    obtain ⟨m, hm⟩ : ∃ m, D.length = m := ⟨_, rfl⟩
    have HM : Hid (D.length = m) := hm
    rw [hm] at hm6
    clear hm
    go_enter Try.func8, Try.ntmps8
    go_wp2_with fail
    refine (examples_any _).mono ?_
    rintro e w1 ⟨rfl, cc⟩
    go_wp2_with fail
    refine (parent_val a0 d n 0 _ h0 HP.out).mono ?_
    rintro e wp ⟨rfl, c⟩
    replace cc := bel_trans cc c
    clear c
    go_wp2_with fail
    refine (split_val d D 0 m _ hd HXd.out HM.out).mono ?_
    rintro e w2 ⟨a2, b2, cap2, rfl, hS2, c⟩
    replace cc := bel_trans cc c
    clear c
    have HS2 : Hid (Sl w2 a2 b2 0 cap2 D) := hS2
    clear hS2
    go_wp2_with (first
      | (at_builtin; refine wpList_append_strs _ rfl (.const (.slice none 0 0)) (.tmp 32) 22 rfl w2.heap.size 9 i0 Try.underlying22 hi hz0 hz1 hz2 _ 0 [] rfl (World.ownsRow_nil _ _ _ _) a2 b2 0 cap2 D m HM.out rfl HS2.out.strs HS2.out.nil (by omega) (Nat.le_refl _) ?_; intro v4 w4 o4 g4)
      | (at_builtin; refine wpList_append_own _ rfl (.tmp 33) (.tmp 35) 22 rfl w2.heap.size 9 i0 (.string ⟨#[]⟩) 1 16 Try.underlying22 hi hz0 hz1 hz2 rfl (by decide) _ _ _ rfl (o4.alloc _) ⟨w4.heap.size, 0, none⟩ 1 1 [.string n] rfl rfl (src_one _ _ _) (one_cell _) (by unfold maxLen; omega) (by omega) (by simp; have := g4.size; omega) ?_; intro v5 w5 o5 g5 i5; clear i5))
    obtain ⟨a5, b5, cap5, rfl, hS5⟩ := cat_use (D := [n]) o5 HM.out rfl (by omega) (by omega) HS2.out.strs.small (by intro x hx; simp at hx; subst hx; exact hn)
    replace cc := bel_trans cc (app_bel3 g4 o4 g5)
    have HS5 : Hid (Sl w5 a5 b5 0 cap5 (D ++ [n])) := hS5
    clear o4 g4 o5 g5 hS5 HS2
    go_wp2_with fail
    refine (join_val a5 b5 0 cap5 (D ++ [n]) (m + 1) a0 0 _ HS5.out.strs (by have h := HS5.out.room; rw [List.length_append, HM.out] at h; exact h) (by rw [List.length_append, HM.out]; rfl) HPJ.out).mono ?_
    rintro e w6 ⟨rfl, c⟩
    replace cc := bel_trans cc c
    clear c HS5
    go_wp2_with fail
    refine (split_val a0 N F l _ h0 HX.out HL.out).mono ?_
    rintro e ws ⟨ax, bx, capx, rfl, hSs, c⟩
    replace cc := bel_trans cc c
    clear c
    have HSs : Hid (Sl ws ax bx 0 capx N) := hSs
    clear hSs
    rcases HW.out with hF | ⟨rfl, HW2⟩
    · clear HW HSs
      go_wp2
      go_ret
      exact ⟨rfl, cc⟩
    · clear HW
      have hXJ := HJ.out
      rcases HW2 with ⟨hG, hb⟩ | ⟨rfl, hq, m1, m2, m3, m4⟩
      · have HB : Hid ((nameB a1 = false ∧ G = 1) ∨ (nameB a1 = true ∧ G = 4)) := hb
        clear hb hXJ
        go_wp2_with (first
          | (at_builtin; refine wpList_append_strs _ rfl (.const (.slice none 0 0)) (.tmp 60) 22 rfl ws.heap.size 9 i0 Try.underlying22 hi hz0 hz1 hz2 _ 0 [] rfl (World.ownsRow_nil _ _ _ _) ax bx 0 capx N l HL.out rfl HSs.out.strs HSs.out.nil (by omega) (Nat.le_refl _) ?_; intro v4 w4 o4 g4)
          | (at_builtin; refine wpList_append_own _ rfl (.tmp 61) (.tmp 63) 22 rfl ws.heap.size 9 i0 (.string ⟨#[]⟩) 1 16 Try.underlying22 hi hz0 hz1 hz2 rfl (by decide) _ _ _ rfl (o4.alloc _) ⟨w4.heap.size, 0, none⟩ 1 1 [.string a1] rfl rfl (src_one _ _ _) (one_cell _) (by unfold maxLen; omega) (by omega) (by simp; have := g4.size; omega) ?_; intro v5 w5 o5 g5 i5; clear i5))
        obtain ⟨a5, b5, cap5, rfl, hS5⟩ := cat_use (D := [a1]) o5 HL.out rfl (by omega) (by omega) HSs.out.strs.small (by intro x hx; simp at hx; subst hx; exact h1)
        replace cc := bel_trans cc (app_bel3 g4 o4 g5)
        have HS5 : Hid (Sl w5 a5 b5 0 cap5 (N ++ [a1])) := hS5
        clear o4 g4 o5 g5 hS5 HSs
        go_wp2_with fail
        refine (join_val a5 b5 0 cap5 (N ++ [a1]) (l + 1) q G _ HS5.out.strs (by have h := HS5.out.room; rw [List.length_append, HL.out] at h; exact h) (by rw [List.length_append, HL.out]; rfl) HJ.out).mono ?_
        rintro e w6 ⟨rfl, c⟩
        replace cc := bel_trans cc c
        clear c HS5
        rcases HB.out with ⟨hb1, rfl⟩ | ⟨hb1, rfl⟩
        · clear HB hG
          go_wp2_with (go_at_call 15; refine (name_val a1 false _ h1 hb1).mono ?_; rintro e wn ⟨rfl, rfl⟩)
          go_ret
          exact ⟨rfl, cc⟩
        · clear HB hG
          go_wp2_with (go_at_call 15; refine (name_val a1 true _ h1 hb1).mono ?_; rintro e wn ⟨rfl, rfl⟩)
          go_ret
          exact ⟨rfl, cc⟩
      · clear hXJ
        have M1 : Hid (nameB a1 = true) := m1
        clear m1
        go_wp2_with (first
          | (at_builtin; refine wpList_append_strs _ rfl (.const (.slice none 0 0)) (.tmp 60) 22 rfl ws.heap.size 9 i0 Try.underlying22 hi hz0 hz1 hz2 _ 0 [] rfl (World.ownsRow_nil _ _ _ _) ax bx 0 capx N l HL.out rfl HSs.out.strs HSs.out.nil (by omega) (Nat.le_refl _) ?_; intro v4 w4 o4 g4)
          | (at_builtin; refine wpList_append_own _ rfl (.tmp 61) (.tmp 63) 22 rfl ws.heap.size 9 i0 (.string ⟨#[]⟩) 1 16 Try.underlying22 hi hz0 hz1 hz2 rfl (by decide) _ _ _ rfl (o4.alloc _) ⟨w4.heap.size, 0, none⟩ 1 1 [.string a1] rfl rfl (src_one _ _ _) (one_cell _) (by unfold maxLen; omega) (by omega) (by simp; have := g4.size; omega) ?_; intro v5 w5 o5 g5 i5; clear i5))
        obtain ⟨a5, b5, cap5, rfl, hS5⟩ := cat_use (D := [a1]) o5 HL.out rfl (by omega) (by omega) HSs.out.strs.small (by intro x hx; simp at hx; subst hx; exact h1)
        replace cc := bel_trans cc (app_bel3 g4 o4 g5)
        have HS5 : Hid (Sl w5 a5 b5 0 cap5 (N ++ [a1])) := hS5
        clear o4 g4 o5 g5 hS5 HSs
        go_wp2_with fail
        refine (join_val a5 b5 0 cap5 (N ++ [a1]) (l + 1) q 0 _ HS5.out.strs (by have h := HS5.out.room; rw [List.length_append, HL.out] at h; exact h) (by rw [List.length_append, HL.out]; rfl) HJ.out).mono ?_
        rintro e w6 ⟨rfl, c⟩
        replace cc := bel_trans cc c
        clear c HS5
        have hq2 : q.size ≤ maxLen := by unfold maxLen; omega
        go_wp2_with (first
          | (go_at_call 15; refine (name_val a1 true _ h1 M1.out).mono ?_; rintro e wn ⟨rfl, rfl⟩)
          | (go_at_call 21; refine (under_is _ _ _ (by assumption) (by assumption)).mono ?_; rintro e wn ⟨rfl, c⟩; replace cc := bel_trans cc c; clear c))
        go_ret
        exact ⟨rfl, cc⟩
  · clear hP
    go_enter Try.func8, Try.ntmps8
    go_wp2_with fail
    refine (examples_any _).mono ?_
    rintro e w1 ⟨rfl, cc⟩
    go_wp2_with fail
    refine (parent_val a0 d n E _ h0 HP.out).mono ?_
    rintro e wp ⟨rfl, c⟩
    replace cc := bel_trans cc c
    clear c
    go_wp2_with fail
    refine (split_val a0 N F l _ h0 HX.out HL.out).mono ?_
    rintro e ws ⟨ax, bx, capx, rfl, hSs, c⟩
    replace cc := bel_trans cc c
    clear c
    have HSs : Hid (Sl ws ax bx 0 capx N) := hSs
    clear hSs
    rcases HW.out with hF | ⟨rfl, HW2⟩
    · clear HW HSs
      go_wp2
      go_ret
      exact ⟨rfl, cc⟩
    · clear HW
      have hXJ := HJ.out
      rcases HW2 with ⟨hG, hb⟩ | ⟨rfl, hq, m1, m2, m3, m4⟩
      · have HB : Hid ((nameB a1 = false ∧ G = 1) ∨ (nameB a1 = true ∧ G = 4)) := hb
        clear hb hXJ
        go_wp2_with (first
          | (at_builtin; refine wpList_append_strs _ rfl (.const (.slice none 0 0)) (.tmp 60) 22 rfl ws.heap.size 9 i0 Try.underlying22 hi hz0 hz1 hz2 _ 0 [] rfl (World.ownsRow_nil _ _ _ _) ax bx 0 capx N l HL.out rfl HSs.out.strs HSs.out.nil (by omega) (Nat.le_refl _) ?_; intro v4 w4 o4 g4)
          | (at_builtin; refine wpList_append_own _ rfl (.tmp 61) (.tmp 63) 22 rfl ws.heap.size 9 i0 (.string ⟨#[]⟩) 1 16 Try.underlying22 hi hz0 hz1 hz2 rfl (by decide) _ _ _ rfl (o4.alloc _) ⟨w4.heap.size, 0, none⟩ 1 1 [.string a1] rfl rfl (src_one _ _ _) (one_cell _) (by unfold maxLen; omega) (by omega) (by simp; have := g4.size; omega) ?_; intro v5 w5 o5 g5 i5; clear i5))
        obtain ⟨a5, b5, cap5, rfl, hS5⟩ := cat_use (D := [a1]) o5 HL.out rfl (by omega) (by omega) HSs.out.strs.small (by intro x hx; simp at hx; subst hx; exact h1)
        replace cc := bel_trans cc (app_bel3 g4 o4 g5)
        have HS5 : Hid (Sl w5 a5 b5 0 cap5 (N ++ [a1])) := hS5
        clear o4 g4 o5 g5 hS5 HSs
        go_wp2_with fail
        refine (join_val a5 b5 0 cap5 (N ++ [a1]) (l + 1) q G _ HS5.out.strs (by have h := HS5.out.room; rw [List.length_append, HL.out] at h; exact h) (by rw [List.length_append, HL.out]; rfl) HJ.out).mono ?_
        rintro e w6 ⟨rfl, c⟩
        replace cc := bel_trans cc c
        clear c HS5
        rcases HB.out with ⟨hb1, rfl⟩ | ⟨hb1, rfl⟩
        · clear HB hG
          go_wp2_with (go_at_call 15; refine (name_val a1 false _ h1 hb1).mono ?_; rintro e wn ⟨rfl, rfl⟩)
          go_ret
          exact ⟨rfl, cc⟩
        · clear HB hG
          go_wp2_with (go_at_call 15; refine (name_val a1 true _ h1 hb1).mono ?_; rintro e wn ⟨rfl, rfl⟩)
          go_ret
          exact ⟨rfl, cc⟩
      · clear hXJ
        have M1 : Hid (nameB a1 = true) := m1
        clear m1
        go_wp2_with (first
          | (at_builtin; refine wpList_append_strs _ rfl (.const (.slice none 0 0)) (.tmp 60) 22 rfl ws.heap.size 9 i0 Try.underlying22 hi hz0 hz1 hz2 _ 0 [] rfl (World.ownsRow_nil _ _ _ _) ax bx 0 capx N l HL.out rfl HSs.out.strs HSs.out.nil (by omega) (Nat.le_refl _) ?_; intro v4 w4 o4 g4)
          | (at_builtin; refine wpList_append_own _ rfl (.tmp 61) (.tmp 63) 22 rfl ws.heap.size 9 i0 (.string ⟨#[]⟩) 1 16 Try.underlying22 hi hz0 hz1 hz2 rfl (by decide) _ _ _ rfl (o4.alloc _) ⟨w4.heap.size, 0, none⟩ 1 1 [.string a1] rfl rfl (src_one _ _ _) (one_cell _) (by unfold maxLen; omega) (by omega) (by simp; have := g4.size; omega) ?_; intro v5 w5 o5 g5 i5; clear i5))
        obtain ⟨a5, b5, cap5, rfl, hS5⟩ := cat_use (D := [a1]) o5 HL.out rfl (by omega) (by omega) HSs.out.strs.small (by intro x hx; simp at hx; subst hx; exact h1)
        replace cc := bel_trans cc (app_bel3 g4 o4 g5)
        have HS5 : Hid (Sl w5 a5 b5 0 cap5 (N ++ [a1])) := hS5
        clear o4 g4 o5 g5 hS5 HSs
        go_wp2_with fail
        refine (join_val a5 b5 0 cap5 (N ++ [a1]) (l + 1) q 0 _ HS5.out.strs (by have h := HS5.out.room; rw [List.length_append, HL.out] at h; exact h) (by rw [List.length_append, HL.out]; rfl) HJ.out).mono ?_
        rintro e w6 ⟨rfl, c⟩
        replace cc := bel_trans cc c
        clear c HS5
        have hq2 : q.size ≤ maxLen := by unfold maxLen; omega
        go_wp2_with (first
          | (go_at_call 15; refine (name_val a1 true _ h1 M1.out).mono ?_; rintro e wn ⟨rfl, rfl⟩)
          | (go_at_call 21; refine (under_is _ _ _ (by assumption) (by assumption)).mono ?_; rintro e wn ⟨rfl, c⟩; replace cc := bel_trans cc c; clear c))
        go_ret
        exact ⟨rfl, cc⟩

set_option maxRecDepth 100000 in
theorem lifted (os : Os) (started : os.Started) (H : Type) (enc : TypeId × Value → H) :
    ReturnsInHanded {} Try.checked os 8 .any (Rows.pathParentsSpec.pre6 enc Try.prog Try.f8 Rows.pathParentsRow.domain false) (Rows.pathParentsSpec.post enc Try.prog Try.f8 false true false false) := by
  refine returnsInHanded_of_change (C := Try.checked) own started (by kernel_rfl) Try.func8
    (ChangeSpec.witness6 (enc := enc) (C := Try.checked) false ⟨#[], #[.string ByteArray.empty, .string ByteArray.empty], []⟩ 8 (by kernel_rfl) (by kernel_rfl) (by kernel_rfl) (by kernel_rfl)) ?_
  intro W base args ds gs before hval0 hW hcnd _
  have hval : ∀ (j : Nat) t v, Try.f8.params[j]? = some t → args[j]? = some v → Value.okWide Try.prog W .any base t v := hval0
  have hW' := hW
  obtain ⟨p, q, hA0, hV, rfl, hfz, hnd⟩ := hW
  have hA : DataW.TrodAll enc Try.prog W 0 (fun _ => true) true Try.f8.params.toList args.toList ds p := hA0
  rw [Try.params8] at hA hval
  obtain ⟨v0, vs0, d0, ds0, p0, q0, hargs, rfl, rfl, h0, r0⟩ := trodAll_cons hA
  obtain ⟨v1, vs1, d1, ds1, p1, q1, rfl, rfl, rfl, h1, r1⟩ := trodAll_cons r0
  obtain ⟨rfl, rfl, rfl⟩ := trodAll_nil r1
  obtain rfl : args = #[v0, v1] := by cases args; simp_all
  obtain ⟨rfl, rfl⟩ := trodVars_none hV
  obtain ⟨a0, rfl, rfl, rfl, w0⟩ := open_string Try.underlying9 (hval 0 9 v0 rfl rfl) h0
  obtain ⟨a1, rfl, rfl, rfl, w1⟩ := open_string Try.underlying9 (hval 1 9 v1 rfl rfl) h1
  clear hA0 hval0
  refine (walk a0 a1 w0 w1 W).mono fun e W' ⟨he, bel⟩ => ?_
  subst he
  exact ⟨_, rfl, _, _, _, [], _, [], hW', trodAll_mk1 (shut_bool Try.underlying4 _), (trodAll_cons_mk (shut_string Try.underlying9 w0) (trodAll_cons_mk (shut_string Try.underlying9 w1) trodAll_mk0)), rfl, bel.frame _, fun h => by cases h⟩

theorem over : Rows.pathParentsRow.holds Try.pinned (OpenSpec.ofChange Rows.pathParentsSpec) :=
  OpenClaim.holds_of_wide 8 Try.f8 rfl rfl rfl rfl rfl rfl rfl ⟨rfl, rfl, rfl, rfl, rfl⟩ rfl rfl rfl rfl rfl (by kernel_rfl) Try.func8 (by kernel_rfl)
    (of_decide_eq_true (by kernel_rfl)) (by unfold Func.isWrapper; first | (rw [if_pos (by decide +kernel)]; kernel_rfl) | (rw [if_neg (by decide +kernel)]; exact ⟨rfl, rfl⟩))
    (fun os started H enc _ => lifted os started H enc)
end Go.Proofs.Ytnoblmpelebemaa.pathParents

namespace Go.Proofs.Ytnoblmpelebemaa
/-- The statement. -/
theorem pathParents_holds : Rows.PathParentsSaid := pathParents.over
#print axioms pathParents_holds
end Go.Proofs.Ytnoblmpelebemaa
