/- TreeBack: for every list of nodes and every two strings: the statement's function returns true; nothing that was there is changed. No condition. -/
import Derived.Test.YtdcmhbodjmajcaaTreeL2
import Derived.Test.YtdcmhbodjmajcaaTreeT2
import Derived.Test.YtdcmhbodjmajcaaTreeOpen
namespace Go.Proofs.Ytdcmhbodjmajcaa.treeBack
open Go.ChangeShapes Go.WideShapes Go.ChangeAt Go.RowKit
open Go.ChangeMaps (open_string shut_string)
set_option linter.unusedVariables false

theorem own : ownKnob Try.prog.godebug = none := by kernel_rfl

theorem find_nn {xs : NS} {p : ByteArray} (h : at? xs p ≠ none) : ∃ i : Nat, findI xs p = (i : Int) := by
  obtain ⟨i, h1, _⟩ := find_pos h
  exact ⟨i, h1⟩

set_option maxRecDepth 100000 in
set_option maxHeartbeats 1000000 in
theorem core {a : Option Addr} {n c : Nat} {xs : NS} (f t : ByteArray) (hf : f.size ≤ maxLen) (ht : t.size ≤ maxLen) (w : World) (h : NL w a n xs) :
    Calls Try.prog 6 #[.slice a n c, .string f, .string t] w fun e w' => e = .returned (.bool true) ∧ Below w.heap.size w w' := by
  obtain ⟨E, hE⟩ := movE_any xs f t
  have CM : Hid (∀ W, Below w.heap.size w W → Calls Try.prog 26 #[.slice a n c, .string f, .string t] W fun e w' => TwoR W.heap.size (movA xs f t E) E e w' ∧ Below W.heap.size W w') := fun W hb => move_tree (h.below hb) f t hf ht E hE
  have CF : Hid (∀ W I, Below w.heap.size w W → findI xs t = I → Calls Try.prog 17 #[.slice a n c, .string t] W fun e w' => e = .returned (.int .i64 I) ∧ Below W.heap.size W w') := fun W I hb hI => find_val (h.below hb) t I hI
  have HN : Hid (∀ W, Below w.heap.size w W → NL W a n xs) := fun W hb => h.below hb
  have HF : Hid (f.size ≤ maxLen) := hf
  have HT : Hid (t.size ≤ maxLen) := ht
  clear h hf ht
  by_cases h0 : E = 0
  · subst h0
    have hM := mov_of hE
    cases hat : at? xs t with
    | some k =>
      obtain ⟨i, hi⟩ := find_nn (xs := xs) (p := t) (by rw [hat]; simp)
      have HI : Hid _ := hi
      clear hE hM hat hi
      go_enter Try.func6, Try.ntmps6
      go_wp2_with fail
      refine (examples_val _).mono ?_
      rintro e w1 ⟨rfl, c1⟩
      have cc1 : Hid (Below w.heap.size w w1) := c1
      clear c1
      go_wp2_with fail
      refine (CM.out _ cc1.out).mono ?_
      rintro e w2 ⟨⟨a2, n2, c2, rfl, hX⟩, d2⟩
      have cc2 : Hid (Below w.heap.size w w2) := bel_tr cc1.out d2
      clear hX d2
      go_wp2_with (refine (CF.out _ _ cc2.out HI.out).mono ?_; rintro e w3 ⟨rfl, c3⟩; have cc3 : Hid _ := bel_tr cc2.out c3; clear c3)
      go_ret
      exact ⟨rfl, cc3.out⟩
    | none =>
      have HI : Hid (findI xs t = -1) := find_neg hat
      obtain ⟨hB, hL⟩ := hM.back hat
      have HB : Hid (MovE (movL xs f t) t f 0) := movE_of hB
      have HML : Hid (movA (movL xs f t) t f 0 = xs) := hL
      have HMA : Hid (movA xs f t 0 = movL xs f t) := rfl
      clear hE hM hat hB hL
      go_enter Try.func6, Try.ntmps6
      go_wp2_with fail
      refine (examples_val _).mono ?_
      rintro e w1 ⟨rfl, c1⟩
      have cc1 : Hid (Below w.heap.size w w1) := c1
      clear c1
      go_wp2_with fail
      refine (CM.out _ cc1.out).mono ?_
      rintro e w2 ⟨⟨a2, n2, c2, rfl, hX⟩, d2⟩
      rw [HMA.out] at hX
      have HX : Hid (NL w2 a2 n2 (movL xs f t)) := hX.nl
      have cc2 : Hid (Below w.heap.size w w2) := bel_tr cc1.out d2
      clear hX d2
      go_wp2_with (refine (CF.out _ _ cc2.out HI.out).mono ?_; rintro e w3 ⟨rfl, c3⟩; have C3 : Hid (Below w2.heap.size w2 w3) := c3; clear c3)
      refine (move_tree (HX.out.below C3.out) t f HT.out HF.out 0 HB.out).mono ?_
      rintro e w4 ⟨⟨a4, n4, c4, rfl, hX4⟩, d4⟩
      rw [HML.out] at hX4
      have hn4 : n4 = n := by
        rw [← hX4.len]
        obtain ⟨_, _, _, _, k2, _⟩ := (HN.out _ (Below.refl _ _)).ex
        exact k2
      subst hn4
      have cc4 : Hid (Below w.heap.size w w4) := bel_tr (bel_tr cc2.out C3.out) d4
      have HX4 : Hid (NL w4 a4 n4 xs) := hX4.nl
      clear hX4 d4
      go_wp2_with fail
      refine (nodes_same HX4.out (HN.out _ cc4.out)).mono ?_
      rintro e w5 ⟨rfl, c5⟩
      have cc5 : Hid _ := bel_tr cc4.out c5
      clear c5
      go_wp2
      go_ret
      exact ⟨rfl, cc5.out⟩
  · have h0b : (E != 0) = true := by simpa using h0
    clear hE h0
    go_enter Try.func6, Try.ntmps6
    go_wp2_with fail
    refine (examples_val _).mono ?_
    rintro e w1 ⟨rfl, c1⟩
    have cc1 : Hid (Below w.heap.size w w1) := c1
    clear c1
    go_wp2_with fail
    refine (CM.out _ cc1.out).mono ?_
    rintro e w2 ⟨⟨a2, n2, c2, rfl, hX⟩, d2⟩
    have cc2 : Hid (Below w.heap.size w w2) := bel_tr cc1.out d2
    clear hX d2
    go_wp2
    go_ret
    exact ⟨rfl, cc2.out⟩

theorem walk (a0 : Option Addr) (b0 off0 cap0 : Nat) (ss0 : List NR) (a1 a2 : ByteArray) (W : World) (h0 : Nds W a0 b0 off0 ss0) (h1 : a1.size ≤ maxLen) (h2 : a2.size ≤ maxLen) :
    Calls Try.prog 6 #[.slice a0 (ss0.map (·.1)).length cap0, .string a1, .string a2] W fun e w' => e = .returned (.bool true) ∧ Below W.heap.size W w' :=
  core a1 a2 h1 h2 W ⟨b0, off0, ss0, rfl, rfl, h0⟩

set_option maxRecDepth 100000 in
theorem lifted (os : Os) (started : os.Started) (H : Type) (enc : TypeId × Value → H) :
    ReturnsInHanded {} Try.checked os 6 .any (Rows.treeBackSpec.pre6 enc Try.prog Try.f6 Rows.treeBackRow.domain false) (Rows.treeBackSpec.post enc Try.prog Try.f6 false true false false) := by
  refine returnsInHanded_of_change (C := Try.checked) own started (by kernel_rfl) Try.func6
    (ChangeSpec.witness6 (enc := enc) (C := Try.checked) false ⟨#[], #[.slice none 0 0, .string ByteArray.empty, .string ByteArray.empty], []⟩ 8 (by kernel_rfl) (by kernel_rfl) (by kernel_rfl) (by kernel_rfl)) ?_
  intro W base args ds gs before hval0 hW hcnd _
  have hval : ∀ (j : Nat) t v, Try.f6.params[j]? = some t → args[j]? = some v → Value.okWide Try.prog W .any base t v := hval0
  have hW' := hW
  obtain ⟨p, q, hA0, hV, rfl, hfz, hnd⟩ := hW
  have hA : DataW.TrodAll enc Try.prog W 0 (fun _ => true) true Try.f6.params.toList args.toList ds p := hA0
  rw [Try.params6] at hA hval
  obtain ⟨v0, vs0, d0, ds0, p0, q0, hargs, rfl, rfl, h0, r0⟩ := trodAll_cons hA
  obtain ⟨v1, vs1, d1, ds1, p1, q1, rfl, rfl, rfl, h1, r1⟩ := trodAll_cons r0
  obtain ⟨v2, vs2, d2, ds2, p2, q2, rfl, rfl, rfl, h2, r2⟩ := trodAll_cons r1
  obtain ⟨rfl, rfl, rfl⟩ := trodAll_nil r2
  obtain rfl : args = #[v0, v1, v2] := by cases args; simp_all
  obtain ⟨rfl, rfl⟩ := trodVars_none hV
  obtain ⟨a0, len0, cap0, rfl⟩ := okWide_slice Try.underlying22 (hval 0 22 v0 rfl rfl)
  have k0 := h0
  have lt0 : ∀ x ∈ p0, x.block < W.heap.size := by obtain ⟨m, hm⟩ := k0; exact DataW.trod_lt m _ _ _ hm
  obtain ⟨b0, off0, ss0, rfl, w0, n0⟩ := open_nodes h0
  obtain ⟨a1, rfl, rfl, rfl, w1⟩ := open_string Try.underlying9 (hval 1 9 v1 rfl rfl) h1
  obtain ⟨a2, rfl, rfl, rfl, w2⟩ := open_string Try.underlying9 (hval 2 9 v2 rfl rfl) h2
  clear hA0 hval0
  refine (walk a0 b0 off0 cap0 ss0 a1 a2 W w0 w1 w2).mono fun e W' ⟨he, bel⟩ => ?_
  subst he
  exact ⟨_, rfl, _, _, _, [], _, [], hW', trodAll_mk1 (shut_bool Try.underlying4 _), (trodAll_cons_mk (Below.trod laidOut (by kernel_rfl) (of_decide_eq_true (by kernel_rfl)) k0 bel lt0) (trodAll_cons_mk (shut_string Try.underlying9 w1) (trodAll_cons_mk (shut_string Try.underlying9 w2) trodAll_mk0))), rfl, bel.frame _, fun h => by cases h⟩

theorem over : Rows.treeBackRow.holds Try.pinned (OpenSpec.ofChange Rows.treeBackSpec) :=
  OpenClaim.holds_of_wide 6 Try.f6 rfl rfl rfl rfl rfl rfl rfl ⟨rfl, rfl, rfl, rfl, rfl⟩ rfl rfl rfl rfl rfl (by kernel_rfl) Try.func6 (by kernel_rfl)
    (of_decide_eq_true (by kernel_rfl)) (by unfold Func.isWrapper; first | (rw [if_pos (by decide +kernel)]; kernel_rfl) | (rw [if_neg (by decide +kernel)]; exact ⟨rfl, rfl⟩))
    (fun os started H enc _ => lifted os started H enc)
end Go.Proofs.Ytdcmhbodjmajcaa.treeBack

namespace Go.Proofs.Ytdcmhbodjmajcaa
/-- The statement. -/
theorem treeBack_holds : Rows.TreeBackSaid := treeBack.over
#print axioms treeBack_holds
end Go.Proofs.Ytdcmhbodjmajcaa
