/- TreeTells: for every list of nodes, every node and every string: the statement's function returns true; nothing that was there is changed. No condition. -/
import Derived.Test.YtdcmhbodjmajcaaTreeL2
import Derived.Test.YtdcmhbodjmajcaaTreeR3
import Derived.Test.YtdcmhbodjmajcaaTreeOpen
namespace Go.Proofs.Ytdcmhbodjmajcaa.treeTells
open Go.ChangeShapes Go.WideShapes Go.ChangeAt Go.RowKit
open Go.ChangeMaps (open_string shut_string)
set_option linter.unusedVariables false

theorem own : ownKnob Try.prog.godebug = none := by kernel_rfl

set_option maxRecDepth 100000 in
set_option maxHeartbeats 2000000 in
theorem core {a : Option Addr} {n c : Nat} {xs : NS} (x : NR) (p : ByteArray) (hp : p.size ≤ maxLen) (w : World) (h : NL w a n xs) (hx : NdOk w x) :
    Calls Try.prog 3 #[.slice a n c, ndV x, .string p] w fun e w' => e = .returned (.bool true) ∧ Below w.heap.size w w' := by
  obtain ⟨E, hE⟩ := listE_any xs p
  obtain ⟨I, hI⟩ : ∃ I, findI xs p = I := ⟨_, rfl⟩
  obtain ⟨v, hv⟩ : ∃ v, fitsB x.1 = v := ⟨_, rfl⟩
  obtain ⟨u, hu⟩ : ∃ u : Bool, (u = true ↔ Right xs) := by
    by_cases hR : Right xs
    · exact ⟨true, fun _ => hR, fun _ => rfl⟩
    · exact ⟨false, fun e => (by cases e), fun e => absurd e hR⟩
  have CL : Hid (∀ W, Below w.heap.size w W → Calls Try.prog 10 #[.slice a n c, .string p] W fun e w' => NamesR (listL xs p E) E e w' ∧ Below W.heap.size W w') := fun W hb => list_val (h.below hb) p hp E hE
  have CM : Hid (∀ W, Below w.heap.size w W → Calls Try.prog 11 #[.slice a n c, .string p] W fun e w' => NamesR (listL xs p E) E e w' ∧ Below W.heap.size W w') := fun W hb => refList_val (h.below hb) p hp E hE
  have F1 : Hid (∀ W, Below w.heap.size w W → Calls Try.prog 13 #[ndV x] W fun e w' => e = .returned (.bool v) ∧ Below W.heap.size W w') := fun W hb => fits_val x v W (hx.below hb) hv
  have F2 : Hid (∀ W, Below w.heap.size w W → Calls Try.prog 14 #[ndV x] W fun e w' => e = .returned (.bool v) ∧ Below W.heap.size W w') := fun W hb => refFits_val x v W (hx.below hb) hv
  have R1 : Hid (∀ W, Below w.heap.size w W → Calls Try.prog 15 #[.slice a n c] W fun e w' => e = .returned (.bool u) ∧ Below W.heap.size W w') := fun W hb => right_val (h.below hb) u hu
  have R2 : Hid (∀ W, Below w.heap.size w W → Calls Try.prog 16 #[.slice a n c] W fun e w' => e = .returned (.bool u) ∧ Below W.heap.size W w') := fun W hb => refRight_val (h.below hb) u hu
  have G1 : Hid (∀ W, Below w.heap.size w W → Calls Try.prog 17 #[.slice a n c, .string p] W fun e w' => e = .returned (.int .i64 I) ∧ Below W.heap.size W w') := fun W hb => find_val (h.below hb) p I hI
  have G2 : Hid (∀ W, Below w.heap.size w W → Calls Try.prog 18 #[.slice a n c, .string p] W fun e w' => e = .returned (.int .i64 I) ∧ Below W.heap.size W w') := fun W hb => refFind_val (h.below hb) p I hI
  obtain ⟨ns, hns⟩ : ∃ ns, listL xs p E = ns := ⟨_, rfl⟩
  rw [hns] at CL CM
  obtain ⟨⟨q, d, qu, bs, wr⟩, ⟨sa, sn, sc⟩⟩ := x
  unfold ndV at *
  clear h hx hE hI hv hu hns hp
  go_enter Try.func3, Try.ntmps3
  go_wp2_with fail
  refine (examples_val _).mono ?_
  rintro e w1 ⟨rfl, c1⟩
  have C1 : Hid (Below w.heap.size w w1) := bel_tr (bel_al _ _) c1
  have y0 := bel_cell c1 (World.cell?_alloc_new w _ _ 0)
  have y1 := bel_cell c1 (World.cell?_alloc_new w _ _ 1)
  have y2 := bel_cell c1 (World.cell?_alloc_new w _ _ 2)
  have y3 := bel_cell c1 (World.cell?_alloc_new w _ _ 3)
  have y4 := bel_cell c1 (World.cell?_alloc_new w _ _ 4)
  have Y : Hid _ := And.intro y0 (And.intro y1 (And.intro y2 (And.intro y3 y4)))
  clear c1 y0 y1 y2 y3 y4
  go_wp2_with fail
  refine (CL.out _ C1.out).mono ?_
  rintro e w2 ⟨⟨la, lb, ln, lc, rfl, hln, hS⟩, c2⟩
  have C2 : Hid (Below w1.heap.size w1 w2) := c2
  have HS2 : Hid (Strs w2 la lb 0 ns) := hS
  have HLN : Hid (ns.length = ln) := hln
  clear hS hln c2
  go_wp2_with fail
  refine (CM.out _ (bel_tr C1.out C2.out)).mono ?_
  rintro e w3 ⟨⟨ma, mb, mn, mc, rfl, hmn, hS⟩, c3⟩
  have hmn2 : mn = ln := by rw [← hmn, HLN.out]
  subst hmn2
  have C3 : Hid (Below w2.heap.size w2 w3) := c3
  have HS3 : Hid (Strs w3 ma mb 0 ns) := hS
  clear hS hmn c3
  go_wp2_with fail
  refine (texts_same la ma lb 0 lc mb 0 mc mn ns _ (HS2.out.below C3.out) HS3.out HLN.out).mono ?_
  rintro e w4 ⟨rfl, c4⟩
  have C14 : Hid (Below w1.heap.size w1 w4) := bel_tr C2.out (bel_tr C3.out c4)
  obtain ⟨y0, y1, y2, y3, y4⟩ := Y.out
  have z0 := fun dd os => cell_regrown (bel_cell C14.out y0) dd os
  have z1 := fun dd os => cell_regrown (bel_cell C14.out y1) dd os
  have z2 := fun dd os => cell_regrown (bel_cell C14.out y2) dd os
  have z3 := fun dd os => cell_regrown (bel_cell C14.out y3) dd os
  have z4 := fun dd os => cell_regrown (bel_cell C14.out y4) dd os
  have HB : Hid (∀ dd os, Below w.heap.size w (Sort.grow (redrawn w4 dd) os)) := fun dd os => bel_tr C1.out (bel_tr C14.out (below_regrown w4 dd os))
  clear c4 y0 y1 y2 y3 y4 Y HS2 HS3 CL CM
  go_wp2
  refine wp_region_quiet_below (by kernel_rfl) (by kernel_rfl) ?_
  repeat (first
    | go_big_quiet_step (first | exact Calls.regrown_of (F1.out _ (HB.out _ _)) | exact Calls.regrown_of (F2.out _ (HB.out _ _)) | exact Calls.regrown_of (R1.out _ (HB.out _ _)) | exact Calls.regrown_of (R2.out _ (HB.out _ _)) | exact Calls.regrown_of (G1.out _ (HB.out _ _)) | exact Calls.regrown_of (G2.out _ (HB.out _ _)))
    | quiet_step (first | exact Calls.regrown_of (F1.out _ (HB.out _ _)) | exact Calls.regrown_of (F2.out _ (HB.out _ _)) | exact Calls.regrown_of (R1.out _ (HB.out _ _)) | exact Calls.regrown_of (R2.out _ (HB.out _ _)) | exact Calls.regrown_of (G1.out _ (HB.out _ _)) | exact Calls.regrown_of (G2.out _ (HB.out _ _))))
  refine wpQuiet_nil ?_
  intro _ hw'
  obtain ⟨⟨dq, osq⟩, hw''⟩ := hw'
  subst hw''
  go_wp2
  go_ret
  exact ⟨rfl, HB.out dq osq⟩

theorem walk (a0 : Option Addr) (b0 off0 cap0 : Nat) (ss0 : List NR) (a1 : NR) (a2 : ByteArray) (W : World) (h0 : Nds W a0 b0 off0 ss0) (h1 : NdOk W a1) (h2 : a2.size ≤ maxLen) :
    Calls Try.prog 3 #[.slice a0 (ss0.map (·.1)).length cap0, ndV a1, .string a2] W fun e w' => e = .returned (.bool true) ∧ Below W.heap.size W w' :=
  core a1 a2 h2 W ⟨b0, off0, ss0, rfl, rfl, h0⟩ h1

set_option maxRecDepth 100000 in
theorem lifted (os : Os) (started : os.Started) (H : Type) (enc : TypeId × Value → H) :
    ReturnsInHanded {} Try.checked os 3 .any (Rows.treeTellsSpec.pre6 enc Try.prog Try.f3 Rows.treeTellsRow.domain false) (Rows.treeTellsSpec.post enc Try.prog Try.f3 false true false false) := by
  refine returnsInHanded_of_change (C := Try.checked) own started (by kernel_rfl) Try.func3
    (ChangeSpec.witness6 (enc := enc) (C := Try.checked) false ⟨#[], #[.slice none 0 0, .agg #[.string ByteArray.empty, .bool false, .int .i64 0, .slice none 0 0, .int .i64 0], .string ByteArray.empty], []⟩ 8 (by kernel_rfl) (by kernel_rfl) (by kernel_rfl) (by kernel_rfl)) ?_
  intro W base args ds gs before hval0 hW hcnd _
  have hval : ∀ (j : Nat) t v, Try.f3.params[j]? = some t → args[j]? = some v → Value.okWide Try.prog W .any base t v := hval0
  have hW' := hW
  obtain ⟨p, q, hA0, hV, rfl, hfz, hnd⟩ := hW
  have hA : DataW.TrodAll enc Try.prog W 0 (fun _ => true) true Try.f3.params.toList args.toList ds p := hA0
  rw [Try.params3] at hA hval
  obtain ⟨v0, vs0, d0, ds0, p0, q0, hargs, rfl, rfl, h0, r0⟩ := trodAll_cons hA
  obtain ⟨v1, vs1, d1, ds1, p1, q1, rfl, rfl, rfl, h1, r1⟩ := trodAll_cons r0
  obtain ⟨v2, vs2, d2, ds2, p2, q2, rfl, rfl, rfl, h2, r2⟩ := trodAll_cons r1
  obtain ⟨rfl, rfl, rfl⟩ := trodAll_nil r2
  obtain rfl : args = #[v0, v1, v2] := by cases args; simp_all
  obtain ⟨rfl, rfl⟩ := trodVars_none hV
  obtain ⟨a0, len0, cap0, rfl⟩ := okWide_slice Try.underlying22 (hval 0 22 v0 rfl rfl)
  have k0 := h0
  have lt0 : ∀ x ∈ p0, x.block < W.heap.size := by obtain ⟨m, hm⟩ := k0; exact DataW.trod_lt m _ _ _ hm
  obtain ⟨b0, off0, ss0, rfl, w0, n0⟩ := open_nodes h0
  have k1 := h1
  have lt1 : ∀ x ∈ p1, x.block < W.heap.size := by obtain ⟨m, hm⟩ := k1; exact DataW.trod_lt m _ _ _ hm
  obtain ⟨a1, rfl, w1, n1⟩ := open_node (hval 1 25 v1 rfl rfl) h1
  obtain ⟨a2, rfl, rfl, rfl, w2⟩ := open_string Try.underlying9 (hval 2 9 v2 rfl rfl) h2
  clear hA0 hval0
  refine (walk a0 b0 off0 cap0 ss0 a1 a2 W w0 w1 w2).mono fun e W' ⟨he, bel⟩ => ?_
  subst he
  exact ⟨_, rfl, _, _, _, [], _, [], hW', trodAll_mk1 (shut_bool Try.underlying4 _), (trodAll_cons_mk (Below.trod laidOut (by kernel_rfl) (of_decide_eq_true (by kernel_rfl)) k0 bel lt0) (trodAll_cons_mk (Below.trod laidOut (by kernel_rfl) (of_decide_eq_true (by kernel_rfl)) k1 bel lt1) (trodAll_cons_mk (shut_string Try.underlying9 w2) trodAll_mk0))), rfl, bel.frame _, fun h => by cases h⟩

theorem over : Rows.treeTellsRow.holds Try.pinned (OpenSpec.ofChange Rows.treeTellsSpec) :=
  OpenClaim.holds_of_wide 3 Try.f3 rfl rfl rfl rfl rfl rfl rfl ⟨rfl, rfl, rfl, rfl, rfl⟩ rfl rfl rfl rfl rfl (by kernel_rfl) Try.func3 (by kernel_rfl)
    (of_decide_eq_true (by kernel_rfl)) (by unfold Func.isWrapper; first | (rw [if_pos (by decide +kernel)]; kernel_rfl) | (rw [if_neg (by decide +kernel)]; exact ⟨rfl, rfl⟩))
    (fun os started H enc _ => lifted os started H enc)
end Go.Proofs.Ytdcmhbodjmajcaa.treeTells

namespace Go.Proofs.Ytdcmhbodjmajcaa
/-- The statement. -/
theorem treeTells_holds : Rows.TreeTellsSaid := treeTells.over
#print axioms treeTells_holds
end Go.Proofs.Ytdcmhbodjmajcaa
