/- TreeChanges: for every list of nodes, every node and every two strings: the statement's function returns true; nothing that was there is changed. -/
import Derived.Test.YtdcmhbodjmajcaaTreeL2
import Derived.Test.YtdcmhbodjmajcaaTreeRA
import Derived.Test.YtdcmhbodjmajcaaTreeOpen
namespace Go.Proofs.Ytdcmhbodjmajcaa.treeChanges
open Go.ChangeShapes Go.WideShapes Go.ChangeAt Go.RowKit
open Go.ChangeMaps (open_string shut_string)
set_option linter.unusedVariables false

theorem own : ownKnob Try.prog.godebug = none := by kernel_rfl

set_option maxRecDepth 100000 in
set_option maxHeartbeats 2000000 in
theorem core {a : Option Addr} {n c : Nat} {xs : NS} (x : NR) (p t : ByteArray) (hp : p.size ≤ maxLen) (ht : t.size ≤ maxLen) (w : World) (h : NL w a n xs) (hx : NdOk w x) (hz : n * 64 ≤ 140737488355328) (hbz : ∀ x ∈ xs, x.bs.length * 24 ≤ 140737488355328) :
    Calls Try.prog 4 #[.slice a n c, ndV x, .string p, .string t] w fun e w' => e = .returned (.bool true) ∧ Below w.heap.size w w' := by
  obtain ⟨E1, hE1⟩ := addE_any xs x.1
  obtain ⟨E2, hE2⟩ := remE_any xs p
  obtain ⟨E3, hE3⟩ := movE_any xs p t
  have CC : Hid (∀ W, Below w.heap.size w W → Calls Try.prog 19 #[.slice a n c] W fun e w' => ListR W.heap.size xs n e w' ∧ Below W.heap.size W w') := fun W hb => lawCopied_val (h.below hb) hz hbz
  have CA : Hid (∀ W a2 c2, Below w.heap.size w W → NL W a2 n xs → Calls Try.prog 20 #[.slice a2 n c2, ndV x] W fun e w' => TwoR W.heap.size (addL xs x.1 E1) E1 e w' ∧ Below W.heap.size W w') := fun W a2 c2 hb hN => add_val hN x (hx.below hb) E1 hE1
  have RA : Hid (∀ W, Below w.heap.size w W → Calls Try.prog 21 #[.slice a n c, ndV x] W fun e w' => TwoR W.heap.size (addL xs x.1 E1) E1 e w' ∧ Below W.heap.size W w') := fun W hb => refAdd_val (h.below hb) x (hx.below hb) E1 hE1
  have CR : Hid (∀ W a2 c2, NL W a2 n xs → Calls Try.prog 24 #[.slice a2 n c2, .string p] W fun e w' => TwoR W.heap.size (remL xs p E2) E2 e w' ∧ Below W.heap.size W w') := fun W a2 c2 hN => remove_val hN p hp E2 hE2
  have RR : Hid (∀ W, Below w.heap.size w W → Calls Try.prog 25 #[.slice a n c, .string p] W fun e w' => TwoR W.heap.size (remL xs p E2) E2 e w' ∧ Below W.heap.size W w') := fun W hb => refRemove_val (h.below hb) p hp E2 hE2
  have CM : Hid (∀ W a2 c2, NL W a2 n xs → Calls Try.prog 26 #[.slice a2 n c2, .string p, .string t] W fun e w' => TwoR W.heap.size (movA xs p t E3) E3 e w' ∧ Below W.heap.size W w') := fun W a2 c2 hN => move_tree hN p t hp ht E3 hE3
  have RM : Hid (∀ W, Below w.heap.size w W → Calls Try.prog 27 #[.slice a n c, .string p, .string t] W fun e w' => TwoR W.heap.size (movA xs p t E3) E3 e w' ∧ Below W.heap.size W w') := fun W hb => refMoveT_val (h.below hb) p t hp ht E3 hE3
  have HN : Hid (∀ W, Below w.heap.size w W → NL W a n xs) := fun W hb => h.below hb
  generalize addL xs x.1 E1 = L1 at CA RA
  generalize remL xs p E2 = L2 at CR RR
  generalize movA xs p t E3 = L3 at CM RM
  obtain ⟨⟨q, d, qu, bs, wr⟩, ⟨sa, sn, sc⟩⟩ := x
  unfold ndV at *
  simp only at *
  clear h hx hE1 hE2 hE3 hp ht hz hbz
  go_enter Try.func4, Try.ntmps4
  go_wp2_with fail
  refine (examples_val _).mono ?_
  rintro e w1 ⟨rfl, c1⟩
  have C1 : Hid (Below w.heap.size w w1) := bel_tr (bel_al _ _) c1
  have y0 := bel_cell c1 (World.cell?_alloc_new w _ _ 0)
  have y1 := bel_cell c1 (World.cell?_alloc_new w _ _ 1)
  have y2 := bel_cell c1 (World.cell?_alloc_new w _ _ 2)
  have y3 := bel_cell c1 (World.cell?_alloc_new w _ _ 3)
  have y4 := bel_cell c1 (World.cell?_alloc_new w _ _ 4)
  have Y : Hid _ := And.intro y0 (And.intro y1 (And.intro y2 (And.intro y3 y4)))
  clear c1 y0 y1 y2 y3 y4
  go_wp2_with fail
  refine (CC.out _ C1.out).mono ?_
  rintro e w2 ⟨⟨a2, c2, rfl, hX2⟩, d2⟩
  have C2 : Hid (Below w.heap.size w w2) := bel_tr C1.out d2
  have OWN : Hid (∀ W, Below w2.heap.size w2 W → NL W a2 n xs) := fun W hb => (hX2.below hb).nl
  obtain ⟨y0, y1, y2, y3, y4⟩ := Y.out
  have z0 := bel_cell d2 y0
  have z1 := bel_cell d2 y1
  have z2 := bel_cell d2 y2
  have z3 := bel_cell d2 y3
  have z4 := bel_cell d2 y4
  have Z : Hid _ := And.intro z0 (And.intro z1 (And.intro z2 (And.intro z3 z4)))
  clear d2 hX2 Y y0 y1 y2 y3 y4
  go_wp2_with fail
  refine (CA.out _ a2 c2 C2.out (OWN.out _ (Below.refl _ _))).mono ?_
  rintro e w3 ⟨⟨a3, n3, c3, rfl, hX3⟩, d3⟩
  have C3 : Hid (Below w2.heap.size w2 w3) := d3
  have HX3 : Hid (LX w2.heap.size w3 a3 n3 c3 L1) := hX3
  have u0 := bel_cell d3 z0
  have u1 := bel_cell d3 z1
  have u2 := bel_cell d3 z2
  have u3 := bel_cell d3 z3
  have u4 := bel_cell d3 z4
  clear d3 hX3 z0 z1 z2 z3 z4
  go_wp2_with fail
  refine (RA.out _ (bel_tr C2.out C3.out)).mono ?_
  rintro e w4 ⟨⟨a4, n4, c4, rfl, hX4⟩, d4⟩
  obtain rfl : n4 = n3 := by rw [← hX4.len, ← HX3.out.len]
  have C4 : Hid (Below w2.heap.size w2 w4) := bel_tr C3.out d4
  have HX34 : Hid (LX w2.heap.size w4 a3 n4 c3 L1) := HX3.out.below d4
  have HX4 : Hid (NL w4 a4 n4 L1) := hX4.nl
  clear d4 hX4 HX3 u0 u1 u2 u3 u4
  go_wp2_with fail
  refine (nodes_same HX34.out.nl HX4.out).mono ?_
  rintro e w5 ⟨rfl, d5⟩
  have C5 : Hid (Below w2.heap.size w2 w5) := bel_tr C4.out d5
  have HX5 : Hid (LX w2.heap.size w5 a3 n4 c3 L1) := HX34.out.below d5
  clear d5 HX34 HX4
  go_wp2_with fail
  refine (spoil_val HX5.out C5.out.size).mono ?_
  rintro e w6 ⟨rfl, d6⟩
  have C6 : Hid (Below w2.heap.size w2 w6) := C5.out.trans d6
  clear d6 HX5 CA RA
  go_wp2_with fail
  refine (CR.out _ a2 c2 (OWN.out _ C6.out)).mono ?_
  rintro e w7 ⟨⟨a7, n7, c7, rfl, hX7⟩, d7⟩
  have C7 : Hid (Below w2.heap.size w2 w7) := bel_tr C6.out d7
  have HX7 : Hid (LX w2.heap.size w7 a7 n7 c7 L2) := hX7.mono C6.out.size
  clear d7 hX7
  go_wp2_with fail
  refine (RR.out _ (bel_tr C2.out C7.out)).mono ?_
  rintro e w8 ⟨⟨a8, n8, c8, rfl, hX8⟩, d8⟩
  obtain rfl : n8 = n7 := by rw [← hX8.len, ← HX7.out.len]
  have C8 : Hid (Below w2.heap.size w2 w8) := bel_tr C7.out d8
  have HX78 : Hid (LX w2.heap.size w8 a7 n8 c7 L2) := HX7.out.below d8
  have HX8 : Hid (NL w8 a8 n8 L2) := hX8.nl
  clear d8 hX8 HX7
  go_wp2_with fail
  refine (nodes_same HX78.out.nl HX8.out).mono ?_
  rintro e w9 ⟨rfl, d9⟩
  have C9 : Hid (Below w2.heap.size w2 w9) := bel_tr C8.out d9
  have HX9 : Hid (LX w2.heap.size w9 a7 n8 c7 L2) := HX78.out.below d9
  clear d9 HX78 HX8
  go_wp2_with fail
  refine (spoil_val HX9.out C9.out.size).mono ?_
  rintro e w10 ⟨rfl, d10⟩
  have C10 : Hid (Below w2.heap.size w2 w10) := C9.out.trans d10
  clear d10 HX9 CR RR
  go_wp2_with fail
  refine (CM.out _ a2 c2 (OWN.out _ C10.out)).mono ?_
  rintro e w11 ⟨⟨a11, n11, c11, rfl, hX11⟩, d11⟩
  have C11 : Hid (Below w2.heap.size w2 w11) := bel_tr C10.out d11
  have HX11 : Hid (LX w2.heap.size w11 a11 n11 c11 L3) := hX11.mono C10.out.size
  clear d11 hX11
  go_wp2_with fail
  refine (RM.out _ (bel_tr C2.out C11.out)).mono ?_
  rintro e w12 ⟨⟨a12, n12, c12, rfl, hX12⟩, d12⟩
  obtain rfl : n12 = n11 := by rw [← hX12.len, ← HX11.out.len]
  have C12 : Hid (Below w2.heap.size w2 w12) := bel_tr C11.out d12
  have HX112 : Hid (LX w2.heap.size w12 a11 n12 c11 L3) := HX11.out.below d12
  have HX12 : Hid (NL w12 a12 n12 L3) := hX12.nl
  clear d12 hX12 HX11
  go_wp2_with fail
  refine (nodes_same HX112.out.nl HX12.out).mono ?_
  rintro e w13 ⟨rfl, d13⟩
  have C13 : Hid (Below w2.heap.size w2 w13) := bel_tr C12.out d13
  have HX13 : Hid (LX w2.heap.size w13 a11 n12 c11 L3) := HX112.out.below d13
  clear d13 HX112 HX12
  go_wp2_with fail
  refine (spoil_val HX13.out C13.out.size).mono ?_
  rintro e w14 ⟨rfl, d14⟩
  have C14 : Hid (Below w2.heap.size w2 w14) := C13.out.trans d14
  clear d14 HX13 CM RM
  go_wp2_with fail
  refine (nodes_same (OWN.out _ C14.out) (HN.out _ (bel_tr C2.out C14.out))).mono ?_
  rintro e w15 ⟨rfl, d15⟩
  have C15 : Hid (Below w.heap.size w w15) := bel_tr C2.out (bel_tr C14.out d15)
  clear d15
  go_wp2
  go_ret
  exact ⟨rfl, C15.out⟩

theorem walk (a0 : Option Addr) (b0 off0 cap0 : Nat) (ss0 : List NR) (a1 : NR) (a2 a3 : ByteArray) (W : World) (h0 : Nds W a0 b0 off0 ss0) (h1 : NdOk W a1) (h2 : a2.size ≤ maxLen) (h3 : a3.size ≤ maxLen) (z0 : (∀ x ∈ ss0, x.2.n * 24 ≤ reachBytes) ∧ (ss0.map (·.1)).length * 64 ≤ reachBytes) (z1 : a1.2.n * 24 ≤ reachBytes) (z2 : a2.size ≤ 140737488351232) (z3 : a3.size ≤ 140737488351232) :
    Calls Try.prog 4 #[.slice a0 (ss0.map (·.1)).length cap0, ndV a1, .string a2, .string a3] W fun e w' => e = .returned (.bool true) ∧ Below W.heap.size W w' := by
  have hr : reachBytes ≤ 140737488355328 := by decide
  refine core a1 a2 a3 h2 h3 W ⟨b0, off0, ss0, rfl, rfl, h0⟩ h1 (by have := z0.2; omega) (fun x hx => ?_)
  obtain ⟨y, hy, rfl⟩ := List.mem_map.1 hx
  have h5 := z0.1 y hy
  rw [(h0.ok y hy).bs.len]
  omega

set_option maxRecDepth 100000 in
theorem lifted (os : Os) (started : os.Started) (H : Type) (enc : TypeId × Value → H) :
    ReturnsInHanded {} Try.checked os 4 .any (Rows.treeChangesSpec.pre6 enc Try.prog Try.f4 Rows.treeChangesRow.domain false) (Rows.treeChangesSpec.post enc Try.prog Try.f4 false true false false) := by
  refine returnsInHanded_of_change_sized (C := Try.checked) own started (by kernel_rfl) Try.func4
    (ChangeSpec.witness6 (enc := enc) (C := Try.checked) false ⟨#[], #[.slice none 0 0, .agg #[.string ByteArray.empty, .bool false, .int .i64 0, .slice none 0 0, .int .i64 0], .string ByteArray.empty, .string ByteArray.empty], []⟩ 8 (by kernel_rfl) (by kernel_rfl) (by kernel_rfl) (by kernel_rfl)) ?_
  intro W base args ds gs before hval0 hW hcnd hsz0 _
  have hval : ∀ (j : Nat) t v, Try.f4.params[j]? = some t → args[j]? = some v → Value.okWide Try.prog W .any base t v := hval0
  have hW' := hW
  obtain ⟨p, q, hA0, hV, rfl, hfz, hnd⟩ := hW
  have hA : DataW.TrodAll enc Try.prog W 0 (fun _ => true) true Try.f4.params.toList args.toList ds p := hA0
  have hsz : (DataW.weightsEach Try.prog (Try.f4.params.toList ++ Rows.treeChangesSpec.plain.varTypes Try.prog) (ds ++ gs)).all (· ≤ reachBytes) = true := hsz0
  rw [Try.params4] at hA hval hsz
  obtain ⟨v0, vs0, d0, ds0, p0, q0, hargs, rfl, rfl, h0, r0⟩ := trodAll_cons hA
  obtain ⟨v1, vs1, d1, ds1, p1, q1, rfl, rfl, rfl, h1, r1⟩ := trodAll_cons r0
  obtain ⟨v2, vs2, d2, ds2, p2, q2, rfl, rfl, rfl, h2, r2⟩ := trodAll_cons r1
  obtain ⟨v3, vs3, d3, ds3, p3, q3, rfl, rfl, rfl, h3, r3⟩ := trodAll_cons r2
  obtain ⟨rfl, rfl, rfl⟩ := trodAll_nil r3
  obtain rfl : args = #[v0, v1, v2, v3] := by cases args; simp_all
  obtain ⟨rfl, rfl⟩ := trodVars_none hV
  obtain ⟨a0, len0, cap0, rfl⟩ := okWide_slice Try.underlying22 (hval 0 22 v0 rfl rfl)
  have k0 := h0
  have lt0 : ∀ x ∈ p0, x.block < W.heap.size := by obtain ⟨m, hm⟩ := k0; exact DataW.trod_lt m _ _ _ hm
  obtain ⟨b0, off0, ss0, rfl, w0, n0⟩ := open_nodes h0
  have k1 := h1
  have lt1 : ∀ x ∈ p1, x.block < W.heap.size := by obtain ⟨m, hm⟩ := k1; exact DataW.trod_lt m _ _ _ hm
  obtain ⟨a1, rfl, w1, n1⟩ := open_node (hval 1 25 v1 rfl rfl) h1
  obtain ⟨a2, rfl, rfl, rfl, w2⟩ := open_string Try.underlying9 (hval 2 9 v2 rfl rfl) h2
  obtain ⟨a3, rfl, rfl, rfl, w3⟩ := open_string Try.underlying9 (hval 3 9 v3 rfl rfl) h3
  have z0 := n0 (fun x hx => by simpa using List.all_eq_true.1 hsz x (DataW.weights_mem_each (j := 0) (t := 22) rfl rfl x hx))
  have z1 := n1 (fun x hx => by simpa using List.all_eq_true.1 hsz x (DataW.weights_mem_each (j := 1) (t := 25) rfl rfl x hx))
  have z2 : a2.size ≤ 140737488351232 := by have h := sized_string hsz (j := 2) (t := 9) rfl rfl; rw [Array.length_toList] at h; exact h
  have z3 : a3.size ≤ 140737488351232 := by have h := sized_string hsz (j := 3) (t := 9) rfl rfl; rw [Array.length_toList] at h; exact h
  clear hA0 hval0
  refine (walk a0 b0 off0 cap0 ss0 a1 a2 a3 W w0 w1 w2 w3 z0 z1 z2 z3).mono fun e W' ⟨he, bel⟩ => ?_
  subst he
  exact ⟨_, rfl, _, _, _, [], _, [], hW', trodAll_mk1 (shut_bool Try.underlying4 _), (trodAll_cons_mk (Below.trod laidOut (by kernel_rfl) (of_decide_eq_true (by kernel_rfl)) k0 bel lt0) (trodAll_cons_mk (Below.trod laidOut (by kernel_rfl) (of_decide_eq_true (by kernel_rfl)) k1 bel lt1) (trodAll_cons_mk (shut_string Try.underlying9 w2) (trodAll_cons_mk (shut_string Try.underlying9 w3) trodAll_mk0)))), rfl, bel.frame _, fun h => by cases h⟩

theorem over : Rows.treeChangesRow.holds Try.pinned (OpenSpec.ofChange Rows.treeChangesSpec) :=
  OpenClaim.holds_of_wide 4 Try.f4 rfl rfl rfl rfl rfl rfl rfl ⟨rfl, rfl, rfl, rfl, rfl⟩ rfl rfl rfl rfl rfl (by kernel_rfl) Try.func4 (by kernel_rfl)
    (of_decide_eq_true (by kernel_rfl)) (by unfold Func.isWrapper; first | (rw [if_pos (by decide +kernel)]; kernel_rfl) | (rw [if_neg (by decide +kernel)]; exact ⟨rfl, rfl⟩))
    (fun os started H enc _ => lifted os started H enc)
end Go.Proofs.Ytdcmhbodjmajcaa.treeChanges

namespace Go.Proofs.Ytdcmhbodjmajcaa
/-- The statement. -/
theorem treeChanges_holds : Rows.TreeChangesSaid := treeChanges.over
#print axioms treeChanges_holds
end Go.Proofs.Ytdcmhbodjmajcaa
