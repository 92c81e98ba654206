/- The contracts of tabulariumlaw07.base, examples. -/
import Derived.Test.YtdcmhbodjmajcaaTreeL1
namespace Go.Proofs.Ytdcmhbodjmajcaa
open Go.RowKit

/-- A list of nodes that is written out. -/
theorem nl_lit (w : World) (ps : List NR) (t : TypeId) (hl : ps.length ≤ 1000) (hok : ∀ x ∈ ps, NdOk w x) (xs : NS) (hx : ps.map (·.1) = xs) (n : Nat) (hn : xs.length = n) : NL (w.alloc (.cells (rowC ndC ps).toArray t)) (some ⟨w.heap.size, 0, none⟩) n xs := by
  refine ⟨w.heap.size, 0, ps, hx, hn, fun _ => rfl, by unfold maxLen; omega, fun j hj i v hv => ?_, fun x hx => (hok x hx).below (bel_al _ _)⟩
  have e := World.cell?_alloc_new w (rowC ndC ps).toArray t (0 + j * 5 + i)
  rw [e, List.getElem?_toArray, Nat.zero_add]
  have hi : i < 5 := by have := (List.getElem?_eq_some_iff.1 hv).1; rwa [wideX.len] at this
  rw [rowC_at wideX ps j hj i hi]; exact hv

structure BaseR (e : Ending) (w' : World) : Prop where
  ex : ∃ b, e = .returned (.slice (some ⟨b, 0, none⟩) 4 4) ∧ NL w' (some ⟨b, 0, none⟩) 4 base0

theorem dir_agg (p : ByteArray) (w : World) : Calls Try.prog 29 #[.string p] w fun e w' => e = .returned (.agg #[.string p, .bool true, .int .i64 (-1), .slice none 0 0, .int .i64 (-1)]) ∧ Below w.heap.size w w' := dir_val p w
theorem file_agg (p : ByteArray) (w : World) : Calls Try.prog 28 #[.string p] w fun e w' => e = .returned (.agg #[.string p, .bool false, .int .i64 (-1), .slice none 0 0, .int .i64 (-1)]) ∧ Below w.heap.size w w' := file_val p w

theorem lits_ok (w : World) (ps : List NR) (h : ∀ x ∈ ps, x.2 = noS ∧ x.1.bs = [] ∧ x.1.path.size ≤ 100) : ∀ x ∈ ps, NdOk w x := fun x hx => by
  obtain ⟨h1, h2, h3⟩ := h x hx
  obtain ⟨x1, x2⟩ := x
  simp only at h1
  subst h1
  exact noS_ok w x1 h2 (lit_le _ h3)

set_option maxRecDepth 100000 in
set_option maxHeartbeats 1000000 in
theorem base_val (w : World) : Calls Try.prog 31 #[] w fun e w' => BaseR e w' ∧ Below w.heap.size w w' := by
  go_enter Try.func31, Try.ntmps31
  go_wp2_with fail
  refine (dir_agg _ _).mono ?_
  rintro e w1 ⟨rfl, c1⟩
  go_wp2_with fail
  refine (dir_agg _ _).mono ?_
  rintro e w2 ⟨rfl, c2⟩
  go_wp2_with fail
  refine (file_agg _ _).mono ?_
  rintro e w3 ⟨rfl, c3⟩
  go_wp2_with fail
  refine (dir_agg _ _).mono ?_
  rintro e w4 ⟨rfl, c4⟩
  have HB : Hid (∀ o, Below w.heap.size w (w4.alloc o)) := fun o => bel_tr (bel_tr (bel_tr (bel_tr c1 c2) c3) c4) (bel_al _ _)
  have HN : Hid (∀ t, NL (w4.alloc (.cells (rowC ndC [(dirN rootP, noS), (dirN pA, noS), (fileN pAX, noS), (dirN pB, noS)]).toArray t)) (some ⟨w4.heap.size, 0, none⟩) 4 base0) := fun t =>
    nl_lit w4 [(dirN rootP, noS), (dirN pA, noS), (fileN pAX, noS), (dirN pB, noS)] t (by decide) (lits_ok w4 _ (fun x hx => by
      simp only [List.mem_cons, List.not_mem_nil, or_false] at hx
      rcases hx with rfl | rfl | rfl | rfl <;> exact ⟨rfl, rfl, by decide⟩)) base0 rfl 4 rfl
  clear c1 c2 c3 c4
  go_wp2
  go_ret
  exact ⟨⟨_, rfl, HN.out _⟩, HB.out _⟩

theorem strs_lit (w : World) (ss : List ByteArray) (t : TypeId) (hl : ss.length ≤ 1000) (hs : ∀ s ∈ ss, s.size ≤ maxLen) : Strs (w.alloc (.cells (ss.map Value.string).toArray t)) (some ⟨w.heap.size, 0, none⟩) w.heap.size 0 ss := by
  refine ⟨fun _ => rfl, fun j hj => ?_, hs, by unfold maxLen; omega⟩
  have e := World.cell?_alloc_new w (ss.map Value.string).toArray t (0 + j)
  rw [e, List.getElem?_toArray, Nat.zero_add]
  simp [hj]

set_option maxRecDepth 100000 in
set_option maxHeartbeats 2000000 in
theorem examples_val (w : World) : Calls Try.prog 9 #[] w fun e w' => e = .returned (.bool true) ∧ Below w.heap.size w w' := by
  go_enter Try.func9, Try.ntmps9
  go_wp2_with fail
  refine (base_val _).mono ?_
  rintro e w1 ⟨⟨b1, rfl, hL1⟩, c1⟩
  have HL1 : Hid _ := hL1
  clear hL1
  go_wp2_with fail
  refine (list_val HL1.out rootP (lit_le _ (by decide)) 0 exL).mono ?_
  rintro e w2 ⟨⟨la, lb, ln, lc, rfl, hln, hS⟩, c2⟩
  have hnm : listL base0 rootP 0 = [nA, nB] := exN
  rw [hnm] at hln hS
  have hln2 : ln = 2 := by rw [← hln]; rfl
  subst hln2
  have HS : Hid (Strs w2 la lb 0 [nA, nB]) := hS
  have HC2 : Hid (Below w.heap.size w w2) := bel_tr c1 c2
  clear hS c1 c2 hln hnm HL1
  go_wp2_with fail
  refine (base_val _).mono ?_
  rintro e w3 ⟨⟨b3, rfl, hL3⟩, c3⟩
  have HL3 : Hid _ := hL3
  clear hL3
  go_wp2_with fail
  refine (file_agg pAXY _).mono ?_
  rintro e w4 ⟨rfl, c4⟩
  go_wp2_with fail
  refine (add_val (HL3.out.below c4) (fileN pAXY, noS) (noS_ok _ _ rfl (lit_le _ (by decide))) 7 exAdd).mono ?_
  rintro e w5 ⟨⟨a5, n5, c5, rfl, hX5⟩, d5⟩
  have HC5 : Hid (Below w2.heap.size w2 w5) := bel_tr (bel_tr c3 c4) d5
  clear hX5 c3 c4 d5 HL3
  go_wp2_with fail
  refine (base_val _).mono ?_
  rintro e w6 ⟨⟨b6, rfl, hL6⟩, c6⟩
  have HL6 : Hid _ := hL6
  clear hL6
  go_wp2_with fail
  refine (move_tree HL6.out pA pAB (lit_le _ (by decide)) (lit_le _ (by decide)) 1 exM1).mono ?_
  rintro e w7 ⟨⟨a7, n7, c7, rfl, hX7⟩, d7⟩
  have HC7 : Hid (Below w2.heap.size w2 w7) := bel_tr HC5.out (bel_tr c6 d7)
  clear hX7 c6 d7 HL6 HC5
  go_wp2_with fail
  refine (base_val _).mono ?_
  rintro e w8 ⟨⟨b8, rfl, hL8⟩, c8⟩
  have HL8 : Hid _ := hL8
  clear hL8
  go_wp2_with fail
  refine (move_tree HL8.out pA pBC (lit_le _ (by decide)) (lit_le _ (by decide)) 0 exM2).mono ?_
  rintro e w9 ⟨⟨a9, n9, c9, rfl, hX9⟩, d9⟩
  have hma : movA base0 pA pBC 0 = base1 := exML
  rw [hma] at hX9
  have hn9 : n9 = 4 := by rw [← hX9.len]; rfl
  subst hn9
  have HM : Hid (NL w9 a9 4 base1) := hX9.nl
  have HC9 : Hid (Below w2.heap.size w2 w9) := bel_tr HC7.out (bel_tr c8 d9)
  have HS9 : Hid (∀ o, Strs (w9.alloc o) la lb 0 [nA, nB]) := fun o => (HS.out.below HC9.out).below (bel_al _ _)
  have HST : Hid (∀ t, Strs (w9.alloc (.cells #[.string nA, .string nB] t)) (some ⟨w9.heap.size, 0, none⟩) w9.heap.size 0 [nA, nB]) := fun t => strs_lit w9 [nA, nB] t (by decide) (fun s hs => by
    simp only [List.mem_cons, List.not_mem_nil, or_false] at hs
    rcases hs with rfl | rfl <;> exact lit_le _ (by decide))
  clear hX9 hma c8 d9 HL8 HC7 HS
  go_wp2_with fail
  refine (texts_same la _ lb 0 lc _ 0 2 2 [nA, nB] _ (HS9.out _) (HST.out _) rfl).mono ?_
  rintro e w10 ⟨rfl, c10⟩
  have HC10 : Hid (Below w9.heap.size w9 w10) := bel_tr (bel_al _ _) c10
  clear c10 HS9 HST
  go_wp2_with fail
  refine (dir_agg _ _).mono ?_
  rintro e w11 ⟨rfl, c11⟩
  go_wp2_with fail
  refine (dir_agg _ _).mono ?_
  rintro e w12 ⟨rfl, c12⟩
  go_wp2_with fail
  refine (dir_agg _ _).mono ?_
  rintro e w13 ⟨rfl, c13⟩
  go_wp2_with fail
  refine (file_agg _ _).mono ?_
  rintro e w14 ⟨rfl, c14⟩
  have hB : ∀ o, Below w9.heap.size w9 (w14.alloc o) := fun o => bel_tr (bel_tr (bel_tr (bel_tr (bel_tr HC10.out c11) c12) c13) c14) (bel_al _ _)
  have HM2 : Hid (∀ o, NL (w14.alloc o) a9 4 base1) := fun o => HM.out.below (hB o)
  have HC14 : Hid (∀ o, Below w.heap.size w (w14.alloc o)) := fun o => bel_tr HC2.out (bel_tr HC9.out (hB o))
  have HN : Hid (∀ t, NL (w14.alloc (.cells (rowC ndC [(dirN rootP, noS), (dirN pB, noS), (dirN pBC, noS), (fileN pBCX, noS)]).toArray t)) (some ⟨w14.heap.size, 0, none⟩) 4 base1) := fun t =>
    nl_lit w14 [(dirN rootP, noS), (dirN pB, noS), (dirN pBC, noS), (fileN pBCX, noS)] t (by decide) (lits_ok w14 _ (fun x hx => by
      simp only [List.mem_cons, List.not_mem_nil, or_false] at hx
      rcases hx with rfl | rfl | rfl | rfl <;> exact ⟨rfl, rfl, by decide⟩)) base1 rfl 4 rfl
  clear c11 c12 c13 c14 hB HM HC10 HC9 HC2
  go_wp2_with fail
  refine (nodes_same (HM2.out _) (HN.out _)).mono ?_
  rintro e w15 ⟨rfl, c15⟩
  have HC15 : Hid (Below w.heap.size w w15) := bel_tr (HC14.out _) c15
  clear c15 HC14 HM2 HN
  go_wp2_with (first
    | (go_at_call 31; refine (base_val _).mono ?_; rintro e w16 ⟨⟨b16, rfl, hL16⟩, c16⟩; have HL16 : Hid _ := hL16; have HC16 : Hid (Below w15.heap.size w15 w16) := c16; clear hL16 c16)
    | (go_at_call 15; refine (right_val HL16.out true ⟨fun _ => right0, fun _ => rfl⟩).mono ?_; rintro e w17 ⟨rfl, c17⟩))
  go_ret
  exact ⟨rfl, bel_tr HC15.out (bel_tr HC16.out c17)⟩

end Go.Proofs.Ytdcmhbodjmajcaa
