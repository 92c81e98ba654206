/- TreeStays: for every list of nodes, every node and every two strings: the statement's function returns true; nothing that was there is changed. No condition. -/
import Derived.Test.YtdcmhbodjmajcaaTreeL2
import Derived.Test.YtdcmhbodjmajcaaTreeT2
import Derived.Test.YtdcmhbodjmajcaaTreeOpen
namespace Go.Proofs.Ytdcmhbodjmajcaa.treeStays
open Go.ChangeShapes Go.WideShapes Go.ChangeAt Go.RowKit
open Go.ChangeMaps (open_string shut_string)
set_option linter.unusedVariables false

theorem own : ownKnob Try.prog.godebug = none := by kernel_rfl

set_option maxRecDepth 100000 in
set_option maxHeartbeats 2000000 in
theorem core111 {a : Option Addr} {n c : Nat} {xs : NS} (x : NR) (p to : ByteArray) (hp : p.size ≤ maxLen) (ht : to.size ≤ maxLen) (w : World) (h : NL w a n xs) (hx : NdOk w x) (E1 E2 E3 : Int) (hE1 : AddE xs x.1 E1) (hE2 : RemE xs p E2) (hE3 : MovE xs p to E3) (h1 : E1 = 0) (h2 : E2 = 0) (h3 : E3 = 0) :
    Calls Try.prog 5 #[.slice a n c, ndV x, .string p, .string to] w fun e w' => e = .returned (.bool true) ∧ Below w.heap.size w w' := by
  have CA : Hid (∀ W, Below w.heap.size w W → Calls Try.prog 20 #[.slice a n c, ndV x] W fun e w' => TwoR W.heap.size (addL xs x.1 E1) E1 e w' ∧ Below W.heap.size W w') := fun W hb => add_val (h.below hb) x (hx.below hb) E1 hE1
  have CR : Hid (∀ W, Below w.heap.size w W → Calls Try.prog 24 #[.slice a n c, .string p] W fun e w' => TwoR W.heap.size (remL xs p E2) E2 e w' ∧ Below W.heap.size W w') := fun W hb => remove_val (h.below hb) p hp E2 hE2
  have CM : Hid (∀ W, Below w.heap.size w W → Calls Try.prog 26 #[.slice a n c, .string p, .string to] W fun e w' => TwoR W.heap.size (movA xs p to E3) E3 e w' ∧ Below W.heap.size W w') := fun W hb => move_tree (h.below hb) p to hp ht E3 hE3
  have HN : Hid (∀ W, Below w.heap.size w W → NL W a n xs) := fun W hb => h.below hb
  have HLEN : Hid (xs.length = n) := by obtain ⟨_, _, _, _, k2, _⟩ := h.ex; exact k2
  have hlid := h.lid
  unfold maxLen at hlid
  have HQ : Hid (x.1.path.size ≤ maxLen) := hx.small
  subst h1
  obtain ⟨r1, r2, r3, r4, r5⟩ := added hE1
  have hsmall : n ≤ 60 := by rw [← HLEN.out]; exact r5.few
  have HADD : Hid (addL xs x.1 0 = sortN (xs ++ [x.1])) := rfl
  have HAL : Hid ((sortN (xs ++ [x.1])).length = n + 1) := by show _ = _; rw [r2, HLEN.out]
  have HREM : Hid (RemE (sortN (xs ++ [x.1])) x.1.path 0) := r3
  have HLEFT : Hid (remL (sortN (xs ++ [x.1])) x.1.path 0 = xs) := r4
  have HR2 : Hid (Right (sortN (xs ++ [x.1]))) := r1
  clear r1 r2 r3 r4 r5
  subst h2
  obtain ⟨s1, s2, s3⟩ := removed hE2
  have HRL : Hid (remL xs p 0 = leftL xs p) := rfl
  have HR6 : Hid (Right (leftL xs p)) := s1
  have HLT : Hid ((leftL xs p).length < n) := by show _ < n; rw [← HLEN.out]; exact s2
  have HF6 : Hid (findI (leftL xs p) p = -1) := find_neg s3
  clear s1 s2 s3
  subst h3
  obtain ⟨t1, t2, t3, t4⟩ := (mov_of hE3).tree
  obtain ⟨ti, t5, _⟩ := find_pos t2
  have HML : Hid (movA xs p to 0 = movL xs p to) := rfl
  have HR7 : Hid (Right (movL xs p to)) := t1
  have HLE : Hid ((movL xs p to).length ≤ n) := by show _ ≤ n; rw [← HLEN.out]; exact t4
  have HF7 : Hid (findI (movL xs p to) to = (ti : Int)) := t5
  have HG7 : Hid (findI (movL xs p to) p = -1) := find_neg t3
  clear t1 t2 t3 t4 t5
  have HP : Hid (p.size ≤ maxLen) := hp
  obtain ⟨⟨q, d, qu, bs, wr⟩, ⟨sa, sn, sc⟩⟩ := x
  have hst := run_store_str
  unfold ndV at *
  simp only at *
  clear h hx hE1 hE2 hE3 hp ht
  go_enter Try.func5, Try.ntmps5
  go_wp2_with fail
  refine (examples_val _).mono ?_
  rintro e w1 ⟨rfl, c1⟩
  have c1w : Hid (Below w.heap.size w w1) := bel_tr (bel_al _ _) c1
  have y0 := bel_cell c1 (World.cell?_alloc_new w _ _ 0)
  have y1 := bel_cell c1 (World.cell?_alloc_new w _ _ 1)
  have y2 := bel_cell c1 (World.cell?_alloc_new w _ _ 2)
  have y3 := bel_cell c1 (World.cell?_alloc_new w _ _ 3)
  have y4 := bel_cell c1 (World.cell?_alloc_new w _ _ 4)
  have Y0 : Hid _ := y0
  clear c1
  go_wp2_with fail
  refine (CA.out _ c1w.out).mono ?_
  rintro e w2 ⟨⟨a2, n2, c2, rfl, hX2⟩, d2⟩
  have c2w : Hid (Below w.heap.size w w2) := bel_tr c1w.out d2
  have z0 := bel_cell d2 Y0.out
  rw [HADD.out] at hX2
  have HX2 : Hid (NL w2 a2 n2 (sortN (xs ++ [⟨q, d, qu, bs, wr⟩]))) := hX2.nl
  have hn2 : n2 = n + 1 := by rw [← hX2.len]; exact HAL.out
  have hn2b : ((n2 : Int) != (n : Int) + 1) = false := by rw [hn2]; simp
  clear hX2 d2 y0 y1 y2 y3 y4 hn2
  go_wp2_with fail
  refine (remove_val HX2.out q HQ.out 0 HREM.out).mono ?_
  rintro e w3 ⟨⟨a3, n3, c3, rfl, hX3⟩, d3⟩
  rw [HLEFT.out] at hX3
  have hn3 : n3 = n := by rw [← hX3.len]; exact HLEN.out
  subst hn3
  have HX3 : Hid (NL w3 a3 n3 xs) := hX3.nl
  have c3w : Hid (Below w.heap.size w w3) := bel_tr c2w.out d3
  have C23 : Hid (Below w2.heap.size w2 w3) := d3
  clear hX3 d3 z0
  go_wp2_with fail
  refine (nodes_same HX3.out (HN.out _ c3w.out)).mono ?_
  rintro e w4 ⟨rfl, c4⟩
  have c4w : Hid (Below w.heap.size w w4) := bel_tr c3w.out c4
  have C24 : Hid (Below w2.heap.size w2 w4) := bel_tr C23.out c4
  clear c4
  go_wp2_with fail
  refine (right_val (HX2.out.below C24.out) true ⟨fun _ => HR2.out, fun _ => rfl⟩).mono ?_
  rintro e w5 ⟨rfl, c5⟩
  have c5w : Hid (Below w.heap.size w w5) := bel_tr c4w.out c5
  clear c5
  go_wp2_with fail
  refine (CR.out _ c5w.out).mono ?_
  rintro e w6 ⟨⟨a6, n6, c6, rfl, hX6⟩, d6⟩
  have c6w : Hid (Below w.heap.size w w6) := bel_tr c5w.out d6
  rw [HRL.out] at hX6
  have HX6 : Hid (NL w6 a6 n6 (leftL xs p)) := hX6.nl
  have hn6p : n6 < n3 := by have h1 := hX6.len; have h2 := HLT.out; omega
  have hn6 : decide ((n6 : Int) < (n3 : Int)) = true := decide_eq_true (by omega)
  have hn6d : decide (n6 < n3) = true := decide_eq_true hn6p
  clear hX6 d6
  go_wp2_with fail
  refine (CM.out _ c6w.out).mono ?_
  rintro e w7 ⟨⟨a7, n7, c7, rfl, hX7⟩, d7⟩
  have c7w : Hid (Below w.heap.size w w7) := bel_tr c6w.out d7
  have C67 : Hid (Below w6.heap.size w6 w7) := d7
  rw [HML.out] at hX7
  have HX7 : Hid (NL w7 a7 n7 (movL xs p to)) := hX7.nl
  have hn7p : n7 ≤ n3 := by have h1 := hX7.len; have h2 := HLE.out; omega
  have hn7 : decide ((n7 : Int) ≤ (n3 : Int)) = true := decide_eq_true (by omega)
  have hn7d : decide (n7 ≤ n3) = true := decide_eq_true hn7p
  clear hX7 d7
  have C7 : Hid (Below w7.heap.size w7 w7) := Below.refl _ _
  go_wp2_with fail
  refine (right_val (HX6.out.below C67.out) true ⟨fun _ => HR6.out, fun _ => rfl⟩).mono ?_
  rintro e w8 ⟨rfl, c8⟩
  have c8w : Hid (Below w.heap.size w w8) := bel_tr c7w.out c8
  have C6x8 : Hid _ := bel_tr C67.out c8
  have C7x8 : Hid _ := bel_tr C7.out c8
  clear c8
  go_wp2_with fail
  refine (find_val (HX6.out.below C6x8.out) p (-1) HF6.out).mono ?_
  rintro e w9 ⟨rfl, c9⟩
  have c9w : Hid (Below w.heap.size w w9) := bel_tr c8w.out c9
  have C7x9 : Hid _ := bel_tr C7x8.out c9
  clear c9
  go_wp2_with fail
  refine (right_val (HX7.out.below C7x9.out) true ⟨fun _ => HR7.out, fun _ => rfl⟩).mono ?_
  rintro e w10 ⟨rfl, c10⟩
  have c10w : Hid (Below w.heap.size w w10) := bel_tr c9w.out c10
  have C7x10 : Hid _ := bel_tr C7x9.out c10
  clear c10
  go_wp2_with fail
  refine (find_val (HX7.out.below C7x10.out) to (ti : Int) HF7.out).mono ?_
  rintro e w11 ⟨rfl, c11⟩
  have c11w : Hid (Below w.heap.size w w11) := bel_tr c10w.out c11
  have C7x11 : Hid _ := bel_tr C7x10.out c11
  clear c11
  go_wp2_with fail
  refine (find_val (HX7.out.below C7x11.out) p (-1) HG7.out).mono ?_
  rintro e w12 ⟨rfl, c12⟩
  have c12w : Hid (Below w.heap.size w w12) := bel_tr c11w.out c12
  have C7x12 : Hid _ := bel_tr C7x11.out c12
  clear c12
  go_wp2
  go_ret
  exact ⟨rfl, c12w.out⟩

set_option maxRecDepth 100000 in
set_option maxHeartbeats 2000000 in
theorem core110 {a : Option Addr} {n c : Nat} {xs : NS} (x : NR) (p to : ByteArray) (hp : p.size ≤ maxLen) (ht : to.size ≤ maxLen) (w : World) (h : NL w a n xs) (hx : NdOk w x) (E1 E2 E3 : Int) (hE1 : AddE xs x.1 E1) (hE2 : RemE xs p E2) (hE3 : MovE xs p to E3) (h1 : E1 = 0) (h2 : E2 = 0) (h3 : E3 ≠ 0) :
    Calls Try.prog 5 #[.slice a n c, ndV x, .string p, .string to] w fun e w' => e = .returned (.bool true) ∧ Below w.heap.size w w' := by
  have CA : Hid (∀ W, Below w.heap.size w W → Calls Try.prog 20 #[.slice a n c, ndV x] W fun e w' => TwoR W.heap.size (addL xs x.1 E1) E1 e w' ∧ Below W.heap.size W w') := fun W hb => add_val (h.below hb) x (hx.below hb) E1 hE1
  have CR : Hid (∀ W, Below w.heap.size w W → Calls Try.prog 24 #[.slice a n c, .string p] W fun e w' => TwoR W.heap.size (remL xs p E2) E2 e w' ∧ Below W.heap.size W w') := fun W hb => remove_val (h.below hb) p hp E2 hE2
  have CM : Hid (∀ W, Below w.heap.size w W → Calls Try.prog 26 #[.slice a n c, .string p, .string to] W fun e w' => TwoR W.heap.size (movA xs p to E3) E3 e w' ∧ Below W.heap.size W w') := fun W hb => move_tree (h.below hb) p to hp ht E3 hE3
  have HN : Hid (∀ W, Below w.heap.size w W → NL W a n xs) := fun W hb => h.below hb
  have HLEN : Hid (xs.length = n) := by obtain ⟨_, _, _, _, k2, _⟩ := h.ex; exact k2
  have hlid := h.lid
  unfold maxLen at hlid
  have HQ : Hid (x.1.path.size ≤ maxLen) := hx.small
  subst h1
  obtain ⟨r1, r2, r3, r4, r5⟩ := added hE1
  have hsmall : n ≤ 60 := by rw [← HLEN.out]; exact r5.few
  have HADD : Hid (addL xs x.1 0 = sortN (xs ++ [x.1])) := rfl
  have HAL : Hid ((sortN (xs ++ [x.1])).length = n + 1) := by show _ = _; rw [r2, HLEN.out]
  have HREM : Hid (RemE (sortN (xs ++ [x.1])) x.1.path 0) := r3
  have HLEFT : Hid (remL (sortN (xs ++ [x.1])) x.1.path 0 = xs) := r4
  have HR2 : Hid (Right (sortN (xs ++ [x.1]))) := r1
  clear r1 r2 r3 r4 r5
  subst h2
  obtain ⟨s1, s2, s3⟩ := removed hE2
  have HRL : Hid (remL xs p 0 = leftL xs p) := rfl
  have HR6 : Hid (Right (leftL xs p)) := s1
  have HLT : Hid ((leftL xs p).length < n) := by show _ < n; rw [← HLEN.out]; exact s2
  have HF6 : Hid (findI (leftL xs p) p = -1) := find_neg s3
  clear s1 s2 s3
  have h3b : (E3 != 0) = true := by simpa using h3
  have HP : Hid (p.size ≤ maxLen) := hp
  obtain ⟨⟨q, d, qu, bs, wr⟩, ⟨sa, sn, sc⟩⟩ := x
  have hst := run_store_str
  unfold ndV at *
  simp only at *
  clear h hx hE1 hE2 hE3 hp ht h3
  go_enter Try.func5, Try.ntmps5
  go_wp2_with fail
  refine (examples_val _).mono ?_
  rintro e w1 ⟨rfl, c1⟩
  have c1w : Hid (Below w.heap.size w w1) := bel_tr (bel_al _ _) c1
  have y0 := bel_cell c1 (World.cell?_alloc_new w _ _ 0)
  have y1 := bel_cell c1 (World.cell?_alloc_new w _ _ 1)
  have y2 := bel_cell c1 (World.cell?_alloc_new w _ _ 2)
  have y3 := bel_cell c1 (World.cell?_alloc_new w _ _ 3)
  have y4 := bel_cell c1 (World.cell?_alloc_new w _ _ 4)
  have Y0 : Hid _ := y0
  clear c1
  go_wp2_with fail
  refine (CA.out _ c1w.out).mono ?_
  rintro e w2 ⟨⟨a2, n2, c2, rfl, hX2⟩, d2⟩
  have c2w : Hid (Below w.heap.size w w2) := bel_tr c1w.out d2
  have z0 := bel_cell d2 Y0.out
  rw [HADD.out] at hX2
  have HX2 : Hid (NL w2 a2 n2 (sortN (xs ++ [⟨q, d, qu, bs, wr⟩]))) := hX2.nl
  have hn2 : n2 = n + 1 := by rw [← hX2.len]; exact HAL.out
  have hn2b : ((n2 : Int) != (n : Int) + 1) = false := by rw [hn2]; simp
  clear hX2 d2 y0 y1 y2 y3 y4 hn2
  go_wp2_with fail
  refine (remove_val HX2.out q HQ.out 0 HREM.out).mono ?_
  rintro e w3 ⟨⟨a3, n3, c3, rfl, hX3⟩, d3⟩
  rw [HLEFT.out] at hX3
  have hn3 : n3 = n := by rw [← hX3.len]; exact HLEN.out
  subst hn3
  have HX3 : Hid (NL w3 a3 n3 xs) := hX3.nl
  have c3w : Hid (Below w.heap.size w w3) := bel_tr c2w.out d3
  have C23 : Hid (Below w2.heap.size w2 w3) := d3
  clear hX3 d3 z0
  go_wp2_with fail
  refine (nodes_same HX3.out (HN.out _ c3w.out)).mono ?_
  rintro e w4 ⟨rfl, c4⟩
  have c4w : Hid (Below w.heap.size w w4) := bel_tr c3w.out c4
  have C24 : Hid (Below w2.heap.size w2 w4) := bel_tr C23.out c4
  clear c4
  go_wp2_with fail
  refine (right_val (HX2.out.below C24.out) true ⟨fun _ => HR2.out, fun _ => rfl⟩).mono ?_
  rintro e w5 ⟨rfl, c5⟩
  have c5w : Hid (Below w.heap.size w w5) := bel_tr c4w.out c5
  clear c5
  go_wp2_with fail
  refine (CR.out _ c5w.out).mono ?_
  rintro e w6 ⟨⟨a6, n6, c6, rfl, hX6⟩, d6⟩
  have c6w : Hid (Below w.heap.size w w6) := bel_tr c5w.out d6
  rw [HRL.out] at hX6
  have HX6 : Hid (NL w6 a6 n6 (leftL xs p)) := hX6.nl
  have hn6p : n6 < n3 := by have h1 := hX6.len; have h2 := HLT.out; omega
  have hn6 : decide ((n6 : Int) < (n3 : Int)) = true := decide_eq_true (by omega)
  have hn6d : decide (n6 < n3) = true := decide_eq_true hn6p
  clear hX6 d6
  go_wp2_with fail
  refine (CM.out _ c6w.out).mono ?_
  rintro e w7 ⟨⟨a7, n7, c7, rfl, hX7⟩, d7⟩
  have c7w : Hid (Below w.heap.size w w7) := bel_tr c6w.out d7
  have C67 : Hid (Below w6.heap.size w6 w7) := d7
  clear hX7 d7
  have C7 : Hid (Below w7.heap.size w7 w7) := Below.refl _ _
  go_wp2_with fail
  refine (right_val (HX6.out.below C67.out) true ⟨fun _ => HR6.out, fun _ => rfl⟩).mono ?_
  rintro e w8 ⟨rfl, c8⟩
  have c8w : Hid (Below w.heap.size w w8) := bel_tr c7w.out c8
  have C6x8 : Hid _ := bel_tr C67.out c8
  have C7x8 : Hid _ := bel_tr C7.out c8
  clear c8
  go_wp2_with fail
  refine (find_val (HX6.out.below C6x8.out) p (-1) HF6.out).mono ?_
  rintro e w9 ⟨rfl, c9⟩
  have c9w : Hid (Below w.heap.size w w9) := bel_tr c8w.out c9
  have C7x9 : Hid _ := bel_tr C7x8.out c9
  clear c9
  go_wp2
  go_ret
  exact ⟨rfl, c9w.out⟩

set_option maxRecDepth 100000 in
set_option maxHeartbeats 2000000 in
theorem core101 {a : Option Addr} {n c : Nat} {xs : NS} (x : NR) (p to : ByteArray) (hp : p.size ≤ maxLen) (ht : to.size ≤ maxLen) (w : World) (h : NL w a n xs) (hx : NdOk w x) (E1 E2 E3 : Int) (hE1 : AddE xs x.1 E1) (hE2 : RemE xs p E2) (hE3 : MovE xs p to E3) (h1 : E1 = 0) (h2 : E2 ≠ 0) (h3 : E3 = 0) :
    Calls Try.prog 5 #[.slice a n c, ndV x, .string p, .string to] w fun e w' => e = .returned (.bool true) ∧ Below w.heap.size w w' := by
  have CA : Hid (∀ W, Below w.heap.size w W → Calls Try.prog 20 #[.slice a n c, ndV x] W fun e w' => TwoR W.heap.size (addL xs x.1 E1) E1 e w' ∧ Below W.heap.size W w') := fun W hb => add_val (h.below hb) x (hx.below hb) E1 hE1
  have CR : Hid (∀ W, Below w.heap.size w W → Calls Try.prog 24 #[.slice a n c, .string p] W fun e w' => TwoR W.heap.size (remL xs p E2) E2 e w' ∧ Below W.heap.size W w') := fun W hb => remove_val (h.below hb) p hp E2 hE2
  have CM : Hid (∀ W, Below w.heap.size w W → Calls Try.prog 26 #[.slice a n c, .string p, .string to] W fun e w' => TwoR W.heap.size (movA xs p to E3) E3 e w' ∧ Below W.heap.size W w') := fun W hb => move_tree (h.below hb) p to hp ht E3 hE3
  have HN : Hid (∀ W, Below w.heap.size w W → NL W a n xs) := fun W hb => h.below hb
  have HLEN : Hid (xs.length = n) := by obtain ⟨_, _, _, _, k2, _⟩ := h.ex; exact k2
  have hlid := h.lid
  unfold maxLen at hlid
  have HQ : Hid (x.1.path.size ≤ maxLen) := hx.small
  subst h1
  obtain ⟨r1, r2, r3, r4, r5⟩ := added hE1
  have hsmall : n ≤ 60 := by rw [← HLEN.out]; exact r5.few
  have HADD : Hid (addL xs x.1 0 = sortN (xs ++ [x.1])) := rfl
  have HAL : Hid ((sortN (xs ++ [x.1])).length = n + 1) := by show _ = _; rw [r2, HLEN.out]
  have HREM : Hid (RemE (sortN (xs ++ [x.1])) x.1.path 0) := r3
  have HLEFT : Hid (remL (sortN (xs ++ [x.1])) x.1.path 0 = xs) := r4
  have HR2 : Hid (Right (sortN (xs ++ [x.1]))) := r1
  clear r1 r2 r3 r4 r5
  have h2b : (E2 != 0) = true := by simpa using h2
  subst h3
  obtain ⟨t1, t2, t3, t4⟩ := (mov_of hE3).tree
  obtain ⟨ti, t5, _⟩ := find_pos t2
  have HML : Hid (movA xs p to 0 = movL xs p to) := rfl
  have HR7 : Hid (Right (movL xs p to)) := t1
  have HLE : Hid ((movL xs p to).length ≤ n) := by show _ ≤ n; rw [← HLEN.out]; exact t4
  have HF7 : Hid (findI (movL xs p to) to = (ti : Int)) := t5
  have HG7 : Hid (findI (movL xs p to) p = -1) := find_neg t3
  clear t1 t2 t3 t4 t5
  have HP : Hid (p.size ≤ maxLen) := hp
  obtain ⟨⟨q, d, qu, bs, wr⟩, ⟨sa, sn, sc⟩⟩ := x
  have hst := run_store_str
  unfold ndV at *
  simp only at *
  clear h hx hE1 hE2 hE3 hp ht h2
  go_enter Try.func5, Try.ntmps5
  go_wp2_with fail
  refine (examples_val _).mono ?_
  rintro e w1 ⟨rfl, c1⟩
  have c1w : Hid (Below w.heap.size w w1) := bel_tr (bel_al _ _) c1
  have y0 := bel_cell c1 (World.cell?_alloc_new w _ _ 0)
  have y1 := bel_cell c1 (World.cell?_alloc_new w _ _ 1)
  have y2 := bel_cell c1 (World.cell?_alloc_new w _ _ 2)
  have y3 := bel_cell c1 (World.cell?_alloc_new w _ _ 3)
  have y4 := bel_cell c1 (World.cell?_alloc_new w _ _ 4)
  have Y0 : Hid _ := y0
  clear c1
  go_wp2_with fail
  refine (CA.out _ c1w.out).mono ?_
  rintro e w2 ⟨⟨a2, n2, c2, rfl, hX2⟩, d2⟩
  have c2w : Hid (Below w.heap.size w w2) := bel_tr c1w.out d2
  have z0 := bel_cell d2 Y0.out
  rw [HADD.out] at hX2
  have HX2 : Hid (NL w2 a2 n2 (sortN (xs ++ [⟨q, d, qu, bs, wr⟩]))) := hX2.nl
  have hn2 : n2 = n + 1 := by rw [← hX2.len]; exact HAL.out
  have hn2b : ((n2 : Int) != (n : Int) + 1) = false := by rw [hn2]; simp
  clear hX2 d2 y0 y1 y2 y3 y4 hn2
  go_wp2_with fail
  refine (remove_val HX2.out q HQ.out 0 HREM.out).mono ?_
  rintro e w3 ⟨⟨a3, n3, c3, rfl, hX3⟩, d3⟩
  rw [HLEFT.out] at hX3
  have hn3 : n3 = n := by rw [← hX3.len]; exact HLEN.out
  subst hn3
  have HX3 : Hid (NL w3 a3 n3 xs) := hX3.nl
  have c3w : Hid (Below w.heap.size w w3) := bel_tr c2w.out d3
  have C23 : Hid (Below w2.heap.size w2 w3) := d3
  clear hX3 d3 z0
  go_wp2_with fail
  refine (nodes_same HX3.out (HN.out _ c3w.out)).mono ?_
  rintro e w4 ⟨rfl, c4⟩
  have c4w : Hid (Below w.heap.size w w4) := bel_tr c3w.out c4
  have C24 : Hid (Below w2.heap.size w2 w4) := bel_tr C23.out c4
  clear c4
  go_wp2_with fail
  refine (right_val (HX2.out.below C24.out) true ⟨fun _ => HR2.out, fun _ => rfl⟩).mono ?_
  rintro e w5 ⟨rfl, c5⟩
  have c5w : Hid (Below w.heap.size w w5) := bel_tr c4w.out c5
  clear c5
  go_wp2_with fail
  refine (CR.out _ c5w.out).mono ?_
  rintro e w6 ⟨⟨a6, n6, c6, rfl, hX6⟩, d6⟩
  have c6w : Hid (Below w.heap.size w w6) := bel_tr c5w.out d6
  clear hX6 d6
  go_wp2_with fail
  refine (CM.out _ c6w.out).mono ?_
  rintro e w7 ⟨⟨a7, n7, c7, rfl, hX7⟩, d7⟩
  have c7w : Hid (Below w.heap.size w w7) := bel_tr c6w.out d7
  rw [HML.out] at hX7
  have HX7 : Hid (NL w7 a7 n7 (movL xs p to)) := hX7.nl
  have hn7p : n7 ≤ n3 := by have h1 := hX7.len; have h2 := HLE.out; omega
  have hn7 : decide ((n7 : Int) ≤ (n3 : Int)) = true := decide_eq_true (by omega)
  have hn7d : decide (n7 ≤ n3) = true := decide_eq_true hn7p
  clear hX7 d7
  have C7x7 : Hid (Below w7.heap.size w7 w7) := Below.refl _ _
  go_wp2_with fail
  refine (right_val (HX7.out.below C7x7.out) true ⟨fun _ => HR7.out, fun _ => rfl⟩).mono ?_
  rintro e w8 ⟨rfl, c8⟩
  have c8w : Hid (Below w.heap.size w w8) := bel_tr c7w.out c8
  have C7x8 : Hid _ := bel_tr C7x7.out c8
  clear c8
  go_wp2_with fail
  refine (find_val (HX7.out.below C7x8.out) to (ti : Int) HF7.out).mono ?_
  rintro e w9 ⟨rfl, c9⟩
  have c9w : Hid (Below w.heap.size w w9) := bel_tr c8w.out c9
  have C7x9 : Hid _ := bel_tr C7x8.out c9
  clear c9
  go_wp2_with fail
  refine (find_val (HX7.out.below C7x9.out) p (-1) HG7.out).mono ?_
  rintro e w10 ⟨rfl, c10⟩
  have c10w : Hid (Below w.heap.size w w10) := bel_tr c9w.out c10
  have C7x10 : Hid _ := bel_tr C7x9.out c10
  clear c10
  go_wp2
  go_ret
  exact ⟨rfl, c10w.out⟩

set_option maxRecDepth 100000 in
set_option maxHeartbeats 2000000 in
theorem core100 {a : Option Addr} {n c : Nat} {xs : NS} (x : NR) (p to : ByteArray) (hp : p.size ≤ maxLen) (ht : to.size ≤ maxLen) (w : World) (h : NL w a n xs) (hx : NdOk w x) (E1 E2 E3 : Int) (hE1 : AddE xs x.1 E1) (hE2 : RemE xs p E2) (hE3 : MovE xs p to E3) (h1 : E1 = 0) (h2 : E2 ≠ 0) (h3 : E3 ≠ 0) :
    Calls Try.prog 5 #[.slice a n c, ndV x, .string p, .string to] w fun e w' => e = .returned (.bool true) ∧ Below w.heap.size w w' := by
  have CA : Hid (∀ W, Below w.heap.size w W → Calls Try.prog 20 #[.slice a n c, ndV x] W fun e w' => TwoR W.heap.size (addL xs x.1 E1) E1 e w' ∧ Below W.heap.size W w') := fun W hb => add_val (h.below hb) x (hx.below hb) E1 hE1
  have CR : Hid (∀ W, Below w.heap.size w W → Calls Try.prog 24 #[.slice a n c, .string p] W fun e w' => TwoR W.heap.size (remL xs p E2) E2 e w' ∧ Below W.heap.size W w') := fun W hb => remove_val (h.below hb) p hp E2 hE2
  have CM : Hid (∀ W, Below w.heap.size w W → Calls Try.prog 26 #[.slice a n c, .string p, .string to] W fun e w' => TwoR W.heap.size (movA xs p to E3) E3 e w' ∧ Below W.heap.size W w') := fun W hb => move_tree (h.below hb) p to hp ht E3 hE3
  have HN : Hid (∀ W, Below w.heap.size w W → NL W a n xs) := fun W hb => h.below hb
  have HLEN : Hid (xs.length = n) := by obtain ⟨_, _, _, _, k2, _⟩ := h.ex; exact k2
  have hlid := h.lid
  unfold maxLen at hlid
  have HQ : Hid (x.1.path.size ≤ maxLen) := hx.small
  subst h1
  obtain ⟨r1, r2, r3, r4, r5⟩ := added hE1
  have hsmall : n ≤ 60 := by rw [← HLEN.out]; exact r5.few
  have HADD : Hid (addL xs x.1 0 = sortN (xs ++ [x.1])) := rfl
  have HAL : Hid ((sortN (xs ++ [x.1])).length = n + 1) := by show _ = _; rw [r2, HLEN.out]
  have HREM : Hid (RemE (sortN (xs ++ [x.1])) x.1.path 0) := r3
  have HLEFT : Hid (remL (sortN (xs ++ [x.1])) x.1.path 0 = xs) := r4
  have HR2 : Hid (Right (sortN (xs ++ [x.1]))) := r1
  clear r1 r2 r3 r4 r5
  have h2b : (E2 != 0) = true := by simpa using h2
  have h3b : (E3 != 0) = true := by simpa using h3
  have HP : Hid (p.size ≤ maxLen) := hp
  obtain ⟨⟨q, d, qu, bs, wr⟩, ⟨sa, sn, sc⟩⟩ := x
  have hst := run_store_str
  unfold ndV at *
  simp only at *
  clear h hx hE1 hE2 hE3 hp ht h2 h3
  go_enter Try.func5, Try.ntmps5
  go_wp2_with fail
  refine (examples_val _).mono ?_
  rintro e w1 ⟨rfl, c1⟩
  have c1w : Hid (Below w.heap.size w w1) := bel_tr (bel_al _ _) c1
  have y0 := bel_cell c1 (World.cell?_alloc_new w _ _ 0)
  have y1 := bel_cell c1 (World.cell?_alloc_new w _ _ 1)
  have y2 := bel_cell c1 (World.cell?_alloc_new w _ _ 2)
  have y3 := bel_cell c1 (World.cell?_alloc_new w _ _ 3)
  have y4 := bel_cell c1 (World.cell?_alloc_new w _ _ 4)
  have Y0 : Hid _ := y0
  clear c1
  go_wp2_with fail
  refine (CA.out _ c1w.out).mono ?_
  rintro e w2 ⟨⟨a2, n2, c2, rfl, hX2⟩, d2⟩
  have c2w : Hid (Below w.heap.size w w2) := bel_tr c1w.out d2
  have z0 := bel_cell d2 Y0.out
  rw [HADD.out] at hX2
  have HX2 : Hid (NL w2 a2 n2 (sortN (xs ++ [⟨q, d, qu, bs, wr⟩]))) := hX2.nl
  have hn2 : n2 = n + 1 := by rw [← hX2.len]; exact HAL.out
  have hn2b : ((n2 : Int) != (n : Int) + 1) = false := by rw [hn2]; simp
  clear hX2 d2 y0 y1 y2 y3 y4 hn2
  go_wp2_with fail
  refine (remove_val HX2.out q HQ.out 0 HREM.out).mono ?_
  rintro e w3 ⟨⟨a3, n3, c3, rfl, hX3⟩, d3⟩
  rw [HLEFT.out] at hX3
  have hn3 : n3 = n := by rw [← hX3.len]; exact HLEN.out
  subst hn3
  have HX3 : Hid (NL w3 a3 n3 xs) := hX3.nl
  have c3w : Hid (Below w.heap.size w w3) := bel_tr c2w.out d3
  have C23 : Hid (Below w2.heap.size w2 w3) := d3
  clear hX3 d3 z0
  go_wp2_with fail
  refine (nodes_same HX3.out (HN.out _ c3w.out)).mono ?_
  rintro e w4 ⟨rfl, c4⟩
  have c4w : Hid (Below w.heap.size w w4) := bel_tr c3w.out c4
  have C24 : Hid (Below w2.heap.size w2 w4) := bel_tr C23.out c4
  clear c4
  go_wp2_with fail
  refine (right_val (HX2.out.below C24.out) true ⟨fun _ => HR2.out, fun _ => rfl⟩).mono ?_
  rintro e w5 ⟨rfl, c5⟩
  have c5w : Hid (Below w.heap.size w w5) := bel_tr c4w.out c5
  clear c5
  go_wp2_with fail
  refine (CR.out _ c5w.out).mono ?_
  rintro e w6 ⟨⟨a6, n6, c6, rfl, hX6⟩, d6⟩
  have c6w : Hid (Below w.heap.size w w6) := bel_tr c5w.out d6
  clear hX6 d6
  go_wp2_with fail
  refine (CM.out _ c6w.out).mono ?_
  rintro e w7 ⟨⟨a7, n7, c7, rfl, hX7⟩, d7⟩
  have c7w : Hid (Below w.heap.size w w7) := bel_tr c6w.out d7
  clear hX7 d7
  have C7x7 : Hid (Below w7.heap.size w7 w7) := Below.refl _ _
  go_wp2
  go_ret
  exact ⟨rfl, c7w.out⟩

set_option maxRecDepth 100000 in
set_option maxHeartbeats 2000000 in
theorem core011 {a : Option Addr} {n c : Nat} {xs : NS} (x : NR) (p to : ByteArray) (hp : p.size ≤ maxLen) (ht : to.size ≤ maxLen) (w : World) (h : NL w a n xs) (hx : NdOk w x) (E1 E2 E3 : Int) (hE1 : AddE xs x.1 E1) (hE2 : RemE xs p E2) (hE3 : MovE xs p to E3) (h1 : E1 ≠ 0) (h2 : E2 = 0) (h3 : E3 = 0) :
    Calls Try.prog 5 #[.slice a n c, ndV x, .string p, .string to] w fun e w' => e = .returned (.bool true) ∧ Below w.heap.size w w' := by
  have CA : Hid (∀ W, Below w.heap.size w W → Calls Try.prog 20 #[.slice a n c, ndV x] W fun e w' => TwoR W.heap.size (addL xs x.1 E1) E1 e w' ∧ Below W.heap.size W w') := fun W hb => add_val (h.below hb) x (hx.below hb) E1 hE1
  have CR : Hid (∀ W, Below w.heap.size w W → Calls Try.prog 24 #[.slice a n c, .string p] W fun e w' => TwoR W.heap.size (remL xs p E2) E2 e w' ∧ Below W.heap.size W w') := fun W hb => remove_val (h.below hb) p hp E2 hE2
  have CM : Hid (∀ W, Below w.heap.size w W → Calls Try.prog 26 #[.slice a n c, .string p, .string to] W fun e w' => TwoR W.heap.size (movA xs p to E3) E3 e w' ∧ Below W.heap.size W w') := fun W hb => move_tree (h.below hb) p to hp ht E3 hE3
  have HN : Hid (∀ W, Below w.heap.size w W → NL W a n xs) := fun W hb => h.below hb
  have HLEN : Hid (xs.length = n) := by obtain ⟨_, _, _, _, k2, _⟩ := h.ex; exact k2
  have hlid := h.lid
  unfold maxLen at hlid
  have HQ : Hid (x.1.path.size ≤ maxLen) := hx.small
  have h1b : (E1 == 0) = false := by simpa using h1
  subst h2
  obtain ⟨s1, s2, s3⟩ := removed hE2
  have HRL : Hid (remL xs p 0 = leftL xs p) := rfl
  have HR6 : Hid (Right (leftL xs p)) := s1
  have HLT : Hid ((leftL xs p).length < n) := by show _ < n; rw [← HLEN.out]; exact s2
  have HF6 : Hid (findI (leftL xs p) p = -1) := find_neg s3
  clear s1 s2 s3
  subst h3
  obtain ⟨t1, t2, t3, t4⟩ := (mov_of hE3).tree
  obtain ⟨ti, t5, _⟩ := find_pos t2
  have HML : Hid (movA xs p to 0 = movL xs p to) := rfl
  have HR7 : Hid (Right (movL xs p to)) := t1
  have HLE : Hid ((movL xs p to).length ≤ n) := by show _ ≤ n; rw [← HLEN.out]; exact t4
  have HF7 : Hid (findI (movL xs p to) to = (ti : Int)) := t5
  have HG7 : Hid (findI (movL xs p to) p = -1) := find_neg t3
  clear t1 t2 t3 t4 t5
  have HP : Hid (p.size ≤ maxLen) := hp
  obtain ⟨⟨q, d, qu, bs, wr⟩, ⟨sa, sn, sc⟩⟩ := x
  have hst := run_store_str
  unfold ndV at *
  simp only at *
  clear h hx hE1 hE2 hE3 hp ht h1
  go_enter Try.func5, Try.ntmps5
  go_wp2_with fail
  refine (examples_val _).mono ?_
  rintro e w1 ⟨rfl, c1⟩
  have c1w : Hid (Below w.heap.size w w1) := bel_tr (bel_al _ _) c1
  have y0 := bel_cell c1 (World.cell?_alloc_new w _ _ 0)
  have y1 := bel_cell c1 (World.cell?_alloc_new w _ _ 1)
  have y2 := bel_cell c1 (World.cell?_alloc_new w _ _ 2)
  have y3 := bel_cell c1 (World.cell?_alloc_new w _ _ 3)
  have y4 := bel_cell c1 (World.cell?_alloc_new w _ _ 4)
  have Y0 : Hid _ := y0
  clear c1
  go_wp2_with fail
  refine (CA.out _ c1w.out).mono ?_
  rintro e w2 ⟨⟨a2, n2, c2, rfl, hX2⟩, d2⟩
  have c2w : Hid (Below w.heap.size w w2) := bel_tr c1w.out d2
  have z0 := bel_cell d2 Y0.out
  have c5w : Hid (Below w.heap.size w w2) := c2w.out
  clear hX2 d2 z0 y0 y1 y2 y3 y4
  go_wp2_with fail
  refine (CR.out _ c5w.out).mono ?_
  rintro e w6 ⟨⟨a6, n6, c6, rfl, hX6⟩, d6⟩
  have c6w : Hid (Below w.heap.size w w6) := bel_tr c5w.out d6
  rw [HRL.out] at hX6
  have HX6 : Hid (NL w6 a6 n6 (leftL xs p)) := hX6.nl
  have hn6p : n6 < n := by have h1 := hX6.len; have h2 := HLT.out; omega
  have hn6 : decide ((n6 : Int) < (n : Int)) = true := decide_eq_true (by omega)
  have hn6d : decide (n6 < n) = true := decide_eq_true hn6p
  clear hX6 d6
  go_wp2_with fail
  refine (CM.out _ c6w.out).mono ?_
  rintro e w7 ⟨⟨a7, n7, c7, rfl, hX7⟩, d7⟩
  have c7w : Hid (Below w.heap.size w w7) := bel_tr c6w.out d7
  have C67 : Hid (Below w6.heap.size w6 w7) := d7
  rw [HML.out] at hX7
  have HX7 : Hid (NL w7 a7 n7 (movL xs p to)) := hX7.nl
  have hn7p : n7 ≤ n := by have h1 := hX7.len; have h2 := HLE.out; omega
  have hn7 : decide ((n7 : Int) ≤ (n : Int)) = true := decide_eq_true (by omega)
  have hn7d : decide (n7 ≤ n) = true := decide_eq_true hn7p
  clear hX7 d7
  have C7 : Hid (Below w7.heap.size w7 w7) := Below.refl _ _
  go_wp2_with fail
  refine (right_val (HX6.out.below C67.out) true ⟨fun _ => HR6.out, fun _ => rfl⟩).mono ?_
  rintro e w8 ⟨rfl, c8⟩
  have c8w : Hid (Below w.heap.size w w8) := bel_tr c7w.out c8
  have C6x8 : Hid _ := bel_tr C67.out c8
  have C7x8 : Hid _ := bel_tr C7.out c8
  clear c8
  go_wp2_with fail
  refine (find_val (HX6.out.below C6x8.out) p (-1) HF6.out).mono ?_
  rintro e w9 ⟨rfl, c9⟩
  have c9w : Hid (Below w.heap.size w w9) := bel_tr c8w.out c9
  have C7x9 : Hid _ := bel_tr C7x8.out c9
  clear c9
  go_wp2_with fail
  refine (right_val (HX7.out.below C7x9.out) true ⟨fun _ => HR7.out, fun _ => rfl⟩).mono ?_
  rintro e w10 ⟨rfl, c10⟩
  have c10w : Hid (Below w.heap.size w w10) := bel_tr c9w.out c10
  have C7x10 : Hid _ := bel_tr C7x9.out c10
  clear c10
  go_wp2_with fail
  refine (find_val (HX7.out.below C7x10.out) to (ti : Int) HF7.out).mono ?_
  rintro e w11 ⟨rfl, c11⟩
  have c11w : Hid (Below w.heap.size w w11) := bel_tr c10w.out c11
  have C7x11 : Hid _ := bel_tr C7x10.out c11
  clear c11
  go_wp2_with fail
  refine (find_val (HX7.out.below C7x11.out) p (-1) HG7.out).mono ?_
  rintro e w12 ⟨rfl, c12⟩
  have c12w : Hid (Below w.heap.size w w12) := bel_tr c11w.out c12
  have C7x12 : Hid _ := bel_tr C7x11.out c12
  clear c12
  go_wp2
  go_ret
  exact ⟨rfl, c12w.out⟩

set_option maxRecDepth 100000 in
set_option maxHeartbeats 2000000 in
theorem core010 {a : Option Addr} {n c : Nat} {xs : NS} (x : NR) (p to : ByteArray) (hp : p.size ≤ maxLen) (ht : to.size ≤ maxLen) (w : World) (h : NL w a n xs) (hx : NdOk w x) (E1 E2 E3 : Int) (hE1 : AddE xs x.1 E1) (hE2 : RemE xs p E2) (hE3 : MovE xs p to E3) (h1 : E1 ≠ 0) (h2 : E2 = 0) (h3 : E3 ≠ 0) :
    Calls Try.prog 5 #[.slice a n c, ndV x, .string p, .string to] w fun e w' => e = .returned (.bool true) ∧ Below w.heap.size w w' := by
  have CA : Hid (∀ W, Below w.heap.size w W → Calls Try.prog 20 #[.slice a n c, ndV x] W fun e w' => TwoR W.heap.size (addL xs x.1 E1) E1 e w' ∧ Below W.heap.size W w') := fun W hb => add_val (h.below hb) x (hx.below hb) E1 hE1
  have CR : Hid (∀ W, Below w.heap.size w W → Calls Try.prog 24 #[.slice a n c, .string p] W fun e w' => TwoR W.heap.size (remL xs p E2) E2 e w' ∧ Below W.heap.size W w') := fun W hb => remove_val (h.below hb) p hp E2 hE2
  have CM : Hid (∀ W, Below w.heap.size w W → Calls Try.prog 26 #[.slice a n c, .string p, .string to] W fun e w' => TwoR W.heap.size (movA xs p to E3) E3 e w' ∧ Below W.heap.size W w') := fun W hb => move_tree (h.below hb) p to hp ht E3 hE3
  have HN : Hid (∀ W, Below w.heap.size w W → NL W a n xs) := fun W hb => h.below hb
  have HLEN : Hid (xs.length = n) := by obtain ⟨_, _, _, _, k2, _⟩ := h.ex; exact k2
  have hlid := h.lid
  unfold maxLen at hlid
  have HQ : Hid (x.1.path.size ≤ maxLen) := hx.small
  have h1b : (E1 == 0) = false := by simpa using h1
  subst h2
  obtain ⟨s1, s2, s3⟩ := removed hE2
  have HRL : Hid (remL xs p 0 = leftL xs p) := rfl
  have HR6 : Hid (Right (leftL xs p)) := s1
  have HLT : Hid ((leftL xs p).length < n) := by show _ < n; rw [← HLEN.out]; exact s2
  have HF6 : Hid (findI (leftL xs p) p = -1) := find_neg s3
  clear s1 s2 s3
  have h3b : (E3 != 0) = true := by simpa using h3
  have HP : Hid (p.size ≤ maxLen) := hp
  obtain ⟨⟨q, d, qu, bs, wr⟩, ⟨sa, sn, sc⟩⟩ := x
  have hst := run_store_str
  unfold ndV at *
  simp only at *
  clear h hx hE1 hE2 hE3 hp ht h1 h3
  go_enter Try.func5, Try.ntmps5
  go_wp2_with fail
  refine (examples_val _).mono ?_
  rintro e w1 ⟨rfl, c1⟩
  have c1w : Hid (Below w.heap.size w w1) := bel_tr (bel_al _ _) c1
  have y0 := bel_cell c1 (World.cell?_alloc_new w _ _ 0)
  have y1 := bel_cell c1 (World.cell?_alloc_new w _ _ 1)
  have y2 := bel_cell c1 (World.cell?_alloc_new w _ _ 2)
  have y3 := bel_cell c1 (World.cell?_alloc_new w _ _ 3)
  have y4 := bel_cell c1 (World.cell?_alloc_new w _ _ 4)
  have Y0 : Hid _ := y0
  clear c1
  go_wp2_with fail
  refine (CA.out _ c1w.out).mono ?_
  rintro e w2 ⟨⟨a2, n2, c2, rfl, hX2⟩, d2⟩
  have c2w : Hid (Below w.heap.size w w2) := bel_tr c1w.out d2
  have z0 := bel_cell d2 Y0.out
  have c5w : Hid (Below w.heap.size w w2) := c2w.out
  clear hX2 d2 z0 y0 y1 y2 y3 y4
  go_wp2_with fail
  refine (CR.out _ c5w.out).mono ?_
  rintro e w6 ⟨⟨a6, n6, c6, rfl, hX6⟩, d6⟩
  have c6w : Hid (Below w.heap.size w w6) := bel_tr c5w.out d6
  rw [HRL.out] at hX6
  have HX6 : Hid (NL w6 a6 n6 (leftL xs p)) := hX6.nl
  have hn6p : n6 < n := by have h1 := hX6.len; have h2 := HLT.out; omega
  have hn6 : decide ((n6 : Int) < (n : Int)) = true := decide_eq_true (by omega)
  have hn6d : decide (n6 < n) = true := decide_eq_true hn6p
  clear hX6 d6
  go_wp2_with fail
  refine (CM.out _ c6w.out).mono ?_
  rintro e w7 ⟨⟨a7, n7, c7, rfl, hX7⟩, d7⟩
  have c7w : Hid (Below w.heap.size w w7) := bel_tr c6w.out d7
  have C67 : Hid (Below w6.heap.size w6 w7) := d7
  clear hX7 d7
  have C7 : Hid (Below w7.heap.size w7 w7) := Below.refl _ _
  go_wp2_with fail
  refine (right_val (HX6.out.below C67.out) true ⟨fun _ => HR6.out, fun _ => rfl⟩).mono ?_
  rintro e w8 ⟨rfl, c8⟩
  have c8w : Hid (Below w.heap.size w w8) := bel_tr c7w.out c8
  have C6x8 : Hid _ := bel_tr C67.out c8
  have C7x8 : Hid _ := bel_tr C7.out c8
  clear c8
  go_wp2_with fail
  refine (find_val (HX6.out.below C6x8.out) p (-1) HF6.out).mono ?_
  rintro e w9 ⟨rfl, c9⟩
  have c9w : Hid (Below w.heap.size w w9) := bel_tr c8w.out c9
  have C7x9 : Hid _ := bel_tr C7x8.out c9
  clear c9
  go_wp2
  go_ret
  exact ⟨rfl, c9w.out⟩

set_option maxRecDepth 100000 in
set_option maxHeartbeats 2000000 in
theorem core001 {a : Option Addr} {n c : Nat} {xs : NS} (x : NR) (p to : ByteArray) (hp : p.size ≤ maxLen) (ht : to.size ≤ maxLen) (w : World) (h : NL w a n xs) (hx : NdOk w x) (E1 E2 E3 : Int) (hE1 : AddE xs x.1 E1) (hE2 : RemE xs p E2) (hE3 : MovE xs p to E3) (h1 : E1 ≠ 0) (h2 : E2 ≠ 0) (h3 : E3 = 0) :
    Calls Try.prog 5 #[.slice a n c, ndV x, .string p, .string to] w fun e w' => e = .returned (.bool true) ∧ Below w.heap.size w w' := by
  have CA : Hid (∀ W, Below w.heap.size w W → Calls Try.prog 20 #[.slice a n c, ndV x] W fun e w' => TwoR W.heap.size (addL xs x.1 E1) E1 e w' ∧ Below W.heap.size W w') := fun W hb => add_val (h.below hb) x (hx.below hb) E1 hE1
  have CR : Hid (∀ W, Below w.heap.size w W → Calls Try.prog 24 #[.slice a n c, .string p] W fun e w' => TwoR W.heap.size (remL xs p E2) E2 e w' ∧ Below W.heap.size W w') := fun W hb => remove_val (h.below hb) p hp E2 hE2
  have CM : Hid (∀ W, Below w.heap.size w W → Calls Try.prog 26 #[.slice a n c, .string p, .string to] W fun e w' => TwoR W.heap.size (movA xs p to E3) E3 e w' ∧ Below W.heap.size W w') := fun W hb => move_tree (h.below hb) p to hp ht E3 hE3
  have HN : Hid (∀ W, Below w.heap.size w W → NL W a n xs) := fun W hb => h.below hb
  have HLEN : Hid (xs.length = n) := by obtain ⟨_, _, _, _, k2, _⟩ := h.ex; exact k2
  have hlid := h.lid
  unfold maxLen at hlid
  have HQ : Hid (x.1.path.size ≤ maxLen) := hx.small
  have h1b : (E1 == 0) = false := by simpa using h1
  have h2b : (E2 != 0) = true := by simpa using h2
  subst h3
  obtain ⟨t1, t2, t3, t4⟩ := (mov_of hE3).tree
  obtain ⟨ti, t5, _⟩ := find_pos t2
  have HML : Hid (movA xs p to 0 = movL xs p to) := rfl
  have HR7 : Hid (Right (movL xs p to)) := t1
  have HLE : Hid ((movL xs p to).length ≤ n) := by show _ ≤ n; rw [← HLEN.out]; exact t4
  have HF7 : Hid (findI (movL xs p to) to = (ti : Int)) := t5
  have HG7 : Hid (findI (movL xs p to) p = -1) := find_neg t3
  clear t1 t2 t3 t4 t5
  have HP : Hid (p.size ≤ maxLen) := hp
  obtain ⟨⟨q, d, qu, bs, wr⟩, ⟨sa, sn, sc⟩⟩ := x
  have hst := run_store_str
  unfold ndV at *
  simp only at *
  clear h hx hE1 hE2 hE3 hp ht h1 h2
  go_enter Try.func5, Try.ntmps5
  go_wp2_with fail
  refine (examples_val _).mono ?_
  rintro e w1 ⟨rfl, c1⟩
  have c1w : Hid (Below w.heap.size w w1) := bel_tr (bel_al _ _) c1
  have y0 := bel_cell c1 (World.cell?_alloc_new w _ _ 0)
  have y1 := bel_cell c1 (World.cell?_alloc_new w _ _ 1)
  have y2 := bel_cell c1 (World.cell?_alloc_new w _ _ 2)
  have y3 := bel_cell c1 (World.cell?_alloc_new w _ _ 3)
  have y4 := bel_cell c1 (World.cell?_alloc_new w _ _ 4)
  have Y0 : Hid _ := y0
  clear c1
  go_wp2_with fail
  refine (CA.out _ c1w.out).mono ?_
  rintro e w2 ⟨⟨a2, n2, c2, rfl, hX2⟩, d2⟩
  have c2w : Hid (Below w.heap.size w w2) := bel_tr c1w.out d2
  have z0 := bel_cell d2 Y0.out
  have c5w : Hid (Below w.heap.size w w2) := c2w.out
  clear hX2 d2 z0 y0 y1 y2 y3 y4
  go_wp2_with fail
  refine (CR.out _ c5w.out).mono ?_
  rintro e w6 ⟨⟨a6, n6, c6, rfl, hX6⟩, d6⟩
  have c6w : Hid (Below w.heap.size w w6) := bel_tr c5w.out d6
  clear hX6 d6
  go_wp2_with fail
  refine (CM.out _ c6w.out).mono ?_
  rintro e w7 ⟨⟨a7, n7, c7, rfl, hX7⟩, d7⟩
  have c7w : Hid (Below w.heap.size w w7) := bel_tr c6w.out d7
  rw [HML.out] at hX7
  have HX7 : Hid (NL w7 a7 n7 (movL xs p to)) := hX7.nl
  have hn7p : n7 ≤ n := by have h1 := hX7.len; have h2 := HLE.out; omega
  have hn7 : decide ((n7 : Int) ≤ (n : Int)) = true := decide_eq_true (by omega)
  have hn7d : decide (n7 ≤ n) = true := decide_eq_true hn7p
  clear hX7 d7
  have C7x7 : Hid (Below w7.heap.size w7 w7) := Below.refl _ _
  go_wp2_with fail
  refine (right_val (HX7.out.below C7x7.out) true ⟨fun _ => HR7.out, fun _ => rfl⟩).mono ?_
  rintro e w8 ⟨rfl, c8⟩
  have c8w : Hid (Below w.heap.size w w8) := bel_tr c7w.out c8
  have C7x8 : Hid _ := bel_tr C7x7.out c8
  clear c8
  go_wp2_with fail
  refine (find_val (HX7.out.below C7x8.out) to (ti : Int) HF7.out).mono ?_
  rintro e w9 ⟨rfl, c9⟩
  have c9w : Hid (Below w.heap.size w w9) := bel_tr c8w.out c9
  have C7x9 : Hid _ := bel_tr C7x8.out c9
  clear c9
  go_wp2_with fail
  refine (find_val (HX7.out.below C7x9.out) p (-1) HG7.out).mono ?_
  rintro e w10 ⟨rfl, c10⟩
  have c10w : Hid (Below w.heap.size w w10) := bel_tr c9w.out c10
  have C7x10 : Hid _ := bel_tr C7x9.out c10
  clear c10
  go_wp2
  go_ret
  exact ⟨rfl, c10w.out⟩

set_option maxRecDepth 100000 in
set_option maxHeartbeats 2000000 in
theorem core000 {a : Option Addr} {n c : Nat} {xs : NS} (x : NR) (p to : ByteArray) (hp : p.size ≤ maxLen) (ht : to.size ≤ maxLen) (w : World) (h : NL w a n xs) (hx : NdOk w x) (E1 E2 E3 : Int) (hE1 : AddE xs x.1 E1) (hE2 : RemE xs p E2) (hE3 : MovE xs p to E3) (h1 : E1 ≠ 0) (h2 : E2 ≠ 0) (h3 : E3 ≠ 0) :
    Calls Try.prog 5 #[.slice a n c, ndV x, .string p, .string to] w fun e w' => e = .returned (.bool true) ∧ Below w.heap.size w w' := by
  have CA : Hid (∀ W, Below w.heap.size w W → Calls Try.prog 20 #[.slice a n c, ndV x] W fun e w' => TwoR W.heap.size (addL xs x.1 E1) E1 e w' ∧ Below W.heap.size W w') := fun W hb => add_val (h.below hb) x (hx.below hb) E1 hE1
  have CR : Hid (∀ W, Below w.heap.size w W → Calls Try.prog 24 #[.slice a n c, .string p] W fun e w' => TwoR W.heap.size (remL xs p E2) E2 e w' ∧ Below W.heap.size W w') := fun W hb => remove_val (h.below hb) p hp E2 hE2
  have CM : Hid (∀ W, Below w.heap.size w W → Calls Try.prog 26 #[.slice a n c, .string p, .string to] W fun e w' => TwoR W.heap.size (movA xs p to E3) E3 e w' ∧ Below W.heap.size W w') := fun W hb => move_tree (h.below hb) p to hp ht E3 hE3
  have HN : Hid (∀ W, Below w.heap.size w W → NL W a n xs) := fun W hb => h.below hb
  have HLEN : Hid (xs.length = n) := by obtain ⟨_, _, _, _, k2, _⟩ := h.ex; exact k2
  have hlid := h.lid
  unfold maxLen at hlid
  have HQ : Hid (x.1.path.size ≤ maxLen) := hx.small
  have h1b : (E1 == 0) = false := by simpa using h1
  have h2b : (E2 != 0) = true := by simpa using h2
  have h3b : (E3 != 0) = true := by simpa using h3
  have HP : Hid (p.size ≤ maxLen) := hp
  obtain ⟨⟨q, d, qu, bs, wr⟩, ⟨sa, sn, sc⟩⟩ := x
  have hst := run_store_str
  unfold ndV at *
  simp only at *
  clear h hx hE1 hE2 hE3 hp ht h1 h2 h3
  go_enter Try.func5, Try.ntmps5
  go_wp2_with fail
  refine (examples_val _).mono ?_
  rintro e w1 ⟨rfl, c1⟩
  have c1w : Hid (Below w.heap.size w w1) := bel_tr (bel_al _ _) c1
  have y0 := bel_cell c1 (World.cell?_alloc_new w _ _ 0)
  have y1 := bel_cell c1 (World.cell?_alloc_new w _ _ 1)
  have y2 := bel_cell c1 (World.cell?_alloc_new w _ _ 2)
  have y3 := bel_cell c1 (World.cell?_alloc_new w _ _ 3)
  have y4 := bel_cell c1 (World.cell?_alloc_new w _ _ 4)
  have Y0 : Hid _ := y0
  clear c1
  go_wp2_with fail
  refine (CA.out _ c1w.out).mono ?_
  rintro e w2 ⟨⟨a2, n2, c2, rfl, hX2⟩, d2⟩
  have c2w : Hid (Below w.heap.size w w2) := bel_tr c1w.out d2
  have z0 := bel_cell d2 Y0.out
  have c5w : Hid (Below w.heap.size w w2) := c2w.out
  clear hX2 d2 z0 y0 y1 y2 y3 y4
  go_wp2_with fail
  refine (CR.out _ c5w.out).mono ?_
  rintro e w6 ⟨⟨a6, n6, c6, rfl, hX6⟩, d6⟩
  have c6w : Hid (Below w.heap.size w w6) := bel_tr c5w.out d6
  clear hX6 d6
  go_wp2_with fail
  refine (CM.out _ c6w.out).mono ?_
  rintro e w7 ⟨⟨a7, n7, c7, rfl, hX7⟩, d7⟩
  have c7w : Hid (Below w.heap.size w w7) := bel_tr c6w.out d7
  clear hX7 d7
  have C7x7 : Hid (Below w7.heap.size w7 w7) := Below.refl _ _
  go_wp2
  go_ret
  exact ⟨rfl, c7w.out⟩

theorem walk (a0 : Option Addr) (b0 off0 cap0 : Nat) (ss0 : List NR) (a1 : NR) (a2 a3 : ByteArray) (W : World) (h0 : Nds W a0 b0 off0 ss0) (h1 : NdOk W a1) (h2 : a2.size ≤ maxLen) (h3 : a3.size ≤ maxLen) :
    Calls Try.prog 5 #[.slice a0 (ss0.map (·.1)).length cap0, ndV a1, .string a2, .string a3] W fun e w' => e = .returned (.bool true) ∧ Below W.heap.size W w' := by
  have hN : NL W a0 (ss0.map (·.1)).length (ss0.map (·.1)) := ⟨b0, off0, ss0, rfl, rfl, h0⟩
  obtain ⟨E1, hE1⟩ := addE_any (ss0.map (·.1)) a1.1
  obtain ⟨E2, hE2⟩ := remE_any (ss0.map (·.1)) a2
  obtain ⟨E3, hE3⟩ := movE_any (ss0.map (·.1)) a2 a3
  by_cases e1 : E1 = 0 <;> by_cases e2 : E2 = 0 <;> by_cases e3 : E3 = 0
  · exact core111 a1 a2 a3 h2 h3 W hN h1 E1 E2 E3 hE1 hE2 hE3 e1 e2 e3
  · exact core110 a1 a2 a3 h2 h3 W hN h1 E1 E2 E3 hE1 hE2 hE3 e1 e2 e3
  · exact core101 a1 a2 a3 h2 h3 W hN h1 E1 E2 E3 hE1 hE2 hE3 e1 e2 e3
  · exact core100 a1 a2 a3 h2 h3 W hN h1 E1 E2 E3 hE1 hE2 hE3 e1 e2 e3
  · exact core011 a1 a2 a3 h2 h3 W hN h1 E1 E2 E3 hE1 hE2 hE3 e1 e2 e3
  · exact core010 a1 a2 a3 h2 h3 W hN h1 E1 E2 E3 hE1 hE2 hE3 e1 e2 e3
  · exact core001 a1 a2 a3 h2 h3 W hN h1 E1 E2 E3 hE1 hE2 hE3 e1 e2 e3
  · exact core000 a1 a2 a3 h2 h3 W hN h1 E1 E2 E3 hE1 hE2 hE3 e1 e2 e3

set_option maxRecDepth 100000 in
theorem lifted (os : Os) (started : os.Started) (H : Type) (enc : TypeId × Value → H) :
    ReturnsInHanded {} Try.checked os 5 .any (Rows.treeStaysSpec.pre6 enc Try.prog Try.f5 Rows.treeStaysRow.domain false) (Rows.treeStaysSpec.post enc Try.prog Try.f5 false true false false) := by
  refine returnsInHanded_of_change (C := Try.checked) own started (by kernel_rfl) Try.func5
    (ChangeSpec.witness6 (enc := enc) (C := Try.checked) false ⟨#[], #[.slice none 0 0, .agg #[.string ByteArray.empty, .bool false, .int .i64 0, .slice none 0 0, .int .i64 0], .string ByteArray.empty, .string ByteArray.empty], []⟩ 8 (by kernel_rfl) (by kernel_rfl) (by kernel_rfl) (by kernel_rfl)) ?_
  intro W base args ds gs before hval0 hW hcnd _
  have hval : ∀ (j : Nat) t v, Try.f5.params[j]? = some t → args[j]? = some v → Value.okWide Try.prog W .any base t v := hval0
  have hW' := hW
  obtain ⟨p, q, hA0, hV, rfl, hfz, hnd⟩ := hW
  have hA : DataW.TrodAll enc Try.prog W 0 (fun _ => true) true Try.f5.params.toList args.toList ds p := hA0
  rw [Try.params5] at hA hval
  obtain ⟨v0, vs0, d0, ds0, p0, q0, hargs, rfl, rfl, h0, r0⟩ := trodAll_cons hA
  obtain ⟨v1, vs1, d1, ds1, p1, q1, rfl, rfl, rfl, h1, r1⟩ := trodAll_cons r0
  obtain ⟨v2, vs2, d2, ds2, p2, q2, rfl, rfl, rfl, h2, r2⟩ := trodAll_cons r1
  obtain ⟨v3, vs3, d3, ds3, p3, q3, rfl, rfl, rfl, h3, r3⟩ := trodAll_cons r2
  obtain ⟨rfl, rfl, rfl⟩ := trodAll_nil r3
  obtain rfl : args = #[v0, v1, v2, v3] := by cases args; simp_all
  obtain ⟨rfl, rfl⟩ := trodVars_none hV
  obtain ⟨a0, len0, cap0, rfl⟩ := okWide_slice Try.underlying22 (hval 0 22 v0 rfl rfl)
  have k0 := h0
  have lt0 : ∀ x ∈ p0, x.block < W.heap.size := by obtain ⟨m, hm⟩ := k0; exact DataW.trod_lt m _ _ _ hm
  obtain ⟨b0, off0, ss0, rfl, w0, n0⟩ := open_nodes h0
  have k1 := h1
  have lt1 : ∀ x ∈ p1, x.block < W.heap.size := by obtain ⟨m, hm⟩ := k1; exact DataW.trod_lt m _ _ _ hm
  obtain ⟨a1, rfl, w1, n1⟩ := open_node (hval 1 25 v1 rfl rfl) h1
  obtain ⟨a2, rfl, rfl, rfl, w2⟩ := open_string Try.underlying9 (hval 2 9 v2 rfl rfl) h2
  obtain ⟨a3, rfl, rfl, rfl, w3⟩ := open_string Try.underlying9 (hval 3 9 v3 rfl rfl) h3
  clear hA0 hval0
  refine (walk a0 b0 off0 cap0 ss0 a1 a2 a3 W w0 w1 w2 w3).mono fun e W' ⟨he, bel⟩ => ?_
  subst he
  exact ⟨_, rfl, _, _, _, [], _, [], hW', trodAll_mk1 (shut_bool Try.underlying4 _), (trodAll_cons_mk (Below.trod laidOut (by kernel_rfl) (of_decide_eq_true (by kernel_rfl)) k0 bel lt0) (trodAll_cons_mk (Below.trod laidOut (by kernel_rfl) (of_decide_eq_true (by kernel_rfl)) k1 bel lt1) (trodAll_cons_mk (shut_string Try.underlying9 w2) (trodAll_cons_mk (shut_string Try.underlying9 w3) trodAll_mk0)))), rfl, bel.frame _, fun h => by cases h⟩

theorem over : Rows.treeStaysRow.holds Try.pinned (OpenSpec.ofChange Rows.treeStaysSpec) :=
  OpenClaim.holds_of_wide 5 Try.f5 rfl rfl rfl rfl rfl rfl rfl ⟨rfl, rfl, rfl, rfl, rfl⟩ rfl rfl rfl rfl rfl (by kernel_rfl) Try.func5 (by kernel_rfl)
    (of_decide_eq_true (by kernel_rfl)) (by unfold Func.isWrapper; first | (rw [if_pos (by decide +kernel)]; kernel_rfl) | (rw [if_neg (by decide +kernel)]; exact ⟨rfl, rfl⟩))
    (fun os started H enc _ => lifted os started H enc)
end Go.Proofs.Ytdcmhbodjmajcaa.treeStays

namespace Go.Proofs.Ytdcmhbodjmajcaa
/-- The statement. -/
theorem treeStays_holds : Rows.TreeStaysSaid := treeStays.over
#print axioms treeStays_holds
end Go.Proofs.Ytdcmhbodjmajcaa
