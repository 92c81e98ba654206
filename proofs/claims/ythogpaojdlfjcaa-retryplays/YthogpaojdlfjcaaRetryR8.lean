/- The contract of tabulariumref13.Put: a call that is there, with another edit. -/
import Derived.Test.YthogpaojdlfjcaaRetryR6
namespace Go.Proofs.Ythogpaojdlfjcaa.Rty
open Go.RowKit Go.Proofs.Ythogpaojdlfjcaa Go.Proofs.Ythogpaojdlfjcaa.Edi
set_option linter.unusedVariables false

set_option maxRecDepth 100000 in
set_option maxHeartbeats 16000000 in
theorem refPut_state {w0 : World} {O : Nat → Prop} {w : World} {xb : Nat} {R : List Rc} (h : RAt w0 O w xb R) (hle : R.length ≤ 20) (hb0 : Below w0.heap.size w0 w) {e : Ed} {a : Option Addr} {m q : Nat} (hr : Rt e) {x : Ans} {s : Sls} (he : Nm w0 a m e.ls ∧ AnIn (fun b => b < w0.heap.size) w0 x s) {i : Nat} (hi : i < R.length) (hwh : Where R e.c e.l (i : Int)) (hv0 : ¬ R[i].ed = e) :
    Calls Try.prog 8 #[.pointer (some ⟨xb, 0, none⟩), .int .i64 e.c, .int .i64 e.l, edV e a m q, anV x s] w fun y w' => y = .returned (.int .i64 14) ∧ Below w.heap.size w w' := by
  have hv : false = true ↔ R[i].ed = e := ⟨fun h => (by cases h), fun h => absurd h hv0⟩
  clear hv0
  obtain ⟨ti, hi1, hi2, hi3, hi4⟩ := info_c
  have CR : Hid (∀ W, Below w.heap.size w W → Calls Try.prog 18 #[edV e a m q] W fun y w' => y = .returned (.bool true) ∧ Below W.heap.size W w') := fun W hb => refRight_val ((he.1.below hb0).below hb) true ⟨fun _ => hr, fun _ => rfl⟩
  have HA : Hid (∀ W, Below w.heap.size w W → Calls Try.prog 19 #[.pointer (some ⟨xb, 0, none⟩), .int .i64 e.c, .int .i64 e.l] W fun e w' => e = .returned (.int .i64 (i : Int)) ∧ w' = W) := fun W hb => at_val (h.below hb) e.c e.l (i : Int) hwh
  have HEACH := h.each R[i] (List.getElem_mem hi)
  have CS : Hid (∀ W, Below w.heap.size w W → Calls Try.prog 20 #[edV R[i].ed R[i].a R[i].m R[i].q, edV e a m q] W fun x w' => x = .returned (.bool false) ∧ Below W.heap.size W w') := fun W hb => refSame_val ((HEACH.1.below hb0).below hb) ((he.1.below hb0).below hb) false hv
  obtain ⟨g, off, cc, h1, h2, h3, h4⟩ := h.at (by omega)
  have h4i := h4 i hi
  have HH : Hid (RAt w0 O w xb R) := h
  have HE : Hid (Nm w0 a m e.ls ∧ AnIn (fun b => b < w0.heap.size) w0 x s) := he
  obtain ⟨N, hN⟩ : ∃ N, R.length = N := ⟨_, rfl⟩
  rw [hN] at h1 h2 hle
  have hiN : i < N := by rw [← hN]; exact hi
  have HN : Hid (R.length = N) := hN
  have HI : Hid (i < R.length) := hi
  clear h hb0 he hwh hr HEACH h4 hv hN
  generalize R[i] = r at *
  obtain ⟨⟨rk, rp, rt, rc, rl, rn, rls⟩, ra, rm, rq, rx, rs⟩ := r
  obtain ⟨k0, p, t0, c, k, n, ls⟩ := e
  obtain ⟨err, ⟨b1, b2, b3⟩, names, path, dir, quota, blocks, writer, nn⟩ := x
  obtain ⟨x1, y1, x2, y2⟩ := s
  unfold rcC at h4i
  unfold edV at CR CS ⊢
  unfold anV
  simp only at CR CS HA HE h4i ⊢
  obtain ⟨n1, hn1⟩ : ∃ N, names.length = N := ⟨_, rfl⟩
  obtain ⟨n2, hn2⟩ : ∃ N, blocks.length = N := ⟨_, rfl⟩
  rw [hn1, hn2]
  have HN1 : Hid (names.length = n1) := hn1
  have HN2 : Hid (blocks.length = n2) := hn2
  have H4w : Hid (∀ (j : Nat) (u : Value), j < 7 → [.int .i64 rk, .string rp, .string rt, .int .i64 rc, .int .i64 rl, .int .i64 rn, .slice ra rm rq][j]? = some u → w.cell? ⟨g, off + i * 18 + j, none⟩ = some u) := fun j u hj hu => h4i j u (by
    match j, hj with
    | 0, _ => exact hu
    | 1, _ => exact hu
    | 2, _ => exact hu
    | 3, _ => exact hu
    | 4, _ => exact hu
    | 5, _ => exact hu
    | 6, _ => exact hu)
  have H1w : Hid (w.cell? ⟨xb, 0, none⟩ = some (.slice (some ⟨g, off, none⟩) N cc)) := h1
  clear hn1 hn2 h4i h1 hi
  have KE : Hid (Cells ((w.alloc (.cells #[.int .i64 k0, .string p, .string t0, .int .i64 c, .int .i64 k, .int .i64 n, .slice a m q] 32)).alloc (.cells #[.int .i64 err, .int .i64 b1, .int .i64 b2, .int .i64 b3, .slice x1 n1 y1, .string path, .bool dir, .int .i64 quota, .slice x2 n2 y2, .int .i64 writer, .int .i64 nn] 41)) w.heap.size [.int .i64 k0, .string p, .string t0, .int .i64 c, .int .i64 k, .int .i64 n, .slice a m q]) := (Cells.new _ _ _).below (bel_al _ _)
  have KX : Hid (Cells ((w.alloc (.cells #[.int .i64 k0, .string p, .string t0, .int .i64 c, .int .i64 k, .int .i64 n, .slice a m q] 32)).alloc (.cells #[.int .i64 err, .int .i64 b1, .int .i64 b2, .int .i64 b3, .slice x1 n1 y1, .string path, .bool dir, .int .i64 quota, .slice x2 n2 y2, .int .i64 writer, .int .i64 nn] 41)) (w.heap.size + 1) [.int .i64 err, .int .i64 b1, .int .i64 b2, .int .i64 b3, .slice x1 n1 y1, .string path, .bool dir, .int .i64 quota, .slice x2 n2 y2, .int .i64 writer, .int .i64 nn]) := cells2 _ _ _ _
  go_enter Try.func8, Try.ntmps8
  go_wp2_with fail
  refine (CR.out _ (bel_tr (bel_al _ _) (bel_al _ _))).mono ?_
  rintro y w3 ⟨rfl, b3'⟩
  have B3 : Hid (Below w.heap.size w w3) := bel_tr (bel_tr (bel_al _ _) (bel_al _ _)) b3'
  have KE3 : Hid (Cells w3 w.heap.size [.int .i64 k0, .string p, .string t0, .int .i64 c, .int .i64 k, .int .i64 n, .slice a m q]) := KE.out.below b3'
  have KX3 : Hid (Cells w3 (w.heap.size + 1) [.int .i64 err, .int .i64 b1, .int .i64 b2, .int .i64 b3, .slice x1 n1 y1, .string path, .bool dir, .int .i64 quota, .slice x2 n2 y2, .int .i64 writer, .int .i64 nn]) := KX.out.below b3'
  clear b3' KE KX CR
  have e3_3 := KE3.out.val 3 _ rfl
  have e3_4 := KE3.out.val 4 _ rfl
  have H1 : Hid (w3.cell? ⟨xb, 0, none⟩ = some (.slice (some ⟨g, off, none⟩) N cc)) := bel_cell B3.out H1w.out
  have H4 : Hid (∀ (j : Nat) (u : Value), [.int .i64 rk, .string rp, .string rt, .int .i64 rc, .int .i64 rl, .int .i64 rn, .slice ra rm rq][j]? = some u → w3.cell? ⟨g, off + i * 18 + j, none⟩ = some u) := fun j u hu => bel_cell B3.out (H4w.out j u (by have := (List.getElem?_eq_some_iff.1 hu).1; simpa using this) hu)
  go_wp2_with (go_at_call 19; refine (HA.out _ B3.out).mono ?_; rintro y w4 ⟨rfl, h4⟩; obtain rfl : w3 = w4 := h4.symm)
  have HS0 : Hid (∀ W, Below w3.heap.size w3 W → W.cell? ⟨xb, 0, none⟩ = some (.slice (some ⟨g, off, none⟩) N cc) ∧ W.cell? ⟨g, off + i * 18, none⟩ = some (.int .i64 rk) ∧ W.cell? ⟨g, off + i * 18 + 1, none⟩ = some (.string rp) ∧ W.cell? ⟨g, off + i * 18 + 2, none⟩ = some (.string rt) ∧ W.cell? ⟨g, off + i * 18 + 3, none⟩ = some (.int .i64 rc) ∧ W.cell? ⟨g, off + i * 18 + 4, none⟩ = some (.int .i64 rl) ∧ W.cell? ⟨g, off + i * 18 + 5, none⟩ = some (.int .i64 rn) ∧ W.cell? ⟨g, off + i * 18 + 6, none⟩ = some (.slice ra rm rq) ∧ W.cell? ⟨w.heap.size, 0, none⟩ = some (.int .i64 k0) ∧ W.cell? ⟨w.heap.size, 1, none⟩ = some (.string p) ∧ W.cell? ⟨w.heap.size, 2, none⟩ = some (.string t0) ∧ W.cell? ⟨w.heap.size, 3, none⟩ = some (.int .i64 c) ∧ W.cell? ⟨w.heap.size, 4, none⟩ = some (.int .i64 k) ∧ W.cell? ⟨w.heap.size, 5, none⟩ = some (.int .i64 n) ∧ W.cell? ⟨w.heap.size, 6, none⟩ = some (.slice a m q)) := fun W hW => ⟨bel_cell hW H1.out, bel_cell hW (H4.out 0 _ rfl), bel_cell hW (H4.out 1 _ rfl), bel_cell hW (H4.out 2 _ rfl), bel_cell hW (H4.out 3 _ rfl), bel_cell hW (H4.out 4 _ rfl), bel_cell hW (H4.out 5 _ rfl), bel_cell hW (H4.out 6 _ rfl), bel_cell hW (KE3.out.val 0 _ rfl), bel_cell hW (KE3.out.val 1 _ rfl), bel_cell hW (KE3.out.val 2 _ rfl), bel_cell hW (KE3.out.val 3 _ rfl), bel_cell hW (KE3.out.val 4 _ rfl), bel_cell hW (KE3.out.val 5 _ rfl), bel_cell hW (KE3.out.val 6 _ rfl)⟩
  have M1 : Hid True := trivial
  clear e3_3 e3_4
  go_region_held3 (fun w' => w'.cell? ⟨xb, 0, none⟩ = some (.slice (some ⟨g, off, none⟩) N cc) ∧ w'.cell? ⟨g, off + i * 18, none⟩ = some (.int .i64 rk) ∧ w'.cell? ⟨g, off + i * 18 + 1, none⟩ = some (.string rp) ∧ w'.cell? ⟨g, off + i * 18 + 2, none⟩ = some (.string rt) ∧ w'.cell? ⟨g, off + i * 18 + 3, none⟩ = some (.int .i64 rc) ∧ w'.cell? ⟨g, off + i * 18 + 4, none⟩ = some (.int .i64 rl) ∧ w'.cell? ⟨g, off + i * 18 + 5, none⟩ = some (.int .i64 rn) ∧ w'.cell? ⟨g, off + i * 18 + 6, none⟩ = some (.slice ra rm rq) ∧ w'.cell? ⟨w.heap.size, 0, none⟩ = some (.int .i64 k0) ∧ w'.cell? ⟨w.heap.size, 1, none⟩ = some (.string p) ∧ w'.cell? ⟨w.heap.size, 2, none⟩ = some (.string t0) ∧ w'.cell? ⟨w.heap.size, 3, none⟩ = some (.int .i64 c) ∧ w'.cell? ⟨w.heap.size, 4, none⟩ = some (.int .i64 k) ∧ w'.cell? ⟨w.heap.size, 5, none⟩ = some (.int .i64 n) ∧ w'.cell? ⟨w.heap.size, 6, none⟩ = some (.slice a m q))
    (first | exact HS0.out _ (bel_drew _) | exact HS0.out _ BB4.out)
    (first
      | (go_at_call 20; have m1 := M1.out; refine (CS.out _ (bel_tr B3.out (bel_drew _))).mono ?_; rintro y w5 ⟨rfl, b5'⟩; have BB4 : Hid (Below w3.heap.size w3 w5) := bel_tr (bel_drew _) b5'; clear b5' m1 M1))
  all_goals
    have B5 : Hid (Below w.heap.size w w5) := bel_tr B3.out BB4.out
    clear HS0 CS HA
    go_wp2
    go_ret
    exact ⟨rfl, B5.out⟩

end Go.Proofs.Ythogpaojdlfjcaa.Rty
