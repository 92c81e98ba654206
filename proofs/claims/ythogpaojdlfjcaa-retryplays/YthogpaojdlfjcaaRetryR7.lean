/- The contract of tabulariumref13.Put: a call that is there. -/
import Derived.Test.YthogpaojdlfjcaaRetryR6
import Derived.Deep.Cut
namespace Go.Proofs.Ythogpaojdlfjcaa.Rty
open Go.RowKit Go.Proofs.Ythogpaojdlfjcaa Go.Proofs.Ythogpaojdlfjcaa.Edi
set_option linter.unusedVariables false

set_option maxRecDepth 100000 in
set_option maxHeartbeats 16000000 in
theorem refPut_again {w0 : World} {O : Nat → Prop} {w : World} {xb : Nat} {R : List Rc} (h : RAt w0 O w xb R) (hle : R.length ≤ 20) (hb0 : Below w0.heap.size w0 w) {e : Ed} {a : Option Addr} {m q : Nat} (hr : Rt e) {x : Ans} {s : Sls} (he : Nm w0 a m e.ls ∧ AnIn (fun b => b < w0.heap.size) w0 x s) {i : Nat} (hi : i < R.length) (hwh : Where R e.c e.l (i : Int)) (hv0 : R[i].ed = e) :
    Calls Try.prog 8 #[.pointer (some ⟨xb, 0, none⟩), .int .i64 e.c, .int .i64 e.l, edV e a m q, anV x s] w fun y w' => y = .returned (.int .i64 0) ∧ RPutR w0 O w xb ((R.take i ++ R.drop (i + 1)) ++ [⟨e, a, m, q, x, s⟩]) w' := by
  have hv : true = true ↔ R[i].ed = e := ⟨fun _ => hv0, fun _ => rfl⟩
  clear hv0
  obtain ⟨ti, hi1, hi2, hi3, hi4⟩ := info_c
  have CR : Hid (∀ W, Below w.heap.size w W → Calls Try.prog 18 #[edV e a m q] W fun y w' => y = .returned (.bool true) ∧ Below W.heap.size W w') := fun W hb => refRight_val ((he.1.below hb0).below hb) true ⟨fun _ => hr, fun _ => rfl⟩
  have HA : Hid (∀ W, Below w.heap.size w W → Calls Try.prog 19 #[.pointer (some ⟨xb, 0, none⟩), .int .i64 e.c, .int .i64 e.l] W fun e w' => e = .returned (.int .i64 (i : Int)) ∧ w' = W) := fun W hb => at_val (h.below hb) e.c e.l (i : Int) hwh
  have HEACH := h.each R[i] (List.getElem_mem hi)
  have CS : Hid (∀ W, Below w.heap.size w W → Calls Try.prog 20 #[edV R[i].ed R[i].a R[i].m R[i].q, edV e a m q] W fun x w' => x = .returned (.bool true) ∧ Below W.heap.size W w') := fun W hb => refSame_val ((HEACH.1.below hb0).below hb) ((he.1.below hb0).below hb) true hv
  obtain ⟨g, off, cc, h1, h2, h3, h4⟩ := h.at (by omega)
  have h4i := h4 i hi
  have HH : Hid (RAt w0 O w xb R) := h
  have HE : Hid (Nm w0 a m e.ls ∧ AnIn (fun b => b < w0.heap.size) w0 x s) := he
  obtain ⟨N, hN⟩ : ∃ N, R.length = N := ⟨_, rfl⟩
  rw [hN] at h1 h2 hle
  have hiN : i < N := by rw [← hN]; exact hi
  have HN : Hid (R.length = N) := hN
  have HI : Hid (i < R.length) := hi
  clear h hb0 he hwh hr HEACH h4 hv hN
  generalize R[i] = r at *
  obtain ⟨⟨rk, rp, rt, rc, rl, rn, rls⟩, ra, rm, rq, rx, rs⟩ := r
  obtain ⟨k0, p, t0, c, k, n, ls⟩ := e
  obtain ⟨err, ⟨b1, b2, b3⟩, names, path, dir, quota, blocks, writer, nn⟩ := x
  obtain ⟨x1, y1, x2, y2⟩ := s
  unfold rcC at h4i
  unfold edV at CR CS ⊢
  unfold anV
  simp only at CR CS HA HE h4i ⊢
  obtain ⟨n1, hn1⟩ : ∃ N, names.length = N := ⟨_, rfl⟩
  obtain ⟨n2, hn2⟩ : ∃ N, blocks.length = N := ⟨_, rfl⟩
  rw [hn1, hn2]
  have HN1 : Hid (names.length = n1) := hn1
  have HN2 : Hid (blocks.length = n2) := hn2
  have H4w : Hid (∀ (j : Nat) (u : Value), j < 7 → [.int .i64 rk, .string rp, .string rt, .int .i64 rc, .int .i64 rl, .int .i64 rn, .slice ra rm rq][j]? = some u → w.cell? ⟨g, off + i * 18 + j, none⟩ = some u) := fun j u hj hu => h4i j u (by
    match j, hj with
    | 0, _ => exact hu
    | 1, _ => exact hu
    | 2, _ => exact hu
    | 3, _ => exact hu
    | 4, _ => exact hu
    | 5, _ => exact hu
    | 6, _ => exact hu)
  have H1w : Hid (w.cell? ⟨xb, 0, none⟩ = some (.slice (some ⟨g, off, none⟩) N cc)) := h1
  clear hn1 hn2 h4i h1 hi
  have KE : Hid (Cells ((w.alloc (.cells #[.int .i64 k0, .string p, .string t0, .int .i64 c, .int .i64 k, .int .i64 n, .slice a m q] 32)).alloc (.cells #[.int .i64 err, .int .i64 b1, .int .i64 b2, .int .i64 b3, .slice x1 n1 y1, .string path, .bool dir, .int .i64 quota, .slice x2 n2 y2, .int .i64 writer, .int .i64 nn] 41)) w.heap.size [.int .i64 k0, .string p, .string t0, .int .i64 c, .int .i64 k, .int .i64 n, .slice a m q]) := (Cells.new _ _ _).below (bel_al _ _)
  have KX : Hid (Cells ((w.alloc (.cells #[.int .i64 k0, .string p, .string t0, .int .i64 c, .int .i64 k, .int .i64 n, .slice a m q] 32)).alloc (.cells #[.int .i64 err, .int .i64 b1, .int .i64 b2, .int .i64 b3, .slice x1 n1 y1, .string path, .bool dir, .int .i64 quota, .slice x2 n2 y2, .int .i64 writer, .int .i64 nn] 41)) (w.heap.size + 1) [.int .i64 err, .int .i64 b1, .int .i64 b2, .int .i64 b3, .slice x1 n1 y1, .string path, .bool dir, .int .i64 quota, .slice x2 n2 y2, .int .i64 writer, .int .i64 nn]) := cells2 _ _ _ _
  go_enter Try.func8, Try.ntmps8
  go_wp2_with fail
  refine (CR.out _ (bel_tr (bel_al _ _) (bel_al _ _))).mono ?_
  rintro y w3 ⟨rfl, b3'⟩
  have B3 : Hid (Below w.heap.size w w3) := bel_tr (bel_tr (bel_al _ _) (bel_al _ _)) b3'
  have KE3 : Hid (Cells w3 w.heap.size [.int .i64 k0, .string p, .string t0, .int .i64 c, .int .i64 k, .int .i64 n, .slice a m q]) := KE.out.below b3'
  have KX3 : Hid (Cells w3 (w.heap.size + 1) [.int .i64 err, .int .i64 b1, .int .i64 b2, .int .i64 b3, .slice x1 n1 y1, .string path, .bool dir, .int .i64 quota, .slice x2 n2 y2, .int .i64 writer, .int .i64 nn]) := KX.out.below b3'
  clear b3' KE KX CR
  have e3_3 := KE3.out.val 3 _ rfl
  have e3_4 := KE3.out.val 4 _ rfl
  have H1 : Hid (w3.cell? ⟨xb, 0, none⟩ = some (.slice (some ⟨g, off, none⟩) N cc)) := bel_cell B3.out H1w.out
  have H4 : Hid (∀ (j : Nat) (u : Value), [.int .i64 rk, .string rp, .string rt, .int .i64 rc, .int .i64 rl, .int .i64 rn, .slice ra rm rq][j]? = some u → w3.cell? ⟨g, off + i * 18 + j, none⟩ = some u) := fun j u hu => bel_cell B3.out (H4w.out j u (by have := (List.getElem?_eq_some_iff.1 hu).1; simpa using this) hu)
  go_wp2_with (go_at_call 19; refine (HA.out _ B3.out).mono ?_; rintro y w4 ⟨rfl, h4⟩; obtain rfl : w3 = w4 := h4.symm)
  have HS0 : Hid (∀ W, Below w3.heap.size w3 W → W.cell? ⟨xb, 0, none⟩ = some (.slice (some ⟨g, off, none⟩) N cc) ∧ W.cell? ⟨g, off + i * 18, none⟩ = some (.int .i64 rk) ∧ W.cell? ⟨g, off + i * 18 + 1, none⟩ = some (.string rp) ∧ W.cell? ⟨g, off + i * 18 + 2, none⟩ = some (.string rt) ∧ W.cell? ⟨g, off + i * 18 + 3, none⟩ = some (.int .i64 rc) ∧ W.cell? ⟨g, off + i * 18 + 4, none⟩ = some (.int .i64 rl) ∧ W.cell? ⟨g, off + i * 18 + 5, none⟩ = some (.int .i64 rn) ∧ W.cell? ⟨g, off + i * 18 + 6, none⟩ = some (.slice ra rm rq) ∧ W.cell? ⟨w.heap.size, 0, none⟩ = some (.int .i64 k0) ∧ W.cell? ⟨w.heap.size, 1, none⟩ = some (.string p) ∧ W.cell? ⟨w.heap.size, 2, none⟩ = some (.string t0) ∧ W.cell? ⟨w.heap.size, 3, none⟩ = some (.int .i64 c) ∧ W.cell? ⟨w.heap.size, 4, none⟩ = some (.int .i64 k) ∧ W.cell? ⟨w.heap.size, 5, none⟩ = some (.int .i64 n) ∧ W.cell? ⟨w.heap.size, 6, none⟩ = some (.slice a m q)) := fun W hW => ⟨bel_cell hW H1.out, bel_cell hW (H4.out 0 _ rfl), bel_cell hW (H4.out 1 _ rfl), bel_cell hW (H4.out 2 _ rfl), bel_cell hW (H4.out 3 _ rfl), bel_cell hW (H4.out 4 _ rfl), bel_cell hW (H4.out 5 _ rfl), bel_cell hW (H4.out 6 _ rfl), bel_cell hW (KE3.out.val 0 _ rfl), bel_cell hW (KE3.out.val 1 _ rfl), bel_cell hW (KE3.out.val 2 _ rfl), bel_cell hW (KE3.out.val 3 _ rfl), bel_cell hW (KE3.out.val 4 _ rfl), bel_cell hW (KE3.out.val 5 _ rfl), bel_cell hW (KE3.out.val 6 _ rfl)⟩
  have M1 : Hid True := trivial
  clear e3_3 e3_4
  go_region_held3 (fun w' => w'.cell? ⟨xb, 0, none⟩ = some (.slice (some ⟨g, off, none⟩) N cc) ∧ w'.cell? ⟨g, off + i * 18, none⟩ = some (.int .i64 rk) ∧ w'.cell? ⟨g, off + i * 18 + 1, none⟩ = some (.string rp) ∧ w'.cell? ⟨g, off + i * 18 + 2, none⟩ = some (.string rt) ∧ w'.cell? ⟨g, off + i * 18 + 3, none⟩ = some (.int .i64 rc) ∧ w'.cell? ⟨g, off + i * 18 + 4, none⟩ = some (.int .i64 rl) ∧ w'.cell? ⟨g, off + i * 18 + 5, none⟩ = some (.int .i64 rn) ∧ w'.cell? ⟨g, off + i * 18 + 6, none⟩ = some (.slice ra rm rq) ∧ w'.cell? ⟨w.heap.size, 0, none⟩ = some (.int .i64 k0) ∧ w'.cell? ⟨w.heap.size, 1, none⟩ = some (.string p) ∧ w'.cell? ⟨w.heap.size, 2, none⟩ = some (.string t0) ∧ w'.cell? ⟨w.heap.size, 3, none⟩ = some (.int .i64 c) ∧ w'.cell? ⟨w.heap.size, 4, none⟩ = some (.int .i64 k) ∧ w'.cell? ⟨w.heap.size, 5, none⟩ = some (.int .i64 n) ∧ w'.cell? ⟨w.heap.size, 6, none⟩ = some (.slice a m q))
    (first | exact HS0.out _ (bel_drew _) | exact HS0.out _ BB4.out)
    (first
      | (go_at_call 20; have m1 := M1.out; refine (CS.out _ (bel_tr B3.out (bel_drew _))).mono ?_; rintro y w5 ⟨rfl, b5'⟩; have BB4 : Hid (Below w3.heap.size w3 w5) := bel_tr (bel_drew _) b5'; clear b5' m1 M1))
  all_goals
    have B5 : Hid (Below w.heap.size w w5) := bel_tr B3.out BB4.out
    clear HS0 CS HA
    have H5 : Hid (RAt w0 O w5 xb R) := HH.out.below B5.out
    obtain ⟨la, lc, lg, lx, lC⟩ := H5.out.ex
    have p0 : w5.cell? ⟨xb, 0, none⟩ = some (.slice (some ⟨g, off, none⟩) N cc) := bel_cell BB4.out H1.out
    rw [HN.out, p0] at lx
    simp only [Option.some.injEq, Value.slice.injEq] at lx
    obtain ⟨rfl, _, rfl⟩ := lx
    have LC : Hid (CelO (fun k => O k ∧ k ≠ xb) w5 18 (.slice (some ⟨g, off, none⟩) R.length cc) R.length (rowC rcC R) lg) := lC
    have fx : w5.frozen? ⟨xb, 0, none⟩ = false := H5.out.fr
    obtain ⟨d, hd⟩ : ∃ d, N = i + 1 + d := ⟨N - (i + 1), by omega⟩
    obtain ⟨qq, hqq⟩ : ∃ qq, cc = i + 1 + qq := ⟨cc - (i + 1), by omega⟩
    subst hd hqq
    have HS1 : Hid (∀ W, Below w5.heap.size w5 W → Src Try.prog 18 27 (.slice (some ⟨g, off, none⟩) i (i + 1 + qq)) i (rowC rcC (R.take i)) W) := fun W hW => by
      have := src_part Try.underlying27 wideR (LC.out.below hW) rfl 0 i (i + 1 + qq) (by rw [HN.out]; omega)
      rw [Nat.zero_mul, Nat.add_zero, List.drop_zero] at this
      exact this
    have HC0 : Hid (∀ W, Cel (fun k => w5.heap.size ≤ k) W 18 (.slice none 0 0) 0 [] none) := fun W => .nil rfl rfl rfl
    unfold maxLen at h3
    have HRL : Hid ((R.take i ++ R.drop (i + 1)).length = i + d) := by show _ = _; rw [List.length_append, List.length_take, List.length_drop, HN.out]; omega
    have HS2 : Hid (¬ qq = 0 → ∀ W, Below w5.heap.size w5 W → Src Try.prog 18 27 (.slice (some ⟨g, off + (i + 1) * 18, none⟩) d qq) d (rowC rcC (R.drop (i + 1))) W) := fun hq W hW => by
      have := src_part Try.underlying27 wideR (LC.out.below hW) rfl (i + 1) d qq (by rw [HN.out]; omega)
      rw [List.take_of_length_le (by rw [List.length_drop, HN.out]; omega)] at this
      exact this
    have HS2p : Hid (d = 0 → ∀ W ad c', Src Try.prog 18 27 (.slice (some ad) 0 c') 0 (rowC rcC (R.drop (i + 1))) W) := fun hd0 W ad c' => by
      have hnil : R.drop (i + 1) = [] := List.drop_eq_nil_of_le (by rw [HN.out]; omega)
      rw [hnil]
      exact Src.ofSlice W Try.underlying27 ad 0 c' [] (by simp) (fun j u hu => by simp at hu) (fun u hu => by cases hu)
    have HLAY : Hid (∀ w7 a7 c7 g7, Below w5.heap.size w5 w7 → Cel (fun k => w5.heap.size ≤ k) w7 18 (.slice a7 (i + d) c7) (i + d) (rowC rcC (R.take i) ++ rowC rcC (R.drop (i + 1))) g7 → RAt w0 (Grow O w (w7.setCell ⟨xb, 0, none⟩ (.slice a7 (i + d) c7))) (w7.setCell ⟨xb, 0, none⟩ (.slice a7 (i + d) c7)) xb (R.take i ++ R.drop (i + 1)) ∧ Stay O w (w7.setCell ⟨xb, 0, none⟩ (.slice a7 (i + d) c7)) ∧ w7.cell? ⟨xb, 0, none⟩ = some (.slice (some ⟨g, off, none⟩) (i + 1 + d) (i + 1 + qq)) ∧ w7.frozen? ⟨xb, 0, none⟩ = false ∧ Cells (w7.setCell ⟨xb, 0, none⟩ (.slice a7 (i + d) c7)) w.heap.size [.int .i64 k0, .string p, .string t0, .int .i64 c, .int .i64 k, .int .i64 n, .slice a m q] ∧ Cells (w7.setCell ⟨xb, 0, none⟩ (.slice a7 (i + d) c7)) (w.heap.size + 1) [.int .i64 err, .int .i64 b1, .int .i64 b2, .int .i64 b3, .slice x1 n1 y1, .string path, .bool dir, .int .i64 quota, .slice x2 n2 y2, .int .i64 writer, .int .i64 nn]) := fun w7 a7 c7 g7 hb hC => by
      have hxw := HH.out.lt xb HH.out.oX
      rw [← rowC_app, ← HRL.out] at hC
      rw [← HRL.out]
      have hl := H5.out.lay (O1 := O) (R' := R.take i ++ R.drop (i + 1)) (Stay.of_below hb) ((CelO.of hC).stay (Nat.le_refl _) (fun _ _ => rfl) (fun k hk => ⟨.inr hk, by have h9 : w5.heap.size ≤ k := hk; have := B5.out.size; omega⟩)) (by rw [HRL.out]; omega) (fun r hr => HH.out.each r (by
        rcases List.mem_append.1 hr with hr | hr
        · exact List.mem_of_mem_take hr
        · exact List.mem_of_mem_drop hr))
      have ST : Stay (fun k => k = xb) w7 (w7.setCell ⟨xb, 0, none⟩ (.slice a7 (R.take i ++ R.drop (i + 1)).length c7)) := Stay.setCell w7 ⟨xb, 0, none⟩ _ rfl
      refine ⟨hl.1.wide (fun k hk => hk.elim (fun e => .inl e) (fun e => .inr ⟨Nat.le_trans B5.out.size e.1, e.2⟩)) (fun k hk => hk.elim (fun e => hl.1.lt k (.inl e)) (fun e => e.2)), (Stay.of_below B5.out).then_same hl.2, bel_cell hb p0, (World.frozen?_of_block (a := ⟨xb, 0, none⟩) (hb.block xb (by have := B5.out.size; omega))).trans fx, ?_, ?_⟩
      · exact ((KE3.out.below BB4.out).below hb).stay ST (by omega)
      · exact ((KX3.out.below BB4.out).below hb).stay ST (by omega)
    have M2 : Hid True := trivial
    have hst2 : ∀ (w : World) (a : Addr) (x : Option Addr) (n c : Nat) (m : Mode), (store a (.slice x n c) m).run Try.prog w = stored Try.prog w a (.slice x n c) m := fun w a x n c m => run_store Try.prog w a _ m rfl
    clear lC
    have HSPL : Hid (qq = 0 ∨ ¬ qq = 0) := by show _ ∨ _; omega
    go_upto_region 10 with fail
    go_upto_region 11 with (at_builtin; (refine wpList_append_cel _ rfl _ _ 27 27 rfl 69 ti _ 18 216 Try.underlying27 hi1 hi2 hi3 hi4 rfl (O := fun k => w5.heap.size ≤ k) (.slice none 0 0) 0 [] none rfl (HC0.out _) (.slice (some ⟨g, off, none⟩) i (i + 1 + qq)) i (rowC rcC (R.take i)) rfl (HS1.out _ (Below.refl _ _)) (by unfold maxLen; omega) (by omega) ?_; intro a6 c6 w6 g6 hC6 hS6 hg6; rw [Nat.zero_add, List.nil_append] at hC6; rw [Nat.zero_add]; have B6 : Hid (Below w5.heap.size w5 w6) := hS6.below (Nat.le_refl _) (fun k hk => by cases hk); have A6 : Hid (Cel (fun k => w5.heap.size ≤ k) w6 18 (.slice a6 i c6) i (rowC rcC (R.take i)) g6) := hC6.stay (Nat.le_refl _) (fun _ _ => rfl) (fun k hk => hk.elim id (fun e => e.1)); have p6 := bel_cell B6.out p0; clear hC6 hS6 hg6))
    rcases HSPL.out with hq | hq
    · clear HSPL p0 H1
      obtain rfl : d = 0 := by omega
      subst hq
      have HP : Hid (∀ W ad c', Src Try.prog 18 27 (.slice (some ad) 0 c') 0 (rowC rcC (R.drop (i + 1))) W) := HS2p.out rfl
      clear HS2 HS2p HS1
      simp only [Nat.add_zero] at p6 h2 h3 hle
      go_upto_region 12 with (at_builtin; (refine wpList_append_cel _ rfl _ _ 27 27 rfl 69 ti _ 18 216 Try.underlying27 hi1 hi2 hi3 hi4 rfl (O := fun k => w5.heap.size ≤ k) (.slice a6 i c6) i (rowC rcC (R.take i)) g6 rfl A6.out _ 0 (rowC rcC (R.drop (i + 1))) rfl (HP.out _ _ _) (by unfold maxLen; omega) (by omega) ?_; intro a7 c7 w7 g7 hC7 hS7 hg7; have B7 : Hid (Below w5.heap.size w5 w7) := B6.out.trans (hS7.below B6.out.size (fun k hk => by have h9 := A6.out; rw [hk] at h9; exact h9.lt.2)); obtain ⟨r1, r2, c07, f07, ke8, kx8⟩ := HLAY.out w7 a7 c7 g7 B7.out (hC7.stay (Nat.le_refl _) (fun _ _ => rfl) (fun k hk => hk.elim id (fun e => Nat.le_trans B6.out.size e.1))); have R1 : Hid (RAt w0 (Grow O w (w7.setCell ⟨xb, 0, none⟩ (.slice a7 i c7))) (w7.setCell ⟨xb, 0, none⟩ (.slice a7 i c7)) xb (R.take i ++ R.drop (i + 1))) := r1; have R2 : Hid (Stay O w (w7.setCell ⟨xb, 0, none⟩ (.slice a7 i c7))) := r2; have KE8 : Hid (Cells (w7.setCell ⟨xb, 0, none⟩ (.slice a7 i c7)) w.heap.size [.int .i64 k0, .string p, .string t0, .int .i64 c, .int .i64 k, .int .i64 n, .slice a m q]) := ke8; have KX8 : Hid (Cells (w7.setCell ⟨xb, 0, none⟩ (.slice a7 i c7)) (w.heap.size + 1) [.int .i64 err, .int .i64 b1, .int .i64 b2, .int .i64 b3, .slice x1 n1 y1, .string path, .bool dir, .int .i64 quota, .slice x2 n2 y2, .int .i64 writer, .int .i64 nn]) := kx8; clear hC7 hS7 hg7 r1 r2 ke8 kx8))
      have HN8 : Hid ((R.take i ++ R.drop (i + 1)).length = i) := HRL.out
      have R18 := R1.out
      have R28 := R2
      clear R1 R2 HLAY A6 B6 B7 c07 f07 p6 HP h2 h3 HRL HN HI hst2
      generalize hW8 : w7.setCell ⟨xb, 0, none⟩ (.slice a7 i c7) = w8 at *
      obtain ⟨R8, hR8⟩ : ∃ R8, R.take i ++ R.drop (i + 1) = R8 := ⟨_, rfl⟩
      rw [hR8] at R18 HN8
      have HR8 : Hid (R.take i ++ R.drop (i + 1) = R8) := hR8
      obtain ⟨O8, hO8⟩ : ∃ O8, Grow O w w8 = O8 := ⟨_, rfl⟩
      rw [hO8] at R18
      have HO8 : Hid (Grow O w w8 = O8) := hO8
      obtain ⟨N, hN0⟩ : ∃ N, i = N := ⟨_, rfl⟩
      have hmost : N < 20 := by omega
      rw [hN0] at HN8
      clear hW8 hR8 hO8 hN0 hle hiN
      have e3_0 := KE8.out.val 0 _ rfl
      have e3_1 := KE8.out.val 1 _ rfl
      have e3_2 := KE8.out.val 2 _ rfl
      have e3_3 := KE8.out.val 3 _ rfl
      have e3_4 := KE8.out.val 4 _ rfl
      have e3_5 := KE8.out.val 5 _ rfl
      have e3_6 := KE8.out.val 6 _ rfl
      have x3_0 := KX8.out.val 0 _ rfl
      have x3_1 := KX8.out.val 1 _ rfl
      have x3_2 := KX8.out.val 2 _ rfl
      have x3_3 := KX8.out.val 3 _ rfl
      have x3_4 := KX8.out.val 4 _ rfl
      have x3_5 := KX8.out.val 5 _ rfl
      have x3_6 := KX8.out.val 6 _ rfl
      have x3_7 := KX8.out.val 7 _ rfl
      have x3_8 := KX8.out.val 8 _ rfl
      have x3_9 := KX8.out.val 9 _ rfl
      have x3_10 := KX8.out.val 10 _ rfl
      clear KE8 KX8
      have H3 : Hid (RAt w0 O8 w8 xb R8) := R18
      obtain ⟨la, lc, lg, lx, lC⟩ := H3.out.ex
      have LC : Hid (CelO (fun k => O8 k ∧ k ≠ xb) w8 18 (.slice la R8.length lc) R8.length (rowC rcC R8) lg) := lC
      have lxa : ∀ o, (w8.alloc o).cell? ⟨xb, 0, none⟩ = some (.slice la R8.length lc) := fun o => bel_cell (bel_al _ _) lx
      have HSRC : Hid (Src Try.prog 18 27 (.slice (some ⟨w8.heap.size, 0, none⟩) 1 1) 1 (rcC ⟨⟨k0, p, t0, c, k, n, ls⟩, a, m, q, ⟨err, ⟨b1, b2, b3⟩, names, path, dir, quota, blocks, writer, nn⟩, ⟨x1, y1, x2, y2⟩⟩) (w8.alloc (.cells #[.int .i64 k0, .string p, .string t0, .int .i64 c, .int .i64 k, .int .i64 n, .slice a m q, .int .i64 err, .int .i64 b1, .int .i64 b2, .int .i64 b3, .slice x1 n1 y1, .string path, .bool dir, .int .i64 quota, .slice x2 n2 y2, .int .i64 writer, .int .i64 nn] 69)).drew) := by
        refine Src.ofSlice _ Try.underlying27 ⟨w8.heap.size, 0, none⟩ 1 1 _ (by rfl) (fun j u hu => ?_) (fun u hu => wideR.one _ u hu)
        rw [Addr.add_lit, Nat.zero_add]
        have := (Cells.new w8 69 [.int .i64 k0, .string p, .string t0, .int .i64 c, .int .i64 k, .int .i64 n, .slice a m q, .int .i64 err, .int .i64 b1, .int .i64 b2, .int .i64 b3, .slice x1 n1 y1, .string path, .bool dir, .int .i64 quota, .slice x2 n2 y2, .int .i64 writer, .int .i64 nn]).val j u (by
          unfold rcC at hu
          simp only [HN1.out, HN2.out] at hu
          exact hu)
        exact this
      have hN : R8.length = N := HN8.out
      rw [hN] at lx lxa LC
      have HN : Hid (R8.length = N) := hN
      have hW : Hid (∀ o, Below w8.heap.size w8 (w8.alloc o).drew) := fun o => bel_tr (bel_al _ _) (bel_drew _)
      have HAPP : Hid (∀ W' w5 a5 c5 g5, Below w8.heap.size w8 W' → CelO (Grow (fun k => O8 k ∧ k ≠ xb) W' w5) w5 18 (.slice a5 (N + 1) c5) (N + 1) (rowC rcC R8 ++ rcC ⟨⟨k0, p, t0, c, k, n, ls⟩, a, m, q, ⟨err, ⟨b1, b2, b3⟩, names, path, dir, quota, blocks, writer, nn⟩, ⟨x1, y1, x2, y2⟩⟩) g5 → Stay (fun k => lg = some k) W' w5 → RAt w0 (Grow O8 w8 (w5.setCell ⟨xb, 0, none⟩ (.slice a5 (N + 1) c5))) (w5.setCell ⟨xb, 0, none⟩ (.slice a5 (N + 1) c5)) xb (R8 ++ [⟨⟨k0, p, t0, c, k, n, ls⟩, a, m, q, ⟨err, ⟨b1, b2, b3⟩, names, path, dir, quota, blocks, writer, nn⟩, ⟨x1, y1, x2, y2⟩⟩]) ∧ Stay O8 w8 (w5.setCell ⟨xb, 0, none⟩ (.slice a5 (N + 1) c5)) ∧ w5.cell? ⟨xb, 0, none⟩ = some (.slice la N lc) ∧ w5.frozen? ⟨xb, 0, none⟩ = false) := fun W' w5 a5 c5 g5 hb hC5 hS5 => by
        rw [← HN.out] at hC5 ⊢
        have := H3.out.app (by rw [HN.out]; omega) lC hb hC5 hS5 HE.out
        refine ⟨this.1, this.2.1, this.2.2.1.trans ?_, this.2.2.2⟩
        rw [HN.out]
        exact lx
      clear lC
      have hst3 : ∀ (w : World) (a : Addr) (x : Option Addr) (n c : Nat) (m : Mode), (store a (.slice x n c) m).run Try.prog w = stored Try.prog w a (.slice x n c) m := fun w a x n c m => run_store Try.prog w a _ m rfl
      go_region_law (refine step_append_celO rfl (.tmp 73) (.tmp 77) 27 27 rfl 69 ti _ 18 216 Try.underlying27 hi1 hi2 hi3 hi4 rfl (O := fun k => O8 k ∧ k ≠ xb) _ N _ lg (by simp [Act.eval]) (LC.out.below (hW.out _)) _ 1 (rcC ⟨⟨k0, p, t0, c, k, n, ls⟩, a, m, q, ⟨err, ⟨b1, b2, b3⟩, names, path, dir, quota, blocks, writer, nn⟩, ⟨x1, y1, x2, y2⟩⟩) (by simp [Act.eval]) HSRC.out (by unfold maxLen; omega) (by omega) ?_; intro a5 c5 w5 g5 hC5 hS5 hg5; obtain ⟨r1, r2, c05, f05⟩ := HAPP.out _ w5 a5 c5 g5 (hW.out _) hC5 hS5; have R1n : Hid _ := r1; have R2n : Hid (Stay O8 w8 (w5.setCell ⟨xb, 0, none⟩ (.slice a5 (N + 1) c5))) := r2; clear hC5 hS5 hg5 r1 r2)
      all_goals
        have hfr : (w5.setCell ⟨xb, 0, none⟩ (.slice a5 (N + 1) c5)).frozen? ⟨xb, 0, none⟩ = false := by rw [World.frozen?_setCell]; exact f05
        have hcl : (w5.setCell ⟨xb, 0, none⟩ (.slice a5 (N + 1) c5)).cell? ⟨xb, 0, none⟩ = some (.slice a5 (N + 1) c5) := World.cell?_setCell_same _ _ _ c05
        generalize hWf : w5.setCell ⟨xb, 0, none⟩ (.slice a5 (N + 1) c5) = Wf at *
        clear hWf c05 f05 lx lxa HSRC HAPP LC hW e3_0 e3_1 e3_2 e3_3 e3_4 e3_5 e3_6 x3_0 x3_1 x3_2 x3_3 x3_4 x3_5 x3_6 x3_7 x3_8 x3_9 x3_10
        have hgt : decide ((20 : Int) < (N : Int) + 1) = false := decide_eq_false (by omega)
        go_wp2
        go_ret
        rw [HR8.out]
        refine ⟨rfl, ⟨⟨R8 ++ [⟨⟨k0, p, t0, c, k, n, ls⟩, a, m, q, ⟨err, ⟨b1, b2, b3⟩, names, path, dir, quota, blocks, writer, nn⟩, ⟨x1, y1, x2, y2⟩⟩], ?_, ?_⟩, ?_⟩⟩
        · rw [if_neg (by simp [HN.out]; omega)]
        · have hsz := R2n.out.size
          have hsz2 := R28.out.size
          refine R1n.out.wide (fun k hk => ?_) (fun k hk => hk.elim (fun e => R1n.out.lt k (.inl (HO8.out ▸ .inl e))) (fun e => e.2))
          rw [← HO8.out] at hk
          rcases hk with (hk | hk) | hk
          · exact .inl hk
          · exact .inr ⟨hk.1, Nat.lt_of_lt_of_le hk.2 hsz⟩
          · exact .inr ⟨Nat.le_trans hsz2 hk.1, hk.2⟩
        · exact R28.out.andThen (HO8.out.symm ▸ R2n.out)
    · clear HSPL p0 H1 HS2p HS1
      have HP : Hid (∀ W, Below w5.heap.size w5 W → Src Try.prog 18 27 (.slice (some ⟨g, off + (i + 1) * 18, none⟩) d qq) d (rowC rcC (R.drop (i + 1))) W) := HS2.out hq
      clear HS2
      go_upto_region 12 with (at_builtin; (refine wpList_append_cel _ rfl _ _ 27 27 rfl 69 ti _ 18 216 Try.underlying27 hi1 hi2 hi3 hi4 rfl (O := fun k => w5.heap.size ≤ k) (.slice a6 i c6) i (rowC rcC (R.take i)) g6 rfl A6.out _ d (rowC rcC (R.drop (i + 1))) rfl (HP.out _ B6.out) (by unfold maxLen; omega) (by omega) ?_; intro a7 c7 w7 g7 hC7 hS7 hg7; have B7 : Hid (Below w5.heap.size w5 w7) := B6.out.trans (hS7.below B6.out.size (fun k hk => by have h9 := A6.out; rw [hk] at h9; exact h9.lt.2)); obtain ⟨r1, r2, c07, f07, ke8, kx8⟩ := HLAY.out w7 a7 c7 g7 B7.out (hC7.stay (Nat.le_refl _) (fun _ _ => rfl) (fun k hk => hk.elim id (fun e => Nat.le_trans B6.out.size e.1))); have R1 : Hid (RAt w0 (Grow O w (w7.setCell ⟨xb, 0, none⟩ (.slice a7 (i + d) c7))) (w7.setCell ⟨xb, 0, none⟩ (.slice a7 (i + d) c7)) xb (R.take i ++ R.drop (i + 1))) := r1; have R2 : Hid (Stay O w (w7.setCell ⟨xb, 0, none⟩ (.slice a7 (i + d) c7))) := r2; have KE8 : Hid (Cells (w7.setCell ⟨xb, 0, none⟩ (.slice a7 (i + d) c7)) w.heap.size [.int .i64 k0, .string p, .string t0, .int .i64 c, .int .i64 k, .int .i64 n, .slice a m q]) := ke8; have KX8 : Hid (Cells (w7.setCell ⟨xb, 0, none⟩ (.slice a7 (i + d) c7)) (w.heap.size + 1) [.int .i64 err, .int .i64 b1, .int .i64 b2, .int .i64 b3, .slice x1 n1 y1, .string path, .bool dir, .int .i64 quota, .slice x2 n2 y2, .int .i64 writer, .int .i64 nn]) := kx8; clear hC7 hS7 hg7 r1 r2 ke8 kx8))
      have HN8 : Hid ((R.take i ++ R.drop (i + 1)).length = (i + d)) := HRL.out
      have R18 := R1.out
      have R28 := R2
      clear R1 R2 HLAY A6 B6 B7 c07 f07 p6 HP h2 h3 HRL HN HI hst2
      generalize hW8 : w7.setCell ⟨xb, 0, none⟩ (.slice a7 (i + d) c7) = w8 at *
      obtain ⟨R8, hR8⟩ : ∃ R8, R.take i ++ R.drop (i + 1) = R8 := ⟨_, rfl⟩
      rw [hR8] at R18 HN8
      have HR8 : Hid (R.take i ++ R.drop (i + 1) = R8) := hR8
      obtain ⟨O8, hO8⟩ : ∃ O8, Grow O w w8 = O8 := ⟨_, rfl⟩
      rw [hO8] at R18
      have HO8 : Hid (Grow O w w8 = O8) := hO8
      obtain ⟨N, hN0⟩ : ∃ N, (i + d) = N := ⟨_, rfl⟩
      have hmost : N < 20 := by omega
      rw [hN0] at HN8
      clear hW8 hR8 hO8 hN0 hle hiN
      have e3_0 := KE8.out.val 0 _ rfl
      have e3_1 := KE8.out.val 1 _ rfl
      have e3_2 := KE8.out.val 2 _ rfl
      have e3_3 := KE8.out.val 3 _ rfl
      have e3_4 := KE8.out.val 4 _ rfl
      have e3_5 := KE8.out.val 5 _ rfl
      have e3_6 := KE8.out.val 6 _ rfl
      have x3_0 := KX8.out.val 0 _ rfl
      have x3_1 := KX8.out.val 1 _ rfl
      have x3_2 := KX8.out.val 2 _ rfl
      have x3_3 := KX8.out.val 3 _ rfl
      have x3_4 := KX8.out.val 4 _ rfl
      have x3_5 := KX8.out.val 5 _ rfl
      have x3_6 := KX8.out.val 6 _ rfl
      have x3_7 := KX8.out.val 7 _ rfl
      have x3_8 := KX8.out.val 8 _ rfl
      have x3_9 := KX8.out.val 9 _ rfl
      have x3_10 := KX8.out.val 10 _ rfl
      clear KE8 KX8
      have H3 : Hid (RAt w0 O8 w8 xb R8) := R18
      obtain ⟨la, lc, lg, lx, lC⟩ := H3.out.ex
      have LC : Hid (CelO (fun k => O8 k ∧ k ≠ xb) w8 18 (.slice la R8.length lc) R8.length (rowC rcC R8) lg) := lC
      have lxa : ∀ o, (w8.alloc o).cell? ⟨xb, 0, none⟩ = some (.slice la R8.length lc) := fun o => bel_cell (bel_al _ _) lx
      have HSRC : Hid (Src Try.prog 18 27 (.slice (some ⟨w8.heap.size, 0, none⟩) 1 1) 1 (rcC ⟨⟨k0, p, t0, c, k, n, ls⟩, a, m, q, ⟨err, ⟨b1, b2, b3⟩, names, path, dir, quota, blocks, writer, nn⟩, ⟨x1, y1, x2, y2⟩⟩) (w8.alloc (.cells #[.int .i64 k0, .string p, .string t0, .int .i64 c, .int .i64 k, .int .i64 n, .slice a m q, .int .i64 err, .int .i64 b1, .int .i64 b2, .int .i64 b3, .slice x1 n1 y1, .string path, .bool dir, .int .i64 quota, .slice x2 n2 y2, .int .i64 writer, .int .i64 nn] 69)).drew) := by
        refine Src.ofSlice _ Try.underlying27 ⟨w8.heap.size, 0, none⟩ 1 1 _ (by rfl) (fun j u hu => ?_) (fun u hu => wideR.one _ u hu)
        rw [Addr.add_lit, Nat.zero_add]
        have := (Cells.new w8 69 [.int .i64 k0, .string p, .string t0, .int .i64 c, .int .i64 k, .int .i64 n, .slice a m q, .int .i64 err, .int .i64 b1, .int .i64 b2, .int .i64 b3, .slice x1 n1 y1, .string path, .bool dir, .int .i64 quota, .slice x2 n2 y2, .int .i64 writer, .int .i64 nn]).val j u (by
          unfold rcC at hu
          simp only [HN1.out, HN2.out] at hu
          exact hu)
        exact this
      have hN : R8.length = N := HN8.out
      rw [hN] at lx lxa LC
      have HN : Hid (R8.length = N) := hN
      have hW : Hid (∀ o, Below w8.heap.size w8 (w8.alloc o).drew) := fun o => bel_tr (bel_al _ _) (bel_drew _)
      have HAPP : Hid (∀ W' w5 a5 c5 g5, Below w8.heap.size w8 W' → CelO (Grow (fun k => O8 k ∧ k ≠ xb) W' w5) w5 18 (.slice a5 (N + 1) c5) (N + 1) (rowC rcC R8 ++ rcC ⟨⟨k0, p, t0, c, k, n, ls⟩, a, m, q, ⟨err, ⟨b1, b2, b3⟩, names, path, dir, quota, blocks, writer, nn⟩, ⟨x1, y1, x2, y2⟩⟩) g5 → Stay (fun k => lg = some k) W' w5 → RAt w0 (Grow O8 w8 (w5.setCell ⟨xb, 0, none⟩ (.slice a5 (N + 1) c5))) (w5.setCell ⟨xb, 0, none⟩ (.slice a5 (N + 1) c5)) xb (R8 ++ [⟨⟨k0, p, t0, c, k, n, ls⟩, a, m, q, ⟨err, ⟨b1, b2, b3⟩, names, path, dir, quota, blocks, writer, nn⟩, ⟨x1, y1, x2, y2⟩⟩]) ∧ Stay O8 w8 (w5.setCell ⟨xb, 0, none⟩ (.slice a5 (N + 1) c5)) ∧ w5.cell? ⟨xb, 0, none⟩ = some (.slice la N lc) ∧ w5.frozen? ⟨xb, 0, none⟩ = false) := fun W' w5 a5 c5 g5 hb hC5 hS5 => by
        rw [← HN.out] at hC5 ⊢
        have := H3.out.app (by rw [HN.out]; omega) lC hb hC5 hS5 HE.out
        refine ⟨this.1, this.2.1, this.2.2.1.trans ?_, this.2.2.2⟩
        rw [HN.out]
        exact lx
      clear lC
      have hst3 : ∀ (w : World) (a : Addr) (x : Option Addr) (n c : Nat) (m : Mode), (store a (.slice x n c) m).run Try.prog w = stored Try.prog w a (.slice x n c) m := fun w a x n c m => run_store Try.prog w a _ m rfl
      go_region_law (refine step_append_celO rfl (.tmp 73) (.tmp 77) 27 27 rfl 69 ti _ 18 216 Try.underlying27 hi1 hi2 hi3 hi4 rfl (O := fun k => O8 k ∧ k ≠ xb) _ N _ lg (by simp [Act.eval]) (LC.out.below (hW.out _)) _ 1 (rcC ⟨⟨k0, p, t0, c, k, n, ls⟩, a, m, q, ⟨err, ⟨b1, b2, b3⟩, names, path, dir, quota, blocks, writer, nn⟩, ⟨x1, y1, x2, y2⟩⟩) (by simp [Act.eval]) HSRC.out (by unfold maxLen; omega) (by omega) ?_; intro a5 c5 w5 g5 hC5 hS5 hg5; obtain ⟨r1, r2, c05, f05⟩ := HAPP.out _ w5 a5 c5 g5 (hW.out _) hC5 hS5; have R1n : Hid _ := r1; have R2n : Hid (Stay O8 w8 (w5.setCell ⟨xb, 0, none⟩ (.slice a5 (N + 1) c5))) := r2; clear hC5 hS5 hg5 r1 r2)
      all_goals
        have hfr : (w5.setCell ⟨xb, 0, none⟩ (.slice a5 (N + 1) c5)).frozen? ⟨xb, 0, none⟩ = false := by rw [World.frozen?_setCell]; exact f05
        have hcl : (w5.setCell ⟨xb, 0, none⟩ (.slice a5 (N + 1) c5)).cell? ⟨xb, 0, none⟩ = some (.slice a5 (N + 1) c5) := World.cell?_setCell_same _ _ _ c05
        generalize hWf : w5.setCell ⟨xb, 0, none⟩ (.slice a5 (N + 1) c5) = Wf at *
        clear hWf c05 f05 lx lxa HSRC HAPP LC hW e3_0 e3_1 e3_2 e3_3 e3_4 e3_5 e3_6 x3_0 x3_1 x3_2 x3_3 x3_4 x3_5 x3_6 x3_7 x3_8 x3_9 x3_10
        have hgt : decide ((20 : Int) < (N : Int) + 1) = false := decide_eq_false (by omega)
        go_wp2
        go_ret
        rw [HR8.out]
        refine ⟨rfl, ⟨⟨R8 ++ [⟨⟨k0, p, t0, c, k, n, ls⟩, a, m, q, ⟨err, ⟨b1, b2, b3⟩, names, path, dir, quota, blocks, writer, nn⟩, ⟨x1, y1, x2, y2⟩⟩], ?_, ?_⟩, ?_⟩⟩
        · rw [if_neg (by simp [HN.out]; omega)]
        · have hsz := R2n.out.size
          have hsz2 := R28.out.size
          refine R1n.out.wide (fun k hk => ?_) (fun k hk => hk.elim (fun e => R1n.out.lt k (.inl (HO8.out ▸ .inl e))) (fun e => e.2))
          rw [← HO8.out] at hk
          rcases hk with (hk | hk) | hk
          · exact .inl hk
          · exact .inr ⟨hk.1, Nat.lt_of_lt_of_le hk.2 hsz⟩
          · exact .inr ⟨Nat.le_trans hsz2 hk.1, hk.2⟩
        · exact R28.out.andThen (HO8.out.symm ▸ R2n.out)

end Go.Proofs.Ythogpaojdlfjcaa.Rty
