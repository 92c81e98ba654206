/- The contract of tabulariumref13.Get. -/
import Derived.Test.YthogpaojdlfjcaaRetryR3
import Derived.Test.YthogpaojdlfjcaaRetryR1
import Derived.Deep.RegionHeld3
namespace Go.Proofs.Ythogpaojdlfjcaa.Rty
open Go.RowKit Go.Proofs.Ythogpaojdlfjcaa Go.Proofs.Ythogpaojdlfjcaa.Edi
set_option linter.unusedVariables false

structure RGetR (w0 : World) (o : Option Ans) (er : Int) (e : Ending) : Prop where
  ex : ∃ s, e = .returned (.tuple #[anV (o.getD zeroA) s, .bool o.isSome, .int .i64 er]) ∧ AnIn (fun b => b < w0.heap.size) w0 (o.getD zeroA) s

set_option maxRecDepth 100000 in
set_option maxHeartbeats 8000000 in
theorem refGet_none {w0 : World} {O : Nat → Prop} {w : World} {xb : Nat} {R : List Rc} (h : RAt w0 O w xb R) (hb0 : Below w0.heap.size w0 w) {e : Ed} {a : Option Addr} {m q : Nat} (hnm : Nm w a m e.ls) {c k : Int} (hwh : Where R c k (-1)) :
    Calls Try.prog 10 #[.pointer (some ⟨xb, 0, none⟩), .int .i64 c, .int .i64 k, edV e a m q] w fun e w' => RGetR w0 none 0 e ∧ Below w.heap.size w w' := by
  have HA : Hid (∀ W, Below w.heap.size w W → Calls Try.prog 19 #[.pointer (some ⟨xb, 0, none⟩), .int .i64 c, .int .i64 k] W fun e w' => e = .returned (.int .i64 (-1)) ∧ w' = W) := fun W hb => at_val (h.below hb) c k (-1) hwh
  clear h hb0 hnm hwh
  obtain ⟨k0, p, t0, c1, l, n, ls⟩ := e
  unfold edV
  simp only
  go_enter Try.func10, Try.ntmps10
  go_wp2_with (go_at_call 19; refine (HA.out _ (bel_tr (bel_al _ _) (bel_al _ _))).mono ?_; rintro y w1 ⟨rfl, rfl⟩)
  exact bodyPost_ret (v := .tuple #[anV zeroA ⟨none, 0, none, 0⟩, .bool false, .int .i64 0]) (by simp [results, anV, zeroA, Try.results10, go_sem]) rfl ⟨⟨_, rfl, anIn_zero _ _ _⟩, bel_tr (bel_al _ _) (bel_al _ _)⟩

set_option maxRecDepth 100000 in
set_option maxHeartbeats 8000000 in
theorem refGet_other {w0 : World} {O : Nat → Prop} {w : World} {xb : Nat} {R : List Rc} (h : RAt w0 O w xb R) (hb0 : Below w0.heap.size w0 w) {e : Ed} {a : Option Addr} {m q : Nat} (hnm : Nm w a m e.ls) {c k : Int} {i : Nat} (hi : i < R.length) (hwh : Where R c k (i : Int)) (hv0 : ¬ R[i].ed = e) :
    Calls Try.prog 10 #[.pointer (some ⟨xb, 0, none⟩), .int .i64 c, .int .i64 k, edV e a m q] w fun e w' => RGetR w0 none 14 e ∧ Below w.heap.size w w' := by
  have hv : false = true ↔ R[i].ed = e := ⟨fun h => (by cases h), fun h => absurd h hv0⟩
  clear hv0
  obtain ⟨g, off, cc, h1, h2, h3, h4⟩ := h.at (by omega)
  have hmost := h.most
  have HA : Hid (∀ W, Below w.heap.size w W → Calls Try.prog 19 #[.pointer (some ⟨xb, 0, none⟩), .int .i64 c, .int .i64 k] W fun e w' => e = .returned (.int .i64 (i : Int)) ∧ w' = W) := fun W hb => at_val (h.below hb) c k (i : Int) hwh
  have HEACH := h.each R[i] (List.getElem_mem hi)
  have h4i := h4 i hi
  obtain ⟨N, hN⟩ : ∃ N, R.length = N := ⟨_, rfl⟩
  rw [hN] at h1 h2 hi hmost
  have hi' : i < N := hi
  have CS : Hid (∀ W, Below w.heap.size w W → Calls Try.prog 20 #[edV R[i].ed R[i].a R[i].m R[i].q, edV e a m q] W fun x w' => x = .returned (.bool false) ∧ Below W.heap.size W w') := fun W hb => refSame_val ((HEACH.1.below hb0).below hb) (hnm.below hb) false hv
  have HAN : Hid (AnIn (fun b => b < w0.heap.size) w0 R[i].x R[i].s) := HEACH.2
  clear h hb0 hnm hwh HEACH h4 hv hN
  generalize R[i] = r at *
  obtain ⟨⟨rk, rp, rt, rc, rl, rn, rls⟩, ra, rm, rq, ⟨err, ⟨b1, b2, b3⟩, names, path, dir, quota, blocks, writer, nn⟩, ⟨x1, y1, x2, y2⟩⟩ := r
  obtain ⟨k0, p, t0, c1, l, n, ls⟩ := e
  unfold rcC at h4i
  unfold edV at CS ⊢
  simp only at h4i CS HAN ⊢
  obtain ⟨n1, hn1⟩ : ∃ N, names.length = N := ⟨_, rfl⟩
  obtain ⟨n2, hn2⟩ : ∃ N, blocks.length = N := ⟨_, rfl⟩
  rw [hn1, hn2] at h4i
  have HN1 : Hid (names.length = n1) := hn1
  have HN2 : Hid (blocks.length = n2) := hn2
  clear hn1 hn2
  have H4w : Hid (∀ (j : Nat) (u : Value), [.int .i64 rk, .string rp, .string rt, .int .i64 rc, .int .i64 rl, .int .i64 rn, .slice ra rm rq, .int .i64 err, .int .i64 b1, .int .i64 b2, .int .i64 b3, .slice x1 n1 y1, .string path, .bool dir, .int .i64 quota, .slice x2 n2 y2, .int .i64 writer, .int .i64 nn][j]? = some u → w.cell? ⟨g, off + i * 18 + j, none⟩ = some u) := h4i
  have H1w : Hid (w.cell? ⟨xb, 0, none⟩ = some (.slice (some ⟨g, off, none⟩) N cc)) := h1
  clear h4i h1
  go_enter Try.func10, Try.ntmps10
  go_wp2_with (go_at_call 19; refine (HA.out _ (bel_tr (bel_al _ _) (bel_al _ _))).mono ?_; rintro y w1 ⟨rfl, rfl⟩)
  have BW : Hid (Below w.heap.size w ((w.alloc (.cells #[.int .i64 k0, .string p, .string t0, .int .i64 c1, .int .i64 l, .int .i64 n, .slice a m q] 32)).alloc (.cells #[.int .i64 0, .int .i64 0, .int .i64 0, .int .i64 0, .slice none 0 0, .string ⟨#[]⟩, .bool false, .int .i64 0, .slice none 0 0, .int .i64 0, .int .i64 0] 41))) := bel_tr (bel_al _ _) (bel_al _ _)
  have KE : Hid (Cells ((w.alloc (.cells #[.int .i64 k0, .string p, .string t0, .int .i64 c1, .int .i64 l, .int .i64 n, .slice a m q] 32)).alloc (.cells #[.int .i64 0, .int .i64 0, .int .i64 0, .int .i64 0, .slice none 0 0, .string ⟨#[]⟩, .bool false, .int .i64 0, .slice none 0 0, .int .i64 0, .int .i64 0] 41)) w.heap.size [.int .i64 k0, .string p, .string t0, .int .i64 c1, .int .i64 l, .int .i64 n, .slice a m q]) := (Cells.new _ _ _).below (bel_al _ _)
  have KZ : Hid (Cells ((w.alloc (.cells #[.int .i64 k0, .string p, .string t0, .int .i64 c1, .int .i64 l, .int .i64 n, .slice a m q] 32)).alloc (.cells #[.int .i64 0, .int .i64 0, .int .i64 0, .int .i64 0, .slice none 0 0, .string ⟨#[]⟩, .bool false, .int .i64 0, .slice none 0 0, .int .i64 0, .int .i64 0] 41)) (w.heap.size + 1) [.int .i64 0, .int .i64 0, .int .i64 0, .int .i64 0, .slice none 0 0, .string ⟨#[]⟩, .bool false, .int .i64 0, .slice none 0 0, .int .i64 0, .int .i64 0]) := by
    have := Cells.new (w.alloc (.cells #[.int .i64 k0, .string p, .string t0, .int .i64 c1, .int .i64 l, .int .i64 n, .slice a m q] 32)) 41 [.int .i64 0, .int .i64 0, .int .i64 0, .int .i64 0, .slice none 0 0, .string ⟨#[]⟩, .bool false, .int .i64 0, .slice none 0 0, .int .i64 0, .int .i64 0]
    rw [show (w.alloc (.cells #[.int .i64 k0, .string p, .string t0, .int .i64 c1, .int .i64 l, .int .i64 n, .slice a m q] 32)).heap.size = w.heap.size + 1 by simp] at this
    exact this
  generalize hW2 : ((w.alloc (.cells #[.int .i64 k0, .string p, .string t0, .int .i64 c1, .int .i64 l, .int .i64 n, .slice a m q] 32)).alloc (.cells #[.int .i64 0, .int .i64 0, .int .i64 0, .int .i64 0, .slice none 0 0, .string ⟨#[]⟩, .bool false, .int .i64 0, .slice none 0 0, .int .i64 0, .int .i64 0] 41)) = W2 at BW KE KZ ⊢
  clear hW2
  have H1 : Hid _ := bel_cell BW.out H1w.out
  have H4 : Hid (∀ (j : Nat) (u : Value), [.int .i64 rk, .string rp, .string rt, .int .i64 rc, .int .i64 rl, .int .i64 rn, .slice ra rm rq, .int .i64 err, .int .i64 b1, .int .i64 b2, .int .i64 b3, .slice x1 n1 y1, .string path, .bool dir, .int .i64 quota, .slice x2 n2 y2, .int .i64 writer, .int .i64 nn][j]? = some u → W2.cell? ⟨g, off + i * 18 + j, none⟩ = some u) := fun j u hu => bel_cell BW.out (H4w.out j u hu)
  have HS0 : Hid (∀ W, Below W2.heap.size W2 W → W.cell? ⟨xb, 0, none⟩ = some (.slice (some ⟨g, off, none⟩) N cc) ∧ W.cell? ⟨g, off + i * 18, none⟩ = some (.int .i64 rk) ∧ W.cell? ⟨g, off + i * 18 + 1, none⟩ = some (.string rp) ∧ W.cell? ⟨g, off + i * 18 + 2, none⟩ = some (.string rt) ∧ W.cell? ⟨g, off + i * 18 + 3, none⟩ = some (.int .i64 rc) ∧ W.cell? ⟨g, off + i * 18 + 4, none⟩ = some (.int .i64 rl) ∧ W.cell? ⟨g, off + i * 18 + 5, none⟩ = some (.int .i64 rn) ∧ W.cell? ⟨g, off + i * 18 + 6, none⟩ = some (.slice ra rm rq) ∧ W.cell? ⟨w.heap.size, 0, none⟩ = some (.int .i64 k0) ∧ W.cell? ⟨w.heap.size, 1, none⟩ = some (.string p) ∧ W.cell? ⟨w.heap.size, 2, none⟩ = some (.string t0) ∧ W.cell? ⟨w.heap.size, 3, none⟩ = some (.int .i64 c1) ∧ W.cell? ⟨w.heap.size, 4, none⟩ = some (.int .i64 l) ∧ W.cell? ⟨w.heap.size, 5, none⟩ = some (.int .i64 n) ∧ W.cell? ⟨w.heap.size, 6, none⟩ = some (.slice a m q)) := fun W hW => ⟨bel_cell hW (H1.out), bel_cell hW (H4.out 0 _ rfl), bel_cell hW (H4.out 1 _ rfl), bel_cell hW (H4.out 2 _ rfl), bel_cell hW (H4.out 3 _ rfl), bel_cell hW (H4.out 4 _ rfl), bel_cell hW (H4.out 5 _ rfl), bel_cell hW (H4.out 6 _ rfl), bel_cell hW (KE.out.val 0 _ rfl), bel_cell hW (KE.out.val 1 _ rfl), bel_cell hW (KE.out.val 2 _ rfl), bel_cell hW (KE.out.val 3 _ rfl), bel_cell hW (KE.out.val 4 _ rfl), bel_cell hW (KE.out.val 5 _ rfl), bel_cell hW (KE.out.val 6 _ rfl)⟩
  have M1 : Hid True := trivial
  go_region_held3 (fun w' => w'.cell? ⟨xb, 0, none⟩ = some (.slice (some ⟨g, off, none⟩) N cc) ∧ w'.cell? ⟨g, off + i * 18, none⟩ = some (.int .i64 rk) ∧ w'.cell? ⟨g, off + i * 18 + 1, none⟩ = some (.string rp) ∧ w'.cell? ⟨g, off + i * 18 + 2, none⟩ = some (.string rt) ∧ w'.cell? ⟨g, off + i * 18 + 3, none⟩ = some (.int .i64 rc) ∧ w'.cell? ⟨g, off + i * 18 + 4, none⟩ = some (.int .i64 rl) ∧ w'.cell? ⟨g, off + i * 18 + 5, none⟩ = some (.int .i64 rn) ∧ w'.cell? ⟨g, off + i * 18 + 6, none⟩ = some (.slice ra rm rq) ∧ w'.cell? ⟨w.heap.size, 0, none⟩ = some (.int .i64 k0) ∧ w'.cell? ⟨w.heap.size, 1, none⟩ = some (.string p) ∧ w'.cell? ⟨w.heap.size, 2, none⟩ = some (.string t0) ∧ w'.cell? ⟨w.heap.size, 3, none⟩ = some (.int .i64 c1) ∧ w'.cell? ⟨w.heap.size, 4, none⟩ = some (.int .i64 l) ∧ w'.cell? ⟨w.heap.size, 5, none⟩ = some (.int .i64 n) ∧ w'.cell? ⟨w.heap.size, 6, none⟩ = some (.slice a m q))
    (first | exact HS0.out _ (bel_drew _) | exact HS0.out _ B3.out)
    (first
      | (go_at_call 20; have m1 := M1.out; refine (CS.out _ (bel_tr BW.out (bel_drew _))).mono ?_; rintro y w3 ⟨rfl, b3'⟩; have B3 : Hid (Below W2.heap.size W2 w3) := bel_tr (bel_drew _) b3'; clear b3' m1 M1))
  all_goals
    have KZ2 := KZ.out.below B3.out
    have z0 := KZ2.val 0 _ rfl
    have z1 := KZ2.val 1 _ rfl
    have z2 := KZ2.val 2 _ rfl
    have z3 := KZ2.val 3 _ rfl
    have z4 := KZ2.val 4 _ rfl
    have z5 := KZ2.val 5 _ rfl
    have z6 := KZ2.val 6 _ rfl
    have z7 := KZ2.val 7 _ rfl
    have z8 := KZ2.val 8 _ rfl
    have z9 := KZ2.val 9 _ rfl
    have z10 := KZ2.val 10 _ rfl
    have f0 := KZ2.fr 0
    have f1 := KZ2.fr 1
    have f2 := KZ2.fr 2
    have f3 := KZ2.fr 3
    have f4 := KZ2.fr 4
    have f5 := KZ2.fr 5
    have f6 := KZ2.fr 6
    have f7 := KZ2.fr 7
    have f8 := KZ2.fr 8
    have f9 := KZ2.fr 9
    have f10 := KZ2.fr 10
    have BW3 : Hid (Below w.heap.size w w3) := bel_tr BW.out B3.out
    obtain ⟨WF, hWF⟩ : ∃ WF, w3.setCells (w.heap.size + 1) 0 [.int .i64 0, .int .i64 0, .int .i64 0, .int .i64 0, .slice none 0 0, .string ⟨#[]⟩, .bool false, .int .i64 0, .slice none 0 0, .int .i64 0, .int .i64 0] = WF := ⟨_, rfl⟩
    have KF : Hid (Cells WF (w.heap.size + 1) [.int .i64 0, .int .i64 0, .int .i64 0, .int .i64 0, .slice none 0 0, .string ⟨#[]⟩, .bool false, .int .i64 0, .slice none 0 0, .int .i64 0, .int .i64 0]) := by rw [← hWF]; exact KZ2.puts _ rfl
    have SF : Hid (Stay (fun k => k = w.heap.size + 1) w3 WF) := by rw [← hWF]; exact Stay.setCells (O := fun k => k = w.heap.size + 1) (w.heap.size + 1) 0 _ _ rfl
    simp only [World.setCells] at hWF
    have HWF : Hid _ := hWF
    clear hWF KZ2
    go_wp2
    rw [HWF.out]
    have KF2 := KF.out
    have r0 := KF2.val 0 _ rfl
    have r1 := KF2.val 1 _ rfl
    have r2 := KF2.val 2 _ rfl
    have r3 := KF2.val 3 _ rfl
    have r4 := KF2.val 4 _ rfl
    have r5 := KF2.val 5 _ rfl
    have r6 := KF2.val 6 _ rfl
    have r7 := KF2.val 7 _ rfl
    have r8 := KF2.val 8 _ rfl
    have r9 := KF2.val 9 _ rfl
    have r10 := KF2.val 10 _ rfl
    clear z0 z1 z2 z3 z4 z5 z6 z7 z8 z9 z10
    exact bodyPost_ret (v := .tuple #[anV zeroA ⟨none, 0, none, 0⟩, .bool false, .int .i64 14]) (by simp [results, anV, zeroA, Try.results10, go_sem, r0, r1, r2, r3, r4, r5, r6, r7, r8, r9, r10]) rfl ⟨⟨_, rfl, anIn_zero _ _ _⟩, BW3.out.trans (SF.out.below BW3.out.size (fun k hk => by omega))⟩

set_option maxRecDepth 100000 in
set_option maxHeartbeats 8000000 in
theorem refGet_same {w0 : World} {O : Nat → Prop} {w : World} {xb : Nat} {R : List Rc} (h : RAt w0 O w xb R) (hb0 : Below w0.heap.size w0 w) {e : Ed} {a : Option Addr} {m q : Nat} (hnm : Nm w a m e.ls) {c k : Int} {i : Nat} (hi : i < R.length) (hwh : Where R c k (i : Int)) (hv0 : R[i].ed = e) :
    Calls Try.prog 10 #[.pointer (some ⟨xb, 0, none⟩), .int .i64 c, .int .i64 k, edV e a m q] w fun e w' => RGetR w0 (some R[i].x) 0 e ∧ Below w.heap.size w w' := by
  have hv : true = true ↔ R[i].ed = e := ⟨fun _ => hv0, fun _ => rfl⟩
  clear hv0
  obtain ⟨g, off, cc, h1, h2, h3, h4⟩ := h.at (by omega)
  have hmost := h.most
  have HA : Hid (∀ W, Below w.heap.size w W → Calls Try.prog 19 #[.pointer (some ⟨xb, 0, none⟩), .int .i64 c, .int .i64 k] W fun e w' => e = .returned (.int .i64 (i : Int)) ∧ w' = W) := fun W hb => at_val (h.below hb) c k (i : Int) hwh
  have HEACH := h.each R[i] (List.getElem_mem hi)
  have h4i := h4 i hi
  obtain ⟨N, hN⟩ : ∃ N, R.length = N := ⟨_, rfl⟩
  rw [hN] at h1 h2 hi hmost
  have hi' : i < N := hi
  have CS : Hid (∀ W, Below w.heap.size w W → Calls Try.prog 20 #[edV R[i].ed R[i].a R[i].m R[i].q, edV e a m q] W fun x w' => x = .returned (.bool true) ∧ Below W.heap.size W w') := fun W hb => refSame_val ((HEACH.1.below hb0).below hb) (hnm.below hb) true hv
  have HAN : Hid (AnIn (fun b => b < w0.heap.size) w0 R[i].x R[i].s) := HEACH.2
  clear h hb0 hnm hwh HEACH h4 hv hN
  generalize R[i] = r at *
  obtain ⟨⟨rk, rp, rt, rc, rl, rn, rls⟩, ra, rm, rq, ⟨err, ⟨b1, b2, b3⟩, names, path, dir, quota, blocks, writer, nn⟩, ⟨x1, y1, x2, y2⟩⟩ := r
  obtain ⟨k0, p, t0, c1, l, n, ls⟩ := e
  unfold rcC at h4i
  unfold edV at CS ⊢
  simp only at h4i CS HAN ⊢
  obtain ⟨n1, hn1⟩ : ∃ N, names.length = N := ⟨_, rfl⟩
  obtain ⟨n2, hn2⟩ : ∃ N, blocks.length = N := ⟨_, rfl⟩
  rw [hn1, hn2] at h4i
  have HN1 : Hid (names.length = n1) := hn1
  have HN2 : Hid (blocks.length = n2) := hn2
  clear hn1 hn2
  have H4w : Hid (∀ (j : Nat) (u : Value), [.int .i64 rk, .string rp, .string rt, .int .i64 rc, .int .i64 rl, .int .i64 rn, .slice ra rm rq, .int .i64 err, .int .i64 b1, .int .i64 b2, .int .i64 b3, .slice x1 n1 y1, .string path, .bool dir, .int .i64 quota, .slice x2 n2 y2, .int .i64 writer, .int .i64 nn][j]? = some u → w.cell? ⟨g, off + i * 18 + j, none⟩ = some u) := h4i
  have H1w : Hid (w.cell? ⟨xb, 0, none⟩ = some (.slice (some ⟨g, off, none⟩) N cc)) := h1
  clear h4i h1
  go_enter Try.func10, Try.ntmps10
  go_wp2_with (go_at_call 19; refine (HA.out _ (bel_tr (bel_al _ _) (bel_al _ _))).mono ?_; rintro y w1 ⟨rfl, rfl⟩)
  have BW : Hid (Below w.heap.size w ((w.alloc (.cells #[.int .i64 k0, .string p, .string t0, .int .i64 c1, .int .i64 l, .int .i64 n, .slice a m q] 32)).alloc (.cells #[.int .i64 0, .int .i64 0, .int .i64 0, .int .i64 0, .slice none 0 0, .string ⟨#[]⟩, .bool false, .int .i64 0, .slice none 0 0, .int .i64 0, .int .i64 0] 41))) := bel_tr (bel_al _ _) (bel_al _ _)
  have KE : Hid (Cells ((w.alloc (.cells #[.int .i64 k0, .string p, .string t0, .int .i64 c1, .int .i64 l, .int .i64 n, .slice a m q] 32)).alloc (.cells #[.int .i64 0, .int .i64 0, .int .i64 0, .int .i64 0, .slice none 0 0, .string ⟨#[]⟩, .bool false, .int .i64 0, .slice none 0 0, .int .i64 0, .int .i64 0] 41)) w.heap.size [.int .i64 k0, .string p, .string t0, .int .i64 c1, .int .i64 l, .int .i64 n, .slice a m q]) := (Cells.new _ _ _).below (bel_al _ _)
  have KZ : Hid (Cells ((w.alloc (.cells #[.int .i64 k0, .string p, .string t0, .int .i64 c1, .int .i64 l, .int .i64 n, .slice a m q] 32)).alloc (.cells #[.int .i64 0, .int .i64 0, .int .i64 0, .int .i64 0, .slice none 0 0, .string ⟨#[]⟩, .bool false, .int .i64 0, .slice none 0 0, .int .i64 0, .int .i64 0] 41)) (w.heap.size + 1) [.int .i64 0, .int .i64 0, .int .i64 0, .int .i64 0, .slice none 0 0, .string ⟨#[]⟩, .bool false, .int .i64 0, .slice none 0 0, .int .i64 0, .int .i64 0]) := by
    have := Cells.new (w.alloc (.cells #[.int .i64 k0, .string p, .string t0, .int .i64 c1, .int .i64 l, .int .i64 n, .slice a m q] 32)) 41 [.int .i64 0, .int .i64 0, .int .i64 0, .int .i64 0, .slice none 0 0, .string ⟨#[]⟩, .bool false, .int .i64 0, .slice none 0 0, .int .i64 0, .int .i64 0]
    rw [show (w.alloc (.cells #[.int .i64 k0, .string p, .string t0, .int .i64 c1, .int .i64 l, .int .i64 n, .slice a m q] 32)).heap.size = w.heap.size + 1 by simp] at this
    exact this
  generalize hW2 : ((w.alloc (.cells #[.int .i64 k0, .string p, .string t0, .int .i64 c1, .int .i64 l, .int .i64 n, .slice a m q] 32)).alloc (.cells #[.int .i64 0, .int .i64 0, .int .i64 0, .int .i64 0, .slice none 0 0, .string ⟨#[]⟩, .bool false, .int .i64 0, .slice none 0 0, .int .i64 0, .int .i64 0] 41)) = W2 at BW KE KZ ⊢
  clear hW2
  have H1 : Hid _ := bel_cell BW.out H1w.out
  have H4 : Hid (∀ (j : Nat) (u : Value), [.int .i64 rk, .string rp, .string rt, .int .i64 rc, .int .i64 rl, .int .i64 rn, .slice ra rm rq, .int .i64 err, .int .i64 b1, .int .i64 b2, .int .i64 b3, .slice x1 n1 y1, .string path, .bool dir, .int .i64 quota, .slice x2 n2 y2, .int .i64 writer, .int .i64 nn][j]? = some u → W2.cell? ⟨g, off + i * 18 + j, none⟩ = some u) := fun j u hu => bel_cell BW.out (H4w.out j u hu)
  have HS0 : Hid (∀ W, Below W2.heap.size W2 W → W.cell? ⟨xb, 0, none⟩ = some (.slice (some ⟨g, off, none⟩) N cc) ∧ W.cell? ⟨g, off + i * 18, none⟩ = some (.int .i64 rk) ∧ W.cell? ⟨g, off + i * 18 + 1, none⟩ = some (.string rp) ∧ W.cell? ⟨g, off + i * 18 + 2, none⟩ = some (.string rt) ∧ W.cell? ⟨g, off + i * 18 + 3, none⟩ = some (.int .i64 rc) ∧ W.cell? ⟨g, off + i * 18 + 4, none⟩ = some (.int .i64 rl) ∧ W.cell? ⟨g, off + i * 18 + 5, none⟩ = some (.int .i64 rn) ∧ W.cell? ⟨g, off + i * 18 + 6, none⟩ = some (.slice ra rm rq) ∧ W.cell? ⟨w.heap.size, 0, none⟩ = some (.int .i64 k0) ∧ W.cell? ⟨w.heap.size, 1, none⟩ = some (.string p) ∧ W.cell? ⟨w.heap.size, 2, none⟩ = some (.string t0) ∧ W.cell? ⟨w.heap.size, 3, none⟩ = some (.int .i64 c1) ∧ W.cell? ⟨w.heap.size, 4, none⟩ = some (.int .i64 l) ∧ W.cell? ⟨w.heap.size, 5, none⟩ = some (.int .i64 n) ∧ W.cell? ⟨w.heap.size, 6, none⟩ = some (.slice a m q)) := fun W hW => ⟨bel_cell hW (H1.out), bel_cell hW (H4.out 0 _ rfl), bel_cell hW (H4.out 1 _ rfl), bel_cell hW (H4.out 2 _ rfl), bel_cell hW (H4.out 3 _ rfl), bel_cell hW (H4.out 4 _ rfl), bel_cell hW (H4.out 5 _ rfl), bel_cell hW (H4.out 6 _ rfl), bel_cell hW (KE.out.val 0 _ rfl), bel_cell hW (KE.out.val 1 _ rfl), bel_cell hW (KE.out.val 2 _ rfl), bel_cell hW (KE.out.val 3 _ rfl), bel_cell hW (KE.out.val 4 _ rfl), bel_cell hW (KE.out.val 5 _ rfl), bel_cell hW (KE.out.val 6 _ rfl)⟩
  have M1 : Hid True := trivial
  go_region_held3 (fun w' => w'.cell? ⟨xb, 0, none⟩ = some (.slice (some ⟨g, off, none⟩) N cc) ∧ w'.cell? ⟨g, off + i * 18, none⟩ = some (.int .i64 rk) ∧ w'.cell? ⟨g, off + i * 18 + 1, none⟩ = some (.string rp) ∧ w'.cell? ⟨g, off + i * 18 + 2, none⟩ = some (.string rt) ∧ w'.cell? ⟨g, off + i * 18 + 3, none⟩ = some (.int .i64 rc) ∧ w'.cell? ⟨g, off + i * 18 + 4, none⟩ = some (.int .i64 rl) ∧ w'.cell? ⟨g, off + i * 18 + 5, none⟩ = some (.int .i64 rn) ∧ w'.cell? ⟨g, off + i * 18 + 6, none⟩ = some (.slice ra rm rq) ∧ w'.cell? ⟨w.heap.size, 0, none⟩ = some (.int .i64 k0) ∧ w'.cell? ⟨w.heap.size, 1, none⟩ = some (.string p) ∧ w'.cell? ⟨w.heap.size, 2, none⟩ = some (.string t0) ∧ w'.cell? ⟨w.heap.size, 3, none⟩ = some (.int .i64 c1) ∧ w'.cell? ⟨w.heap.size, 4, none⟩ = some (.int .i64 l) ∧ w'.cell? ⟨w.heap.size, 5, none⟩ = some (.int .i64 n) ∧ w'.cell? ⟨w.heap.size, 6, none⟩ = some (.slice a m q))
    (first | exact HS0.out _ (bel_drew _) | exact HS0.out _ B3.out)
    (first
      | (go_at_call 20; have m1 := M1.out; refine (CS.out _ (bel_tr BW.out (bel_drew _))).mono ?_; rintro y w3 ⟨rfl, b3'⟩; have B3 : Hid (Below W2.heap.size W2 w3) := bel_tr (bel_drew _) b3'; clear b3' m1 M1))
  all_goals
    have KZ2 := KZ.out.below B3.out
    have z0 := KZ2.val 0 _ rfl
    have z1 := KZ2.val 1 _ rfl
    have z2 := KZ2.val 2 _ rfl
    have z3 := KZ2.val 3 _ rfl
    have z4 := KZ2.val 4 _ rfl
    have z5 := KZ2.val 5 _ rfl
    have z6 := KZ2.val 6 _ rfl
    have z7 := KZ2.val 7 _ rfl
    have z8 := KZ2.val 8 _ rfl
    have z9 := KZ2.val 9 _ rfl
    have z10 := KZ2.val 10 _ rfl
    have f0 := KZ2.fr 0
    have f1 := KZ2.fr 1
    have f2 := KZ2.fr 2
    have f3 := KZ2.fr 3
    have f4 := KZ2.fr 4
    have f5 := KZ2.fr 5
    have f6 := KZ2.fr 6
    have f7 := KZ2.fr 7
    have f8 := KZ2.fr 8
    have f9 := KZ2.fr 9
    have f10 := KZ2.fr 10
    have BW3 : Hid (Below w.heap.size w w3) := bel_tr BW.out B3.out
    have p0 := bel_cell B3.out H1.out
    have yy0 := bel_cell B3.out (H4.out 7 _ rfl)
    have yy1 := bel_cell B3.out (H4.out 8 _ rfl)
    have yy2 := bel_cell B3.out (H4.out 9 _ rfl)
    have yy3 := bel_cell B3.out (H4.out 10 _ rfl)
    have yy4 := bel_cell B3.out (H4.out 11 _ rfl)
    have yy5 := bel_cell B3.out (H4.out 12 _ rfl)
    have yy6 := bel_cell B3.out (H4.out 13 _ rfl)
    have yy7 := bel_cell B3.out (H4.out 14 _ rfl)
    have yy8 := bel_cell B3.out (H4.out 15 _ rfl)
    have yy9 := bel_cell B3.out (H4.out 16 _ rfl)
    have yy10 := bel_cell B3.out (H4.out 17 _ rfl)
    obtain ⟨WF, hWF⟩ : ∃ WF, w3.setCells (w.heap.size + 1) 0 [.int .i64 err, .int .i64 b1, .int .i64 b2, .int .i64 b3, .slice x1 n1 y1, .string path, .bool dir, .int .i64 quota, .slice x2 n2 y2, .int .i64 writer, .int .i64 nn] = WF := ⟨_, rfl⟩
    have KF : Hid (Cells WF (w.heap.size + 1) [.int .i64 err, .int .i64 b1, .int .i64 b2, .int .i64 b3, .slice x1 n1 y1, .string path, .bool dir, .int .i64 quota, .slice x2 n2 y2, .int .i64 writer, .int .i64 nn]) := by rw [← hWF]; exact KZ2.puts _ rfl
    have SF : Hid (Stay (fun k => k = w.heap.size + 1) w3 WF) := by rw [← hWF]; exact Stay.setCells (O := fun k => k = w.heap.size + 1) (w.heap.size + 1) 0 _ _ rfl
    simp only [World.setCells] at hWF
    have HWF : Hid _ := hWF
    clear hWF KZ2
    go_wp2
    rw [HWF.out]
    have KF2 := KF.out
    have r0 := KF2.val 0 _ rfl
    have r1 := KF2.val 1 _ rfl
    have r2 := KF2.val 2 _ rfl
    have r3 := KF2.val 3 _ rfl
    have r4 := KF2.val 4 _ rfl
    have r5 := KF2.val 5 _ rfl
    have r6 := KF2.val 6 _ rfl
    have r7 := KF2.val 7 _ rfl
    have r8 := KF2.val 8 _ rfl
    have r9 := KF2.val 9 _ rfl
    have r10 := KF2.val 10 _ rfl
    clear z0 z1 z2 z3 z4 z5 z6 z7 z8 z9 z10
    exact bodyPost_ret (v := .tuple #[anV ⟨err, ⟨b1, b2, b3⟩, names, path, dir, quota, blocks, writer, nn⟩ ⟨x1, y1, x2, y2⟩, .bool true, .int .i64 0]) (by simp [results, anV, Try.results10, go_sem, r0, r1, r2, r3, r4, r5, r6, r7, r8, r9, r10, HN1.out, HN2.out]) rfl ⟨⟨⟨x1, y1, x2, y2⟩, rfl, HAN.out⟩, BW3.out.trans (SF.out.below BW3.out.size (fun k hk => by omega))⟩

theorem refGet_val {w0 : World} {O : Nat → Prop} {w : World} {xb : Nat} {R : List Rc} (h : RAt w0 O w xb R) (hb0 : Below w0.heap.size w0 w) {e : Ed} {a : Option Addr} {m q : Nat} (hnm : Nm w a m e.ls) {c k : Int} (o : Option Ans) (er : Int) (ho : getA (R.map absR) c k e = (o, er)) :
    Calls Try.prog 10 #[.pointer (some ⟨xb, 0, none⟩), .int .i64 c, .int .i64 k, edV e a m q] w fun e w' => RGetR w0 o er e ∧ Below w.heap.size w w' := by
  obtain ⟨res, hw⟩ := where_ex R c k
  rcases where_look hw with ⟨i, hi, rfl, hl⟩ | ⟨rfl, hl⟩
  · by_cases he : R[i].ed = e
    · have h1 : getA (R.map absR) c k e = (some R[i].x, 0) := by rw [← he]; exact getA_yes hl
      rw [h1] at ho
      cases ho
      exact refGet_same h hb0 hnm hi hw he
    · rw [getA_no hl he] at ho
      cases ho
      exact refGet_other h hb0 hnm hi hw he
  · rw [getA_none hl] at ho
    cases ho
    exact refGet_none h hb0 hnm hw

end Go.Proofs.Ythogpaojdlfjcaa.Rty
