/- Part 36 of the proof: SpaceFG. -/
import Derived.Test.YtdilfbfkeiaafaaGreatB35
set_option maxRecDepth 100000
set_option maxHeartbeats 8000000
namespace Go.Proofs.YtdilfbfkeiaafaaGreat.Spa
open Go.RowKit Go.Proofs.YtdilfbfkeiaafaaGreat
open Go.Proofs.YtdilfbfkeiaafaaGreat.Lea (LS Ls findX putL renX LL LO LsR lsC wideL)
open Go.Proofs.YtdilfbfkeiaafaaGreat.Edi (Ed Nm EdAt edV)
theorem noS_ok (w : World) (x : Nd) (hb : x.bs = []) (hs : x.path.size ≤ maxLen) : NdOk w (x, noS) := ⟨hs, by rw [hb]; rfl, Nat.zero_le _, fun _ => rfl, fun hp => absurd hp (Nat.lt_irrefl 0)⟩
theorem free_no (base : Nat) (w : World) (x : Nd) (hb : x.bs = []) (hs : x.path.size ≤ maxLen) : Free base w (x, noS) := ⟨noS_ok w x hb hs, fun hp => absurd hp (Nat.lt_irrefl 0)⟩
theorem stay_cell {O : Nat → Prop} {w w' : World} (hs : Stay O w w') {b j : Nat} {v : Value} (hO : ¬ O b) (hc : w.cell? ⟨b, j, none⟩ = some v) : w'.cell? ⟨b, j, none⟩ = some v :=
  (World.cell?_of_block (a := ⟨b, j, none⟩) (hs.block b (World.block_lt_of_cell? _ _ hc) hO)).trans hc
theorem LeftR.after {S base M0 : Nat} {E : Int} {w w1 w2 : World} {r : Ending} (hb : Below w.heap.size w w1) (h : LeftR S base M0 E w1 r w2) : LeftR S base M0 E w r w2 := ⟨h.eq, (Stay.of_below hb).then_same h.st, fun s N L hc => h.c s N L (hc.below hb)⟩
theorem create_add {base M0 S : Nat} {w : World} {s : Sp} {N L : RS} {ps : List NR} {gb : Nat} {gl : Option Nat} (h : Pre base M0 S w s N L ps gb gl) (e : Ed) (ea : Option Addr) (em eq : Nat) (hp : 0 < ps.length) (hs : e.p.size ≤ maxLen) (hk : e.k = 2) (E : Int) (hA : AddE s.ns (newN e) E) (h0 : E ≠ 0) :
    Calls Tryz.prog 57 #[.pointer (some ⟨S, 0, none⟩), edV e ea em eq] w fun r w' => LeftR S base M0 E w r w' := by
  have hN : newN e = ⟨e.p, false, -1, [], e.c⟩ := by unfold newN; rw [if_pos hk, decide_eq_false (by omega)]
  rw [hN] at hA
  have CA : Hid (∀ W, Below w.heap.size w W → Calls Tryz.prog 56 #[.pointer (some ⟨S, 0, none⟩), ndV ((⟨e.p, false, -1, [], e.c⟩ : Nd), noS)] W fun r w' => LeftR S base M0 E W r w') := fun W hb => add_no (h.below hb) hp _ (noS_ok W _ rfl hs) E hA h0
  obtain ⟨k, p, t, cl, l, nn, ls⟩ := e
  unfold edV; unfold ndV noS at CA; simp only at CA ⊢
  have hst := run_store_str
  have hst2 := sto2
  clear h hp hs hA hN; go_enter Tryz.func57, Tryz.ntmps57; go_wp2_with (first
    | (go_at_call 100; refine (newFile_val _ _ _).mono ?_; rintro e w1 ⟨rfl, c1⟩; obtain ⟨q1, q2, q3, q4, q5, q6⟩ := two_boxes c1; have y3 := q1 3 _ rfl; have B1 : Hid (Below w.heap.size w w1) := q5; have HAN : Hid (AnC w1 (w.heap.size + 1) 0 zeroB noS zeroX 0) := ⟨q3 0 _ rfl, q3 1 _ rfl, q3 2 _ rfl, q3 3 _ rfl, q3 4 _ rfl, q3 5 _ rfl, q3 6 _ rfl, q3 7 _ rfl, q3 8 _ rfl, q3 9 _ rfl, q3 10 _ rfl, q4⟩; have HSZ : Hid (w.heap.size + 2 ≤ w1.heap.size) := q6; unfold ndV; simp only; clear c1 q1 q2 q3 q4 q5 q6)
    | (go_at_call 56; refine (CA.out _ (bel_tr B1.out (bel_al _ _))).mono ?_; rintro e w2 ⟨rfl, hS2, hc2⟩; have HS2 : Hid _ := hS2; have HCC : Hid _ := hc2; clear hS2 hc2))
  exact left_post rfl ⟨rfl, (Stay.of_below (bel_tr B1.out (bel_al _ _))).then_same HS2.out, fun s N L h => HCC.out s N L (h.below (bel_tr B1.out (bel_al _ _)))⟩
theorem create_full {base M0 S : Nat} {w : World} {s : Sp} {N L : RS} {ps : List NR} {gb : Nat} {gl : Option Nat} (h : Pre base M0 S w s N L ps gb gl) (e : Ed) (ea : Option Addr) (em eq : Nat) (hp : 0 < ps.length) (hs : e.p.size ≤ maxLen) (hk : e.k = 2) (hR : Right s.ns) (hA : AddE s.ns (newN e) 0) (hr : roomI s.ns (parD e.p) < 1) :
    Calls Tryz.prog 57 #[.pointer (some ⟨S, 0, none⟩), edV e ea em eq] w fun r w' => LeftR S base M0 8 w r w' := by
  have hN : newN e = ⟨e.p, false, -1, [], e.c⟩ := by unfold newN; rw [if_pos hk, decide_eq_false (by omega)]
  rw [hN] at hA
  have CA : Hid (∀ W, Below w.heap.size w W → Calls Tryz.prog 56 #[.pointer (some ⟨S, 0, none⟩), ndV ((⟨e.p, false, -1, [], e.c⟩ : Nd), noS)] W fun r w' => LeftR S base M0 8 W r w') := fun W hb => add_full (h.below hb) hp _ (noS_ok W _ rfl hs) hA hR hr
  obtain ⟨k, p, t, cl, l, nn, ls⟩ := e
  unfold edV; unfold ndV noS at CA; simp only at CA ⊢
  have hst := run_store_str
  have hst2 := sto2
  clear h hp hs hA hN; go_enter Tryz.func57, Tryz.ntmps57; go_wp2_with (first
    | (go_at_call 100; refine (newFile_val _ _ _).mono ?_; rintro e w1 ⟨rfl, c1⟩; obtain ⟨q1, q2, q3, q4, q5, q6⟩ := two_boxes c1; have y3 := q1 3 _ rfl; have B1 : Hid (Below w.heap.size w w1) := q5; have HAN : Hid (AnC w1 (w.heap.size + 1) 0 zeroB noS zeroX 0) := ⟨q3 0 _ rfl, q3 1 _ rfl, q3 2 _ rfl, q3 3 _ rfl, q3 4 _ rfl, q3 5 _ rfl, q3 6 _ rfl, q3 7 _ rfl, q3 8 _ rfl, q3 9 _ rfl, q3 10 _ rfl, q4⟩; have HSZ : Hid (w.heap.size + 2 ≤ w1.heap.size) := q6; unfold ndV; simp only; clear c1 q1 q2 q3 q4 q5 q6)
    | (go_at_call 56; refine (CA.out _ (bel_tr B1.out (bel_al _ _))).mono ?_; rintro e w2 ⟨rfl, hS2, hc2⟩; have HS2 : Hid _ := hS2; have HCC : Hid _ := hc2; clear hS2 hc2))
  exact left_post rfl ⟨rfl, (Stay.of_below (bel_tr B1.out (bel_al _ _))).then_same HS2.out, fun s N L h => HCC.out s N L (h.below (bel_tr B1.out (bel_al _ _)))⟩
theorem create_ok {base M0 S : Nat} {w : World} {s : Sp} {N L : RS} {ps : List NR} {gb : Nat} {gl : Option Nat} (h : Pre base M0 S w s N L ps gb gl) (e : Ed) (ea : Option Addr) (em eq : Nat) (hp : 0 < ps.length) (hs : e.p.size ≤ maxLen) (hk : e.k = 2) (hR : Right s.ns) (hA : AddE s.ns (newN e) 0) (hr : 1 ≤ roomI s.ns (parD e.p)) (ys : LS) (hL : renX s.ls e.c s.now = (ys, true)) :
    Calls Tryz.prog 57 #[.pointer (some ⟨S, 0, none⟩), edV e ea em eq] w fun r w' => DoneR S base M0 ⟨s.tx, s.nb, s.ng, s.now, sortN (s.ns ++ [newN e]), ys⟩ zeroB (newN e) w r w' := by
  have hN : newN e = ⟨e.p, false, -1, [], e.c⟩ := by unfold newN; rw [if_pos hk, decide_eq_false (by omega)]
  rw [hN] at hA ⊢
  have CA : Hid (∀ W, Below w.heap.size w W → Calls Tryz.prog 56 #[.pointer (some ⟨S, 0, none⟩), ndV ((⟨e.p, false, -1, [], e.c⟩ : Nd), noS)] W fun r w' => AddR S base ⟨s.tx, s.nb, s.ng, s.now, sortN (s.ns ++ [⟨e.p, false, -1, [], e.c⟩]), s.ls⟩ L gl W r w') := fun W hb => add_ok (h.below hb) hp _ (noS_ok W _ rfl hs) hA hR hr
  have CL : Hid (∀ W N' L', SpC W S ⟨s.tx, s.nb, s.ng, s.now, sortN (s.ns ++ [⟨e.p, false, -1, [], e.c⟩]), s.ls⟩ N' L' → LL W L'.a L'.n L'.c s.ls → Calls Tryz.prog 101 #[.pointer (some ⟨S, 0, none⟩), .int .i64 e.c] W fun r w' => RnwR S ⟨s.tx, s.nb, s.ng, s.now, sortN (s.ns ++ [⟨e.p, false, -1, [], e.c⟩]), s.ls⟩ N' ys W r w') := fun W N' L' hC hll => renewLease_ok hC hll e.c ys hL
  have HPRE : Hid (Pre base M0 S w s N L ps gb gl) := h
  have HS : Hid (e.p.size ≤ maxLen) := hs
  obtain ⟨k, p, t, cl, l, nn, ls⟩ := e
  unfold edV; unfold ndV noS at CA; simp only at CA CL HS ⊢
  have hst := run_store_str
  have hst2 := sto2
  clear h hp hs hA hN hr hR hL; go_enter Tryz.func57, Tryz.ntmps57; go_wp2_with (first
    | (go_at_call 100; refine (newFile_val _ _ _).mono ?_; rintro e w1 ⟨rfl, c1⟩; obtain ⟨q1, q2, q3, q4, q5, q6⟩ := two_boxes c1; have y3 := q1 3 _ rfl; have B1 : Hid (Below w.heap.size w w1) := q5; have HAN : Hid (AnC w1 (w.heap.size + 1) 0 zeroB noS zeroX 0) := ⟨q3 0 _ rfl, q3 1 _ rfl, q3 2 _ rfl, q3 3 _ rfl, q3 4 _ rfl, q3 5 _ rfl, q3 6 _ rfl, q3 7 _ rfl, q3 8 _ rfl, q3 9 _ rfl, q3 10 _ rfl, q4⟩; have HSZ : Hid (w.heap.size + 2 ≤ w1.heap.size) := q6; unfold ndV; simp only; clear c1 q1 q2 q3 q4 q5 q6)
    | (go_at_call 56; refine (CA.out _ (bel_tr B1.out (bel_al _ _))).mono ?_; rintro e w2 ⟨⟨N', ps', g', rfl, hC2, hO2, hg2, hx2⟩, hS2⟩; have HC2 : Hid _ := hC2; have HO2 : Hid _ := hO2; have HG2 : Hid _ := hg2; have HXX : Hid _ := hx2; have HS2 : Hid _ := hS2; have hlt := HPRE.out.lt; have hsz := HSZ.out; have b3 := stay_cell hS2 (b := w.heap.size) (by omega) (cell_al y3 _); have n0 := stay_cell hS2 (b := w1.heap.size) (by omega) (World.cell?_alloc_new w1 _ _ 0); have n1 := stay_cell hS2 (b := w1.heap.size) (by omega) (World.cell?_alloc_new w1 _ _ 1); have n2 := stay_cell hS2 (b := w1.heap.size) (by omega) (World.cell?_alloc_new w1 _ _ 2); have n3 := stay_cell hS2 (b := w1.heap.size) (by omega) (World.cell?_alloc_new w1 _ _ 3); have n4 := stay_cell hS2 (b := w1.heap.size) (by omega) (World.cell?_alloc_new w1 _ _ 4); have HAN2 : Hid _ := (HAN.out.below (bel_al w1 _)).keep hS2 (by omega); clear hlt hsz hC2 hO2 hg2 hx2 hS2)
    | (go_at_call 101; refine (CL.out _ N' L HC2.out HO2.out.lo.ll).mono ?_; rintro e w3 ⟨⟨L', gl', rfl, hC3, hL3⟩, hS3⟩; have hlt := HPRE.out.lt; have hsz := HSZ.out; have m0 := stay_cell hS3 (b := w1.heap.size) (by omega) n0; have m1 := stay_cell hS3 (b := w1.heap.size) (by omega) n1; have m2 := stay_cell hS3 (b := w1.heap.size) (by omega) n2; have m3 := stay_cell hS3 (b := w1.heap.size) (by omega) n3; have m4 := stay_cell hS3 (b := w1.heap.size) (by omega) n4; have HAN4 : Hid (AnC w3 (w.heap.size + 1) 0 zeroB noS zeroX 0) := HAN2.out.keep hS3 (by omega); have HC3 : Hid _ := hC3; have HL3 : Hid _ := hL3; have HS3 : Hid _ := hS3; obtain ⟨a0, a1, a2, a3, a4, a5, a6, a7, a8, a9, a10, afr⟩ := HAN4.out; unfold zeroB at a1 a2 a3; unfold noS at a4; unfold zeroX zeroN noS at a5 a6 a7 a8 a9; simp only at a1 a2 a3 a4 a5 a6 a7 a8 a9; clear hC3 hL3 hS3 hlt hsz))
  have hsb := HPRE.out.sb
  have hbw := HPRE.out.bw
  have hlt := HPRE.out.lt
  have hsz1 := HSZ.out
  have hsW : (w1.alloc (.cells #[.string p, .bool false, .int .i64 (-1), .slice none 0 0, .int .i64 cl] 35)).heap.size = w1.heap.size + 1 := by simp
  have hsz2 := HS2.out.size
  have hsz3 := HS3.out.size
  have hO4 := HO2.out.renew (Nat.le_refl _) hsb (by omega) HL3.out HS3.out
  have hlo := HL3.out.own
  have hg2 := HG2.out
  have hx2 := HXX.out
  have hst4 : Stay (Chg S base M0) w w3 := ((Stay.of_below (bel_tr B1.out (bel_al w1 _))).trans HS2.out (fun k _ e => .inl e)).trans HS3.out (fun k _ e => .inl e)
  obtain ⟨hA, hD⟩ := DoneR.mk2 (b := zeroB) (x := ⟨p, false, -1, [], cl⟩) (sx := noS) HAN4.out HC3.out hO4 (free_no _ w3 ⟨p, false, -1, [], cl⟩ rfl HS.out) (by omega) hst4 (by omega) HPRE.out.bw HPRE.out.lt.2.2.1 (fun k hk => by have := hg2 k hk; omega) (fun k hk => by have := (hlo k hk).2; omega) (fun z hz k hk => by have := hx2 z hz k hk; omega) (fun k hk => by unfold noS RS.blk at hk; simp at hk)
  have k0 := hA.c0
  have k1 := hA.c1
  have k2 := hA.c2
  have k3 := hA.c3
  have k4 := hA.c4
  have k5 := hA.c5
  have k6 := hA.c6
  have k7 := hA.c7
  have k8 := hA.c8
  have k9 := hA.c9
  have k10 := hA.c10
  unfold put11 noS at k0 k1 k2 k3 k4 k5 k6 k7 k8 k9 k10 hD; simp only [zeroB, anV] at k0 k1 k2 k3 k4 k5 k6 k7 k8 k9 k10 hD
  refine bodyPost_ret ?_ rfl hD
  simp only [results, Tryz.results57]
  simp [go_sem, k0, k1, k2, k3, k4, k5, k6, k7, k8, k9, k10]
end Go.Proofs.YtdilfbfkeiaafaaGreat.Spa
