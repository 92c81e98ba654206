/- Part 39 of the proof: SpaceFM, SpaceFN, SpaceFT. -/
import Derived.Test.YtdilfbfkeiaafaaGreatB36
set_option maxRecDepth 100000
set_option maxHeartbeats 8000000
namespace Go.Proofs.YtdilfbfkeiaafaaGreat.Spa
open Go.RowKit Go.Proofs.YtdilfbfkeiaafaaGreat
open Go.Proofs.YtdilfbfkeiaafaaGreat.Lea (LS Ls findX putL renX LL LO LsR lsC wideL)
open Go.Proofs.YtdilfbfkeiaafaaGreat.Edi (Ed Nm EdAt edV)
theorem anC_two (w : World) (cs : Array Value) (t1 : TypeId) : AnC ((w.alloc (.cells cs t1)).alloc (.cells #[.int .i64 0, .int .i64 0, .int .i64 0, .int .i64 0, .slice none 0 0, .string ⟨#[]⟩, .bool false, .int .i64 0, .slice none 0 0, .int .i64 0, .int .i64 0] 37)) (w.heap.size + 1) 0 zeroB noS zeroX 0 := by
  obtain ⟨q1, q2, q3, q4, q5, q6⟩ := two_boxes (w := w) (cs := cs) (t1 := t1) (Below.refl _ _)
  exact ⟨q3 0 _ rfl, q3 1 _ rfl, q3 2 _ rfl, q3 3 _ rfl, q3 4 _ rfl, q3 5 _ rfl, q3 6 _ rfl, q3 7 _ rfl, q3 8 _ rfl, q3 9 _ rfl, q3 10 _ rfl, q4⟩
theorem done_up {base M0 S : Nat} {w W w1 : World} {s t : Sp} {N L : RS} {ps : List NR} {gb : Nat} {gl : Option Nat} (h : Pre base M0 S w s N L ps gb gl) {b : Blk} {x : Nd} {r : Ending} (hA : AnC W (w.heap.size + 1) 0 zeroB noS zeroX 0) (hsz : w.heap.size + 2 ≤ W.heap.size) (hb : Below w.heap.size w W) (hD : DoneR S base M0 t b x W r w1) :
    ∃ sx, r = .returned (anV 0 b noS (x, sx) 0) ∧ AnC w1 (w.heap.size + 1) 0 zeroB noS zeroX 0 ∧ AnC (put11 w1 (w.heap.size + 1) 0 b noS (x, sx) 0) (w.heap.size + 1) 0 b noS (x, sx) 0 ∧ DoneR S base M0 t b x w (.returned (anV 0 b noS (x, sx) 0)) (put11 w1 (w.heap.size + 1) 0 b noS (x, sx) 0) := by
  obtain ⟨⟨N', L', ps', g', gl', M, sx, hr, hC, hO, hF, hM, ⟨n1, n2, n3⟩, n4⟩, hst⟩ := hD
  have hmw := h.mw
  have hlt := h.lt
  have hA1 := hA.keep hst (fun e => by
    rcases e with e | e
    · omega
    · omega)
  have hf : ∀ k, k < M0 ∨ W.heap.size ≤ k → k ≠ w.heap.size + 1 ∧ (k < M0 ∨ w.heap.size ≤ k) := fun k hk => by omega
  obtain ⟨k1, k2⟩ := DoneR.mk2 (b := b) (x := x) (sx := sx) hA1 hC hO hF hM ((Stay.of_below hb).then_same hst) (by omega) h.bw hlt.2.2.1 (fun k hk => hf k (n1 k hk)) (fun k hk => hf k (n2 k hk)) (fun z hz k hk => hf k (n3 z hz k hk)) (fun k hk => by have := n4 k hk; omega)
  exact ⟨sx, hr, hA1, k1, k2⟩
theorem unit_up {base M0 S : Nat} {w W w1 : World} {s t : Sp} {N L : RS} {ps : List NR} {gb : Nat} {gl : Option Nat} (h : Pre base M0 S w s N L ps gb gl) {r : Ending} (hA : AnC W (w.heap.size + 1) 0 zeroB noS zeroX 0) (hsz : w.heap.size + 2 ≤ W.heap.size) (hb : Below w.heap.size w W) (hD : UnitR S base M0 t W r w1) :
    r = .returned (.tuple #[]) ∧ AnC w1 (w.heap.size + 1) 0 zeroB noS zeroX 0 ∧ AnC (put11 w1 (w.heap.size + 1) 0 zeroB noS (zeroN, noS) 0) (w.heap.size + 1) 0 zeroB noS (zeroN, noS) 0 ∧ DoneR S base M0 t zeroB zeroN w (.returned (anV 0 zeroB noS (zeroN, noS) 0)) (put11 w1 (w.heap.size + 1) 0 zeroB noS (zeroN, noS) 0) := by
  obtain ⟨⟨N', L', ps', g', gl', hr, hC, hO, n1, n2, n3⟩, hst⟩ := hD
  have hmw := h.mw
  have hlt := h.lt
  have hbw := h.bw
  have hss := hst.size
  have hA1 := hA.keep hst (fun e => by
    rcases e with e | e
    · omega
    · omega)
  have hf : ∀ k, k < M0 ∨ W.heap.size ≤ k → k ≠ w.heap.size + 1 ∧ (k < M0 ∨ w.heap.size ≤ k) := fun k hk => by omega
  obtain ⟨k1, k2⟩ := DoneR.mk2 (b := zeroB) (x := zeroN) (sx := noS) hA1 hC hO (free_no _ w1 zeroN rfl (Nat.zero_le _)) (by omega) ((Stay.of_below hb).then_same hst) (by omega) h.bw hlt.2.2.1 (fun k hk => hf k (n1 k hk)) (fun k hk => hf k (n2 k hk)) (fun z hz k hk => hf k (n3 z hz k hk)) (fun k hk => by unfold noS RS.blk at hk; simp at hk)
  exact ⟨hr, hA1, k1, k2⟩
theorem change_create_no {base M0 S : Nat} {w : World} {s : Sp} {N L : RS} {ps : List NR} {gb : Nat} {gl : Option Nat} (_h : Pre base M0 S w s N L ps gb gl) (e : Ed) (ea : Option Addr) (em eq : Nat) (hk : e.k = 2) (E : Int) (hc : ∀ W, Below w.heap.size w W → Calls Tryz.prog 57 #[.pointer (some ⟨S, 0, none⟩), edV e ea em eq] W fun r w' => LeftR S base M0 E W r w') :
    Calls Tryz.prog 29 #[.pointer (some ⟨S, 0, none⟩), edV e ea em eq] w fun r w' => LeftR S base M0 E w r w' := by
  have CD : Hid (∀ W, Below w.heap.size w W → Calls Tryz.prog 57 #[.pointer (some ⟨S, 0, none⟩), edV e ea em eq] W fun r w' => LeftR S base M0 E W r w') := hc
  obtain ⟨k, p, t, cl, l, nn, ls⟩ := e
  simp only at hk
  subst hk; unfold edV at CD ⊢
  simp only at CD ⊢
  have hst := run_store_str
  have hst2 := sto2
  clear hc; go_enter Tryz.func29, Tryz.ntmps29; go_wp2_with (go_at_call 57; refine (CD.out _ (bel_tr (bel_al _ _) (bel_al _ _))).mono ?_; rintro e w1 hL1; have HL : Hid _ := LeftR.after (bel_tr (bel_al _ _) (bel_al _ _)) hL1; obtain ⟨rfl, _, _⟩ := hL1)
  exact left_post rfl HL.out
theorem change_create {base M0 S : Nat} {w : World} {s : Sp} {N L : RS} {ps : List NR} {gb : Nat} {gl : Option Nat} (h : Pre base M0 S w s N L ps gb gl) (e : Ed) (ea : Option Addr) (em eq : Nat) (hk : e.k = 2) (u : Sp) (b : Blk) (x : Nd) (hc : ∀ W, Below w.heap.size w W → Calls Tryz.prog 57 #[.pointer (some ⟨S, 0, none⟩), edV e ea em eq] W fun r w' => DoneR S base M0 u b x W r w') :
    Calls Tryz.prog 29 #[.pointer (some ⟨S, 0, none⟩), edV e ea em eq] w fun r w' => DoneR S base M0 u b x w r w' := by
  have CD : Hid (∀ W, Below w.heap.size w W → Calls Tryz.prog 57 #[.pointer (some ⟨S, 0, none⟩), edV e ea em eq] W fun r w' => DoneR S base M0 u b x W r w') := hc
  have HPRE : Hid (Pre base M0 S w s N L ps gb gl) := h
  obtain ⟨k, p, t, cl, l, nn, ls⟩ := e
  simp only at hk
  subst hk; unfold edV at CD ⊢
  simp only at CD ⊢
  have hst := run_store_str
  have hst2 := sto2
  clear hc h; go_enter Tryz.func29, Tryz.ntmps29; go_wp2_with (go_at_call 57; refine (CD.out _ (bel_tr (bel_al _ _) (bel_al _ _))).mono ?_; rintro e w1 hD1; obtain ⟨sx, rfl, hA1, hA2, hD2⟩ := done_up HPRE.out (anC_two _ _ _) (by simp) (bel_tr (bel_al _ _) (bel_al _ _)) hD1; have HA1 : Hid _ := hA1; have HA2 : Hid _ := hA2; have HD : Hid _ := hD2; clear hA1 hA2 hD2 hD1; obtain ⟨a0, a1, a2, a3, a4, a5, a6, a7, a8, a9, a10, afr⟩ := HA1.out; unfold zeroB at a1 a2 a3; unfold noS at a4; unfold zeroX zeroN noS at a5 a6 a7 a8 a9; simp only at a1 a2 a3 a4 a5 a6 a7 a8 a9; unfold anV noS; simp only)
  have hA := HA2.out
  have hD := HD.out
  have k0 := hA.c0
  have k1 := hA.c1
  have k2 := hA.c2
  have k3 := hA.c3
  have k4 := hA.c4
  have k5 := hA.c5
  have k6 := hA.c6
  have k7 := hA.c7
  have k8 := hA.c8
  have k9 := hA.c9
  have k10 := hA.c10
  unfold put11 noS  at k0 k1 k2 k3 k4 k5 k6 k7 k8 k9 k10 hD; simp only [anV] at k0 k1 k2 k3 k4 k5 k6 k7 k8 k9 k10 hD
  refine bodyPost_ret ?_ rfl hD
  simp only [results, Tryz.results29]
  simp [go_sem, k0, k1, k2, k3, k4, k5, k6, k7, k8, k9, k10]
theorem change_rename_no {base M0 S : Nat} {w : World} {s : Sp} {N L : RS} {ps : List NR} {gb : Nat} {gl : Option Nat} (_h : Pre base M0 S w s N L ps gb gl) (e : Ed) (ea : Option Addr) (em eq : Nat) (hk : e.k = 4) (E : Int) (hc : ∀ W, Below w.heap.size w W → Calls Tryz.prog 60 #[.pointer (some ⟨S, 0, none⟩), edV e ea em eq] W fun r w' => LeftR S base M0 E W r w') :
    Calls Tryz.prog 29 #[.pointer (some ⟨S, 0, none⟩), edV e ea em eq] w fun r w' => LeftR S base M0 E w r w' := by
  have CD : Hid (∀ W, Below w.heap.size w W → Calls Tryz.prog 60 #[.pointer (some ⟨S, 0, none⟩), edV e ea em eq] W fun r w' => LeftR S base M0 E W r w') := hc
  obtain ⟨k, p, t, cl, l, nn, ls⟩ := e
  simp only at hk
  subst hk; unfold edV at CD ⊢
  simp only at CD ⊢
  have hst := run_store_str
  have hst2 := sto2
  clear hc; go_enter Tryz.func29, Tryz.ntmps29; go_wp2_with (go_at_call 60; refine (CD.out _ (bel_tr (bel_al _ _) (bel_al _ _))).mono ?_; rintro e w1 hL1; have HL : Hid _ := LeftR.after (bel_tr (bel_al _ _) (bel_al _ _)) hL1; obtain ⟨rfl, _, _⟩ := hL1)
  exact left_post rfl HL.out
theorem change_rename {base M0 S : Nat} {w : World} {s : Sp} {N L : RS} {ps : List NR} {gb : Nat} {gl : Option Nat} (h : Pre base M0 S w s N L ps gb gl) (e : Ed) (ea : Option Addr) (em eq : Nat) (hk : e.k = 4) (u : Sp) (hc : ∀ W, Below w.heap.size w W → Calls Tryz.prog 60 #[.pointer (some ⟨S, 0, none⟩), edV e ea em eq] W fun r w' => UnitR S base M0 u W r w') :
    Calls Tryz.prog 29 #[.pointer (some ⟨S, 0, none⟩), edV e ea em eq] w fun r w' => DoneR S base M0 u zeroB zeroN w r w' := by
  have CD : Hid (∀ W, Below w.heap.size w W → Calls Tryz.prog 60 #[.pointer (some ⟨S, 0, none⟩), edV e ea em eq] W fun r w' => UnitR S base M0 u W r w') := hc
  have HPRE : Hid (Pre base M0 S w s N L ps gb gl) := h
  obtain ⟨k, p, t, cl, l, nn, ls⟩ := e
  simp only at hk
  subst hk; unfold edV at CD ⊢
  simp only at CD ⊢
  have hst := run_store_str
  have hst2 := sto2
  clear hc h; go_enter Tryz.func29, Tryz.ntmps29; go_wp2_with (go_at_call 60; refine (CD.out _ (bel_tr (bel_al _ _) (bel_al _ _))).mono ?_; rintro e w1 hD1; obtain ⟨rfl, hA1, hA2, hD2⟩ := unit_up HPRE.out (anC_two _ _ _) (by simp) (bel_tr (bel_al _ _) (bel_al _ _)) hD1; have HA1 : Hid _ := hA1; have HA2 : Hid _ := hA2; have HD : Hid _ := hD2; clear hA1 hA2 hD2 hD1; obtain ⟨a0, a1, a2, a3, a4, a5, a6, a7, a8, a9, a10, afr⟩ := HA1.out; unfold zeroB at a1 a2 a3; unfold noS at a4; unfold zeroX zeroN noS at a5 a6 a7 a8 a9; simp only at a1 a2 a3 a4 a5 a6 a7 a8 a9)
  have hA := HA2.out
  have hD := HD.out
  have k0 := hA.c0
  have k1 := hA.c1
  have k2 := hA.c2
  have k3 := hA.c3
  have k4 := hA.c4
  have k5 := hA.c5
  have k6 := hA.c6
  have k7 := hA.c7
  have k8 := hA.c8
  have k9 := hA.c9
  have k10 := hA.c10
  unfold put11 noS zeroN zeroB at k0 k1 k2 k3 k4 k5 k6 k7 k8 k9 k10 hD; simp only [anV] at k0 k1 k2 k3 k4 k5 k6 k7 k8 k9 k10 hD
  refine bodyPost_ret ?_ rfl hD
  simp only [results, Tryz.results29]
  simp [go_sem, k0, k1, k2, k3, k4, k5, k6, k7, k8, k9, k10]
theorem change_addBlock_no {base M0 S : Nat} {w : World} {s : Sp} {N L : RS} {ps : List NR} {gb : Nat} {gl : Option Nat} (_h : Pre base M0 S w s N L ps gb gl) (e : Ed) (ea : Option Addr) (em eq : Nat) (hk : e.k = 5) (E : Int) (hc : ∀ W, Below w.heap.size w W → Calls Tryz.prog 61 #[.pointer (some ⟨S, 0, none⟩), edV e ea em eq] W fun r w' => LeftR S base M0 E W r w') :
    Calls Tryz.prog 29 #[.pointer (some ⟨S, 0, none⟩), edV e ea em eq] w fun r w' => LeftR S base M0 E w r w' := by
  have CD : Hid (∀ W, Below w.heap.size w W → Calls Tryz.prog 61 #[.pointer (some ⟨S, 0, none⟩), edV e ea em eq] W fun r w' => LeftR S base M0 E W r w') := hc
  obtain ⟨k, p, t, cl, l, nn, ls⟩ := e
  simp only at hk
  subst hk; unfold edV at CD ⊢
  simp only at CD ⊢
  have hst := run_store_str
  have hst2 := sto2
  clear hc; go_enter Tryz.func29, Tryz.ntmps29; go_wp2_with (go_at_call 61; refine (CD.out _ (bel_tr (bel_al _ _) (bel_al _ _))).mono ?_; rintro e w1 hL1; have HL : Hid _ := LeftR.after (bel_tr (bel_al _ _) (bel_al _ _)) hL1; obtain ⟨rfl, _, _⟩ := hL1)
  exact left_post rfl HL.out
theorem change_addBlock {base M0 S : Nat} {w : World} {s : Sp} {N L : RS} {ps : List NR} {gb : Nat} {gl : Option Nat} (h : Pre base M0 S w s N L ps gb gl) (e : Ed) (ea : Option Addr) (em eq : Nat) (hk : e.k = 5) (u : Sp) (b : Blk) (x : Nd) (hc : ∀ W, Below w.heap.size w W → Calls Tryz.prog 61 #[.pointer (some ⟨S, 0, none⟩), edV e ea em eq] W fun r w' => DoneR S base M0 u b x W r w') :
    Calls Tryz.prog 29 #[.pointer (some ⟨S, 0, none⟩), edV e ea em eq] w fun r w' => DoneR S base M0 u b x w r w' := by
  have CD : Hid (∀ W, Below w.heap.size w W → Calls Tryz.prog 61 #[.pointer (some ⟨S, 0, none⟩), edV e ea em eq] W fun r w' => DoneR S base M0 u b x W r w') := hc
  have HPRE : Hid (Pre base M0 S w s N L ps gb gl) := h
  obtain ⟨k, p, t, cl, l, nn, ls⟩ := e
  simp only at hk
  subst hk; unfold edV at CD ⊢
  simp only at CD ⊢
  have hst := run_store_str
  have hst2 := sto2
  clear hc h; go_enter Tryz.func29, Tryz.ntmps29; go_wp2_with (go_at_call 61; refine (CD.out _ (bel_tr (bel_al _ _) (bel_al _ _))).mono ?_; rintro e w1 hD1; obtain ⟨sx, rfl, hA1, hA2, hD2⟩ := done_up HPRE.out (anC_two _ _ _) (by simp) (bel_tr (bel_al _ _) (bel_al _ _)) hD1; have HA1 : Hid _ := hA1; have HA2 : Hid _ := hA2; have HD : Hid _ := hD2; clear hA1 hA2 hD2 hD1; obtain ⟨a0, a1, a2, a3, a4, a5, a6, a7, a8, a9, a10, afr⟩ := HA1.out; unfold zeroB at a1 a2 a3; unfold noS at a4; unfold zeroX zeroN noS at a5 a6 a7 a8 a9; simp only at a1 a2 a3 a4 a5 a6 a7 a8 a9; unfold anV noS; simp only)
  have hA := HA2.out
  have hD := HD.out
  have k0 := hA.c0
  have k1 := hA.c1
  have k2 := hA.c2
  have k3 := hA.c3
  have k4 := hA.c4
  have k5 := hA.c5
  have k6 := hA.c6
  have k7 := hA.c7
  have k8 := hA.c8
  have k9 := hA.c9
  have k10 := hA.c10
  unfold put11 noS  at k0 k1 k2 k3 k4 k5 k6 k7 k8 k9 k10 hD; simp only [anV] at k0 k1 k2 k3 k4 k5 k6 k7 k8 k9 k10 hD
  refine bodyPost_ret ?_ rfl hD
  simp only [results, Tryz.results29]
  simp [go_sem, k0, k1, k2, k3, k4, k5, k6, k7, k8, k9, k10]
theorem change_complete_no {base M0 S : Nat} {w : World} {s : Sp} {N L : RS} {ps : List NR} {gb : Nat} {gl : Option Nat} (_h : Pre base M0 S w s N L ps gb gl) (e : Ed) (ea : Option Addr) (em eq : Nat) (hk : e.k = 6) (E : Int) (hc : ∀ W, Below w.heap.size w W → Calls Tryz.prog 62 #[.pointer (some ⟨S, 0, none⟩), edV e ea em eq] W fun r w' => LeftR S base M0 E W r w') :
    Calls Tryz.prog 29 #[.pointer (some ⟨S, 0, none⟩), edV e ea em eq] w fun r w' => LeftR S base M0 E w r w' := by
  have CD : Hid (∀ W, Below w.heap.size w W → Calls Tryz.prog 62 #[.pointer (some ⟨S, 0, none⟩), edV e ea em eq] W fun r w' => LeftR S base M0 E W r w') := hc
  obtain ⟨k, p, t, cl, l, nn, ls⟩ := e
  simp only at hk
  subst hk; unfold edV at CD ⊢
  simp only at CD ⊢
  have hst := run_store_str
  have hst2 := sto2
  clear hc; go_enter Tryz.func29, Tryz.ntmps29; go_wp2_with (go_at_call 62; refine (CD.out _ (bel_tr (bel_al _ _) (bel_al _ _))).mono ?_; rintro e w1 hL1; have HL : Hid _ := LeftR.after (bel_tr (bel_al _ _) (bel_al _ _)) hL1; obtain ⟨rfl, _, _⟩ := hL1)
  exact left_post rfl HL.out
theorem change_complete {base M0 S : Nat} {w : World} {s : Sp} {N L : RS} {ps : List NR} {gb : Nat} {gl : Option Nat} (h : Pre base M0 S w s N L ps gb gl) (e : Ed) (ea : Option Addr) (em eq : Nat) (hk : e.k = 6) (u : Sp) (b : Blk) (x : Nd) (hc : ∀ W, Below w.heap.size w W → Calls Tryz.prog 62 #[.pointer (some ⟨S, 0, none⟩), edV e ea em eq] W fun r w' => DoneR S base M0 u b x W r w') :
    Calls Tryz.prog 29 #[.pointer (some ⟨S, 0, none⟩), edV e ea em eq] w fun r w' => DoneR S base M0 u b x w r w' := by
  have CD : Hid (∀ W, Below w.heap.size w W → Calls Tryz.prog 62 #[.pointer (some ⟨S, 0, none⟩), edV e ea em eq] W fun r w' => DoneR S base M0 u b x W r w') := hc
  have HPRE : Hid (Pre base M0 S w s N L ps gb gl) := h
  obtain ⟨k, p, t, cl, l, nn, ls⟩ := e
  simp only at hk
  subst hk; unfold edV at CD ⊢
  simp only at CD ⊢
  have hst := run_store_str
  have hst2 := sto2
  clear hc h; go_enter Tryz.func29, Tryz.ntmps29; go_wp2_with (go_at_call 62; refine (CD.out _ (bel_tr (bel_al _ _) (bel_al _ _))).mono ?_; rintro e w1 hD1; obtain ⟨sx, rfl, hA1, hA2, hD2⟩ := done_up HPRE.out (anC_two _ _ _) (by simp) (bel_tr (bel_al _ _) (bel_al _ _)) hD1; have HA1 : Hid _ := hA1; have HA2 : Hid _ := hA2; have HD : Hid _ := hD2; clear hA1 hA2 hD2 hD1; obtain ⟨a0, a1, a2, a3, a4, a5, a6, a7, a8, a9, a10, afr⟩ := HA1.out; unfold zeroB at a1 a2 a3; unfold noS at a4; unfold zeroX zeroN noS at a5 a6 a7 a8 a9; simp only at a1 a2 a3 a4 a5 a6 a7 a8 a9; unfold anV noS; simp only)
  have hA := HA2.out
  have hD := HD.out
  have k0 := hA.c0
  have k1 := hA.c1
  have k2 := hA.c2
  have k3 := hA.c3
  have k4 := hA.c4
  have k5 := hA.c5
  have k6 := hA.c6
  have k7 := hA.c7
  have k8 := hA.c8
  have k9 := hA.c9
  have k10 := hA.c10
  unfold put11 noS  at k0 k1 k2 k3 k4 k5 k6 k7 k8 k9 k10 hD; simp only [anV] at k0 k1 k2 k3 k4 k5 k6 k7 k8 k9 k10 hD
  refine bodyPost_ret ?_ rfl hD
  simp only [results, Tryz.results29]
  simp [go_sem, k0, k1, k2, k3, k4, k5, k6, k7, k8, k9, k10]
theorem change_setQuota_no {base M0 S : Nat} {w : World} {s : Sp} {N L : RS} {ps : List NR} {gb : Nat} {gl : Option Nat} (_h : Pre base M0 S w s N L ps gb gl) (e : Ed) (ea : Option Addr) (em eq : Nat) (hk : e.k = 7) (E : Int) (hc : ∀ W, Below w.heap.size w W → Calls Tryz.prog 63 #[.pointer (some ⟨S, 0, none⟩), edV e ea em eq] W fun r w' => LeftR S base M0 E W r w') :
    Calls Tryz.prog 29 #[.pointer (some ⟨S, 0, none⟩), edV e ea em eq] w fun r w' => LeftR S base M0 E w r w' := by
  have CD : Hid (∀ W, Below w.heap.size w W → Calls Tryz.prog 63 #[.pointer (some ⟨S, 0, none⟩), edV e ea em eq] W fun r w' => LeftR S base M0 E W r w') := hc
  obtain ⟨k, p, t, cl, l, nn, ls⟩ := e
  simp only at hk
  subst hk; unfold edV at CD ⊢
  simp only at CD ⊢
  have hst := run_store_str
  have hst2 := sto2
  clear hc; go_enter Tryz.func29, Tryz.ntmps29; go_wp2_with (go_at_call 63; refine (CD.out _ (bel_tr (bel_al _ _) (bel_al _ _))).mono ?_; rintro e w1 hL1; have HL : Hid _ := LeftR.after (bel_tr (bel_al _ _) (bel_al _ _)) hL1; obtain ⟨rfl, _, _⟩ := hL1)
  exact left_post rfl HL.out
theorem change_setQuota {base M0 S : Nat} {w : World} {s : Sp} {N L : RS} {ps : List NR} {gb : Nat} {gl : Option Nat} (h : Pre base M0 S w s N L ps gb gl) (e : Ed) (ea : Option Addr) (em eq : Nat) (hk : e.k = 7) (u : Sp) (hc : ∀ W, Below w.heap.size w W → Calls Tryz.prog 63 #[.pointer (some ⟨S, 0, none⟩), edV e ea em eq] W fun r w' => UnitR S base M0 u W r w') :
    Calls Tryz.prog 29 #[.pointer (some ⟨S, 0, none⟩), edV e ea em eq] w fun r w' => DoneR S base M0 u zeroB zeroN w r w' := by
  have CD : Hid (∀ W, Below w.heap.size w W → Calls Tryz.prog 63 #[.pointer (some ⟨S, 0, none⟩), edV e ea em eq] W fun r w' => UnitR S base M0 u W r w') := hc
  have HPRE : Hid (Pre base M0 S w s N L ps gb gl) := h
  obtain ⟨k, p, t, cl, l, nn, ls⟩ := e
  simp only at hk
  subst hk; unfold edV at CD ⊢
  simp only at CD ⊢
  have hst := run_store_str
  have hst2 := sto2
  clear hc h; go_enter Tryz.func29, Tryz.ntmps29; go_wp2_with (go_at_call 63; refine (CD.out _ (bel_tr (bel_al _ _) (bel_al _ _))).mono ?_; rintro e w1 hD1; obtain ⟨rfl, hA1, hA2, hD2⟩ := unit_up HPRE.out (anC_two _ _ _) (by simp) (bel_tr (bel_al _ _) (bel_al _ _)) hD1; have HA1 : Hid _ := hA1; have HA2 : Hid _ := hA2; have HD : Hid _ := hD2; clear hA1 hA2 hD2 hD1; obtain ⟨a0, a1, a2, a3, a4, a5, a6, a7, a8, a9, a10, afr⟩ := HA1.out; unfold zeroB at a1 a2 a3; unfold noS at a4; unfold zeroX zeroN noS at a5 a6 a7 a8 a9; simp only at a1 a2 a3 a4 a5 a6 a7 a8 a9)
  have hA := HA2.out
  have hD := HD.out
  have k0 := hA.c0
  have k1 := hA.c1
  have k2 := hA.c2
  have k3 := hA.c3
  have k4 := hA.c4
  have k5 := hA.c5
  have k6 := hA.c6
  have k7 := hA.c7
  have k8 := hA.c8
  have k9 := hA.c9
  have k10 := hA.c10
  unfold put11 noS zeroN zeroB at k0 k1 k2 k3 k4 k5 k6 k7 k8 k9 k10 hD; simp only [anV] at k0 k1 k2 k3 k4 k5 k6 k7 k8 k9 k10 hD
  refine bodyPost_ret ?_ rfl hD
  simp only [results, Tryz.results29]
  simp [go_sem, k0, k1, k2, k3, k4, k5, k6, k7, k8, k9, k10]
theorem change_renew_no {base M0 S : Nat} {w : World} {s : Sp} {N L : RS} {ps : List NR} {gb : Nat} {gl : Option Nat} (_h : Pre base M0 S w s N L ps gb gl) (e : Ed) (ea : Option Addr) (em eq : Nat) (hk : e.k = 8) (E : Int) (hc : ∀ W, Below w.heap.size w W → Calls Tryz.prog 64 #[.pointer (some ⟨S, 0, none⟩), edV e ea em eq] W fun r w' => LeftR S base M0 E W r w') :
    Calls Tryz.prog 29 #[.pointer (some ⟨S, 0, none⟩), edV e ea em eq] w fun r w' => LeftR S base M0 E w r w' := by
  have CD : Hid (∀ W, Below w.heap.size w W → Calls Tryz.prog 64 #[.pointer (some ⟨S, 0, none⟩), edV e ea em eq] W fun r w' => LeftR S base M0 E W r w') := hc
  obtain ⟨k, p, t, cl, l, nn, ls⟩ := e
  simp only at hk
  subst hk; unfold edV at CD ⊢
  simp only at CD ⊢
  have hst := run_store_str
  have hst2 := sto2
  clear hc; go_enter Tryz.func29, Tryz.ntmps29; go_wp2_with (go_at_call 64; refine (CD.out _ (bel_tr (bel_al _ _) (bel_al _ _))).mono ?_; rintro e w1 hL1; have HL : Hid _ := LeftR.after (bel_tr (bel_al _ _) (bel_al _ _)) hL1; obtain ⟨rfl, _, _⟩ := hL1)
  exact left_post rfl HL.out
theorem change_renew {base M0 S : Nat} {w : World} {s : Sp} {N L : RS} {ps : List NR} {gb : Nat} {gl : Option Nat} (h : Pre base M0 S w s N L ps gb gl) (e : Ed) (ea : Option Addr) (em eq : Nat) (hk : e.k = 8) (u : Sp) (hc : ∀ W, Below w.heap.size w W → Calls Tryz.prog 64 #[.pointer (some ⟨S, 0, none⟩), edV e ea em eq] W fun r w' => UnitR S base M0 u W r w') :
    Calls Tryz.prog 29 #[.pointer (some ⟨S, 0, none⟩), edV e ea em eq] w fun r w' => DoneR S base M0 u zeroB zeroN w r w' := by
  have CD : Hid (∀ W, Below w.heap.size w W → Calls Tryz.prog 64 #[.pointer (some ⟨S, 0, none⟩), edV e ea em eq] W fun r w' => UnitR S base M0 u W r w') := hc
  have HPRE : Hid (Pre base M0 S w s N L ps gb gl) := h
  obtain ⟨k, p, t, cl, l, nn, ls⟩ := e
  simp only at hk
  subst hk; unfold edV at CD ⊢
  simp only at CD ⊢
  have hst := run_store_str
  have hst2 := sto2
  clear hc h; go_enter Tryz.func29, Tryz.ntmps29; go_wp2_with (go_at_call 64; refine (CD.out _ (bel_tr (bel_al _ _) (bel_al _ _))).mono ?_; rintro e w1 hD1; obtain ⟨rfl, hA1, hA2, hD2⟩ := unit_up HPRE.out (anC_two _ _ _) (by simp) (bel_tr (bel_al _ _) (bel_al _ _)) hD1; have HA1 : Hid _ := hA1; have HA2 : Hid _ := hA2; have HD : Hid _ := hD2; clear hA1 hA2 hD2 hD1; obtain ⟨a0, a1, a2, a3, a4, a5, a6, a7, a8, a9, a10, afr⟩ := HA1.out; unfold zeroB at a1 a2 a3; unfold noS at a4; unfold zeroX zeroN noS at a5 a6 a7 a8 a9; simp only at a1 a2 a3 a4 a5 a6 a7 a8 a9)
  have hA := HA2.out
  have hD := HD.out
  have k0 := hA.c0
  have k1 := hA.c1
  have k2 := hA.c2
  have k3 := hA.c3
  have k4 := hA.c4
  have k5 := hA.c5
  have k6 := hA.c6
  have k7 := hA.c7
  have k8 := hA.c8
  have k9 := hA.c9
  have k10 := hA.c10
  unfold put11 noS zeroN zeroB at k0 k1 k2 k3 k4 k5 k6 k7 k8 k9 k10 hD; simp only [anV] at k0 k1 k2 k3 k4 k5 k6 k7 k8 k9 k10 hD
  refine bodyPost_ret ?_ rfl hD
  simp only [results, Tryz.results29]
  simp [go_sem, k0, k1, k2, k3, k4, k5, k6, k7, k8, k9, k10]
theorem change_bump_no {base M0 S : Nat} {w : World} {s : Sp} {N L : RS} {ps : List NR} {gb : Nat} {gl : Option Nat} (_h : Pre base M0 S w s N L ps gb gl) (e : Ed) (ea : Option Addr) (em eq : Nat) (hk : e.k = 9) (E : Int) (hc : ∀ W, Below w.heap.size w W → Calls Tryz.prog 65 #[.pointer (some ⟨S, 0, none⟩), edV e ea em eq] W fun r w' => LeftR S base M0 E W r w') :
    Calls Tryz.prog 29 #[.pointer (some ⟨S, 0, none⟩), edV e ea em eq] w fun r w' => LeftR S base M0 E w r w' := by
  have CD : Hid (∀ W, Below w.heap.size w W → Calls Tryz.prog 65 #[.pointer (some ⟨S, 0, none⟩), edV e ea em eq] W fun r w' => LeftR S base M0 E W r w') := hc
  obtain ⟨k, p, t, cl, l, nn, ls⟩ := e
  simp only at hk
  subst hk; unfold edV at CD ⊢
  simp only at CD ⊢
  have hst := run_store_str
  have hst2 := sto2
  clear hc; go_enter Tryz.func29, Tryz.ntmps29; go_wp2_with (go_at_call 65; refine (CD.out _ (bel_tr (bel_al _ _) (bel_al _ _))).mono ?_; rintro e w1 hL1; have HL : Hid _ := LeftR.after (bel_tr (bel_al _ _) (bel_al _ _)) hL1; obtain ⟨rfl, _, _⟩ := hL1)
  exact left_post rfl HL.out
theorem change_bump {base M0 S : Nat} {w : World} {s : Sp} {N L : RS} {ps : List NR} {gb : Nat} {gl : Option Nat} (h : Pre base M0 S w s N L ps gb gl) (e : Ed) (ea : Option Addr) (em eq : Nat) (hk : e.k = 9) (u : Sp) (b : Blk) (x : Nd) (hc : ∀ W, Below w.heap.size w W → Calls Tryz.prog 65 #[.pointer (some ⟨S, 0, none⟩), edV e ea em eq] W fun r w' => DoneR S base M0 u b x W r w') :
    Calls Tryz.prog 29 #[.pointer (some ⟨S, 0, none⟩), edV e ea em eq] w fun r w' => DoneR S base M0 u b x w r w' := by
  have CD : Hid (∀ W, Below w.heap.size w W → Calls Tryz.prog 65 #[.pointer (some ⟨S, 0, none⟩), edV e ea em eq] W fun r w' => DoneR S base M0 u b x W r w') := hc
  have HPRE : Hid (Pre base M0 S w s N L ps gb gl) := h
  obtain ⟨k, p, t, cl, l, nn, ls⟩ := e
  simp only at hk
  subst hk; unfold edV at CD ⊢
  simp only at CD ⊢
  have hst := run_store_str
  have hst2 := sto2
  clear hc h; go_enter Tryz.func29, Tryz.ntmps29; go_wp2_with (go_at_call 65; refine (CD.out _ (bel_tr (bel_al _ _) (bel_al _ _))).mono ?_; rintro e w1 hD1; obtain ⟨sx, rfl, hA1, hA2, hD2⟩ := done_up HPRE.out (anC_two _ _ _) (by simp) (bel_tr (bel_al _ _) (bel_al _ _)) hD1; have HA1 : Hid _ := hA1; have HA2 : Hid _ := hA2; have HD : Hid _ := hD2; clear hA1 hA2 hD2 hD1; obtain ⟨a0, a1, a2, a3, a4, a5, a6, a7, a8, a9, a10, afr⟩ := HA1.out; unfold zeroB at a1 a2 a3; unfold noS at a4; unfold zeroX zeroN noS at a5 a6 a7 a8 a9; simp only at a1 a2 a3 a4 a5 a6 a7 a8 a9; unfold anV noS; simp only)
  have hA := HA2.out
  have hD := HD.out
  have k0 := hA.c0
  have k1 := hA.c1
  have k2 := hA.c2
  have k3 := hA.c3
  have k4 := hA.c4
  have k5 := hA.c5
  have k6 := hA.c6
  have k7 := hA.c7
  have k8 := hA.c8
  have k9 := hA.c9
  have k10 := hA.c10
  unfold put11 noS  at k0 k1 k2 k3 k4 k5 k6 k7 k8 k9 k10 hD; simp only [anV] at k0 k1 k2 k3 k4 k5 k6 k7 k8 k9 k10 hD
  refine bodyPost_ret ?_ rfl hD
  simp only [results, Tryz.results29]
  simp [go_sem, k0, k1, k2, k3, k4, k5, k6, k7, k8, k9, k10]
theorem change_reopen_no {base M0 S : Nat} {w : World} {s : Sp} {N L : RS} {ps : List NR} {gb : Nat} {gl : Option Nat} (_h : Pre base M0 S w s N L ps gb gl) (e : Ed) (ea : Option Addr) (em eq : Nat) (hk : e.k = 10) (E : Int) (hc : ∀ W, Below w.heap.size w W → Calls Tryz.prog 66 #[.pointer (some ⟨S, 0, none⟩), edV e ea em eq] W fun r w' => LeftR S base M0 E W r w') :
    Calls Tryz.prog 29 #[.pointer (some ⟨S, 0, none⟩), edV e ea em eq] w fun r w' => LeftR S base M0 E w r w' := by
  have CD : Hid (∀ W, Below w.heap.size w W → Calls Tryz.prog 66 #[.pointer (some ⟨S, 0, none⟩), edV e ea em eq] W fun r w' => LeftR S base M0 E W r w') := hc
  obtain ⟨k, p, t, cl, l, nn, ls⟩ := e
  simp only at hk
  subst hk; unfold edV at CD ⊢
  simp only at CD ⊢
  have hst := run_store_str
  have hst2 := sto2
  clear hc; go_enter Tryz.func29, Tryz.ntmps29; go_wp2_with (go_at_call 66; refine (CD.out _ (bel_tr (bel_al _ _) (bel_al _ _))).mono ?_; rintro e w1 hL1; have HL : Hid _ := LeftR.after (bel_tr (bel_al _ _) (bel_al _ _)) hL1; obtain ⟨rfl, _, _⟩ := hL1)
  exact left_post rfl HL.out
theorem change_reopen {base M0 S : Nat} {w : World} {s : Sp} {N L : RS} {ps : List NR} {gb : Nat} {gl : Option Nat} (h : Pre base M0 S w s N L ps gb gl) (e : Ed) (ea : Option Addr) (em eq : Nat) (hk : e.k = 10) (u : Sp) (b : Blk) (x : Nd) (hc : ∀ W, Below w.heap.size w W → Calls Tryz.prog 66 #[.pointer (some ⟨S, 0, none⟩), edV e ea em eq] W fun r w' => DoneR S base M0 u b x W r w') :
    Calls Tryz.prog 29 #[.pointer (some ⟨S, 0, none⟩), edV e ea em eq] w fun r w' => DoneR S base M0 u b x w r w' := by
  have CD : Hid (∀ W, Below w.heap.size w W → Calls Tryz.prog 66 #[.pointer (some ⟨S, 0, none⟩), edV e ea em eq] W fun r w' => DoneR S base M0 u b x W r w') := hc
  have HPRE : Hid (Pre base M0 S w s N L ps gb gl) := h
  obtain ⟨k, p, t, cl, l, nn, ls⟩ := e
  simp only at hk
  subst hk; unfold edV at CD ⊢
  simp only at CD ⊢
  have hst := run_store_str
  have hst2 := sto2
  clear hc h; go_enter Tryz.func29, Tryz.ntmps29; go_wp2_with (go_at_call 66; refine (CD.out _ (bel_tr (bel_al _ _) (bel_al _ _))).mono ?_; rintro e w1 hD1; obtain ⟨sx, rfl, hA1, hA2, hD2⟩ := done_up HPRE.out (anC_two _ _ _) (by simp) (bel_tr (bel_al _ _) (bel_al _ _)) hD1; have HA1 : Hid _ := hA1; have HA2 : Hid _ := hA2; have HD : Hid _ := hD2; clear hA1 hA2 hD2 hD1; obtain ⟨a0, a1, a2, a3, a4, a5, a6, a7, a8, a9, a10, afr⟩ := HA1.out; unfold zeroB at a1 a2 a3; unfold noS at a4; unfold zeroX zeroN noS at a5 a6 a7 a8 a9; simp only at a1 a2 a3 a4 a5 a6 a7 a8 a9; unfold anV noS; simp only)
  have hA := HA2.out
  have hD := HD.out
  have k0 := hA.c0
  have k1 := hA.c1
  have k2 := hA.c2
  have k3 := hA.c3
  have k4 := hA.c4
  have k5 := hA.c5
  have k6 := hA.c6
  have k7 := hA.c7
  have k8 := hA.c8
  have k9 := hA.c9
  have k10 := hA.c10
  unfold put11 noS  at k0 k1 k2 k3 k4 k5 k6 k7 k8 k9 k10 hD; simp only [anV] at k0 k1 k2 k3 k4 k5 k6 k7 k8 k9 k10 hD
  refine bodyPost_ret ?_ rfl hD
  simp only [results, Tryz.results29]
  simp [go_sem, k0, k1, k2, k3, k4, k5, k6, k7, k8, k9, k10]
theorem AddR.unit {base M0 S : Nat} {W w1 : World} {s t : Sp} {N L : RS} {ps : List NR} {gb : Nat} {gl : Option Nat} (h : Pre base M0 S W s N L ps gb gl) {r : Ending} (hA : AddR S base t L gl W r w1) : UnitR S base M0 t W r w1 := by
  obtain ⟨⟨N', ps', g', hr, hC, hO, h1, h2⟩, hst⟩ := hA
  exact ⟨⟨N', L, ps', g', gl, hr, hC, hO, fun k hk => .inr (h1 k hk), fun k hk => .inl (h.m2 k hk), fun x hx k hk => .inr (h2 x hx k hk)⟩, hst.mono (fun k hk => .inl hk)⟩
theorem unit_ns {base M0 S : Nat} {W w1 : World} {s : Sp} {N L : RS} {ps : List NR} {gb : Nat} {gl : Option Nat} (h : Pre base M0 S W s N L ps gb gl) {W1 : Nat} (hW : W.heap.size ≤ W1) (hb : Below W.heap.size W w1) {N' : RS} {ns : NS} (hX : LX W1 w1 N'.a N'.n N'.c ns) :
    UnitR S base M0 ⟨s.tx, s.nb, s.ng, s.now, ns, s.ls⟩ W (.returned (.tuple #[])) (w1.setCell ⟨S, 4, none⟩ (.slice N'.a N'.n N'.c)) := by
  obtain ⟨ps', g', r1, r2, r3, r4, r5⟩ := h.newNs (N' := N') hW hb hX
  exact ⟨⟨N', L, ps', g', gl, rfl, r1, r2.up (by rw [setC_size]; exact Nat.le_refl _), fun k hk => .inr (r4 k hk), fun k hk => .inl (h.m2 k hk), fun x hx k hk => .inr (r5 x hx k hk)⟩, r3.mono (fun k hk => .inl hk)⟩
theorem change_mkdir_no {base M0 S : Nat} {w : World} {s : Sp} {N L : RS} {ps : List NR} {gb : Nat} {gl : Option Nat} (h : Pre base M0 S w s N L ps gb gl) (e : Ed) (ea : Option Addr) (em eq : Nat) (hk : e.k = 1) (E : Int) (hc : ∀ W, Below w.heap.size w W → Calls Tryz.prog 56 #[.pointer (some ⟨S, 0, none⟩), ndV ((⟨e.p, true, -1, [], -1⟩ : Nd), noS)] W fun r w' => LeftR S base M0 E W r w') :
    Calls Tryz.prog 29 #[.pointer (some ⟨S, 0, none⟩), edV e ea em eq] w fun r w' => LeftR S base M0 E w r w' := by
  have CD : Hid (∀ W, Below w.heap.size w W → Calls Tryz.prog 56 #[.pointer (some ⟨S, 0, none⟩), ndV ((⟨e.p, true, -1, [], -1⟩ : Nd), noS)] W fun r w' => LeftR S base M0 E W r w') := hc
  have HPRE : Hid (Pre base M0 S w s N L ps gb gl) := h
  obtain ⟨k, p, t, cl, l, nn, ls⟩ := e
  simp only at hk
  subst hk; unfold ndV noS at CD; unfold edV; simp only at CD ⊢
  have hst := run_store_str
  have hst2 := sto2
  clear hc h; go_enter Tryz.func29, Tryz.ntmps29; go_wp2_with (first
    | (go_at_call 22; refine (newDir_val _ _).mono ?_; rintro e w1 ⟨rfl, c1⟩; obtain ⟨q1, q2, q3, q4, q5, q6⟩ := two_boxes c1; have y0 := q1 0 _ rfl; have y1 := q1 1 _ rfl; have y2 := q1 2 _ rfl; have y3 := q1 3 _ rfl; have y4 := q1 4 _ rfl; have y5 := q1 5 _ rfl; have y6 := q1 6 _ rfl; have B1 : Hid (Below w.heap.size w w1) := q5; have HAN : Hid (AnC w1 (w.heap.size + 1) 0 zeroB noS zeroX 0) := ⟨q3 0 _ rfl, q3 1 _ rfl, q3 2 _ rfl, q3 3 _ rfl, q3 4 _ rfl, q3 5 _ rfl, q3 6 _ rfl, q3 7 _ rfl, q3 8 _ rfl, q3 9 _ rfl, q3 10 _ rfl, q4⟩; have HSZ : Hid (w.heap.size + 2 ≤ w1.heap.size) := q6; clear c1 q1 q2 q3 q4 q5 q6; unfold ndV; simp only)
    | (go_at_call 56; refine (CD.out _ B1.out).mono ?_; rintro e w2 hL1; have HL : Hid _ := LeftR.after B1.out hL1; obtain ⟨rfl, _, _⟩ := hL1))
  exact left_post rfl HL.out
theorem change_mkdir {base M0 S : Nat} {w : World} {s : Sp} {N L : RS} {ps : List NR} {gb : Nat} {gl : Option Nat} (h : Pre base M0 S w s N L ps gb gl) (e : Ed) (ea : Option Addr) (em eq : Nat) (hk : e.k = 1) (u : Sp) (hc : ∀ W, Below w.heap.size w W → Calls Tryz.prog 56 #[.pointer (some ⟨S, 0, none⟩), ndV ((⟨e.p, true, -1, [], -1⟩ : Nd), noS)] W fun r w' => AddR S base u L gl W r w') :
    Calls Tryz.prog 29 #[.pointer (some ⟨S, 0, none⟩), edV e ea em eq] w fun r w' => DoneR S base M0 u zeroB zeroN w r w' := by
  have CD : Hid (∀ W, Below w.heap.size w W → Calls Tryz.prog 56 #[.pointer (some ⟨S, 0, none⟩), ndV ((⟨e.p, true, -1, [], -1⟩ : Nd), noS)] W fun r w' => AddR S base u L gl W r w') := hc
  have HPRE : Hid (Pre base M0 S w s N L ps gb gl) := h
  obtain ⟨k, p, t, cl, l, nn, ls⟩ := e
  simp only at hk
  subst hk; unfold ndV noS at CD; unfold edV; simp only at CD ⊢
  have hst := run_store_str
  have hst2 := sto2
  clear hc h; go_enter Tryz.func29, Tryz.ntmps29; go_wp2_with (first
    | (go_at_call 22; refine (newDir_val _ _).mono ?_; rintro e w1 ⟨rfl, c1⟩; obtain ⟨q1, q2, q3, q4, q5, q6⟩ := two_boxes c1; have y0 := q1 0 _ rfl; have y1 := q1 1 _ rfl; have y2 := q1 2 _ rfl; have y3 := q1 3 _ rfl; have y4 := q1 4 _ rfl; have y5 := q1 5 _ rfl; have y6 := q1 6 _ rfl; have B1 : Hid (Below w.heap.size w w1) := q5; have HAN : Hid (AnC w1 (w.heap.size + 1) 0 zeroB noS zeroX 0) := ⟨q3 0 _ rfl, q3 1 _ rfl, q3 2 _ rfl, q3 3 _ rfl, q3 4 _ rfl, q3 5 _ rfl, q3 6 _ rfl, q3 7 _ rfl, q3 8 _ rfl, q3 9 _ rfl, q3 10 _ rfl, q4⟩; have HSZ : Hid (w.heap.size + 2 ≤ w1.heap.size) := q6; clear c1 q1 q2 q3 q4 q5 q6; unfold ndV; simp only)
    | (go_at_call 56; refine (CD.out _ B1.out).mono ?_; rintro e w2 hD1; obtain ⟨rfl, hA1, hA2, hD2⟩ := unit_up HPRE.out HAN.out HSZ.out B1.out (hD1.unit (HPRE.out.below B1.out)); have HA1 : Hid _ := hA1; have HA2 : Hid _ := hA2; have HD : Hid _ := hD2; clear hA1 hA2 hD2 hD1; obtain ⟨a0, a1, a2, a3, a4, a5, a6, a7, a8, a9, a10, afr⟩ := HA1.out; unfold zeroB at a1 a2 a3; unfold noS at a4; unfold zeroX zeroN noS at a5 a6 a7 a8 a9; simp only at a1 a2 a3 a4 a5 a6 a7 a8 a9))
  have hA := HA2.out
  have hD := HD.out
  have k0 := hA.c0
  have k1 := hA.c1
  have k2 := hA.c2
  have k3 := hA.c3
  have k4 := hA.c4
  have k5 := hA.c5
  have k6 := hA.c6
  have k7 := hA.c7
  have k8 := hA.c8
  have k9 := hA.c9
  have k10 := hA.c10
  unfold put11 noS zeroN zeroB at k0 k1 k2 k3 k4 k5 k6 k7 k8 k9 k10 hD; simp only [anV] at k0 k1 k2 k3 k4 k5 k6 k7 k8 k9 k10 hD
  refine bodyPost_ret ?_ rfl hD
  simp only [results, Tryz.results29]
  simp [go_sem, k0, k1, k2, k3, k4, k5, k6, k7, k8, k9, k10]
theorem change_delete_no {base M0 S : Nat} {w : World} {s : Sp} {N L : RS} {ps : List NR} {gb : Nat} {gl : Option Nat} (h : Pre base M0 S w s N L ps gb gl) (e : Ed) (ea : Option Addr) (em eq : Nat) (hk : e.k = 3) (hp : 0 < ps.length) (hs : e.p.size ≤ maxLen) (E : Int) (hM : RemE s.ns e.p E) (h0 : E ≠ 0) :
    Calls Tryz.prog 29 #[.pointer (some ⟨S, 0, none⟩), edV e ea em eq] w fun r w' => LeftR S base M0 E w r w' := by
  have HPRE : Hid (Pre base M0 S w s N L ps gb gl) := h
  have CM : Hid (∀ W, Below w.heap.size w W → Calls Tryz.prog 59 #[.slice (some ⟨gb, 0, none⟩) N.n N.c, .string e.p] W fun r w' => TwoR W.heap.size (remL s.ns e.p E) E r w' ∧ Below W.heap.size W w') := fun W hb => remove_val ((h.below hb).nl hp) e.p hs E hM
  have k4 := h.c4'
  have K4 : Hid (w.cell? ⟨S, 4, none⟩ = some (.slice (some ⟨gb, 0, none⟩) N.n N.c)) := k4
  have h0b : (E != 0) = true := by simpa using h0
  obtain ⟨k, p, t, cl, l, nn, ls⟩ := e
  simp only at hk
  subst hk; unfold edV; simp only at CM ⊢
  have hst := run_store_str
  have hst2 := sto2
  clear h hp hs hM k4 h0; go_enter Tryz.func29, Tryz.ntmps29; go_wp2; have ka := fun o1 o2 => cell_al (cell_al K4.out o1) o2
  refine wp_region_any (by kernel_rfl) ?_
  try (change wpAny _ _ _ _ _ _ _ (World.drew _))
  refine wpAny_take (i := 0) (v := ?_) rfl (by kernel_rfl) (by kernel_rfl) (by kernel_rfl) (fun _ _ _ h => h) (Or.inl ⟨by rfl, ?_⟩) ?_
  rotate_left
  · intro w; go_simp; first | done | with_reducible rfl
  refine wpAny_take (i := 1) (v := ?_) rfl (by kernel_rfl) (by kernel_rfl) (by kernel_rfl) (fun _ _ _ h => h) (Or.inl ⟨by rfl, ?_⟩) ?_
  rotate_left
  · intro w; go_simp; first | done | with_reducible rfl
  refine wpAny_take (i := 2) (v := ?_) rfl (by kernel_rfl) (by kernel_rfl) (by kernel_rfl) (fun _ _ _ h => h) (Or.inl ⟨by rfl, ?_⟩) ?_
  rotate_left
  · intro w; go_simp; first | done | with_reducible rfl
  refine wpAny_take (i := 3) (v := ?_) rfl (by kernel_rfl) (by kernel_rfl) (by kernel_rfl) (fun _ _ _ h => h) (Or.inl ⟨by rfl, ?_⟩) ?_
  rotate_left
  · intro w; go_simp; first | done | with_reducible rfl
  refine wpAny_take (i := 5) (v := ?_) rfl (by kernel_rfl) (by kernel_rfl) (by kernel_rfl) (fun _ _ _ h => h) (Or.inl ⟨by rfl, ?_⟩) ?_
  rotate_left
  · intro w; go_simp; first | done | with_reducible rfl
  refine wpAny_ready (rs := [4, 6]) (by kernel_rfl) (by simp) ?_
  refine AllReady.cons rfl (fun K hK => ?_) ?_
  · go_simp
    refine hK _ _ ?_
    clear hK K; refine wpAny_ready (rs := [6]) (by kernel_rfl) (by simp) ?_
    refine AllReady.cons rfl (fun K hK => ?_) ?_
    · go_simp
      refine hK _ _ ?_
      clear hK K; refine wpAny_ready (rs := [7]) (by kernel_rfl) (by simp) ?_
      refine AllReady.cons rfl (fun K hK => ?_) ?_
      · go_simp
        refine (CM.out _ (bel_tr (bel_tr (bel_al _ _) (bel_al _ _)) (bel_drewN _ 1))).mono ?_; rintro e w1 ⟨⟨na, n1, nc, rfl, hX⟩, c1⟩; have B1 : Hid (Below w.heap.size w w1) := bel_tr (bel_tr (bel_tr (bel_al _ _) (bel_al _ _)) (bel_drewN _ 1)) c1; have d4 := bel_cell B1.out K4.out; clear hX c1
        try go_simp
        refine hK _ _ ?_
        clear hK K; refine wpAny_take (i := 8) (v := ?_) rfl (by kernel_rfl) (by kernel_rfl) (by kernel_rfl) (fun _ _ _ h => h) (Or.inl ⟨by rfl, ?_⟩) ?_
        rotate_left
        · intro w; go_simp; first | done | with_reducible rfl
        refine wpAny_take (i := 9) (v := ?_) rfl (by kernel_rfl) (by kernel_rfl) (by kernel_rfl) (fun _ _ _ h => h) (Or.inl ⟨by rfl, ?_⟩) ?_
        rotate_left
        · intro w; go_simp; first | done | with_reducible rfl
        refine wpAny_ready (rs := [10]) (by kernel_rfl) (by simp) ?_
        refine AllReady.cons rfl (fun K hK => ?_) ?_
        · go_simp
          refine (takenN_no _ h0b _).mono ?_; rintro e w2 ⟨rfl, hw2⟩; subst hw2; exact left_post rfl (LeftR.of B1.out)
        exact AllReady.nil
      exact AllReady.nil
    exact AllReady.nil
  refine AllReady.cons rfl (fun K hK => ?_) ?_
  · go_simp
    refine hK _ _ ?_
    clear hK K; refine wpAny_ready (rs := [4]) (by kernel_rfl) (by simp) ?_
    refine AllReady.cons rfl (fun K hK => ?_) ?_
    · go_simp
      refine hK _ _ ?_
      clear hK K; refine wpAny_ready (rs := [7]) (by kernel_rfl) (by simp) ?_
      refine AllReady.cons rfl (fun K hK => ?_) ?_
      · go_simp
        refine (CM.out _ (bel_tr (bel_tr (bel_al _ _) (bel_al _ _)) (bel_drewN _ 1))).mono ?_; rintro e w1 ⟨⟨na, n1, nc, rfl, hX⟩, c1⟩; have B1 : Hid (Below w.heap.size w w1) := bel_tr (bel_tr (bel_tr (bel_al _ _) (bel_al _ _)) (bel_drewN _ 1)) c1; have d4 := bel_cell B1.out K4.out; clear hX c1
        try go_simp
        refine hK _ _ ?_
        clear hK K; refine wpAny_take (i := 8) (v := ?_) rfl (by kernel_rfl) (by kernel_rfl) (by kernel_rfl) (fun _ _ _ h => h) (Or.inl ⟨by rfl, ?_⟩) ?_
        rotate_left
        · intro w; go_simp; first | done | with_reducible rfl
        refine wpAny_take (i := 9) (v := ?_) rfl (by kernel_rfl) (by kernel_rfl) (by kernel_rfl) (fun _ _ _ h => h) (Or.inl ⟨by rfl, ?_⟩) ?_
        rotate_left
        · intro w; go_simp; first | done | with_reducible rfl
        refine wpAny_ready (rs := [10]) (by kernel_rfl) (by simp) ?_
        refine AllReady.cons rfl (fun K hK => ?_) ?_
        · go_simp
          refine (takenN_no _ h0b _).mono ?_; rintro e w2 ⟨rfl, hw2⟩; subst hw2; exact left_post rfl (LeftR.of B1.out)
        exact AllReady.nil
      exact AllReady.nil
    exact AllReady.nil
  exact AllReady.nil
theorem change_delete {base M0 S : Nat} {w : World} {s : Sp} {N L : RS} {ps : List NR} {gb : Nat} {gl : Option Nat} (h : Pre base M0 S w s N L ps gb gl) (e : Ed) (ea : Option Addr) (em eq : Nat) (hk : e.k = 3) (hp : 0 < ps.length) (hs : e.p.size ≤ maxLen) (hM : RemE s.ns e.p 0) :
    Calls Tryz.prog 29 #[.pointer (some ⟨S, 0, none⟩), edV e ea em eq] w fun r w' => DoneR S base M0 ⟨s.tx, s.nb, s.ng, s.now, leftL s.ns e.p, s.ls⟩ zeroB zeroN w r w' := by
  have HPRE : Hid (Pre base M0 S w s N L ps gb gl) := h
  have CM : Hid (∀ W, Below w.heap.size w W → Calls Tryz.prog 59 #[.slice (some ⟨gb, 0, none⟩) N.n N.c, .string e.p] W fun r w' => TwoR W.heap.size (remL s.ns e.p 0) 0 r w' ∧ Below W.heap.size W w') := fun W hb => remove_val ((h.below hb).nl hp) e.p hs 0 hM
  have k4 := h.c4'
  have K4 : Hid (w.cell? ⟨S, 4, none⟩ = some (.slice (some ⟨gb, 0, none⟩) N.n N.c)) := k4
  have HAL : Hid (remL s.ns e.p 0 = leftL s.ns e.p) := rfl
  have CT : Hid (∀ W a n c, Calls Tryz.prog 58 #[.slice a n c, .int .i64 0] W fun e w' => e = .returned (.slice a n c) ∧ W = w') := fun W a n c => (takenN_ok W).mono fun e w' ⟨h1, h2⟩ => ⟨h1, h2.symm⟩
  obtain ⟨k, p, t, cl, l, nn, ls⟩ := e
  simp only at hk
  subst hk; unfold edV; simp only at CM HAL ⊢
  have hst := run_store_str
  have hst2 := sto2
  clear h hp hs hM k4; go_enter Tryz.func29, Tryz.ntmps29; go_wp2; have ka := fun o1 o2 => cell_al (cell_al K4.out o1) o2
  refine wp_region_any (by kernel_rfl) ?_
  try (change wpAny _ _ _ _ _ _ _ (World.drew _))
  refine wpAny_take (i := 0) (v := ?_) rfl (by kernel_rfl) (by kernel_rfl) (by kernel_rfl) (fun _ _ _ h => h) (Or.inl ⟨by rfl, ?_⟩) ?_
  rotate_left
  · intro w; go_simp; first | done | with_reducible rfl
  refine wpAny_take (i := 1) (v := ?_) rfl (by kernel_rfl) (by kernel_rfl) (by kernel_rfl) (fun _ _ _ h => h) (Or.inl ⟨by rfl, ?_⟩) ?_
  rotate_left
  · intro w; go_simp; first | done | with_reducible rfl
  refine wpAny_take (i := 2) (v := ?_) rfl (by kernel_rfl) (by kernel_rfl) (by kernel_rfl) (fun _ _ _ h => h) (Or.inl ⟨by rfl, ?_⟩) ?_
  rotate_left
  · intro w; go_simp; first | done | with_reducible rfl
  refine wpAny_take (i := 3) (v := ?_) rfl (by kernel_rfl) (by kernel_rfl) (by kernel_rfl) (fun _ _ _ h => h) (Or.inl ⟨by rfl, ?_⟩) ?_
  rotate_left
  · intro w; go_simp; first | done | with_reducible rfl
  refine wpAny_take (i := 5) (v := ?_) rfl (by kernel_rfl) (by kernel_rfl) (by kernel_rfl) (fun _ _ _ h => h) (Or.inl ⟨by rfl, ?_⟩) ?_
  rotate_left
  · intro w; go_simp; first | done | with_reducible rfl
  refine wpAny_ready (rs := [4, 6]) (by kernel_rfl) (by simp) ?_
  refine AllReady.cons rfl (fun K hK => ?_) ?_
  · go_simp
    refine hK _ _ ?_
    clear hK K; refine wpAny_ready (rs := [6]) (by kernel_rfl) (by simp) ?_
    refine AllReady.cons rfl (fun K hK => ?_) ?_
    · go_simp
      refine hK _ _ ?_
      clear hK K; refine wpAny_ready (rs := [7]) (by kernel_rfl) (by simp) ?_
      refine AllReady.cons rfl (fun K hK => ?_) ?_
      · go_simp
        refine (CM.out _ (bel_tr (bel_tr (bel_al _ _) (bel_al _ _)) (bel_drewN _ 1))).mono ?_; rintro e w1 ⟨⟨na, n1, nc, rfl, hX⟩, c1⟩; have B1 : Hid (Below w.heap.size w w1) := bel_tr (bel_tr (bel_tr (bel_al _ _) (bel_al _ _)) (bel_drewN _ 1)) c1; have d4 := bel_cell B1.out K4.out; rw [HAL.out] at hX; obtain ⟨_, hA1, hA2, hD2⟩ := unit_up HPRE.out (anC_two _ _ _) (by simp) (bel_tr (bel_al _ _) (bel_al _ _)) (unit_ns (N' := ⟨na, n1, nc⟩) (HPRE.out.below (bel_tr (bel_al _ _) (bel_al _ _))) (Nat.le_refl _) (bel_tr (bel_drewN _ 1) c1) hX); have HA1 : Hid _ := hA1; have HA2 : Hid _ := hA2; have HD : Hid _ := hD2; have hfz := (HPRE.out.below B1.out).c.fr 4; clear hA1 hA2 hD2 hX c1
        try go_simp
        refine hK _ _ ?_
        clear hK K; refine wpAny_take (i := 8) (v := ?_) rfl (by kernel_rfl) (by kernel_rfl) (by kernel_rfl) (fun _ _ _ h => h) (Or.inl ⟨by rfl, ?_⟩) ?_
        rotate_left
        · intro w; go_simp; first | done | with_reducible rfl
        refine wpAny_take (i := 9) (v := ?_) rfl (by kernel_rfl) (by kernel_rfl) (by kernel_rfl) (fun _ _ _ h => h) (Or.inl ⟨by rfl, ?_⟩) ?_
        rotate_left
        · intro w; go_simp; first | done | with_reducible rfl
        refine wpAny_ready (rs := [10]) (by kernel_rfl) (by simp) ?_
        refine AllReady.cons rfl (fun K hK => ?_) ?_
        · go_simp
          refine (CT.out _ _ _ _).mono ?_; rintro e w2 ⟨rfl, rfl⟩
          try go_simp
          refine hK _ _ ?_
          clear hK K; refine wpAny_take (i := 11) (v := ?_) rfl (by kernel_rfl) (by kernel_rfl) (by kernel_rfl) (fun _ _ _ h => h) (Or.inl ⟨by rfl, ?_⟩) ?_
          rotate_left
          · intro w; go_simp; first | done | with_reducible rfl
          refine wpAny_take (i := 12) (v := ?_) rfl (by kernel_rfl) (by kernel_rfl) (by kernel_rfl) (fun _ _ _ h => h) (Or.inl ⟨by rfl, ?_⟩) ?_
          rotate_left
          · intro w; go_simp; first | done | with_reducible rfl
          refine wpAny_ready (rs := [13]) (by kernel_rfl) (by simp) ?_
          refine AllReady.cons rfl (fun K hK => ?_) ?_
          · go_simp
            refine hK _ _ ?_
            clear hK K; refine wpAny_done (by kernel_rfl) ?_ _
            obtain ⟨a0, a1, a2, a3, a4, a5, a6, a7, a8, a9, a10, afr⟩ := HA1.out
            unfold zeroB at a1 a2 a3; unfold noS at a4; unfold zeroX zeroN noS at a5 a6 a7 a8 a9; simp only at a1 a2 a3 a4 a5 a6 a7 a8 a9
            go_wp2; have hA := HA2.out
            have hD := HD.out
            have k0 := hA.c0
            have k1 := hA.c1
            have k2 := hA.c2
            have k3 := hA.c3
            have k4 := hA.c4
            have k5 := hA.c5
            have k6 := hA.c6
            have k7 := hA.c7
            have k8 := hA.c8
            have k9 := hA.c9
            have k10 := hA.c10
            unfold put11 noS zeroN zeroB at k0 k1 k2 k3 k4 k5 k6 k7 k8 k9 k10 hD; simp only [anV] at k0 k1 k2 k3 k4 k5 k6 k7 k8 k9 k10 hD
            refine bodyPost_ret ?_ rfl hD
            simp only [results, Tryz.results29]
            simp [go_sem, k0, k1, k2, k3, k4, k5, k6, k7, k8, k9, k10]
          exact AllReady.nil
        exact AllReady.nil
      exact AllReady.nil
    exact AllReady.nil
  refine AllReady.cons rfl (fun K hK => ?_) ?_
  · go_simp
    refine hK _ _ ?_
    clear hK K; refine wpAny_ready (rs := [4]) (by kernel_rfl) (by simp) ?_
    refine AllReady.cons rfl (fun K hK => ?_) ?_
    · go_simp
      refine hK _ _ ?_
      clear hK K; refine wpAny_ready (rs := [7]) (by kernel_rfl) (by simp) ?_
      refine AllReady.cons rfl (fun K hK => ?_) ?_
      · go_simp
        refine (CM.out _ (bel_tr (bel_tr (bel_al _ _) (bel_al _ _)) (bel_drewN _ 1))).mono ?_; rintro e w1 ⟨⟨na, n1, nc, rfl, hX⟩, c1⟩; have B1 : Hid (Below w.heap.size w w1) := bel_tr (bel_tr (bel_tr (bel_al _ _) (bel_al _ _)) (bel_drewN _ 1)) c1; have d4 := bel_cell B1.out K4.out; rw [HAL.out] at hX; obtain ⟨_, hA1, hA2, hD2⟩ := unit_up HPRE.out (anC_two _ _ _) (by simp) (bel_tr (bel_al _ _) (bel_al _ _)) (unit_ns (N' := ⟨na, n1, nc⟩) (HPRE.out.below (bel_tr (bel_al _ _) (bel_al _ _))) (Nat.le_refl _) (bel_tr (bel_drewN _ 1) c1) hX); have HA1 : Hid _ := hA1; have HA2 : Hid _ := hA2; have HD : Hid _ := hD2; have hfz := (HPRE.out.below B1.out).c.fr 4; clear hA1 hA2 hD2 hX c1
        try go_simp
        refine hK _ _ ?_
        clear hK K; refine wpAny_take (i := 8) (v := ?_) rfl (by kernel_rfl) (by kernel_rfl) (by kernel_rfl) (fun _ _ _ h => h) (Or.inl ⟨by rfl, ?_⟩) ?_
        rotate_left
        · intro w; go_simp; first | done | with_reducible rfl
        refine wpAny_take (i := 9) (v := ?_) rfl (by kernel_rfl) (by kernel_rfl) (by kernel_rfl) (fun _ _ _ h => h) (Or.inl ⟨by rfl, ?_⟩) ?_
        rotate_left
        · intro w; go_simp; first | done | with_reducible rfl
        refine wpAny_ready (rs := [10]) (by kernel_rfl) (by simp) ?_
        refine AllReady.cons rfl (fun K hK => ?_) ?_
        · go_simp
          refine (CT.out _ _ _ _).mono ?_; rintro e w2 ⟨rfl, rfl⟩
          try go_simp
          refine hK _ _ ?_
          clear hK K; refine wpAny_take (i := 11) (v := ?_) rfl (by kernel_rfl) (by kernel_rfl) (by kernel_rfl) (fun _ _ _ h => h) (Or.inl ⟨by rfl, ?_⟩) ?_
          rotate_left
          · intro w; go_simp; first | done | with_reducible rfl
          refine wpAny_take (i := 12) (v := ?_) rfl (by kernel_rfl) (by kernel_rfl) (by kernel_rfl) (fun _ _ _ h => h) (Or.inl ⟨by rfl, ?_⟩) ?_
          rotate_left
          · intro w; go_simp; first | done | with_reducible rfl
          refine wpAny_ready (rs := [13]) (by kernel_rfl) (by simp) ?_
          refine AllReady.cons rfl (fun K hK => ?_) ?_
          · go_simp
            refine hK _ _ ?_
            clear hK K; refine wpAny_done (by kernel_rfl) ?_ _
            obtain ⟨a0, a1, a2, a3, a4, a5, a6, a7, a8, a9, a10, afr⟩ := HA1.out
            unfold zeroB at a1 a2 a3; unfold noS at a4; unfold zeroX zeroN noS at a5 a6 a7 a8 a9; simp only at a1 a2 a3 a4 a5 a6 a7 a8 a9
            go_wp2; have hA := HA2.out
            have hD := HD.out
            have k0 := hA.c0
            have k1 := hA.c1
            have k2 := hA.c2
            have k3 := hA.c3
            have k4 := hA.c4
            have k5 := hA.c5
            have k6 := hA.c6
            have k7 := hA.c7
            have k8 := hA.c8
            have k9 := hA.c9
            have k10 := hA.c10
            unfold put11 noS zeroN zeroB at k0 k1 k2 k3 k4 k5 k6 k7 k8 k9 k10 hD; simp only [anV] at k0 k1 k2 k3 k4 k5 k6 k7 k8 k9 k10 hD
            refine bodyPost_ret ?_ rfl hD
            simp only [results, Tryz.results29]
            simp [go_sem, k0, k1, k2, k3, k4, k5, k6, k7, k8, k9, k10]
          exact AllReady.nil
        exact AllReady.nil
      exact AllReady.nil
    exact AllReady.nil
  exact AllReady.nil
end Go.Proofs.YtdilfbfkeiaafaaGreat.Spa
