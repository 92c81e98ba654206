/- The contract of tabulariumref07.Add. -/
import Derived.Test.YtdcmhbodjmajcaaTreeR5
import Derived.Deep.RegionWith
namespace Go.Proofs.Ytdcmhbodjmajcaa
open Go.RowKit

theorem LX.zero {base : Nat} {w : World} {a : Option Addr} {n c : Nat} {xs : NS} (h : LX base w a n c xs) : xs.length = n := h.len

set_option maxRecDepth 100000 in
set_option maxHeartbeats 2000000 in
theorem refAdd_val {a : Option Addr} {n c : Nat} {xs : NS} {w : World} (h : NL w a n xs) (x : NR) (hx : NdOk w x) (E : Int) (hE : AddE xs x.1 E) :
    Calls Try.prog 21 #[.slice a n c, ndV x] w fun e w' => TwoR w.heap.size (addL xs x.1 E) E e w' ∧ Below w.heap.size w w' := by
  have CR : Hid (∀ W u, Below w.heap.size w W → (u = true ↔ Right xs) → Calls Try.prog 16 #[.slice a n c] W fun e w' => e = .returned (.bool u) ∧ Below W.heap.size W w') := fun W u hb hu => refRight_val (h.below hb) u hu
  have CT : Hid (∀ W u, Below w.heap.size w W → fitsB x.1 = u → Calls Try.prog 14 #[ndV x] W fun e w' => e = .returned (.bool u) ∧ Below W.heap.size W w') := fun W u hb hu => refFits_val x u W (hx.below hb) hu
  have CF : Hid (∀ W I, Below w.heap.size w W → findI xs x.1.path = I → Calls Try.prog 18 #[.slice a n c, .string x.1.path] W fun e w' => e = .returned (.int .i64 I) ∧ Below W.heap.size W w') := fun W I hb hI => refFind_val (h.below hb) x.1.path I hI
  have CP : Hid (∀ W F, Below w.heap.size w W → dirE xs (parD x.1.path) = F → Calls Try.prog 50 #[.slice a n c, .string x.1.path] W fun e w' => e = .returned (.int .i64 F) ∧ Below W.heap.size W w') := fun W F hb hF => refPar_val (h.below hb) x.1.path hx.small F hF
  have HLEN : Hid (xs.length = n) := by obtain ⟨_, _, _, _, k2, _⟩ := h.ex; exact k2
  have HNL : Hid (NL w a n xs) := h
  have HND : Hid (NdOk w x) := hx
  have hlid := h.lid
  unfold maxLen at hlid
  obtain ⟨⟨p, d, q, bs, wr⟩, ⟨sa, sn, sc⟩⟩ := x
  have e0 := root_eq p
  have hst := run_store_str
  unfold ndV at *
  simp only at CF CP CT hE ⊢
  clear h hx
  cases hE with
  | arg hn =>
    have hr : addL xs ⟨p, d, q, bs, wr⟩ 1 = [] := rfl
    rw [hr]
    by_cases h1 : Right xs
    · have H1 : Hid (Right xs) := h1
      cases h2 : fitsB ⟨p, d, q, bs, wr⟩ with
      | false =>
        have H2 : Hid _ := h2
        clear h1 h2 hn e0 hr
        go_enter Try.func21, Try.ntmps21
        go_wp2_with (first
          | (go_at_call 16; refine (CR.out _ true (bel_al _ _) ⟨fun _ => H1.out, fun _ => rfl⟩).mono ?_; rintro e w1 ⟨rfl, c1⟩; have cc : Hid _ := bel_tr (bel_al _ _) c1; have y0 := bel_cell c1 (World.cell?_alloc_new w _ _ 0); have y1 := bel_cell c1 (World.cell?_alloc_new w _ _ 1); have y2 := bel_cell c1 (World.cell?_alloc_new w _ _ 2); have y3 := bel_cell c1 (World.cell?_alloc_new w _ _ 3); have y4 := bel_cell c1 (World.cell?_alloc_new w _ _ 4); clear c1)
          | (go_at_call 14; refine (CT.out _ false cc.out H2.out).mono ?_; rintro e w2 ⟨rfl, c2⟩; have cc2 : Hid _ := bel_tr cc.out c2; have z0 := bel_cell c2 y0; have z1 := bel_cell c2 y1; have z2 := bel_cell c2 y2; have z3 := bel_cell c2 y3; have z4 := bel_cell c2 y4; clear c2))
        go_ret2
        exact ⟨TwoR.no _ _ rfl, cc2.out⟩
      | true =>
        have H2 : Hid _ := h2
        have h3 : p = rootP := by
          by_cases h3 : p = rootP
          · exact h3
          · exact absurd ⟨h1, h2, h3⟩ hn
        rw [decide_eq_true h3] at e0
        clear h1 h2 h3 hn hr
        go_enter Try.func21, Try.ntmps21
        go_wp2_with (first
          | (go_at_call 16; refine (CR.out _ true (bel_al _ _) ⟨fun _ => H1.out, fun _ => rfl⟩).mono ?_; rintro e w1 ⟨rfl, c1⟩; have cc : Hid _ := bel_tr (bel_al _ _) c1; have y0 := bel_cell c1 (World.cell?_alloc_new w _ _ 0); have y1 := bel_cell c1 (World.cell?_alloc_new w _ _ 1); have y2 := bel_cell c1 (World.cell?_alloc_new w _ _ 2); have y3 := bel_cell c1 (World.cell?_alloc_new w _ _ 3); have y4 := bel_cell c1 (World.cell?_alloc_new w _ _ 4); clear c1)
          | (go_at_call 14; refine (CT.out _ true cc.out H2.out).mono ?_; rintro e w2 ⟨rfl, c2⟩; have cc2 : Hid _ := bel_tr cc.out c2; have z0 := bel_cell c2 y0; have z1 := bel_cell c2 y1; have z2 := bel_cell c2 y2; have z3 := bel_cell c2 y3; have z4 := bel_cell c2 y4; clear c2))
        go_ret2
        exact ⟨TwoR.no _ _ rfl, cc2.out⟩
    · have H1 : Hid (¬ Right xs) := h1
      obtain ⟨v, hv⟩ : ∃ v, fitsB ⟨p, d, q, bs, wr⟩ = v := ⟨_, rfl⟩
      have H2 : Hid _ := hv
      clear h1 hn e0 hr hv
      go_enter Try.func21, Try.ntmps21
      go_wp2_with (first
        | (go_at_call 16; refine (CR.out _ false (bel_al _ _) ⟨fun e => (by cases e), fun e => absurd e H1.out⟩).mono ?_; rintro e w1 ⟨rfl, c1⟩; have cc : Hid _ := bel_tr (bel_al _ _) c1; have y0 := bel_cell c1 (World.cell?_alloc_new w _ _ 0); have y1 := bel_cell c1 (World.cell?_alloc_new w _ _ 1); have y2 := bel_cell c1 (World.cell?_alloc_new w _ _ 2); have y3 := bel_cell c1 (World.cell?_alloc_new w _ _ 3); have y4 := bel_cell c1 (World.cell?_alloc_new w _ _ 4); clear c1)
        | (go_at_call 14; refine (CT.out _ v cc.out H2.out).mono ?_; rintro e w2 ⟨rfl, c2⟩; have cc2 : Hid _ := bel_tr cc.out c2; have z0 := bel_cell c2 y0; have z1 := bel_cell c2 y1; have z2 := bel_cell c2 y2; have z3 := bel_cell c2 y3; have z4 := bel_cell c2 y4; clear c2))
      go_ret2
      exact ⟨TwoR.no _ _ rfl, cc2.out⟩
  | exist h1 h2 h3 h4 =>
    have hr : addL xs ⟨p, d, q, bs, wr⟩ 6 = [] := rfl
    rw [hr]
    have H1 : Hid (Right xs) := h1
    have H2 : Hid _ := h2
    obtain ⟨i, h5, h6⟩ := find_pos h4
    have H4 : Hid (findI xs p = (i : Int)) := h5
    have h3' : p ≠ rootP := h3
    rw [decide_eq_false h3'] at e0
    clear h1 h2 h3 h4 h5 h6 h3' hr
    go_enter Try.func21, Try.ntmps21
    go_wp2_with (first
      | (go_at_call 16; refine (CR.out _ true (bel_al _ _) ⟨fun _ => H1.out, fun _ => rfl⟩).mono ?_; rintro e w1 ⟨rfl, c1⟩; have cc : Hid _ := bel_tr (bel_al _ _) c1; have y0 := bel_cell c1 (World.cell?_alloc_new w _ _ 0); have y1 := bel_cell c1 (World.cell?_alloc_new w _ _ 1); have y2 := bel_cell c1 (World.cell?_alloc_new w _ _ 2); have y3 := bel_cell c1 (World.cell?_alloc_new w _ _ 3); have y4 := bel_cell c1 (World.cell?_alloc_new w _ _ 4); clear c1)
      | (go_at_call 14; refine (CT.out _ true cc.out H2.out).mono ?_; rintro e w2 ⟨rfl, c2⟩; have cc2 : Hid _ := bel_tr cc.out c2; have z0 := bel_cell c2 y0; have z1 := bel_cell c2 y1; have z2 := bel_cell c2 y2; have z3 := bel_cell c2 y3; have z4 := bel_cell c2 y4; clear c2)
      | (go_at_call 18; refine (CF.out _ _ cc2.out H4.out).mono ?_; rintro e w3 ⟨rfl, c3⟩; have cc3 : Hid _ := bel_tr cc2.out c3; have v0 := bel_cell c3 z0; have v1 := bel_cell c3 z1; have v2 := bel_cell c3 z2; have v3 := bel_cell c3 z3; have v4 := bel_cell c3 z4; clear c3))
    go_ret2
    exact ⟨TwoR.no _ _ rfl, cc3.out⟩
  | par e h1 h2 h3 h4 h5 h6 =>
    have hr : addL xs ⟨p, d, q, bs, wr⟩ E = [] := if_neg h6
    rw [hr]
    have H1 : Hid (Right xs) := h1
    have H2 : Hid _ := h2
    have H4 : Hid (findI xs p = -1) := find_neg h4
    have H5 : Hid (dirE xs (parD p) = E) := h5
    have h6b : (E != 0) = true := by simpa using h6
    have h3' : p ≠ rootP := h3
    rw [decide_eq_false h3'] at e0
    clear h1 h2 h3 h4 h5 h6 h3' hr
    go_enter Try.func21, Try.ntmps21
    go_wp2_with (first
      | (go_at_call 16; refine (CR.out _ true (bel_al _ _) ⟨fun _ => H1.out, fun _ => rfl⟩).mono ?_; rintro e w1 ⟨rfl, c1⟩; have cc : Hid _ := bel_tr (bel_al _ _) c1; have y0 := bel_cell c1 (World.cell?_alloc_new w _ _ 0); have y1 := bel_cell c1 (World.cell?_alloc_new w _ _ 1); have y2 := bel_cell c1 (World.cell?_alloc_new w _ _ 2); have y3 := bel_cell c1 (World.cell?_alloc_new w _ _ 3); have y4 := bel_cell c1 (World.cell?_alloc_new w _ _ 4); clear c1)
      | (go_at_call 14; refine (CT.out _ true cc.out H2.out).mono ?_; rintro e w2 ⟨rfl, c2⟩; have cc2 : Hid _ := bel_tr cc.out c2; have z0 := bel_cell c2 y0; have z1 := bel_cell c2 y1; have z2 := bel_cell c2 y2; have z3 := bel_cell c2 y3; have z4 := bel_cell c2 y4; clear c2)
      | (go_at_call 18; refine (CF.out _ _ cc2.out H4.out).mono ?_; rintro e w3 ⟨rfl, c3⟩; have cc3 : Hid _ := bel_tr cc2.out c3; have v0 := bel_cell c3 z0; have v1 := bel_cell c3 z1; have v2 := bel_cell c3 z2; have v3 := bel_cell c3 z3; have v4 := bel_cell c3 z4; clear c3)
      | (go_at_call 50; refine (CP.out _ _ cc3.out H5.out).mono ?_; rintro e w4 ⟨rfl, c4⟩; have cc4 : Hid (Below w.heap.size w w4) := bel_tr cc3.out c4; have q0 := bel_cell c4 v0; have q1 := bel_cell c4 v1; have q2 := bel_cell c4 v2; have q3 := bel_cell c4 v3; have q4 := bel_cell c4 v4; clear c4))
    go_ret2
    exact ⟨TwoR.no _ _ rfl, cc4.out⟩
  | long h1 h2 h3 h4 h5 h6 =>
    have hr : addL xs ⟨p, d, q, bs, wr⟩ 4 = [] := rfl
    rw [hr]
    have H1 : Hid (Right xs) := h1
    have H2 : Hid _ := h2
    have H4 : Hid (findI xs p = -1) := find_neg h4
    have H5 : Hid (dirE xs (parD p) = 0) := h5
    have h6b : decide ((60 : Int) ≤ (n : Int)) = true := decide_eq_true (by rw [HLEN.out] at h6; omega)
    have h3' : p ≠ rootP := h3
    rw [decide_eq_false h3'] at e0
    clear h1 h2 h3 h4 h5 h6 h3' hr
    go_enter Try.func21, Try.ntmps21
    go_wp2_with (first
      | (go_at_call 16; refine (CR.out _ true (bel_al _ _) ⟨fun _ => H1.out, fun _ => rfl⟩).mono ?_; rintro e w1 ⟨rfl, c1⟩; have cc : Hid _ := bel_tr (bel_al _ _) c1; have y0 := bel_cell c1 (World.cell?_alloc_new w _ _ 0); have y1 := bel_cell c1 (World.cell?_alloc_new w _ _ 1); have y2 := bel_cell c1 (World.cell?_alloc_new w _ _ 2); have y3 := bel_cell c1 (World.cell?_alloc_new w _ _ 3); have y4 := bel_cell c1 (World.cell?_alloc_new w _ _ 4); clear c1)
      | (go_at_call 14; refine (CT.out _ true cc.out H2.out).mono ?_; rintro e w2 ⟨rfl, c2⟩; have cc2 : Hid _ := bel_tr cc.out c2; have z0 := bel_cell c2 y0; have z1 := bel_cell c2 y1; have z2 := bel_cell c2 y2; have z3 := bel_cell c2 y3; have z4 := bel_cell c2 y4; clear c2)
      | (go_at_call 18; refine (CF.out _ _ cc2.out H4.out).mono ?_; rintro e w3 ⟨rfl, c3⟩; have cc3 : Hid _ := bel_tr cc2.out c3; have v0 := bel_cell c3 z0; have v1 := bel_cell c3 z1; have v2 := bel_cell c3 z2; have v3 := bel_cell c3 z3; have v4 := bel_cell c3 z4; clear c3)
      | (go_at_call 50; refine (CP.out _ _ cc3.out H5.out).mono ?_; rintro e w4 ⟨rfl, c4⟩; have cc4 : Hid (Below w.heap.size w w4) := bel_tr cc3.out c4; have q0 := bel_cell c4 v0; have q1 := bel_cell c4 v1; have q2 := bel_cell c4 v2; have q3 := bel_cell c4 v3; have q4 := bel_cell c4 v4; clear c4))
    go_ret2
    exact ⟨TwoR.no _ _ rfl, cc4.out⟩
  | ok h1 h2 h3 h4 h5 h6 =>
    have hr : addL xs ⟨p, d, q, bs, wr⟩ 0 = sortN (xs ++ [⟨p, d, q, bs, wr⟩]) := rfl
    rw [hr]
    have H1 : Hid (Right xs) := h1
    have H2 : Hid _ := h2
    have H4 : Hid (findI xs p = -1) := find_neg h4
    have HAT : Hid (at? xs p = none) := h4
    have H5 : Hid (dirE xs (parD p) = 0) := h5
    have hn60 : n < 60 := by rw [HLEN.out] at h6; exact h6
    have hn0 : 0 < n := by rw [← HLEN.out]; exact h1.pos
    have HN0 : Hid (0 < n) := hn0
    have HN60 : Hid (n < 60) := hn60
    have h6b : decide ((60 : Int) ≤ (n : Int)) = false := decide_eq_false (by omega)
    have h3' : p ≠ rootP := h3
    rw [decide_eq_false h3'] at e0
    have CALL : Hid (∀ W, Below w.heap.size w W → Calls Try.prog 52 #[.slice a n c] W fun e w' => ListR W.heap.size xs n e w' ∧ Below W.heap.size W w') := fun W hb => refAll_val (HNL.out.below hb) (by omega) (fun y hy => by have := H1.out.few8 y hy; omega)
    have CPUT : Hid (∀ W W2 a2 c2, Below w.heap.size w W → Below W.heap.size W W2 → LX W.heap.size W2 a2 n c2 xs → Calls Try.prog 51 #[.slice a2 n c2, .agg #[.string p, .bool d, .int .i64 q, .slice sa sn sc, .int .i64 wr]] W2 fun e w' => ListR w.heap.size (sortN (xs ++ [⟨p, d, q, bs, wr⟩])) (n + 1) e w' ∧ Below W2.heap.size W2 w') := fun W W2 a2 c2 hb hb2 hX =>
      refPut_val (hX.mono hb.size) (Nat.le_trans hb.size hb2.size) (by have := HN60.out; omega) (fun e => by have := HN0.out; omega) (⟨p, d, q, bs, wr⟩, ⟨sa, sn, sc⟩) (HND.out.below (bel_tr hb hb2)) (by rw [← HND.out.bs.len]; exact fits_few H2.out) (right_asc H1.out) HAT.out
    clear h1 h2 h3 h4 h5 h6 h3' hr
    go_enter Try.func21, Try.ntmps21
    go_wp2_with (first
      | (go_at_call 16; refine (CR.out _ true (bel_al _ _) ⟨fun _ => H1.out, fun _ => rfl⟩).mono ?_; rintro e w1 ⟨rfl, c1⟩; have cc : Hid _ := bel_tr (bel_al _ _) c1; have y0 := bel_cell c1 (World.cell?_alloc_new w _ _ 0); have y1 := bel_cell c1 (World.cell?_alloc_new w _ _ 1); have y2 := bel_cell c1 (World.cell?_alloc_new w _ _ 2); have y3 := bel_cell c1 (World.cell?_alloc_new w _ _ 3); have y4 := bel_cell c1 (World.cell?_alloc_new w _ _ 4); clear c1)
      | (go_at_call 14; refine (CT.out _ true cc.out H2.out).mono ?_; rintro e w2 ⟨rfl, c2⟩; have cc2 : Hid _ := bel_tr cc.out c2; have z0 := bel_cell c2 y0; have z1 := bel_cell c2 y1; have z2 := bel_cell c2 y2; have z3 := bel_cell c2 y3; have z4 := bel_cell c2 y4; clear c2)
      | (go_at_call 18; refine (CF.out _ _ cc2.out H4.out).mono ?_; rintro e w3 ⟨rfl, c3⟩; have cc3 : Hid _ := bel_tr cc2.out c3; have v0 := bel_cell c3 z0; have v1 := bel_cell c3 z1; have v2 := bel_cell c3 z2; have v3 := bel_cell c3 z3; have v4 := bel_cell c3 z4; clear c3)
      | (go_at_call 50; refine (CP.out _ _ cc3.out H5.out).mono ?_; rintro e w4 ⟨rfl, c4⟩; have cc4 : Hid (Below w.heap.size w w4) := bel_tr cc3.out c4; have q0 := bel_cell c4 v0; have q1 := bel_cell c4 v1; have q2 := bel_cell c4 v2; have q3 := bel_cell c4 v3; have q4 := bel_cell c4 v4; clear c4))
    have HQQ : Hid (∀ k, Below w.heap.size w (w4.drewN k)) := fun k => bel_tr cc4.out (bel_drewN w4 k)
    go_region_with (first
      | (go_at_call 52; refine (CALL.out w4.drew (HQQ.out 1)).mono ?_; rintro e w5 ⟨⟨a5, c5, rfl, hX5⟩, c5b⟩; have HX5 : Hid (LX w4.drew.heap.size w5 a5 n c5 xs) := hX5; have B5 : Hid (Below w4.drew.heap.size w4.drew w5) := c5b; have HB45 : Hid (Below w4.heap.size w4 w5) := bel_tr (bel_drewN w4 1) c5b; have r0 := bel_cell HB45.out q0; have r1 := bel_cell HB45.out q1; have r2 := bel_cell HB45.out q2; have r3 := bel_cell HB45.out q3; have r4 := bel_cell HB45.out q4; clear hX5 c5b)
      | (go_at_call 51; refine (CPUT.out w4.drew w5 a5 c5 (HQQ.out 1) B5.out HX5.out).mono ?_; rintro e w6 ⟨⟨a6, c6, rfl, hX6⟩, c6b⟩; have HX6 : Hid _ := hX6; have cc6 : Hid (Below w.heap.size w w6) := bel_tr cc4.out (bel_tr HB45.out c6b); clear hX6 c6b))
    all_goals
      go_wp2
      go_ret2
      exact ⟨⟨a6, n + 1, c6, rfl, HX6.out⟩, cc6.out⟩


end Go.Proofs.Ytdcmhbodjmajcaa
