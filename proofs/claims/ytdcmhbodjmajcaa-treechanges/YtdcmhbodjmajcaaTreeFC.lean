/- The contracts of tree.refuseAdd, Add. -/
import Derived.Test.YtdcmhbodjmajcaaTreeFB
namespace Go.Proofs.Ytdcmhbodjmajcaa
open Go.RowKit

set_option maxRecDepth 100000 in
set_option maxHeartbeats 1000000 in
theorem refuseAdd_val {a : Option Addr} {n c : Nat} {xs : NS} {w : World} (h : NL w a n xs) (x : NR) (hx : NdOk w x) (E : Int) (hE : AddE xs x.1 E) :
    Calls Try.prog 46 #[.slice a n c, ndV x] w fun e w' => e = .returned (.int .i64 E) ∧ Below w.heap.size w w' := by
  have CR : Hid (∀ W u, Below w.heap.size w W → (u = true ↔ Right xs) → Calls Try.prog 15 #[.slice a n c] W fun e w' => e = .returned (.bool u) ∧ Below W.heap.size W w') := fun W u hb hu => right_val (h.below hb) u hu
  have CT : Hid (∀ W u, Below w.heap.size w W → fitsB x.1 = u → Calls Try.prog 13 #[ndV x] W fun e w' => e = .returned (.bool u) ∧ Below W.heap.size W w') := fun W u hb hu => fits_val x u W (hx.below hb) hu
  have CF : Hid (∀ W I, Below w.heap.size w W → findI xs x.1.path = I → Calls Try.prog 17 #[.slice a n c, .string x.1.path] W fun e w' => e = .returned (.int .i64 I) ∧ Below W.heap.size W w') := fun W I hb hI => find_val (h.below hb) x.1.path I hI
  have CP : Hid (∀ W F, Below w.heap.size w W → dirE xs (parD x.1.path) = F → Calls Try.prog 42 #[.slice a n c, .string x.1.path] W fun e w' => e = .returned (.int .i64 F) ∧ Below W.heap.size W w') := fun W F hb hF => refuseParent_val (h.below hb) x.1.path hx.small F hF
  have HLEN : Hid (xs.length = n) := by obtain ⟨_, _, _, _, k2, _⟩ := h.ex; exact k2
  have hlid := h.lid
  unfold maxLen at hlid
  obtain ⟨⟨p, d, q, bs, wr⟩, ⟨sa, sn, sc⟩⟩ := x
  have e0 := root_eq p
  have hst := run_store_str
  unfold ndV at *
  simp only at CF CP CT
  clear h hx
  cases hE with
  | arg hn =>
    by_cases h1 : Right xs
    · have H1 : Hid (true = true ↔ Right xs) := ⟨fun _ => h1, fun _ => rfl⟩
      cases h2 : fitsB ⟨p, d, q, bs, wr⟩ with
      | false =>
        have H2 : Hid _ := h2
        clear h1 h2 hn e0
        go_enter Try.func46, Try.ntmps46
        go_wp2_with (first
          | (go_at_call 15; refine (CR.out _ true (bel_al _ _) H1.out).mono ?_; rintro e w1 ⟨rfl, c1⟩; have cc : Hid _ := bel_tr (bel_al _ _) c1; have y0 := bel_cell c1 (World.cell?_alloc_new w _ _ 0); have y1 := bel_cell c1 (World.cell?_alloc_new w _ _ 1); have y2 := bel_cell c1 (World.cell?_alloc_new w _ _ 2); have y3 := bel_cell c1 (World.cell?_alloc_new w _ _ 3); have y4 := bel_cell c1 (World.cell?_alloc_new w _ _ 4); clear c1)
          | (go_at_call 13; refine (CT.out _ false cc.out H2.out).mono ?_; rintro e w2 ⟨rfl, c2⟩; have cc2 : Hid _ := bel_tr cc.out c2; have z0 := bel_cell c2 y0; have z1 := bel_cell c2 y1; have z2 := bel_cell c2 y2; have z3 := bel_cell c2 y3; have z4 := bel_cell c2 y4; clear c2))
        go_ret
        exact ⟨rfl, cc2.out⟩
      | true =>
        have H2 : Hid _ := h2
        have h3 : p = rootP := by
          by_cases h3 : p = rootP
          · exact h3
          · exact absurd ⟨h1, h2, h3⟩ hn
        rw [decide_eq_true h3] at e0
        clear h1 h2 h3 hn
        go_enter Try.func46, Try.ntmps46
        go_wp2_with (first
          | (go_at_call 15; refine (CR.out _ true (bel_al _ _) H1.out).mono ?_; rintro e w1 ⟨rfl, c1⟩; have cc : Hid _ := bel_tr (bel_al _ _) c1; have y0 := bel_cell c1 (World.cell?_alloc_new w _ _ 0); have y1 := bel_cell c1 (World.cell?_alloc_new w _ _ 1); have y2 := bel_cell c1 (World.cell?_alloc_new w _ _ 2); have y3 := bel_cell c1 (World.cell?_alloc_new w _ _ 3); have y4 := bel_cell c1 (World.cell?_alloc_new w _ _ 4); clear c1)
          | (go_at_call 13; refine (CT.out _ true cc.out H2.out).mono ?_; rintro e w2 ⟨rfl, c2⟩; have cc2 : Hid _ := bel_tr cc.out c2; have z0 := bel_cell c2 y0; have z1 := bel_cell c2 y1; have z2 := bel_cell c2 y2; have z3 := bel_cell c2 y3; have z4 := bel_cell c2 y4; clear c2))
        go_ret
        exact ⟨rfl, cc2.out⟩
    · have H1 : Hid (false = true ↔ Right xs) := ⟨fun e => (by cases e), fun e => absurd e h1⟩
      clear h1 hn e0
      go_enter Try.func46, Try.ntmps46
      go_wp2_with (first
        | (go_at_call 15; refine (CR.out _ false (bel_al _ _) H1.out).mono ?_; rintro e w1 ⟨rfl, c1⟩; have cc : Hid _ := bel_tr (bel_al _ _) c1; have y0 := bel_cell c1 (World.cell?_alloc_new w _ _ 0); have y1 := bel_cell c1 (World.cell?_alloc_new w _ _ 1); have y2 := bel_cell c1 (World.cell?_alloc_new w _ _ 2); have y3 := bel_cell c1 (World.cell?_alloc_new w _ _ 3); have y4 := bel_cell c1 (World.cell?_alloc_new w _ _ 4); clear c1))
      go_ret
      exact ⟨rfl, cc.out⟩
  | exist h1 h2 h3 h4 =>
    have H1 : Hid (true = true ↔ Right xs) := ⟨fun _ => h1, fun _ => rfl⟩
    have H2 : Hid _ := h2
    obtain ⟨i, h5, h6⟩ := find_pos h4
    have H4 : Hid (findI xs p = (i : Int)) := h5
    have h3' : p ≠ rootP := h3
    rw [decide_eq_false h3'] at e0
    clear h1 h2 h3 h4 h5 h6 h3'
    go_enter Try.func46, Try.ntmps46
    go_wp2_with (first
      | (go_at_call 15; refine (CR.out _ true (bel_al _ _) H1.out).mono ?_; rintro e w1 ⟨rfl, c1⟩; have cc : Hid _ := bel_tr (bel_al _ _) c1; have y0 := bel_cell c1 (World.cell?_alloc_new w _ _ 0); have y1 := bel_cell c1 (World.cell?_alloc_new w _ _ 1); have y2 := bel_cell c1 (World.cell?_alloc_new w _ _ 2); have y3 := bel_cell c1 (World.cell?_alloc_new w _ _ 3); have y4 := bel_cell c1 (World.cell?_alloc_new w _ _ 4); clear c1)
      | (go_at_call 13; refine (CT.out _ true cc.out H2.out).mono ?_; rintro e w2 ⟨rfl, c2⟩; have cc2 : Hid _ := bel_tr cc.out c2; have z0 := bel_cell c2 y0; have z1 := bel_cell c2 y1; have z2 := bel_cell c2 y2; have z3 := bel_cell c2 y3; have z4 := bel_cell c2 y4; clear c2)
      | (go_at_call 17; refine (CF.out _ _ cc2.out H4.out).mono ?_; rintro e w3 ⟨rfl, c3⟩; have cc3 : Hid _ := bel_tr cc2.out c3; have v0 := bel_cell c3 z0; have v1 := bel_cell c3 z1; have v2 := bel_cell c3 z2; have v3 := bel_cell c3 z3; have v4 := bel_cell c3 z4; clear c3))
    go_ret
    exact ⟨rfl, cc3.out⟩
  | par e h1 h2 h3 h4 h5 h6 =>
    have H1 : Hid (true = true ↔ Right xs) := ⟨fun _ => h1, fun _ => rfl⟩
    have H2 : Hid _ := h2
    have H4 : Hid (findI xs p = -1) := find_neg h4
    have H5 : Hid (dirE xs (parD p) = E) := h5
    have h6b : (E != 0) = true := by simpa using h6
    have h3' : p ≠ rootP := h3
    rw [decide_eq_false h3'] at e0
    clear h1 h2 h3 h4 h5 h6 h3'
    go_enter Try.func46, Try.ntmps46
    go_wp2_with (first
      | (go_at_call 15; refine (CR.out _ true (bel_al _ _) H1.out).mono ?_; rintro e w1 ⟨rfl, c1⟩; have cc : Hid _ := bel_tr (bel_al _ _) c1; have y0 := bel_cell c1 (World.cell?_alloc_new w _ _ 0); have y1 := bel_cell c1 (World.cell?_alloc_new w _ _ 1); have y2 := bel_cell c1 (World.cell?_alloc_new w _ _ 2); have y3 := bel_cell c1 (World.cell?_alloc_new w _ _ 3); have y4 := bel_cell c1 (World.cell?_alloc_new w _ _ 4); clear c1)
      | (go_at_call 13; refine (CT.out _ true cc.out H2.out).mono ?_; rintro e w2 ⟨rfl, c2⟩; have cc2 : Hid _ := bel_tr cc.out c2; have z0 := bel_cell c2 y0; have z1 := bel_cell c2 y1; have z2 := bel_cell c2 y2; have z3 := bel_cell c2 y3; have z4 := bel_cell c2 y4; clear c2)
      | (go_at_call 17; refine (CF.out _ _ cc2.out H4.out).mono ?_; rintro e w3 ⟨rfl, c3⟩; have cc3 : Hid _ := bel_tr cc2.out c3; have v0 := bel_cell c3 z0; have v1 := bel_cell c3 z1; have v2 := bel_cell c3 z2; have v3 := bel_cell c3 z3; have v4 := bel_cell c3 z4; clear c3)
      | (go_at_call 42; refine (CP.out _ _ cc3.out H5.out).mono ?_; rintro e w4 ⟨rfl, c4⟩; have cc4 : Hid _ := bel_tr cc3.out c4; clear c4))
    go_ret
    exact ⟨rfl, cc4.out⟩
  | long h1 h2 h3 h4 h5 h6 =>
    have H1 : Hid (true = true ↔ Right xs) := ⟨fun _ => h1, fun _ => rfl⟩
    have H2 : Hid _ := h2
    have H4 : Hid (findI xs p = -1) := find_neg h4
    have H5 : Hid (dirE xs (parD p) = 0) := h5
    have h6b : decide ((60 : Int) ≤ (n : Int)) = true := decide_eq_true (by rw [HLEN.out] at h6; omega)
    have h3' : p ≠ rootP := h3
    rw [decide_eq_false h3'] at e0
    clear h1 h2 h3 h4 h5 h6 h3'
    go_enter Try.func46, Try.ntmps46
    go_wp2_with (first
      | (go_at_call 15; refine (CR.out _ true (bel_al _ _) H1.out).mono ?_; rintro e w1 ⟨rfl, c1⟩; have cc : Hid _ := bel_tr (bel_al _ _) c1; have y0 := bel_cell c1 (World.cell?_alloc_new w _ _ 0); have y1 := bel_cell c1 (World.cell?_alloc_new w _ _ 1); have y2 := bel_cell c1 (World.cell?_alloc_new w _ _ 2); have y3 := bel_cell c1 (World.cell?_alloc_new w _ _ 3); have y4 := bel_cell c1 (World.cell?_alloc_new w _ _ 4); clear c1)
      | (go_at_call 13; refine (CT.out _ true cc.out H2.out).mono ?_; rintro e w2 ⟨rfl, c2⟩; have cc2 : Hid _ := bel_tr cc.out c2; have z0 := bel_cell c2 y0; have z1 := bel_cell c2 y1; have z2 := bel_cell c2 y2; have z3 := bel_cell c2 y3; have z4 := bel_cell c2 y4; clear c2)
      | (go_at_call 17; refine (CF.out _ _ cc2.out H4.out).mono ?_; rintro e w3 ⟨rfl, c3⟩; have cc3 : Hid _ := bel_tr cc2.out c3; have v0 := bel_cell c3 z0; have v1 := bel_cell c3 z1; have v2 := bel_cell c3 z2; have v3 := bel_cell c3 z3; have v4 := bel_cell c3 z4; clear c3)
      | (go_at_call 42; refine (CP.out _ _ cc3.out H5.out).mono ?_; rintro e w4 ⟨rfl, c4⟩; have cc4 : Hid _ := bel_tr cc3.out c4; clear c4))
    go_ret
    exact ⟨rfl, cc4.out⟩
  | ok h1 h2 h3 h4 h5 h6 =>
    have H1 : Hid (true = true ↔ Right xs) := ⟨fun _ => h1, fun _ => rfl⟩
    have H2 : Hid _ := h2
    have H4 : Hid (findI xs p = -1) := find_neg h4
    have H5 : Hid (dirE xs (parD p) = 0) := h5
    have h6b : decide ((60 : Int) ≤ (n : Int)) = false := decide_eq_false (by rw [HLEN.out] at h6; omega)
    have h3' : p ≠ rootP := h3
    rw [decide_eq_false h3'] at e0
    clear h1 h2 h3 h4 h5 h6 h3'
    go_enter Try.func46, Try.ntmps46
    go_wp2_with (first
      | (go_at_call 15; refine (CR.out _ true (bel_al _ _) H1.out).mono ?_; rintro e w1 ⟨rfl, c1⟩; have cc : Hid _ := bel_tr (bel_al _ _) c1; have y0 := bel_cell c1 (World.cell?_alloc_new w _ _ 0); have y1 := bel_cell c1 (World.cell?_alloc_new w _ _ 1); have y2 := bel_cell c1 (World.cell?_alloc_new w _ _ 2); have y3 := bel_cell c1 (World.cell?_alloc_new w _ _ 3); have y4 := bel_cell c1 (World.cell?_alloc_new w _ _ 4); clear c1)
      | (go_at_call 13; refine (CT.out _ true cc.out H2.out).mono ?_; rintro e w2 ⟨rfl, c2⟩; have cc2 : Hid _ := bel_tr cc.out c2; have z0 := bel_cell c2 y0; have z1 := bel_cell c2 y1; have z2 := bel_cell c2 y2; have z3 := bel_cell c2 y3; have z4 := bel_cell c2 y4; clear c2)
      | (go_at_call 17; refine (CF.out _ _ cc2.out H4.out).mono ?_; rintro e w3 ⟨rfl, c3⟩; have cc3 : Hid _ := bel_tr cc2.out c3; have v0 := bel_cell c3 z0; have v1 := bel_cell c3 z1; have v2 := bel_cell c3 z2; have v3 := bel_cell c3 z3; have v4 := bel_cell c3 z4; clear c3)
      | (go_at_call 42; refine (CP.out _ _ cc3.out H5.out).mono ?_; rintro e w4 ⟨rfl, c4⟩; have cc4 : Hid _ := bel_tr cc3.out c4; clear c4))
    go_ret
    exact ⟨rfl, cc4.out⟩

/-- A copy is appended to a list of the call's own. -/
theorem Lot.push {base : Nat} {w2 w3 w5 : World} {fa : Option Addr} {fn fc : Nat} {qs : List NR} {g : Option Nat} (hL : Lot base w2 fa fn fc qs g) (hB : base ≤ w2.heap.size) {x : Nd} {s : RS} (hF : Free w2.heap.size w3 (x, s)) (B2 : Below w2.heap.size w2 w3) {o : Obj} {a2 : Option Addr} {c2 : Nat} {g5 : Option Nat}
    (hC : Cel (Grow (fun k => base ≤ k) (w3.alloc o) w5) w5 5 (.slice a2 (fn + 1) c2) (fn + 1) (rowC ndC qs ++ rowC ndC [(x, s)]) g5) (hS : Stay (fun k => g = some k) (w3.alloc o) w5) (hg : ∀ k, g5 = some k → g = some k ∨ (w3.alloc o).heap.size ≤ k) : Lot base w5 a2 (fn + 1) c2 (qs ++ [(x, s)]) g5 ∧ Below base w2 w5 := by
  have B3 : Below w2.heap.size w2 (w3.alloc o) := bel_tr B2 (bel_al _ _)
  have z2 := B3.size
  have hge : ∀ k, g = some k → k < w2.heap.size ∧ base ≤ k := fun k hk => by have := hL.cel; rw [hk] at this; exact this.lt
  have hF2 := hF.below (bel_al w3 o)
  refine ⟨(hL.below B3).app (qs := [(x, s)]) (fun y hy => ?_) (fun y hy k hk e => ?_) rfl hC hS hg (by omega), ?_⟩
  · rw [List.mem_singleton.1 hy]; exact hF2.mono hB
  · rw [List.mem_singleton.1 hy] at e
    have := hF2.blk_ge k e
    have := (hge k hk).1
    omega
  · exact (B3.mono hB).trans (hS.below (by omega) (fun k hk => (hge k hk).2))

theorem apart_snoc {xs : NS} {x : Nd} (h : Apart xs) (hx : at? xs x.path = none) : Apart (xs ++ [x]) := by
  unfold Apart
  rw [List.pairwise_append]
  refine ⟨h, List.pairwise_singleton _ _, fun y hy z hz => ?_⟩
  rw [List.mem_singleton.1 hz]
  exact at_none hx y hy

def addL (xs : NS) (x : Nd) (E : Int) : NS := if E = 0 then sortN (xs ++ [x]) else []

set_option maxRecDepth 100000 in
set_option maxHeartbeats 2000000 in
theorem add_val {a : Option Addr} {n c : Nat} {xs : NS} {w : World} (h : NL w a n xs) (x : NR) (hx : NdOk w x) (E : Int) (hE : AddE xs x.1 E) :
    Calls Try.prog 20 #[.slice a n c, ndV x] w fun e w' => TwoR w.heap.size (addL xs x.1 E) E e w' ∧ Below w.heap.size w w' := by
  have CA : Hid (∀ W, Below w.heap.size w W → Calls Try.prog 46 #[.slice a n c, ndV x] W fun e w' => e = .returned (.int .i64 E) ∧ Below W.heap.size W w') := fun W hb => refuseAdd_val (h.below hb) x (hx.below hb) E hE
  have HLEN : Hid (xs.length = n) := by obtain ⟨_, _, _, _, k2, _⟩ := h.ex; exact k2
  have hst := run_store_str
  by_cases h0 : E = 0
  · subst h0
    have hr : addL xs x.1 0 = sortN (xs ++ [x.1]) := rfl
    rw [hr]
    obtain ⟨ti, hi1, hi2, hi3, hi4⟩ := ndRow
    cases hE with
    | par e h1 h2 h3 h4 h5 h6 => exact absurd rfl h6
    | ok h1 h2 h3 h4 h5 h6 =>
      have hn60 : n < 60 := by rw [HLEN.out] at h6; exact h6
      have HAP : Hid (Apart (xs ++ [x.1])) := apart_snoc (right_asc h1).apart h4
      have CC : Hid (∀ W, Below w.heap.size w W → Calls Try.prog 34 #[.slice a n c, .func (.func 47) #[] #[]] W fun e w' => ListR W.heap.size xs n e w' ∧ Below W.heap.size W w') := fun W hb =>
        chosen_val (h.below hb) (by omega) h1.few8 47 #[] (fun _ => true) (enters_of Try.func47 (by kernel_rfl) rfl) (fun W2 y hb2 hy => by simpa using add1_val W2 y) xs (List.filter_eq_self.2 (fun _ _ => rfl)) n HLEN.out
      have h8 : x.2.n ≤ 8 := by rw [← hx.bs.len]; exact fits_few h2
      have CY : Hid (∀ W, Below w.heap.size w W → Calls Try.prog 49 #[ndV x] W fun e w' => CopyR W.heap.size x.1 e w' ∧ Below W.heap.size W w') := fun W hb => copied_val x W (hx.below hb) (by omega)
      obtain ⟨⟨p, d, q, bs, wr⟩, ⟨sa, sn, sc⟩⟩ := x
      unfold ndV at *
      simp only at CA CY HAP ⊢
      clear h hx h1 h2 h3 h4 h5 h6 h8 hr
      go_enter Try.func20, Try.ntmps20
      go_wp2_with (first
        | (go_at_call 46; refine (CA.out _ (bel_al _ _)).mono ?_; rintro e w1 ⟨rfl, c1⟩; have cc : Hid _ := bel_tr (bel_al _ _) c1; have y0 := bel_cell c1 (World.cell?_alloc_new w _ _ 0); have y1 := bel_cell c1 (World.cell?_alloc_new w _ _ 1); have y2 := bel_cell c1 (World.cell?_alloc_new w _ _ 2); have y3 := bel_cell c1 (World.cell?_alloc_new w _ _ 3); have y4 := bel_cell c1 (World.cell?_alloc_new w _ _ 4); clear c1)
        | (go_at_call 34; refine (CC.out _ cc.out).mono ?_; rintro e w2 ⟨⟨a2, c2, rfl, ⟨qs, g, hq, hL⟩⟩, d2⟩; have cc2 : Hid _ := bel_tr cc.out d2; have HQ : Hid _ := hq; have HL : Hid (Lot w1.heap.size w2 a2 n c2 qs g) := hL; have HB2 : Hid _ := d2; have z0 := bel_cell d2 y0; have z1 := bel_cell d2 y1; have z2 := bel_cell d2 y2; have z3 := bel_cell d2 y3; have z4 := bel_cell d2 y4; clear d2 hq hL)
        | (go_at_call 49; refine (CY.out _ cc2.out).mono ?_; rintro e w3 ⟨⟨s, rfl, hF⟩, c3⟩; have HF : Hid (Free w2.heap.size w3 (⟨p, d, q, bs, wr⟩, s)) := hF; have B3 : Hid (Below w2.heap.size w2 w3) := c3; clear hF c3; unfold ndV; simp only)
        | (at_builtin; refine wpList_append_cel _ rfl _ _ 22 22 rfl 25 ti _ 5 64 Try.underlying22 hi1 hi2 hi3 hi4 rfl (O := fun k => w1.heap.size ≤ k) _ n _ g rfl ((HL.out.below (bel_tr B3.out (bel_al _ _))).cel) _ 1 (rowC ndC [(⟨p, d, q, bs, wr⟩, s)]) rfl (src_new5 w3 (⟨p, d, q, bs, wr⟩, s)) (by unfold maxLen; omega) (by omega) ?_; intro a5 c5 w5 g5 hC5 hS5 hf5; have HX : Hid (LX w1.heap.size w5 a5 (n + 1) c5 (xs ++ [⟨p, d, q, bs, wr⟩]) ∧ Below w1.heap.size w2 w5) := ⟨⟨qs ++ [(⟨p, d, q, bs, wr⟩, s)], g5, by rw [List.map_append, HQ.out]; rfl, (HL.out.push HB2.out.size HF.out B3.out hC5 hS5 hf5).1⟩, (HL.out.push HB2.out.size HF.out B3.out hC5 hS5 hf5).2⟩; clear hC5 hS5 hf5)
        | (go_at_call 48; refine (ordered_val HX.out.1 (by omega) (by omega) HAP.out).mono ?_; rintro e w6 ⟨rfl, hX6, hS6⟩; have HX6 : Hid (LX w1.heap.size w6 a5 (n + 1) c5 (sortN (xs ++ [⟨p, d, q, bs, wr⟩]))) := hX6; have HS6 : Hid (Stay (fun k => w1.heap.size ≤ k) w5 w6) := hS6; clear hX6 hS6))
      go_ret2
      have z1 := cc.out.size
      refine ⟨⟨a5, n + 1, c5, rfl, HX6.out.mono z1⟩, ?_⟩
      have z5 := HX.out.2.size
      have z2 := HB2.out.size
      exact (cc2.out.trans (HX.out.2.mono z1)).trans (HS6.out.below (by omega) (fun k hk => Nat.le_trans z1 hk))
  · have hr : addL xs x.1 E = [] := if_neg h0
    rw [hr]
    have h0b : (E != 0) = true := by simpa using h0
    obtain ⟨⟨p, d, q, bs, wr⟩, ⟨sa, sn, sc⟩⟩ := x
    unfold ndV at *
    clear h hx hE h0 hr
    go_enter Try.func20, Try.ntmps20
    go_wp2_with (go_at_call 46; refine (CA.out _ (bel_al _ _)).mono ?_; rintro e w1 ⟨rfl, c1⟩; have cc : Hid _ := bel_tr (bel_al _ _) c1; clear c1)
    go_ret2
    exact ⟨TwoR.no _ _ rfl, cc.out⟩

end Go.Proofs.Ytdcmhbodjmajcaa
