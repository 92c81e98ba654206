/- Part 37 of the proof: SpaceFH. -/
import Derived.Test.YtdilfbfkeiaafaaGreatB36
set_option maxRecDepth 100000
set_option maxHeartbeats 8000000
namespace Go.Proofs.YtdilfbfkeiaafaaGreat.Spa
open Go.RowKit Go.Proofs.YtdilfbfkeiaafaaGreat
open Go.Proofs.YtdilfbfkeiaafaaGreat.Lea (LS Ls findX putL renX LL LO LsR lsC wideL)
open Go.Proofs.YtdilfbfkeiaafaaGreat.Edi (Ed Nm EdAt edV)
theorem rename_mov {base M0 S : Nat} {w : World} {s : Sp} {N L : RS} {ps : List NR} {gb : Nat} {gl : Option Nat} (h : Pre base M0 S w s N L ps gb gl) (e : Ed) (ea : Option Addr) (em eq : Nat) (hp : 0 < ps.length) (hs : e.p.size ≤ maxLen) (ht : e.t.size ≤ maxLen) (E : Int) (hM : MovE s.ns e.p e.t E) (h0 : E ≠ 0) :
    Calls Tryz.prog 60 #[.pointer (some ⟨S, 0, none⟩), edV e ea em eq] w fun r w' => LeftR S base M0 E w r w' := by
  have HPRE : Hid (Pre base M0 S w s N L ps gb gl) := h
  have CM : Hid (∀ W, Below w.heap.size w W → Calls Tryz.prog 106 #[.slice (some ⟨gb, 0, none⟩) N.n N.c, .string e.p, .string e.t] W fun r w' => TwoR W.heap.size (movA s.ns e.p e.t E) E r w' ∧ Below W.heap.size W w') := fun W hb => move_tree ((h.below hb).nl hp) e.p e.t hs ht E hM
  have k4 := h.c4'
  have K4 : Hid (w.cell? ⟨S, 4, none⟩ = some (.slice (some ⟨gb, 0, none⟩) N.n N.c)) := k4
  have h0b : (E != 0) = true := by simpa using h0
  obtain ⟨k, p, t, cl, l, nn, ls⟩ := e
  unfold edV; simp only at CM ⊢
  have hst := run_store_str
  clear h hp hs ht hM h0 k4; go_enter Tryz.func60, Tryz.ntmps60; go_wp2; have ka := cell_al K4.out (.cells #[.int .i64 k, .string p, .string t, .int .i64 cl, .int .i64 l, .int .i64 nn, .slice ea em eq] 42)
  refine wp_region_any (by kernel_rfl) ?_
  try (change wpAny _ _ _ _ _ _ _ (World.drew _))
  refine wpAny_take (i := 0) (v := ?_) rfl (by kernel_rfl) (by kernel_rfl) (by kernel_rfl) (fun _ _ _ h => h) (Or.inl ⟨by rfl, ?_⟩) ?_
  rotate_left
  · intro w; go_simp; first | done | with_reducible rfl
  refine wpAny_take (i := 1) (v := ?_) rfl (by kernel_rfl) (by kernel_rfl) (by kernel_rfl) (fun _ _ _ h => h) (Or.inl ⟨by rfl, ?_⟩) ?_
  rotate_left
  · intro w; go_simp; first | done | with_reducible rfl
  refine wpAny_take (i := 2) (v := ?_) rfl (by kernel_rfl) (by kernel_rfl) (by kernel_rfl) (fun _ _ _ h => h) (Or.inl ⟨by rfl, ?_⟩) ?_
  rotate_left
  · intro w; go_simp; first | done | with_reducible rfl
  refine wpAny_take (i := 3) (v := ?_) rfl (by kernel_rfl) (by kernel_rfl) (by kernel_rfl) (fun _ _ _ h => h) (Or.inl ⟨by rfl, ?_⟩) ?_
  rotate_left
  · intro w; go_simp; first | done | with_reducible rfl
  refine wpAny_take (i := 5) (v := ?_) rfl (by kernel_rfl) (by kernel_rfl) (by kernel_rfl) (fun _ _ _ h => h) (Or.inl ⟨by rfl, ?_⟩) ?_
  rotate_left
  · intro w; go_simp; first | done | with_reducible rfl
  refine wpAny_take (i := 7) (v := ?_) rfl (by kernel_rfl) (by kernel_rfl) (by kernel_rfl) (fun _ _ _ h => h) (Or.inl ⟨by rfl, ?_⟩) ?_
  rotate_left
  · intro w; go_simp; first | done | with_reducible rfl
  refine wpAny_ready (rs := [4, 6, 8]) (by kernel_rfl) (by simp) ?_
  refine AllReady.cons rfl (fun K hK => ?_) ?_
  · go_simp
    refine hK _ _ ?_
    clear hK K; refine wpAny_ready (rs := [6, 8]) (by kernel_rfl) (by simp) ?_
    refine AllReady.cons rfl (fun K hK => ?_) ?_
    · go_simp
      refine hK _ _ ?_
      clear hK K; refine wpAny_ready (rs := [8]) (by kernel_rfl) (by simp) ?_
      refine AllReady.cons rfl (fun K hK => ?_) ?_
      · go_simp
        refine hK _ _ ?_
        clear hK K; refine wpAny_ready (rs := [9]) (by kernel_rfl) (by simp) ?_
        refine AllReady.cons rfl (fun K hK => ?_) ?_
        · go_simp
          refine (CM.out _ (bel_tr (bel_al _ _) (bel_drewN _ 1))).mono ?_; rintro e w1 ⟨⟨na, n1, nc, rfl, hX⟩, c1⟩; have B1 : Hid (Below w.heap.size w w1) := bel_tr (bel_tr (bel_al _ _) (bel_drewN _ 1)) c1; have d4 := bel_cell B1.out K4.out; have HX : Hid _ := hX; clear hX c1
          try go_simp
          refine hK _ _ ?_
          clear hK K; refine wpAny_take (i := 10) (v := ?_) rfl (by kernel_rfl) (by kernel_rfl) (by kernel_rfl) (fun _ _ _ h => h) (Or.inl ⟨by rfl, ?_⟩) ?_
          rotate_left
          · intro w; go_simp; first | done | with_reducible rfl
          refine wpAny_take (i := 11) (v := ?_) rfl (by kernel_rfl) (by kernel_rfl) (by kernel_rfl) (fun _ _ _ h => h) (Or.inl ⟨by rfl, ?_⟩) ?_
          rotate_left
          · intro w; go_simp; first | done | with_reducible rfl
          refine wpAny_ready (rs := [12]) (by kernel_rfl) (by simp) ?_
          refine AllReady.cons rfl (fun K hK => ?_) ?_
          · go_simp
            refine (takenN_no _ h0b _).mono ?_; rintro e w2 ⟨rfl, hw2⟩; subst hw2; exact left_post rfl (LeftR.of B1.out)
          exact AllReady.nil
        exact AllReady.nil
      exact AllReady.nil
    refine AllReady.cons rfl (fun K hK => ?_) ?_
    · go_simp
      refine hK _ _ ?_
      clear hK K; refine wpAny_ready (rs := [6]) (by kernel_rfl) (by simp) ?_
      refine AllReady.cons rfl (fun K hK => ?_) ?_
      · go_simp
        refine hK _ _ ?_
        clear hK K; refine wpAny_ready (rs := [9]) (by kernel_rfl) (by simp) ?_
        refine AllReady.cons rfl (fun K hK => ?_) ?_
        · go_simp
          refine (CM.out _ (bel_tr (bel_al _ _) (bel_drewN _ 1))).mono ?_; rintro e w1 ⟨⟨na, n1, nc, rfl, hX⟩, c1⟩; have B1 : Hid (Below w.heap.size w w1) := bel_tr (bel_tr (bel_al _ _) (bel_drewN _ 1)) c1; have d4 := bel_cell B1.out K4.out; have HX : Hid _ := hX; clear hX c1
          try go_simp
          refine hK _ _ ?_
          clear hK K; refine wpAny_take (i := 10) (v := ?_) rfl (by kernel_rfl) (by kernel_rfl) (by kernel_rfl) (fun _ _ _ h => h) (Or.inl ⟨by rfl, ?_⟩) ?_
          rotate_left
          · intro w; go_simp; first | done | with_reducible rfl
          refine wpAny_take (i := 11) (v := ?_) rfl (by kernel_rfl) (by kernel_rfl) (by kernel_rfl) (fun _ _ _ h => h) (Or.inl ⟨by rfl, ?_⟩) ?_
          rotate_left
          · intro w; go_simp; first | done | with_reducible rfl
          refine wpAny_ready (rs := [12]) (by kernel_rfl) (by simp) ?_
          refine AllReady.cons rfl (fun K hK => ?_) ?_
          · go_simp
            refine (takenN_no _ h0b _).mono ?_; rintro e w2 ⟨rfl, hw2⟩; subst hw2; exact left_post rfl (LeftR.of B1.out)
          exact AllReady.nil
        exact AllReady.nil
      exact AllReady.nil
    exact AllReady.nil
  refine AllReady.cons rfl (fun K hK => ?_) ?_
  · go_simp
    refine hK _ _ ?_
    clear hK K; refine wpAny_ready (rs := [4, 8]) (by kernel_rfl) (by simp) ?_
    refine AllReady.cons rfl (fun K hK => ?_) ?_
    · go_simp
      refine hK _ _ ?_
      clear hK K; refine wpAny_ready (rs := [8]) (by kernel_rfl) (by simp) ?_
      refine AllReady.cons rfl (fun K hK => ?_) ?_
      · go_simp
        refine hK _ _ ?_
        clear hK K; refine wpAny_ready (rs := [9]) (by kernel_rfl) (by simp) ?_
        refine AllReady.cons rfl (fun K hK => ?_) ?_
        · go_simp
          refine (CM.out _ (bel_tr (bel_al _ _) (bel_drewN _ 1))).mono ?_; rintro e w1 ⟨⟨na, n1, nc, rfl, hX⟩, c1⟩; have B1 : Hid (Below w.heap.size w w1) := bel_tr (bel_tr (bel_al _ _) (bel_drewN _ 1)) c1; have d4 := bel_cell B1.out K4.out; have HX : Hid _ := hX; clear hX c1
          try go_simp
          refine hK _ _ ?_
          clear hK K; refine wpAny_take (i := 10) (v := ?_) rfl (by kernel_rfl) (by kernel_rfl) (by kernel_rfl) (fun _ _ _ h => h) (Or.inl ⟨by rfl, ?_⟩) ?_
          rotate_left
          · intro w; go_simp; first | done | with_reducible rfl
          refine wpAny_take (i := 11) (v := ?_) rfl (by kernel_rfl) (by kernel_rfl) (by kernel_rfl) (fun _ _ _ h => h) (Or.inl ⟨by rfl, ?_⟩) ?_
          rotate_left
          · intro w; go_simp; first | done | with_reducible rfl
          refine wpAny_ready (rs := [12]) (by kernel_rfl) (by simp) ?_
          refine AllReady.cons rfl (fun K hK => ?_) ?_
          · go_simp
            refine (takenN_no _ h0b _).mono ?_; rintro e w2 ⟨rfl, hw2⟩; subst hw2; exact left_post rfl (LeftR.of B1.out)
          exact AllReady.nil
        exact AllReady.nil
      exact AllReady.nil
    refine AllReady.cons rfl (fun K hK => ?_) ?_
    · go_simp
      refine hK _ _ ?_
      clear hK K; refine wpAny_ready (rs := [4]) (by kernel_rfl) (by simp) ?_
      refine AllReady.cons rfl (fun K hK => ?_) ?_
      · go_simp
        refine hK _ _ ?_
        clear hK K; refine wpAny_ready (rs := [9]) (by kernel_rfl) (by simp) ?_
        refine AllReady.cons rfl (fun K hK => ?_) ?_
        · go_simp
          refine (CM.out _ (bel_tr (bel_al _ _) (bel_drewN _ 1))).mono ?_; rintro e w1 ⟨⟨na, n1, nc, rfl, hX⟩, c1⟩; have B1 : Hid (Below w.heap.size w w1) := bel_tr (bel_tr (bel_al _ _) (bel_drewN _ 1)) c1; have d4 := bel_cell B1.out K4.out; have HX : Hid _ := hX; clear hX c1
          try go_simp
          refine hK _ _ ?_
          clear hK K; refine wpAny_take (i := 10) (v := ?_) rfl (by kernel_rfl) (by kernel_rfl) (by kernel_rfl) (fun _ _ _ h => h) (Or.inl ⟨by rfl, ?_⟩) ?_
          rotate_left
          · intro w; go_simp; first | done | with_reducible rfl
          refine wpAny_take (i := 11) (v := ?_) rfl (by kernel_rfl) (by kernel_rfl) (by kernel_rfl) (fun _ _ _ h => h) (Or.inl ⟨by rfl, ?_⟩) ?_
          rotate_left
          · intro w; go_simp; first | done | with_reducible rfl
          refine wpAny_ready (rs := [12]) (by kernel_rfl) (by simp) ?_
          refine AllReady.cons rfl (fun K hK => ?_) ?_
          · go_simp
            refine (takenN_no _ h0b _).mono ?_; rintro e w2 ⟨rfl, hw2⟩; subst hw2; exact left_post rfl (LeftR.of B1.out)
          exact AllReady.nil
        exact AllReady.nil
      exact AllReady.nil
    exact AllReady.nil
  refine AllReady.cons rfl (fun K hK => ?_) ?_
  · go_simp
    refine hK _ _ ?_
    clear hK K; refine wpAny_ready (rs := [4, 6]) (by kernel_rfl) (by simp) ?_
    refine AllReady.cons rfl (fun K hK => ?_) ?_
    · go_simp
      refine hK _ _ ?_
      clear hK K; refine wpAny_ready (rs := [6]) (by kernel_rfl) (by simp) ?_
      refine AllReady.cons rfl (fun K hK => ?_) ?_
      · go_simp
        refine hK _ _ ?_
        clear hK K; refine wpAny_ready (rs := [9]) (by kernel_rfl) (by simp) ?_
        refine AllReady.cons rfl (fun K hK => ?_) ?_
        · go_simp
          refine (CM.out _ (bel_tr (bel_al _ _) (bel_drewN _ 1))).mono ?_; rintro e w1 ⟨⟨na, n1, nc, rfl, hX⟩, c1⟩; have B1 : Hid (Below w.heap.size w w1) := bel_tr (bel_tr (bel_al _ _) (bel_drewN _ 1)) c1; have d4 := bel_cell B1.out K4.out; have HX : Hid _ := hX; clear hX c1
          try go_simp
          refine hK _ _ ?_
          clear hK K; refine wpAny_take (i := 10) (v := ?_) rfl (by kernel_rfl) (by kernel_rfl) (by kernel_rfl) (fun _ _ _ h => h) (Or.inl ⟨by rfl, ?_⟩) ?_
          rotate_left
          · intro w; go_simp; first | done | with_reducible rfl
          refine wpAny_take (i := 11) (v := ?_) rfl (by kernel_rfl) (by kernel_rfl) (by kernel_rfl) (fun _ _ _ h => h) (Or.inl ⟨by rfl, ?_⟩) ?_
          rotate_left
          · intro w; go_simp; first | done | with_reducible rfl
          refine wpAny_ready (rs := [12]) (by kernel_rfl) (by simp) ?_
          refine AllReady.cons rfl (fun K hK => ?_) ?_
          · go_simp
            refine (takenN_no _ h0b _).mono ?_; rintro e w2 ⟨rfl, hw2⟩; subst hw2; exact left_post rfl (LeftR.of B1.out)
          exact AllReady.nil
        exact AllReady.nil
      exact AllReady.nil
    refine AllReady.cons rfl (fun K hK => ?_) ?_
    · go_simp
      refine hK _ _ ?_
      clear hK K; refine wpAny_ready (rs := [4]) (by kernel_rfl) (by simp) ?_
      refine AllReady.cons rfl (fun K hK => ?_) ?_
      · go_simp
        refine hK _ _ ?_
        clear hK K; refine wpAny_ready (rs := [9]) (by kernel_rfl) (by simp) ?_
        refine AllReady.cons rfl (fun K hK => ?_) ?_
        · go_simp
          refine (CM.out _ (bel_tr (bel_al _ _) (bel_drewN _ 1))).mono ?_; rintro e w1 ⟨⟨na, n1, nc, rfl, hX⟩, c1⟩; have B1 : Hid (Below w.heap.size w w1) := bel_tr (bel_tr (bel_al _ _) (bel_drewN _ 1)) c1; have d4 := bel_cell B1.out K4.out; have HX : Hid _ := hX; clear hX c1
          try go_simp
          refine hK _ _ ?_
          clear hK K; refine wpAny_take (i := 10) (v := ?_) rfl (by kernel_rfl) (by kernel_rfl) (by kernel_rfl) (fun _ _ _ h => h) (Or.inl ⟨by rfl, ?_⟩) ?_
          rotate_left
          · intro w; go_simp; first | done | with_reducible rfl
          refine wpAny_take (i := 11) (v := ?_) rfl (by kernel_rfl) (by kernel_rfl) (by kernel_rfl) (fun _ _ _ h => h) (Or.inl ⟨by rfl, ?_⟩) ?_
          rotate_left
          · intro w; go_simp; first | done | with_reducible rfl
          refine wpAny_ready (rs := [12]) (by kernel_rfl) (by simp) ?_
          refine AllReady.cons rfl (fun K hK => ?_) ?_
          · go_simp
            refine (takenN_no _ h0b _).mono ?_; rintro e w2 ⟨rfl, hw2⟩; subst hw2; exact left_post rfl (LeftR.of B1.out)
          exact AllReady.nil
        exact AllReady.nil
      exact AllReady.nil
    exact AllReady.nil
  exact AllReady.nil
theorem rename_full {base M0 S : Nat} {w : World} {s : Sp} {N L : RS} {ps : List NR} {gb : Nat} {gl : Option Nat} (h : Pre base M0 S w s N L ps gb gl) (e : Ed) (ea : Option Addr) (em eq : Nat) (hp : 0 < ps.length) (hs : e.p.size ≤ maxLen) (ht : e.t.size ≤ maxLen) (hM : MovE s.ns e.p e.t 0) (ho : overL (movL s.ns e.p e.t) ≠ []) :
    Calls Tryz.prog 60 #[.pointer (some ⟨S, 0, none⟩), edV e ea em eq] w fun r w' => LeftR S base M0 8 w r w' := by
  have HPRE : Hid (Pre base M0 S w s N L ps gb gl) := h
  have CM : Hid (∀ W, Below w.heap.size w W → Calls Tryz.prog 106 #[.slice (some ⟨gb, 0, none⟩) N.n N.c, .string e.p, .string e.t] W fun r w' => TwoR W.heap.size (movA s.ns e.p e.t 0) 0 r w' ∧ Below W.heap.size W w') := fun W hb => move_tree ((h.below hb).nl hp) e.p e.t hs ht 0 hM
  have k4 := h.c4'
  have K4 : Hid (w.cell? ⟨S, 4, none⟩ = some (.slice (some ⟨gb, 0, none⟩) N.n N.c)) := k4
  have hR : Right (movL s.ns e.p e.t) := (mov_of hM).tree.1
  obtain ⟨ys, hy⟩ : ∃ ys, overL (movL s.ns e.p e.t) = ys := ⟨_, rfl⟩
  obtain ⟨m, hm⟩ : ∃ m, ys.length = m := ⟨_, rfl⟩
  have CO : Hid (∀ W a n c, NL W a n (movL s.ns e.p e.t) → Calls Tryz.prog 47 #[.slice a n c] W fun r w' => (∃ a c, r = .returned (.slice a m c)) ∧ Below W.heap.size W w') := fun W a n c hN => (over_val hN true ⟨fun _ => hR, fun _ => rfl⟩ ys hy m hm).mono fun r w' ⟨h1, h2⟩ => ⟨by obtain ⟨a, b, c, k, _⟩ := h1.ex; exact ⟨_, _, k⟩, h2⟩
  have hmb : decide ((0 : Int) < (m : Int)) = true := decide_eq_true (by have : 0 < ys.length := List.length_pos_iff.2 (by rw [← hy]; exact ho); omega)
  have hmb2 : decide (0 < m) = true := decide_eq_true (by have : 0 < ys.length := List.length_pos_iff.2 (by rw [← hy]; exact ho); omega)
  have CT : Hid (∀ W a n c, Calls Tryz.prog 58 #[.slice a n c, .int .i64 0] W fun e w' => e = .returned (.slice a n c) ∧ W = w') := fun W a n c => (takenN_ok W).mono fun e w' ⟨h1, h2⟩ => ⟨h1, h2.symm⟩
  have HAL : Hid (movA s.ns e.p e.t 0 = movL s.ns e.p e.t) := rfl
  have HNN : Hid (∀ w1 (N' : RS), Below w.heap.size w w1 → LX ((w.alloc (.cells #[.int .i64 e.k, .string e.p, .string e.t, .int .i64 e.c, .int .i64 e.l, .int .i64 e.n, .slice ea em eq] 42)).drewN 1).heap.size w1 N'.a N'.n N'.c (movL s.ns e.p e.t) → ∃ ps' g', SpC (w1.setCell ⟨S, 4, none⟩ (.slice N'.a N'.n N'.c)) S ⟨s.tx, s.nb, s.ng, s.now, movL s.ns e.p e.t, s.ls⟩ N' L ∧ OwnM base w1.heap.size (w1.setCell ⟨S, 4, none⟩ (.slice N'.a N'.n N'.c)) ⟨s.tx, s.nb, s.ng, s.now, movL s.ns e.p e.t, s.ls⟩ N' L ps' g' gl ∧ Stay (fun k => k = S) w (w1.setCell ⟨S, 4, none⟩ (.slice N'.a N'.n N'.c)) ∧ (∀ k, g' = some k → w.heap.size ≤ k) ∧ (∀ x ∈ ps', ∀ k, x.2.blk = some k → w.heap.size ≤ k)) := fun w1 N' hb hX => by
    obtain ⟨ps', g', r1, r2, r3, r4, r5⟩ := HPRE.out.newNs (N' := N') (W := ((w.alloc (.cells #[.int .i64 e.k, .string e.p, .string e.t, .int .i64 e.c, .int .i64 e.l, .int .i64 e.n, .slice ea em eq] 42)).drewN 1).heap.size) (by simp) hb hX
    exact ⟨ps', g', r1, r2, r3, r4, r5⟩
  obtain ⟨k, p, t, cl, l, nn, ls⟩ := e
  unfold edV; simp only at CM CO HAL HNN ⊢
  have hst := run_store_str
  have hst2 := sto2
  clear h hp hs ht hM k4 hR hy hm ho; generalize movL s.ns p t = MV at *
  go_enter Tryz.func60, Tryz.ntmps60; go_wp2; have ka := cell_al K4.out (.cells #[.int .i64 k, .string p, .string t, .int .i64 cl, .int .i64 l, .int .i64 nn, .slice ea em eq] 42)
  refine wp_region_any (by kernel_rfl) ?_
  try (change wpAny _ _ _ _ _ _ _ (World.drew _))
  refine wpAny_take (i := 0) (v := ?_) rfl (by kernel_rfl) (by kernel_rfl) (by kernel_rfl) (fun _ _ _ h => h) (Or.inl ⟨by rfl, ?_⟩) ?_
  rotate_left
  · intro w; go_simp; first | done | with_reducible rfl
  refine wpAny_take (i := 1) (v := ?_) rfl (by kernel_rfl) (by kernel_rfl) (by kernel_rfl) (fun _ _ _ h => h) (Or.inl ⟨by rfl, ?_⟩) ?_
  rotate_left
  · intro w; go_simp; first | done | with_reducible rfl
  refine wpAny_take (i := 2) (v := ?_) rfl (by kernel_rfl) (by kernel_rfl) (by kernel_rfl) (fun _ _ _ h => h) (Or.inl ⟨by rfl, ?_⟩) ?_
  rotate_left
  · intro w; go_simp; first | done | with_reducible rfl
  refine wpAny_take (i := 3) (v := ?_) rfl (by kernel_rfl) (by kernel_rfl) (by kernel_rfl) (fun _ _ _ h => h) (Or.inl ⟨by rfl, ?_⟩) ?_
  rotate_left
  · intro w; go_simp; first | done | with_reducible rfl
  refine wpAny_take (i := 5) (v := ?_) rfl (by kernel_rfl) (by kernel_rfl) (by kernel_rfl) (fun _ _ _ h => h) (Or.inl ⟨by rfl, ?_⟩) ?_
  rotate_left
  · intro w; go_simp; first | done | with_reducible rfl
  refine wpAny_take (i := 7) (v := ?_) rfl (by kernel_rfl) (by kernel_rfl) (by kernel_rfl) (fun _ _ _ h => h) (Or.inl ⟨by rfl, ?_⟩) ?_
  rotate_left
  · intro w; go_simp; first | done | with_reducible rfl
  refine wpAny_ready (rs := [4, 6, 8]) (by kernel_rfl) (by simp) ?_
  refine AllReady.cons rfl (fun K hK => ?_) ?_
  · go_simp
    refine hK _ _ ?_
    clear hK K; refine wpAny_ready (rs := [6, 8]) (by kernel_rfl) (by simp) ?_
    refine AllReady.cons rfl (fun K hK => ?_) ?_
    · go_simp
      refine hK _ _ ?_
      clear hK K; refine wpAny_ready (rs := [8]) (by kernel_rfl) (by simp) ?_
      refine AllReady.cons rfl (fun K hK => ?_) ?_
      · go_simp
        refine hK _ _ ?_
        clear hK K; refine wpAny_ready (rs := [9]) (by kernel_rfl) (by simp) ?_
        refine AllReady.cons rfl (fun K hK => ?_) ?_
        · go_simp
          refine (CM.out _ (bel_tr (bel_al _ _) (bel_drewN _ 1))).mono ?_; rintro e w1 ⟨⟨na, n1, nc, rfl, hX⟩, c1⟩; have B1 : Hid (Below w.heap.size w w1) := bel_tr (bel_tr (bel_al _ _) (bel_drewN _ 1)) c1; have d4 := bel_cell B1.out K4.out; rw [HAL.out] at hX; have HNX : Hid _ := HNN.out w1 ⟨na, n1, nc⟩ B1.out hX; have hfz := (HPRE.out.below B1.out).c.fr 4; clear hX c1
          try go_simp
          refine hK _ _ ?_
          clear hK K; refine wpAny_take (i := 10) (v := ?_) rfl (by kernel_rfl) (by kernel_rfl) (by kernel_rfl) (fun _ _ _ h => h) (Or.inl ⟨by rfl, ?_⟩) ?_
          rotate_left
          · intro w; go_simp; first | done | with_reducible rfl
          refine wpAny_take (i := 11) (v := ?_) rfl (by kernel_rfl) (by kernel_rfl) (by kernel_rfl) (fun _ _ _ h => h) (Or.inl ⟨by rfl, ?_⟩) ?_
          rotate_left
          · intro w; go_simp; first | done | with_reducible rfl
          refine wpAny_ready (rs := [12]) (by kernel_rfl) (by simp) ?_
          refine AllReady.cons rfl (fun K hK => ?_) ?_
          · go_simp
            refine (CT.out _ _ _ _).mono ?_; rintro e w2 ⟨rfl, rfl⟩
            try go_simp
            refine hK _ _ ?_
            clear hK K; refine wpAny_take (i := 13) (v := ?_) rfl (by kernel_rfl) (by kernel_rfl) (by kernel_rfl) (fun _ _ _ h => h) (Or.inl ⟨by rfl, ?_⟩) ?_
            rotate_left
            · intro w; go_simp; first | done | with_reducible rfl
            refine wpAny_take (i := 14) (v := ?_) rfl (by kernel_rfl) (by kernel_rfl) (by kernel_rfl) (fun _ _ _ h => h) (Or.inl ⟨by rfl, ?_⟩) ?_
            rotate_left
            · intro w; go_simp; first | done | with_reducible rfl
            refine wpAny_ready (rs := [15]) (by kernel_rfl) (by simp) ?_
            refine AllReady.cons rfl (fun K hK => ?_) ?_
            · go_simp
              refine hK _ _ ?_
              clear hK K; refine wpAny_done (by kernel_rfl) ?_ _
              obtain ⟨ps', g', r1, r2, r3, r4, r5⟩ := HNX.out
              have c4n := r1.c4
              have hnl := (LX.nl ⟨ps', g', r2.map, r2.lot⟩)
              have HC : Hid _ := r1
              have HO : Hid _ := r2
              have HS3 : Hid _ := r3
              have HR4 : Hid _ := r4
              have HR5 : Hid _ := r5
              have HNL : Hid _ := hnl
              clear r1 r2 r3 r4 r5 hnl; simp only at c4n
              go_wp2_with (first
                | (go_at_call 47; refine (CO.out _ _ _ _ HNL.out).mono ?_; rintro e w4 ⟨⟨oa, oc, rfl⟩, c4⟩; have B4 : Hid _ := c4; clear c4)
                | (go_at_call 25; refine (refuse_yes _ _).mono ?_; rintro e w5 ⟨rfl, hw5⟩; subst hw5))
              exact left_post rfl ⟨rfl, (HS3.out.mono (fun k hk => .inl hk)).then_below B4.out, fun _ _ _ _ => ⟨_, _, _, HC.out.below B4.out⟩⟩
            exact AllReady.nil
          exact AllReady.nil
        exact AllReady.nil
      exact AllReady.nil
    refine AllReady.cons rfl (fun K hK => ?_) ?_
    · go_simp
      refine hK _ _ ?_
      clear hK K; refine wpAny_ready (rs := [6]) (by kernel_rfl) (by simp) ?_
      refine AllReady.cons rfl (fun K hK => ?_) ?_
      · go_simp
        refine hK _ _ ?_
        clear hK K; refine wpAny_ready (rs := [9]) (by kernel_rfl) (by simp) ?_
        refine AllReady.cons rfl (fun K hK => ?_) ?_
        · go_simp
          refine (CM.out _ (bel_tr (bel_al _ _) (bel_drewN _ 1))).mono ?_; rintro e w1 ⟨⟨na, n1, nc, rfl, hX⟩, c1⟩; have B1 : Hid (Below w.heap.size w w1) := bel_tr (bel_tr (bel_al _ _) (bel_drewN _ 1)) c1; have d4 := bel_cell B1.out K4.out; rw [HAL.out] at hX; have HNX : Hid _ := HNN.out w1 ⟨na, n1, nc⟩ B1.out hX; have hfz := (HPRE.out.below B1.out).c.fr 4; clear hX c1
          try go_simp
          refine hK _ _ ?_
          clear hK K; refine wpAny_take (i := 10) (v := ?_) rfl (by kernel_rfl) (by kernel_rfl) (by kernel_rfl) (fun _ _ _ h => h) (Or.inl ⟨by rfl, ?_⟩) ?_
          rotate_left
          · intro w; go_simp; first | done | with_reducible rfl
          refine wpAny_take (i := 11) (v := ?_) rfl (by kernel_rfl) (by kernel_rfl) (by kernel_rfl) (fun _ _ _ h => h) (Or.inl ⟨by rfl, ?_⟩) ?_
          rotate_left
          · intro w; go_simp; first | done | with_reducible rfl
          refine wpAny_ready (rs := [12]) (by kernel_rfl) (by simp) ?_
          refine AllReady.cons rfl (fun K hK => ?_) ?_
          · go_simp
            refine (CT.out _ _ _ _).mono ?_; rintro e w2 ⟨rfl, rfl⟩
            try go_simp
            refine hK _ _ ?_
            clear hK K; refine wpAny_take (i := 13) (v := ?_) rfl (by kernel_rfl) (by kernel_rfl) (by kernel_rfl) (fun _ _ _ h => h) (Or.inl ⟨by rfl, ?_⟩) ?_
            rotate_left
            · intro w; go_simp; first | done | with_reducible rfl
            refine wpAny_take (i := 14) (v := ?_) rfl (by kernel_rfl) (by kernel_rfl) (by kernel_rfl) (fun _ _ _ h => h) (Or.inl ⟨by rfl, ?_⟩) ?_
            rotate_left
            · intro w; go_simp; first | done | with_reducible rfl
            refine wpAny_ready (rs := [15]) (by kernel_rfl) (by simp) ?_
            refine AllReady.cons rfl (fun K hK => ?_) ?_
            · go_simp
              refine hK _ _ ?_
              clear hK K; refine wpAny_done (by kernel_rfl) ?_ _
              obtain ⟨ps', g', r1, r2, r3, r4, r5⟩ := HNX.out
              have c4n := r1.c4
              have hnl := (LX.nl ⟨ps', g', r2.map, r2.lot⟩)
              have HC : Hid _ := r1
              have HO : Hid _ := r2
              have HS3 : Hid _ := r3
              have HR4 : Hid _ := r4
              have HR5 : Hid _ := r5
              have HNL : Hid _ := hnl
              clear r1 r2 r3 r4 r5 hnl; simp only at c4n
              go_wp2_with (first
                | (go_at_call 47; refine (CO.out _ _ _ _ HNL.out).mono ?_; rintro e w4 ⟨⟨oa, oc, rfl⟩, c4⟩; have B4 : Hid _ := c4; clear c4)
                | (go_at_call 25; refine (refuse_yes _ _).mono ?_; rintro e w5 ⟨rfl, hw5⟩; subst hw5))
              exact left_post rfl ⟨rfl, (HS3.out.mono (fun k hk => .inl hk)).then_below B4.out, fun _ _ _ _ => ⟨_, _, _, HC.out.below B4.out⟩⟩
            exact AllReady.nil
          exact AllReady.nil
        exact AllReady.nil
      exact AllReady.nil
    exact AllReady.nil
  refine AllReady.cons rfl (fun K hK => ?_) ?_
  · go_simp
    refine hK _ _ ?_
    clear hK K; refine wpAny_ready (rs := [4, 8]) (by kernel_rfl) (by simp) ?_
    refine AllReady.cons rfl (fun K hK => ?_) ?_
    · go_simp
      refine hK _ _ ?_
      clear hK K; refine wpAny_ready (rs := [8]) (by kernel_rfl) (by simp) ?_
      refine AllReady.cons rfl (fun K hK => ?_) ?_
      · go_simp
        refine hK _ _ ?_
        clear hK K; refine wpAny_ready (rs := [9]) (by kernel_rfl) (by simp) ?_
        refine AllReady.cons rfl (fun K hK => ?_) ?_
        · go_simp
          refine (CM.out _ (bel_tr (bel_al _ _) (bel_drewN _ 1))).mono ?_; rintro e w1 ⟨⟨na, n1, nc, rfl, hX⟩, c1⟩; have B1 : Hid (Below w.heap.size w w1) := bel_tr (bel_tr (bel_al _ _) (bel_drewN _ 1)) c1; have d4 := bel_cell B1.out K4.out; rw [HAL.out] at hX; have HNX : Hid _ := HNN.out w1 ⟨na, n1, nc⟩ B1.out hX; have hfz := (HPRE.out.below B1.out).c.fr 4; clear hX c1
          try go_simp
          refine hK _ _ ?_
          clear hK K; refine wpAny_take (i := 10) (v := ?_) rfl (by kernel_rfl) (by kernel_rfl) (by kernel_rfl) (fun _ _ _ h => h) (Or.inl ⟨by rfl, ?_⟩) ?_
          rotate_left
          · intro w; go_simp; first | done | with_reducible rfl
          refine wpAny_take (i := 11) (v := ?_) rfl (by kernel_rfl) (by kernel_rfl) (by kernel_rfl) (fun _ _ _ h => h) (Or.inl ⟨by rfl, ?_⟩) ?_
          rotate_left
          · intro w; go_simp; first | done | with_reducible rfl
          refine wpAny_ready (rs := [12]) (by kernel_rfl) (by simp) ?_
          refine AllReady.cons rfl (fun K hK => ?_) ?_
          · go_simp
            refine (CT.out _ _ _ _).mono ?_; rintro e w2 ⟨rfl, rfl⟩
            try go_simp
            refine hK _ _ ?_
            clear hK K; refine wpAny_take (i := 13) (v := ?_) rfl (by kernel_rfl) (by kernel_rfl) (by kernel_rfl) (fun _ _ _ h => h) (Or.inl ⟨by rfl, ?_⟩) ?_
            rotate_left
            · intro w; go_simp; first | done | with_reducible rfl
            refine wpAny_take (i := 14) (v := ?_) rfl (by kernel_rfl) (by kernel_rfl) (by kernel_rfl) (fun _ _ _ h => h) (Or.inl ⟨by rfl, ?_⟩) ?_
            rotate_left
            · intro w; go_simp; first | done | with_reducible rfl
            refine wpAny_ready (rs := [15]) (by kernel_rfl) (by simp) ?_
            refine AllReady.cons rfl (fun K hK => ?_) ?_
            · go_simp
              refine hK _ _ ?_
              clear hK K; refine wpAny_done (by kernel_rfl) ?_ _
              obtain ⟨ps', g', r1, r2, r3, r4, r5⟩ := HNX.out
              have c4n := r1.c4
              have hnl := (LX.nl ⟨ps', g', r2.map, r2.lot⟩)
              have HC : Hid _ := r1
              have HO : Hid _ := r2
              have HS3 : Hid _ := r3
              have HR4 : Hid _ := r4
              have HR5 : Hid _ := r5
              have HNL : Hid _ := hnl
              clear r1 r2 r3 r4 r5 hnl; simp only at c4n
              go_wp2_with (first
                | (go_at_call 47; refine (CO.out _ _ _ _ HNL.out).mono ?_; rintro e w4 ⟨⟨oa, oc, rfl⟩, c4⟩; have B4 : Hid _ := c4; clear c4)
                | (go_at_call 25; refine (refuse_yes _ _).mono ?_; rintro e w5 ⟨rfl, hw5⟩; subst hw5))
              exact left_post rfl ⟨rfl, (HS3.out.mono (fun k hk => .inl hk)).then_below B4.out, fun _ _ _ _ => ⟨_, _, _, HC.out.below B4.out⟩⟩
            exact AllReady.nil
          exact AllReady.nil
        exact AllReady.nil
      exact AllReady.nil
    refine AllReady.cons rfl (fun K hK => ?_) ?_
    · go_simp
      refine hK _ _ ?_
      clear hK K; refine wpAny_ready (rs := [4]) (by kernel_rfl) (by simp) ?_
      refine AllReady.cons rfl (fun K hK => ?_) ?_
      · go_simp
        refine hK _ _ ?_
        clear hK K; refine wpAny_ready (rs := [9]) (by kernel_rfl) (by simp) ?_
        refine AllReady.cons rfl (fun K hK => ?_) ?_
        · go_simp
          refine (CM.out _ (bel_tr (bel_al _ _) (bel_drewN _ 1))).mono ?_; rintro e w1 ⟨⟨na, n1, nc, rfl, hX⟩, c1⟩; have B1 : Hid (Below w.heap.size w w1) := bel_tr (bel_tr (bel_al _ _) (bel_drewN _ 1)) c1; have d4 := bel_cell B1.out K4.out; rw [HAL.out] at hX; have HNX : Hid _ := HNN.out w1 ⟨na, n1, nc⟩ B1.out hX; have hfz := (HPRE.out.below B1.out).c.fr 4; clear hX c1
          try go_simp
          refine hK _ _ ?_
          clear hK K; refine wpAny_take (i := 10) (v := ?_) rfl (by kernel_rfl) (by kernel_rfl) (by kernel_rfl) (fun _ _ _ h => h) (Or.inl ⟨by rfl, ?_⟩) ?_
          rotate_left
          · intro w; go_simp; first | done | with_reducible rfl
          refine wpAny_take (i := 11) (v := ?_) rfl (by kernel_rfl) (by kernel_rfl) (by kernel_rfl) (fun _ _ _ h => h) (Or.inl ⟨by rfl, ?_⟩) ?_
          rotate_left
          · intro w; go_simp; first | done | with_reducible rfl
          refine wpAny_ready (rs := [12]) (by kernel_rfl) (by simp) ?_
          refine AllReady.cons rfl (fun K hK => ?_) ?_
          · go_simp
            refine (CT.out _ _ _ _).mono ?_; rintro e w2 ⟨rfl, rfl⟩
            try go_simp
            refine hK _ _ ?_
            clear hK K; refine wpAny_take (i := 13) (v := ?_) rfl (by kernel_rfl) (by kernel_rfl) (by kernel_rfl) (fun _ _ _ h => h) (Or.inl ⟨by rfl, ?_⟩) ?_
            rotate_left
            · intro w; go_simp; first | done | with_reducible rfl
            refine wpAny_take (i := 14) (v := ?_) rfl (by kernel_rfl) (by kernel_rfl) (by kernel_rfl) (fun _ _ _ h => h) (Or.inl ⟨by rfl, ?_⟩) ?_
            rotate_left
            · intro w; go_simp; first | done | with_reducible rfl
            refine wpAny_ready (rs := [15]) (by kernel_rfl) (by simp) ?_
            refine AllReady.cons rfl (fun K hK => ?_) ?_
            · go_simp
              refine hK _ _ ?_
              clear hK K; refine wpAny_done (by kernel_rfl) ?_ _
              obtain ⟨ps', g', r1, r2, r3, r4, r5⟩ := HNX.out
              have c4n := r1.c4
              have hnl := (LX.nl ⟨ps', g', r2.map, r2.lot⟩)
              have HC : Hid _ := r1
              have HO : Hid _ := r2
              have HS3 : Hid _ := r3
              have HR4 : Hid _ := r4
              have HR5 : Hid _ := r5
              have HNL : Hid _ := hnl
              clear r1 r2 r3 r4 r5 hnl; simp only at c4n
              go_wp2_with (first
                | (go_at_call 47; refine (CO.out _ _ _ _ HNL.out).mono ?_; rintro e w4 ⟨⟨oa, oc, rfl⟩, c4⟩; have B4 : Hid _ := c4; clear c4)
                | (go_at_call 25; refine (refuse_yes _ _).mono ?_; rintro e w5 ⟨rfl, hw5⟩; subst hw5))
              exact left_post rfl ⟨rfl, (HS3.out.mono (fun k hk => .inl hk)).then_below B4.out, fun _ _ _ _ => ⟨_, _, _, HC.out.below B4.out⟩⟩
            exact AllReady.nil
          exact AllReady.nil
        exact AllReady.nil
      exact AllReady.nil
    exact AllReady.nil
  refine AllReady.cons rfl (fun K hK => ?_) ?_
  · go_simp
    refine hK _ _ ?_
    clear hK K; refine wpAny_ready (rs := [4, 6]) (by kernel_rfl) (by simp) ?_
    refine AllReady.cons rfl (fun K hK => ?_) ?_
    · go_simp
      refine hK _ _ ?_
      clear hK K; refine wpAny_ready (rs := [6]) (by kernel_rfl) (by simp) ?_
      refine AllReady.cons rfl (fun K hK => ?_) ?_
      · go_simp
        refine hK _ _ ?_
        clear hK K; refine wpAny_ready (rs := [9]) (by kernel_rfl) (by simp) ?_
        refine AllReady.cons rfl (fun K hK => ?_) ?_
        · go_simp
          refine (CM.out _ (bel_tr (bel_al _ _) (bel_drewN _ 1))).mono ?_; rintro e w1 ⟨⟨na, n1, nc, rfl, hX⟩, c1⟩; have B1 : Hid (Below w.heap.size w w1) := bel_tr (bel_tr (bel_al _ _) (bel_drewN _ 1)) c1; have d4 := bel_cell B1.out K4.out; rw [HAL.out] at hX; have HNX : Hid _ := HNN.out w1 ⟨na, n1, nc⟩ B1.out hX; have hfz := (HPRE.out.below B1.out).c.fr 4; clear hX c1
          try go_simp
          refine hK _ _ ?_
          clear hK K; refine wpAny_take (i := 10) (v := ?_) rfl (by kernel_rfl) (by kernel_rfl) (by kernel_rfl) (fun _ _ _ h => h) (Or.inl ⟨by rfl, ?_⟩) ?_
          rotate_left
          · intro w; go_simp; first | done | with_reducible rfl
          refine wpAny_take (i := 11) (v := ?_) rfl (by kernel_rfl) (by kernel_rfl) (by kernel_rfl) (fun _ _ _ h => h) (Or.inl ⟨by rfl, ?_⟩) ?_
          rotate_left
          · intro w; go_simp; first | done | with_reducible rfl
          refine wpAny_ready (rs := [12]) (by kernel_rfl) (by simp) ?_
          refine AllReady.cons rfl (fun K hK => ?_) ?_
          · go_simp
            refine (CT.out _ _ _ _).mono ?_; rintro e w2 ⟨rfl, rfl⟩
            try go_simp
            refine hK _ _ ?_
            clear hK K; refine wpAny_take (i := 13) (v := ?_) rfl (by kernel_rfl) (by kernel_rfl) (by kernel_rfl) (fun _ _ _ h => h) (Or.inl ⟨by rfl, ?_⟩) ?_
            rotate_left
            · intro w; go_simp; first | done | with_reducible rfl
            refine wpAny_take (i := 14) (v := ?_) rfl (by kernel_rfl) (by kernel_rfl) (by kernel_rfl) (fun _ _ _ h => h) (Or.inl ⟨by rfl, ?_⟩) ?_
            rotate_left
            · intro w; go_simp; first | done | with_reducible rfl
            refine wpAny_ready (rs := [15]) (by kernel_rfl) (by simp) ?_
            refine AllReady.cons rfl (fun K hK => ?_) ?_
            · go_simp
              refine hK _ _ ?_
              clear hK K; refine wpAny_done (by kernel_rfl) ?_ _
              obtain ⟨ps', g', r1, r2, r3, r4, r5⟩ := HNX.out
              have c4n := r1.c4
              have hnl := (LX.nl ⟨ps', g', r2.map, r2.lot⟩)
              have HC : Hid _ := r1
              have HO : Hid _ := r2
              have HS3 : Hid _ := r3
              have HR4 : Hid _ := r4
              have HR5 : Hid _ := r5
              have HNL : Hid _ := hnl
              clear r1 r2 r3 r4 r5 hnl; simp only at c4n
              go_wp2_with (first
                | (go_at_call 47; refine (CO.out _ _ _ _ HNL.out).mono ?_; rintro e w4 ⟨⟨oa, oc, rfl⟩, c4⟩; have B4 : Hid _ := c4; clear c4)
                | (go_at_call 25; refine (refuse_yes _ _).mono ?_; rintro e w5 ⟨rfl, hw5⟩; subst hw5))
              exact left_post rfl ⟨rfl, (HS3.out.mono (fun k hk => .inl hk)).then_below B4.out, fun _ _ _ _ => ⟨_, _, _, HC.out.below B4.out⟩⟩
            exact AllReady.nil
          exact AllReady.nil
        exact AllReady.nil
      exact AllReady.nil
    refine AllReady.cons rfl (fun K hK => ?_) ?_
    · go_simp
      refine hK _ _ ?_
      clear hK K; refine wpAny_ready (rs := [4]) (by kernel_rfl) (by simp) ?_
      refine AllReady.cons rfl (fun K hK => ?_) ?_
      · go_simp
        refine hK _ _ ?_
        clear hK K; refine wpAny_ready (rs := [9]) (by kernel_rfl) (by simp) ?_
        refine AllReady.cons rfl (fun K hK => ?_) ?_
        · go_simp
          refine (CM.out _ (bel_tr (bel_al _ _) (bel_drewN _ 1))).mono ?_; rintro e w1 ⟨⟨na, n1, nc, rfl, hX⟩, c1⟩; have B1 : Hid (Below w.heap.size w w1) := bel_tr (bel_tr (bel_al _ _) (bel_drewN _ 1)) c1; have d4 := bel_cell B1.out K4.out; rw [HAL.out] at hX; have HNX : Hid _ := HNN.out w1 ⟨na, n1, nc⟩ B1.out hX; have hfz := (HPRE.out.below B1.out).c.fr 4; clear hX c1
          try go_simp
          refine hK _ _ ?_
          clear hK K; refine wpAny_take (i := 10) (v := ?_) rfl (by kernel_rfl) (by kernel_rfl) (by kernel_rfl) (fun _ _ _ h => h) (Or.inl ⟨by rfl, ?_⟩) ?_
          rotate_left
          · intro w; go_simp; first | done | with_reducible rfl
          refine wpAny_take (i := 11) (v := ?_) rfl (by kernel_rfl) (by kernel_rfl) (by kernel_rfl) (fun _ _ _ h => h) (Or.inl ⟨by rfl, ?_⟩) ?_
          rotate_left
          · intro w; go_simp; first | done | with_reducible rfl
          refine wpAny_ready (rs := [12]) (by kernel_rfl) (by simp) ?_
          refine AllReady.cons rfl (fun K hK => ?_) ?_
          · go_simp
            refine (CT.out _ _ _ _).mono ?_; rintro e w2 ⟨rfl, rfl⟩
            try go_simp
            refine hK _ _ ?_
            clear hK K; refine wpAny_take (i := 13) (v := ?_) rfl (by kernel_rfl) (by kernel_rfl) (by kernel_rfl) (fun _ _ _ h => h) (Or.inl ⟨by rfl, ?_⟩) ?_
            rotate_left
            · intro w; go_simp; first | done | with_reducible rfl
            refine wpAny_take (i := 14) (v := ?_) rfl (by kernel_rfl) (by kernel_rfl) (by kernel_rfl) (fun _ _ _ h => h) (Or.inl ⟨by rfl, ?_⟩) ?_
            rotate_left
            · intro w; go_simp; first | done | with_reducible rfl
            refine wpAny_ready (rs := [15]) (by kernel_rfl) (by simp) ?_
            refine AllReady.cons rfl (fun K hK => ?_) ?_
            · go_simp
              refine hK _ _ ?_
              clear hK K; refine wpAny_done (by kernel_rfl) ?_ _
              obtain ⟨ps', g', r1, r2, r3, r4, r5⟩ := HNX.out
              have c4n := r1.c4
              have hnl := (LX.nl ⟨ps', g', r2.map, r2.lot⟩)
              have HC : Hid _ := r1
              have HO : Hid _ := r2
              have HS3 : Hid _ := r3
              have HR4 : Hid _ := r4
              have HR5 : Hid _ := r5
              have HNL : Hid _ := hnl
              clear r1 r2 r3 r4 r5 hnl; simp only at c4n
              go_wp2_with (first
                | (go_at_call 47; refine (CO.out _ _ _ _ HNL.out).mono ?_; rintro e w4 ⟨⟨oa, oc, rfl⟩, c4⟩; have B4 : Hid _ := c4; clear c4)
                | (go_at_call 25; refine (refuse_yes _ _).mono ?_; rintro e w5 ⟨rfl, hw5⟩; subst hw5))
              exact left_post rfl ⟨rfl, (HS3.out.mono (fun k hk => .inl hk)).then_below B4.out, fun _ _ _ _ => ⟨_, _, _, HC.out.below B4.out⟩⟩
            exact AllReady.nil
          exact AllReady.nil
        exact AllReady.nil
      exact AllReady.nil
    exact AllReady.nil
  exact AllReady.nil
theorem rename_ok {base M0 S : Nat} {w : World} {s : Sp} {N L : RS} {ps : List NR} {gb : Nat} {gl : Option Nat} (h : Pre base M0 S w s N L ps gb gl) (e : Ed) (ea : Option Addr) (em eq : Nat) (hp : 0 < ps.length) (hs : e.p.size ≤ maxLen) (ht : e.t.size ≤ maxLen) (hM : MovE s.ns e.p e.t 0) (ho : overL (movL s.ns e.p e.t) = []) :
    Calls Tryz.prog 60 #[.pointer (some ⟨S, 0, none⟩), edV e ea em eq] w fun r w' => UnitR S base M0 ⟨s.tx, s.nb, s.ng, s.now, movL s.ns e.p e.t, s.ls⟩ w r w' := by
  have HPRE : Hid (Pre base M0 S w s N L ps gb gl) := h
  have CM : Hid (∀ W, Below w.heap.size w W → Calls Tryz.prog 106 #[.slice (some ⟨gb, 0, none⟩) N.n N.c, .string e.p, .string e.t] W fun r w' => TwoR W.heap.size (movA s.ns e.p e.t 0) 0 r w' ∧ Below W.heap.size W w') := fun W hb => move_tree ((h.below hb).nl hp) e.p e.t hs ht 0 hM
  have k4 := h.c4'
  have K4 : Hid (w.cell? ⟨S, 4, none⟩ = some (.slice (some ⟨gb, 0, none⟩) N.n N.c)) := k4
  have hR : Right (movL s.ns e.p e.t) := (mov_of hM).tree.1
  obtain ⟨ys, hy⟩ : ∃ ys, overL (movL s.ns e.p e.t) = ys := ⟨_, rfl⟩
  obtain ⟨m, hm⟩ : ∃ m, ys.length = m := ⟨_, rfl⟩
  have CO : Hid (∀ W a n c, NL W a n (movL s.ns e.p e.t) → Calls Tryz.prog 47 #[.slice a n c] W fun r w' => (∃ a c, r = .returned (.slice a m c)) ∧ Below W.heap.size W w') := fun W a n c hN => (over_val hN true ⟨fun _ => hR, fun _ => rfl⟩ ys hy m hm).mono fun r w' ⟨h1, h2⟩ => ⟨by obtain ⟨a, b, c, k, _⟩ := h1.ex; exact ⟨_, _, k⟩, h2⟩
  have hmb : decide ((0 : Int) < (m : Int)) = false := decide_eq_false (by rw [← hm, ← hy, ho]; simp)
  have hmb2 : decide (0 < m) = false := decide_eq_false (by rw [← hm, ← hy, ho]; simp)
  have CT : Hid (∀ W a n c, Calls Tryz.prog 58 #[.slice a n c, .int .i64 0] W fun e w' => e = .returned (.slice a n c) ∧ W = w') := fun W a n c => (takenN_ok W).mono fun e w' ⟨h1, h2⟩ => ⟨h1, h2.symm⟩
  have HAL : Hid (movA s.ns e.p e.t 0 = movL s.ns e.p e.t) := rfl
  have HNN : Hid (∀ w1 (N' : RS), Below w.heap.size w w1 → LX ((w.alloc (.cells #[.int .i64 e.k, .string e.p, .string e.t, .int .i64 e.c, .int .i64 e.l, .int .i64 e.n, .slice ea em eq] 42)).drewN 1).heap.size w1 N'.a N'.n N'.c (movL s.ns e.p e.t) → ∃ ps' g', SpC (w1.setCell ⟨S, 4, none⟩ (.slice N'.a N'.n N'.c)) S ⟨s.tx, s.nb, s.ng, s.now, movL s.ns e.p e.t, s.ls⟩ N' L ∧ OwnM base w1.heap.size (w1.setCell ⟨S, 4, none⟩ (.slice N'.a N'.n N'.c)) ⟨s.tx, s.nb, s.ng, s.now, movL s.ns e.p e.t, s.ls⟩ N' L ps' g' gl ∧ Stay (fun k => k = S) w (w1.setCell ⟨S, 4, none⟩ (.slice N'.a N'.n N'.c)) ∧ (∀ k, g' = some k → w.heap.size ≤ k) ∧ (∀ x ∈ ps', ∀ k, x.2.blk = some k → w.heap.size ≤ k)) := fun w1 N' hb hX => by
    obtain ⟨ps', g', r1, r2, r3, r4, r5⟩ := HPRE.out.newNs (N' := N') (W := ((w.alloc (.cells #[.int .i64 e.k, .string e.p, .string e.t, .int .i64 e.c, .int .i64 e.l, .int .i64 e.n, .slice ea em eq] 42)).drewN 1).heap.size) (by simp) hb hX
    exact ⟨ps', g', r1, r2, r3, r4, r5⟩
  have CR : Hid (∀ E W, Calls Tryz.prog 25 #[.bool false, .int .i64 E] W fun e w' => e = .returned (.tuple #[]) ∧ W = w') := fun E W => (refuse_no E W).mono fun e w' ⟨h1, h2⟩ => ⟨h1, h2.symm⟩
  obtain ⟨k, p, t, cl, l, nn, ls⟩ := e
  unfold edV; simp only at CM CO HAL HNN ⊢
  have hst := run_store_str
  have hst2 := sto2
  clear h hp hs ht hM k4 hR hy hm ho; generalize movL s.ns p t = MV at *
  go_enter Tryz.func60, Tryz.ntmps60; go_wp2; have ka := cell_al K4.out (.cells #[.int .i64 k, .string p, .string t, .int .i64 cl, .int .i64 l, .int .i64 nn, .slice ea em eq] 42)
  refine wp_region_any (by kernel_rfl) ?_
  try (change wpAny _ _ _ _ _ _ _ (World.drew _))
  refine wpAny_take (i := 0) (v := ?_) rfl (by kernel_rfl) (by kernel_rfl) (by kernel_rfl) (fun _ _ _ h => h) (Or.inl ⟨by rfl, ?_⟩) ?_
  rotate_left
  · intro w; go_simp; first | done | with_reducible rfl
  refine wpAny_take (i := 1) (v := ?_) rfl (by kernel_rfl) (by kernel_rfl) (by kernel_rfl) (fun _ _ _ h => h) (Or.inl ⟨by rfl, ?_⟩) ?_
  rotate_left
  · intro w; go_simp; first | done | with_reducible rfl
  refine wpAny_take (i := 2) (v := ?_) rfl (by kernel_rfl) (by kernel_rfl) (by kernel_rfl) (fun _ _ _ h => h) (Or.inl ⟨by rfl, ?_⟩) ?_
  rotate_left
  · intro w; go_simp; first | done | with_reducible rfl
  refine wpAny_take (i := 3) (v := ?_) rfl (by kernel_rfl) (by kernel_rfl) (by kernel_rfl) (fun _ _ _ h => h) (Or.inl ⟨by rfl, ?_⟩) ?_
  rotate_left
  · intro w; go_simp; first | done | with_reducible rfl
  refine wpAny_take (i := 5) (v := ?_) rfl (by kernel_rfl) (by kernel_rfl) (by kernel_rfl) (fun _ _ _ h => h) (Or.inl ⟨by rfl, ?_⟩) ?_
  rotate_left
  · intro w; go_simp; first | done | with_reducible rfl
  refine wpAny_take (i := 7) (v := ?_) rfl (by kernel_rfl) (by kernel_rfl) (by kernel_rfl) (fun _ _ _ h => h) (Or.inl ⟨by rfl, ?_⟩) ?_
  rotate_left
  · intro w; go_simp; first | done | with_reducible rfl
  refine wpAny_ready (rs := [4, 6, 8]) (by kernel_rfl) (by simp) ?_
  refine AllReady.cons rfl (fun K hK => ?_) ?_
  · go_simp
    refine hK _ _ ?_
    clear hK K; refine wpAny_ready (rs := [6, 8]) (by kernel_rfl) (by simp) ?_
    refine AllReady.cons rfl (fun K hK => ?_) ?_
    · go_simp
      refine hK _ _ ?_
      clear hK K; refine wpAny_ready (rs := [8]) (by kernel_rfl) (by simp) ?_
      refine AllReady.cons rfl (fun K hK => ?_) ?_
      · go_simp
        refine hK _ _ ?_
        clear hK K; refine wpAny_ready (rs := [9]) (by kernel_rfl) (by simp) ?_
        refine AllReady.cons rfl (fun K hK => ?_) ?_
        · go_simp
          refine (CM.out _ (bel_tr (bel_al _ _) (bel_drewN _ 1))).mono ?_; rintro e w1 ⟨⟨na, n1, nc, rfl, hX⟩, c1⟩; have B1 : Hid (Below w.heap.size w w1) := bel_tr (bel_tr (bel_al _ _) (bel_drewN _ 1)) c1; have d4 := bel_cell B1.out K4.out; rw [HAL.out] at hX; have HNX : Hid _ := HNN.out w1 ⟨na, n1, nc⟩ B1.out hX; have hfz := (HPRE.out.below B1.out).c.fr 4; clear hX c1
          try go_simp
          refine hK _ _ ?_
          clear hK K; refine wpAny_take (i := 10) (v := ?_) rfl (by kernel_rfl) (by kernel_rfl) (by kernel_rfl) (fun _ _ _ h => h) (Or.inl ⟨by rfl, ?_⟩) ?_
          rotate_left
          · intro w; go_simp; first | done | with_reducible rfl
          refine wpAny_take (i := 11) (v := ?_) rfl (by kernel_rfl) (by kernel_rfl) (by kernel_rfl) (fun _ _ _ h => h) (Or.inl ⟨by rfl, ?_⟩) ?_
          rotate_left
          · intro w; go_simp; first | done | with_reducible rfl
          refine wpAny_ready (rs := [12]) (by kernel_rfl) (by simp) ?_
          refine AllReady.cons rfl (fun K hK => ?_) ?_
          · go_simp
            refine (CT.out _ _ _ _).mono ?_; rintro e w2 ⟨rfl, rfl⟩
            try go_simp
            refine hK _ _ ?_
            clear hK K; refine wpAny_take (i := 13) (v := ?_) rfl (by kernel_rfl) (by kernel_rfl) (by kernel_rfl) (fun _ _ _ h => h) (Or.inl ⟨by rfl, ?_⟩) ?_
            rotate_left
            · intro w; go_simp; first | done | with_reducible rfl
            refine wpAny_take (i := 14) (v := ?_) rfl (by kernel_rfl) (by kernel_rfl) (by kernel_rfl) (fun _ _ _ h => h) (Or.inl ⟨by rfl, ?_⟩) ?_
            rotate_left
            · intro w; go_simp; first | done | with_reducible rfl
            refine wpAny_ready (rs := [15]) (by kernel_rfl) (by simp) ?_
            refine AllReady.cons rfl (fun K hK => ?_) ?_
            · go_simp
              refine hK _ _ ?_
              clear hK K; refine wpAny_done (by kernel_rfl) ?_ _
              obtain ⟨ps', g', r1, r2, r3, r4, r5⟩ := HNX.out
              have c4n := r1.c4
              have hnl := (LX.nl ⟨ps', g', r2.map, r2.lot⟩)
              have HC : Hid _ := r1
              have HO : Hid _ := r2
              have HS3 : Hid _ := r3
              have HR4 : Hid _ := r4
              have HR5 : Hid _ := r5
              have HNL : Hid _ := hnl
              clear r1 r2 r3 r4 r5 hnl; simp only at c4n
              go_wp2_with (first
                | (go_at_call 47; refine (CO.out _ _ _ _ HNL.out).mono ?_; rintro e w4 ⟨⟨oa, oc, rfl⟩, c4⟩; have B4 : Hid _ := c4; clear c4)
                | (go_at_call 25; refine (CR.out _ _).mono ?_; rintro e w5 ⟨rfl, rfl⟩))
              first | go_end0 | refine bodyPost_ret (results_none rfl _ _ _) rfl ?_
              exact ⟨⟨⟨na, n1, nc⟩, L, ps', g', gl, rfl, HC.out.below B4.out, (HO.out.below B4.out).up (by have := B4.out.size; rw [setC_size] at this; exact this), fun k hk => .inr (HR4.out k hk), fun k hk => .inl (HPRE.out.m2 k hk), fun x hx k hk => .inr (HR5.out x hx k hk)⟩, (HS3.out.mono (fun k hk => .inl hk)).then_below B4.out⟩
            exact AllReady.nil
          exact AllReady.nil
        exact AllReady.nil
      exact AllReady.nil
    refine AllReady.cons rfl (fun K hK => ?_) ?_
    · go_simp
      refine hK _ _ ?_
      clear hK K; refine wpAny_ready (rs := [6]) (by kernel_rfl) (by simp) ?_
      refine AllReady.cons rfl (fun K hK => ?_) ?_
      · go_simp
        refine hK _ _ ?_
        clear hK K; refine wpAny_ready (rs := [9]) (by kernel_rfl) (by simp) ?_
        refine AllReady.cons rfl (fun K hK => ?_) ?_
        · go_simp
          refine (CM.out _ (bel_tr (bel_al _ _) (bel_drewN _ 1))).mono ?_; rintro e w1 ⟨⟨na, n1, nc, rfl, hX⟩, c1⟩; have B1 : Hid (Below w.heap.size w w1) := bel_tr (bel_tr (bel_al _ _) (bel_drewN _ 1)) c1; have d4 := bel_cell B1.out K4.out; rw [HAL.out] at hX; have HNX : Hid _ := HNN.out w1 ⟨na, n1, nc⟩ B1.out hX; have hfz := (HPRE.out.below B1.out).c.fr 4; clear hX c1
          try go_simp
          refine hK _ _ ?_
          clear hK K; refine wpAny_take (i := 10) (v := ?_) rfl (by kernel_rfl) (by kernel_rfl) (by kernel_rfl) (fun _ _ _ h => h) (Or.inl ⟨by rfl, ?_⟩) ?_
          rotate_left
          · intro w; go_simp; first | done | with_reducible rfl
          refine wpAny_take (i := 11) (v := ?_) rfl (by kernel_rfl) (by kernel_rfl) (by kernel_rfl) (fun _ _ _ h => h) (Or.inl ⟨by rfl, ?_⟩) ?_
          rotate_left
          · intro w; go_simp; first | done | with_reducible rfl
          refine wpAny_ready (rs := [12]) (by kernel_rfl) (by simp) ?_
          refine AllReady.cons rfl (fun K hK => ?_) ?_
          · go_simp
            refine (CT.out _ _ _ _).mono ?_; rintro e w2 ⟨rfl, rfl⟩
            try go_simp
            refine hK _ _ ?_
            clear hK K; refine wpAny_take (i := 13) (v := ?_) rfl (by kernel_rfl) (by kernel_rfl) (by kernel_rfl) (fun _ _ _ h => h) (Or.inl ⟨by rfl, ?_⟩) ?_
            rotate_left
            · intro w; go_simp; first | done | with_reducible rfl
            refine wpAny_take (i := 14) (v := ?_) rfl (by kernel_rfl) (by kernel_rfl) (by kernel_rfl) (fun _ _ _ h => h) (Or.inl ⟨by rfl, ?_⟩) ?_
            rotate_left
            · intro w; go_simp; first | done | with_reducible rfl
            refine wpAny_ready (rs := [15]) (by kernel_rfl) (by simp) ?_
            refine AllReady.cons rfl (fun K hK => ?_) ?_
            · go_simp
              refine hK _ _ ?_
              clear hK K; refine wpAny_done (by kernel_rfl) ?_ _
              obtain ⟨ps', g', r1, r2, r3, r4, r5⟩ := HNX.out
              have c4n := r1.c4
              have hnl := (LX.nl ⟨ps', g', r2.map, r2.lot⟩)
              have HC : Hid _ := r1
              have HO : Hid _ := r2
              have HS3 : Hid _ := r3
              have HR4 : Hid _ := r4
              have HR5 : Hid _ := r5
              have HNL : Hid _ := hnl
              clear r1 r2 r3 r4 r5 hnl; simp only at c4n
              go_wp2_with (first
                | (go_at_call 47; refine (CO.out _ _ _ _ HNL.out).mono ?_; rintro e w4 ⟨⟨oa, oc, rfl⟩, c4⟩; have B4 : Hid _ := c4; clear c4)
                | (go_at_call 25; refine (CR.out _ _).mono ?_; rintro e w5 ⟨rfl, rfl⟩))
              first | go_end0 | refine bodyPost_ret (results_none rfl _ _ _) rfl ?_
              exact ⟨⟨⟨na, n1, nc⟩, L, ps', g', gl, rfl, HC.out.below B4.out, (HO.out.below B4.out).up (by have := B4.out.size; rw [setC_size] at this; exact this), fun k hk => .inr (HR4.out k hk), fun k hk => .inl (HPRE.out.m2 k hk), fun x hx k hk => .inr (HR5.out x hx k hk)⟩, (HS3.out.mono (fun k hk => .inl hk)).then_below B4.out⟩
            exact AllReady.nil
          exact AllReady.nil
        exact AllReady.nil
      exact AllReady.nil
    exact AllReady.nil
  refine AllReady.cons rfl (fun K hK => ?_) ?_
  · go_simp
    refine hK _ _ ?_
    clear hK K; refine wpAny_ready (rs := [4, 8]) (by kernel_rfl) (by simp) ?_
    refine AllReady.cons rfl (fun K hK => ?_) ?_
    · go_simp
      refine hK _ _ ?_
      clear hK K; refine wpAny_ready (rs := [8]) (by kernel_rfl) (by simp) ?_
      refine AllReady.cons rfl (fun K hK => ?_) ?_
      · go_simp
        refine hK _ _ ?_
        clear hK K; refine wpAny_ready (rs := [9]) (by kernel_rfl) (by simp) ?_
        refine AllReady.cons rfl (fun K hK => ?_) ?_
        · go_simp
          refine (CM.out _ (bel_tr (bel_al _ _) (bel_drewN _ 1))).mono ?_; rintro e w1 ⟨⟨na, n1, nc, rfl, hX⟩, c1⟩; have B1 : Hid (Below w.heap.size w w1) := bel_tr (bel_tr (bel_al _ _) (bel_drewN _ 1)) c1; have d4 := bel_cell B1.out K4.out; rw [HAL.out] at hX; have HNX : Hid _ := HNN.out w1 ⟨na, n1, nc⟩ B1.out hX; have hfz := (HPRE.out.below B1.out).c.fr 4; clear hX c1
          try go_simp
          refine hK _ _ ?_
          clear hK K; refine wpAny_take (i := 10) (v := ?_) rfl (by kernel_rfl) (by kernel_rfl) (by kernel_rfl) (fun _ _ _ h => h) (Or.inl ⟨by rfl, ?_⟩) ?_
          rotate_left
          · intro w; go_simp; first | done | with_reducible rfl
          refine wpAny_take (i := 11) (v := ?_) rfl (by kernel_rfl) (by kernel_rfl) (by kernel_rfl) (fun _ _ _ h => h) (Or.inl ⟨by rfl, ?_⟩) ?_
          rotate_left
          · intro w; go_simp; first | done | with_reducible rfl
          refine wpAny_ready (rs := [12]) (by kernel_rfl) (by simp) ?_
          refine AllReady.cons rfl (fun K hK => ?_) ?_
          · go_simp
            refine (CT.out _ _ _ _).mono ?_; rintro e w2 ⟨rfl, rfl⟩
            try go_simp
            refine hK _ _ ?_
            clear hK K; refine wpAny_take (i := 13) (v := ?_) rfl (by kernel_rfl) (by kernel_rfl) (by kernel_rfl) (fun _ _ _ h => h) (Or.inl ⟨by rfl, ?_⟩) ?_
            rotate_left
            · intro w; go_simp; first | done | with_reducible rfl
            refine wpAny_take (i := 14) (v := ?_) rfl (by kernel_rfl) (by kernel_rfl) (by kernel_rfl) (fun _ _ _ h => h) (Or.inl ⟨by rfl, ?_⟩) ?_
            rotate_left
            · intro w; go_simp; first | done | with_reducible rfl
            refine wpAny_ready (rs := [15]) (by kernel_rfl) (by simp) ?_
            refine AllReady.cons rfl (fun K hK => ?_) ?_
            · go_simp
              refine hK _ _ ?_
              clear hK K; refine wpAny_done (by kernel_rfl) ?_ _
              obtain ⟨ps', g', r1, r2, r3, r4, r5⟩ := HNX.out
              have c4n := r1.c4
              have hnl := (LX.nl ⟨ps', g', r2.map, r2.lot⟩)
              have HC : Hid _ := r1
              have HO : Hid _ := r2
              have HS3 : Hid _ := r3
              have HR4 : Hid _ := r4
              have HR5 : Hid _ := r5
              have HNL : Hid _ := hnl
              clear r1 r2 r3 r4 r5 hnl; simp only at c4n
              go_wp2_with (first
                | (go_at_call 47; refine (CO.out _ _ _ _ HNL.out).mono ?_; rintro e w4 ⟨⟨oa, oc, rfl⟩, c4⟩; have B4 : Hid _ := c4; clear c4)
                | (go_at_call 25; refine (CR.out _ _).mono ?_; rintro e w5 ⟨rfl, rfl⟩))
              first | go_end0 | refine bodyPost_ret (results_none rfl _ _ _) rfl ?_
              exact ⟨⟨⟨na, n1, nc⟩, L, ps', g', gl, rfl, HC.out.below B4.out, (HO.out.below B4.out).up (by have := B4.out.size; rw [setC_size] at this; exact this), fun k hk => .inr (HR4.out k hk), fun k hk => .inl (HPRE.out.m2 k hk), fun x hx k hk => .inr (HR5.out x hx k hk)⟩, (HS3.out.mono (fun k hk => .inl hk)).then_below B4.out⟩
            exact AllReady.nil
          exact AllReady.nil
        exact AllReady.nil
      exact AllReady.nil
    refine AllReady.cons rfl (fun K hK => ?_) ?_
    · go_simp
      refine hK _ _ ?_
      clear hK K; refine wpAny_ready (rs := [4]) (by kernel_rfl) (by simp) ?_
      refine AllReady.cons rfl (fun K hK => ?_) ?_
      · go_simp
        refine hK _ _ ?_
        clear hK K; refine wpAny_ready (rs := [9]) (by kernel_rfl) (by simp) ?_
        refine AllReady.cons rfl (fun K hK => ?_) ?_
        · go_simp
          refine (CM.out _ (bel_tr (bel_al _ _) (bel_drewN _ 1))).mono ?_; rintro e w1 ⟨⟨na, n1, nc, rfl, hX⟩, c1⟩; have B1 : Hid (Below w.heap.size w w1) := bel_tr (bel_tr (bel_al _ _) (bel_drewN _ 1)) c1; have d4 := bel_cell B1.out K4.out; rw [HAL.out] at hX; have HNX : Hid _ := HNN.out w1 ⟨na, n1, nc⟩ B1.out hX; have hfz := (HPRE.out.below B1.out).c.fr 4; clear hX c1
          try go_simp
          refine hK _ _ ?_
          clear hK K; refine wpAny_take (i := 10) (v := ?_) rfl (by kernel_rfl) (by kernel_rfl) (by kernel_rfl) (fun _ _ _ h => h) (Or.inl ⟨by rfl, ?_⟩) ?_
          rotate_left
          · intro w; go_simp; first | done | with_reducible rfl
          refine wpAny_take (i := 11) (v := ?_) rfl (by kernel_rfl) (by kernel_rfl) (by kernel_rfl) (fun _ _ _ h => h) (Or.inl ⟨by rfl, ?_⟩) ?_
          rotate_left
          · intro w; go_simp; first | done | with_reducible rfl
          refine wpAny_ready (rs := [12]) (by kernel_rfl) (by simp) ?_
          refine AllReady.cons rfl (fun K hK => ?_) ?_
          · go_simp
            refine (CT.out _ _ _ _).mono ?_; rintro e w2 ⟨rfl, rfl⟩
            try go_simp
            refine hK _ _ ?_
            clear hK K; refine wpAny_take (i := 13) (v := ?_) rfl (by kernel_rfl) (by kernel_rfl) (by kernel_rfl) (fun _ _ _ h => h) (Or.inl ⟨by rfl, ?_⟩) ?_
            rotate_left
            · intro w; go_simp; first | done | with_reducible rfl
            refine wpAny_take (i := 14) (v := ?_) rfl (by kernel_rfl) (by kernel_rfl) (by kernel_rfl) (fun _ _ _ h => h) (Or.inl ⟨by rfl, ?_⟩) ?_
            rotate_left
            · intro w; go_simp; first | done | with_reducible rfl
            refine wpAny_ready (rs := [15]) (by kernel_rfl) (by simp) ?_
            refine AllReady.cons rfl (fun K hK => ?_) ?_
            · go_simp
              refine hK _ _ ?_
              clear hK K; refine wpAny_done (by kernel_rfl) ?_ _
              obtain ⟨ps', g', r1, r2, r3, r4, r5⟩ := HNX.out
              have c4n := r1.c4
              have hnl := (LX.nl ⟨ps', g', r2.map, r2.lot⟩)
              have HC : Hid _ := r1
              have HO : Hid _ := r2
              have HS3 : Hid _ := r3
              have HR4 : Hid _ := r4
              have HR5 : Hid _ := r5
              have HNL : Hid _ := hnl
              clear r1 r2 r3 r4 r5 hnl; simp only at c4n
              go_wp2_with (first
                | (go_at_call 47; refine (CO.out _ _ _ _ HNL.out).mono ?_; rintro e w4 ⟨⟨oa, oc, rfl⟩, c4⟩; have B4 : Hid _ := c4; clear c4)
                | (go_at_call 25; refine (CR.out _ _).mono ?_; rintro e w5 ⟨rfl, rfl⟩))
              first | go_end0 | refine bodyPost_ret (results_none rfl _ _ _) rfl ?_
              exact ⟨⟨⟨na, n1, nc⟩, L, ps', g', gl, rfl, HC.out.below B4.out, (HO.out.below B4.out).up (by have := B4.out.size; rw [setC_size] at this; exact this), fun k hk => .inr (HR4.out k hk), fun k hk => .inl (HPRE.out.m2 k hk), fun x hx k hk => .inr (HR5.out x hx k hk)⟩, (HS3.out.mono (fun k hk => .inl hk)).then_below B4.out⟩
            exact AllReady.nil
          exact AllReady.nil
        exact AllReady.nil
      exact AllReady.nil
    exact AllReady.nil
  refine AllReady.cons rfl (fun K hK => ?_) ?_
  · go_simp
    refine hK _ _ ?_
    clear hK K; refine wpAny_ready (rs := [4, 6]) (by kernel_rfl) (by simp) ?_
    refine AllReady.cons rfl (fun K hK => ?_) ?_
    · go_simp
      refine hK _ _ ?_
      clear hK K; refine wpAny_ready (rs := [6]) (by kernel_rfl) (by simp) ?_
      refine AllReady.cons rfl (fun K hK => ?_) ?_
      · go_simp
        refine hK _ _ ?_
        clear hK K; refine wpAny_ready (rs := [9]) (by kernel_rfl) (by simp) ?_
        refine AllReady.cons rfl (fun K hK => ?_) ?_
        · go_simp
          refine (CM.out _ (bel_tr (bel_al _ _) (bel_drewN _ 1))).mono ?_; rintro e w1 ⟨⟨na, n1, nc, rfl, hX⟩, c1⟩; have B1 : Hid (Below w.heap.size w w1) := bel_tr (bel_tr (bel_al _ _) (bel_drewN _ 1)) c1; have d4 := bel_cell B1.out K4.out; rw [HAL.out] at hX; have HNX : Hid _ := HNN.out w1 ⟨na, n1, nc⟩ B1.out hX; have hfz := (HPRE.out.below B1.out).c.fr 4; clear hX c1
          try go_simp
          refine hK _ _ ?_
          clear hK K; refine wpAny_take (i := 10) (v := ?_) rfl (by kernel_rfl) (by kernel_rfl) (by kernel_rfl) (fun _ _ _ h => h) (Or.inl ⟨by rfl, ?_⟩) ?_
          rotate_left
          · intro w; go_simp; first | done | with_reducible rfl
          refine wpAny_take (i := 11) (v := ?_) rfl (by kernel_rfl) (by kernel_rfl) (by kernel_rfl) (fun _ _ _ h => h) (Or.inl ⟨by rfl, ?_⟩) ?_
          rotate_left
          · intro w; go_simp; first | done | with_reducible rfl
          refine wpAny_ready (rs := [12]) (by kernel_rfl) (by simp) ?_
          refine AllReady.cons rfl (fun K hK => ?_) ?_
          · go_simp
            refine (CT.out _ _ _ _).mono ?_; rintro e w2 ⟨rfl, rfl⟩
            try go_simp
            refine hK _ _ ?_
            clear hK K; refine wpAny_take (i := 13) (v := ?_) rfl (by kernel_rfl) (by kernel_rfl) (by kernel_rfl) (fun _ _ _ h => h) (Or.inl ⟨by rfl, ?_⟩) ?_
            rotate_left
            · intro w; go_simp; first | done | with_reducible rfl
            refine wpAny_take (i := 14) (v := ?_) rfl (by kernel_rfl) (by kernel_rfl) (by kernel_rfl) (fun _ _ _ h => h) (Or.inl ⟨by rfl, ?_⟩) ?_
            rotate_left
            · intro w; go_simp; first | done | with_reducible rfl
            refine wpAny_ready (rs := [15]) (by kernel_rfl) (by simp) ?_
            refine AllReady.cons rfl (fun K hK => ?_) ?_
            · go_simp
              refine hK _ _ ?_
              clear hK K; refine wpAny_done (by kernel_rfl) ?_ _
              obtain ⟨ps', g', r1, r2, r3, r4, r5⟩ := HNX.out
              have c4n := r1.c4
              have hnl := (LX.nl ⟨ps', g', r2.map, r2.lot⟩)
              have HC : Hid _ := r1
              have HO : Hid _ := r2
              have HS3 : Hid _ := r3
              have HR4 : Hid _ := r4
              have HR5 : Hid _ := r5
              have HNL : Hid _ := hnl
              clear r1 r2 r3 r4 r5 hnl; simp only at c4n
              go_wp2_with (first
                | (go_at_call 47; refine (CO.out _ _ _ _ HNL.out).mono ?_; rintro e w4 ⟨⟨oa, oc, rfl⟩, c4⟩; have B4 : Hid _ := c4; clear c4)
                | (go_at_call 25; refine (CR.out _ _).mono ?_; rintro e w5 ⟨rfl, rfl⟩))
              first | go_end0 | refine bodyPost_ret (results_none rfl _ _ _) rfl ?_
              exact ⟨⟨⟨na, n1, nc⟩, L, ps', g', gl, rfl, HC.out.below B4.out, (HO.out.below B4.out).up (by have := B4.out.size; rw [setC_size] at this; exact this), fun k hk => .inr (HR4.out k hk), fun k hk => .inl (HPRE.out.m2 k hk), fun x hx k hk => .inr (HR5.out x hx k hk)⟩, (HS3.out.mono (fun k hk => .inl hk)).then_below B4.out⟩
            exact AllReady.nil
          exact AllReady.nil
        exact AllReady.nil
      exact AllReady.nil
    refine AllReady.cons rfl (fun K hK => ?_) ?_
    · go_simp
      refine hK _ _ ?_
      clear hK K; refine wpAny_ready (rs := [4]) (by kernel_rfl) (by simp) ?_
      refine AllReady.cons rfl (fun K hK => ?_) ?_
      · go_simp
        refine hK _ _ ?_
        clear hK K; refine wpAny_ready (rs := [9]) (by kernel_rfl) (by simp) ?_
        refine AllReady.cons rfl (fun K hK => ?_) ?_
        · go_simp
          refine (CM.out _ (bel_tr (bel_al _ _) (bel_drewN _ 1))).mono ?_; rintro e w1 ⟨⟨na, n1, nc, rfl, hX⟩, c1⟩; have B1 : Hid (Below w.heap.size w w1) := bel_tr (bel_tr (bel_al _ _) (bel_drewN _ 1)) c1; have d4 := bel_cell B1.out K4.out; rw [HAL.out] at hX; have HNX : Hid _ := HNN.out w1 ⟨na, n1, nc⟩ B1.out hX; have hfz := (HPRE.out.below B1.out).c.fr 4; clear hX c1
          try go_simp
          refine hK _ _ ?_
          clear hK K; refine wpAny_take (i := 10) (v := ?_) rfl (by kernel_rfl) (by kernel_rfl) (by kernel_rfl) (fun _ _ _ h => h) (Or.inl ⟨by rfl, ?_⟩) ?_
          rotate_left
          · intro w; go_simp; first | done | with_reducible rfl
          refine wpAny_take (i := 11) (v := ?_) rfl (by kernel_rfl) (by kernel_rfl) (by kernel_rfl) (fun _ _ _ h => h) (Or.inl ⟨by rfl, ?_⟩) ?_
          rotate_left
          · intro w; go_simp; first | done | with_reducible rfl
          refine wpAny_ready (rs := [12]) (by kernel_rfl) (by simp) ?_
          refine AllReady.cons rfl (fun K hK => ?_) ?_
          · go_simp
            refine (CT.out _ _ _ _).mono ?_; rintro e w2 ⟨rfl, rfl⟩
            try go_simp
            refine hK _ _ ?_
            clear hK K; refine wpAny_take (i := 13) (v := ?_) rfl (by kernel_rfl) (by kernel_rfl) (by kernel_rfl) (fun _ _ _ h => h) (Or.inl ⟨by rfl, ?_⟩) ?_
            rotate_left
            · intro w; go_simp; first | done | with_reducible rfl
            refine wpAny_take (i := 14) (v := ?_) rfl (by kernel_rfl) (by kernel_rfl) (by kernel_rfl) (fun _ _ _ h => h) (Or.inl ⟨by rfl, ?_⟩) ?_
            rotate_left
            · intro w; go_simp; first | done | with_reducible rfl
            refine wpAny_ready (rs := [15]) (by kernel_rfl) (by simp) ?_
            refine AllReady.cons rfl (fun K hK => ?_) ?_
            · go_simp
              refine hK _ _ ?_
              clear hK K; refine wpAny_done (by kernel_rfl) ?_ _
              obtain ⟨ps', g', r1, r2, r3, r4, r5⟩ := HNX.out
              have c4n := r1.c4
              have hnl := (LX.nl ⟨ps', g', r2.map, r2.lot⟩)
              have HC : Hid _ := r1
              have HO : Hid _ := r2
              have HS3 : Hid _ := r3
              have HR4 : Hid _ := r4
              have HR5 : Hid _ := r5
              have HNL : Hid _ := hnl
              clear r1 r2 r3 r4 r5 hnl; simp only at c4n
              go_wp2_with (first
                | (go_at_call 47; refine (CO.out _ _ _ _ HNL.out).mono ?_; rintro e w4 ⟨⟨oa, oc, rfl⟩, c4⟩; have B4 : Hid _ := c4; clear c4)
                | (go_at_call 25; refine (CR.out _ _).mono ?_; rintro e w5 ⟨rfl, rfl⟩))
              first | go_end0 | refine bodyPost_ret (results_none rfl _ _ _) rfl ?_
              exact ⟨⟨⟨na, n1, nc⟩, L, ps', g', gl, rfl, HC.out.below B4.out, (HO.out.below B4.out).up (by have := B4.out.size; rw [setC_size] at this; exact this), fun k hk => .inr (HR4.out k hk), fun k hk => .inl (HPRE.out.m2 k hk), fun x hx k hk => .inr (HR5.out x hx k hk)⟩, (HS3.out.mono (fun k hk => .inl hk)).then_below B4.out⟩
            exact AllReady.nil
          exact AllReady.nil
        exact AllReady.nil
      exact AllReady.nil
    exact AllReady.nil
  exact AllReady.nil
end Go.Proofs.YtdilfbfkeiaafaaGreat.Spa
