/- Part 35 of the proof: SpaceFE, SpaceFF. -/
import Derived.Test.YtdilfbfkeiaafaaGreatB34
set_option maxRecDepth 100000
set_option maxHeartbeats 8000000
namespace Go.Proofs.YtdilfbfkeiaafaaGreat.Spa
open Go.RowKit Go.Proofs.YtdilfbfkeiaafaaGreat
open Go.Proofs.YtdilfbfkeiaafaaGreat.Lea (LS Ls findX putL renX LL LO LsR lsC wideL)
open Go.Proofs.YtdilfbfkeiaafaaGreat.Edi (Ed Nm EdAt edV)
theorem setQuota_node {base M0 S : Nat} {w : World} {s : Sp} {N L : RS} {ps : List NR} {gb : Nat} {gl : Option Nat} (h : Pre base M0 S w s N L ps gb gl) (e : Ed) (ea : Option Addr) (em eq : Nat) (hs : e.p.size ≤ maxLen) (E : Int) (hE : NodeE s.ns e.p E) (h0 : E ≠ 0) (hp : 0 < ps.length) :
    Calls Tryz.prog 63 #[.pointer (some ⟨S, 0, none⟩), edV e ea em eq] w fun r w' => LeftR S base M0 E w r w' := by
  have hE2 : NodeE (ps.map (·.1)) e.p E := by rw [h.own.map]; exact hE
  have CW : Hid (∀ W, Below w.heap.size w W → Calls Tryz.prog 109 #[.pointer (some ⟨S, 0, none⟩), .string e.p] W fun e w' => e = leftV E ∧ Below W.heap.size W w') := fun W hb => nodeAt_no ((h.below hb).lies hp).c4 ((h.below hb).lies hp).nl e.p hs E hE2 h0
  obtain ⟨k, p, t, cl, l, nn, ls⟩ := e
  unfold edV; simp only at CW ⊢
  have hst := run_store_str
  clear h hs hE hE2 h0 hp; go_enter Tryz.func63, Tryz.ntmps63; go_wp2_with (go_at_call 109; refine (CW.out _ (bel_al _ _)).mono ?_; rintro e w1 ⟨rfl, c1⟩)
  exact left_post rfl (LeftR.of (bel_tr (bel_al _ _) c1))
theorem setQuota_dir {base M0 S : Nat} {w : World} {s : Sp} {N L : RS} {ps : List NR} {gb : Nat} {gl : Option Nat} (h : Pre base M0 S w s N L ps gb gl) (e : Ed) (ea : Option Addr) (em eq : Nat) (hs : e.p.size ≤ maxLen) (i : Nat) (x : Nd) (hi : Is s.ns e.p i x) (hd : x.dir = false) :
    Calls Tryz.prog 63 #[.pointer (some ⟨S, 0, none⟩), edV e ea em eq] w fun r w' => LeftR S base M0 7 w r w' := by
  have hiq : Is (ps.map (·.1)) e.p i x := by rw [h.own.map]; exact hi
  obtain ⟨r, hX⟩ := is_at' hiq
  obtain ⟨hF0, hg0, hiN, hpos, _⟩ := h.free' hX
  have CN : Hid (∀ W, Below w.heap.size w W → Calls Tryz.prog 109 #[.pointer (some ⟨S, 0, none⟩), .string e.p] W fun e w' => e = .returned (.pointer (some ⟨gb, i * 5, none⟩)) ∧ Below W.heap.size W w') := fun W hb => nodeAt_ok ((h.below hb).lies hpos).c4 ((h.below hb).lies hpos).nl e.p hs i x hiq
  have HX : Hid (ps[i]? = some (x, r)) := hX
  have HPRE : Hid (Pre base M0 S w s N L ps gb gl) := h
  obtain ⟨k, p, t, cl, l, nn, ls⟩ := e
  obtain ⟨xp, xd, xq, xb, xw⟩ := x
  simp only at hd
  subst hd; unfold edV; simp only at CN ⊢
  have hst := run_store_str
  clear h hs hi hiq hX hF0 hg0 hiN hpos; go_enter Tryz.func63, Tryz.ntmps63; go_wp2_with (first
    | (go_at_call 109; refine (CN.out _ (bel_al _ _)).mono ?_; rintro e w1 ⟨rfl, c1⟩; have B1 : Hid (Below w.heap.size w w1) := bel_tr (bel_al _ _) c1; have hP1 := HPRE.out.below B1.out; have n1 := ((hP1.lies (hP1.free' HX.out).2.2.2.1).at' HX.out).c1; simp only at n1; clear hP1 c1)
    | (go_at_call 25; refine (refuse_yes _ _).mono ?_; rintro e w2 ⟨rfl, hw2⟩; subst hw2))
  exact left_post rfl (LeftR.of B1.out)
theorem setQuota_full {base M0 S : Nat} {w : World} {s : Sp} {N L : RS} {ps : List NR} {gb : Nat} {gl : Option Nat} (h : Pre base M0 S w s N L ps gb gl) (e : Ed) (ea : Option Addr) (em eq : Nat) (hs : e.p.size ≤ maxLen) (hR : Right s.ns) (i : Nat) (x : Nd) (hi : Is s.ns e.p i x) (hd : x.dir = true) (hn : e.n ≠ -1) (hq : e.n < (cntL s.ns e.p : Int)) :
    Calls Tryz.prog 63 #[.pointer (some ⟨S, 0, none⟩), edV e ea em eq] w fun r w' => LeftR S base M0 8 w r w' := by
  have hiq : Is (ps.map (·.1)) e.p i x := by rw [h.own.map]; exact hi
  obtain ⟨r, hX⟩ := is_at' hiq
  obtain ⟨hF0, hg0, hiN, hpos, _⟩ := h.free' hX
  have CN : Hid (∀ W, Below w.heap.size w W → Calls Tryz.prog 109 #[.pointer (some ⟨S, 0, none⟩), .string e.p] W fun e w' => e = .returned (.pointer (some ⟨gb, i * 5, none⟩)) ∧ Below W.heap.size W w') := fun W hb => nodeAt_ok ((h.below hb).lies hpos).c4 ((h.below hb).lies hpos).nl e.p hs i x hiq
  have HX : Hid (ps[i]? = some (x, r)) := hX
  have HPRE : Hid (Pre base M0 S w s N L ps gb gl) := h
  have CQ : Hid (∀ W, Below w.heap.size w W → Calls Tryz.prog 110 #[.slice (some ⟨gb, 0, none⟩) N.n N.c, .string e.p] W fun r' w' => r' = .returned (.int .i64 (cntL s.ns e.p : Int)) ∧ Below W.heap.size W w') := fun W hb => by
    have := ((h.below hb).lies hpos).nl
    rw [h.own.map] at this
    exact count_val this true ⟨fun _ => hR, fun _ => rfl⟩ e.p hs _ rfl
  have CR : Hid (∀ E W, Calls Tryz.prog 25 #[.bool false, .int .i64 E] W fun e w' => e = .returned (.tuple #[]) ∧ W = w') := fun E W => (refuse_no E W).mono fun e w' ⟨h1, h2⟩ => ⟨h1, h2.symm⟩
  obtain ⟨k, p, t, cl, l, nn, ls⟩ := e
  obtain ⟨xp, xd, xq, xb, xw⟩ := x
  simp only at hd hn hq
  subst hd; obtain ⟨C, hC⟩ : ∃ C : Int, (cntL s.ns p : Int) = C := ⟨_, rfl⟩
  unfold edV; simp only at CN CQ ⊢
  rw [hC] at CQ hq
  have hnb : (nn != -1) = true := by simpa using hn
  have hlt : decide (nn < C) = true := decide_eq_true hq
  have hst := run_store_str
  clear h hs hi hiq hX hF0 hg0 hiN hpos hR hC hn hq; go_enter Tryz.func63, Tryz.ntmps63; go_wp2_with (first
    | (go_at_call 109; refine (CN.out _ (bel_al _ _)).mono ?_; rintro e w1 ⟨rfl, c1⟩; have B1 : Hid (Below w.heap.size w w1) := bel_tr (bel_al _ _) c1; have y1 := bel_cell c1 (World.cell?_alloc_new w _ _ 1); have y5 := bel_cell c1 (World.cell?_alloc_new w _ _ 5); have hP1 := HPRE.out.below B1.out; have n1 := ((hP1.lies (hP1.free' HX.out).2.2.2.1).at' HX.out).c1; have k4 := (hP1.lies (hP1.free' HX.out).2.2.2.1).c4; simp only at n1; clear hP1 c1)
    | (go_at_call 25; refine (CR.out _ _).mono ?_; rintro e w2 ⟨rfl, rfl⟩))
  refine wp_region_any (by kernel_rfl) ?_
  try (change wpAny _ _ _ _ _ _ _ (World.drew _))
  refine wpAny_take (i := 0) (v := ?_) rfl (by kernel_rfl) (by kernel_rfl) (by kernel_rfl) (fun _ _ _ h => h) (Or.inl ⟨by rfl, ?_⟩) ?_
  rotate_left
  · intro w; go_simp; first | done | with_reducible rfl
  refine wpAny_ready (rs := [1]) (by kernel_rfl) (by simp) ?_
  refine AllReady.cons rfl (fun K hK => ?_) ?_
  · go_simp
    refine hK _ _ ?_
    clear hK K; refine wpAny_take (i := 2) (v := ?_) rfl (by kernel_rfl) (by kernel_rfl) (by kernel_rfl) (fun _ _ _ h => h) (Or.inl ⟨by rfl, ?_⟩) ?_
    rotate_left
    · intro w; go_simp; first | done | with_reducible rfl
    refine wpAny_take (i := 3) (v := ?_) rfl (by kernel_rfl) (by kernel_rfl) (by kernel_rfl) (fun _ _ _ h => h) (Or.inl ⟨by rfl, ?_⟩) ?_
    rotate_left
    · intro w; go_simp; first | done | with_reducible rfl
    refine wpAny_take (i := 4) (v := ?_) rfl (by kernel_rfl) (by kernel_rfl) (by kernel_rfl) (fun _ _ _ h => h) (Or.inl ⟨by rfl, ?_⟩) ?_
    rotate_left
    · intro w; go_simp; first | done | with_reducible rfl
    refine wpAny_take (i := 6) (v := ?_) rfl (by kernel_rfl) (by kernel_rfl) (by kernel_rfl) (fun _ _ _ h => h) (Or.inl ⟨by rfl, ?_⟩) ?_
    rotate_left
    · intro w; go_simp; first | done | with_reducible rfl
    refine wpAny_take (i := 7) (v := ?_) rfl (by kernel_rfl) (by kernel_rfl) (by kernel_rfl) (fun _ _ _ h => h) (Or.inl ⟨by rfl, ?_⟩) ?_
    rotate_left
    · intro w; go_simp; first | done | with_reducible rfl
    refine wpAny_take (i := 8) (v := ?_) rfl (by kernel_rfl) (by kernel_rfl) (by kernel_rfl) (fun _ _ _ h => h) (Or.inl ⟨by rfl, ?_⟩) ?_
    rotate_left
    · intro w; go_simp; first | done | with_reducible rfl
    refine wpAny_take (i := 10) (v := ?_) rfl (by kernel_rfl) (by kernel_rfl) (by kernel_rfl) (fun _ _ _ h => h) (Or.inl ⟨by rfl, ?_⟩) ?_
    rotate_left
    · intro w; go_simp; first | done | with_reducible rfl
    refine wpAny_ready (rs := [5, 9, 11]) (by kernel_rfl) (by simp) ?_
    refine AllReady.cons rfl (fun K hK => ?_) ?_
    · go_simp
      refine hK _ _ ?_
      clear hK K; refine wpAny_ready (rs := [9, 11]) (by kernel_rfl) (by simp) ?_
      refine AllReady.cons rfl (fun K hK => ?_) ?_
      · go_simp
        refine hK _ _ ?_
        clear hK K; refine wpAny_ready (rs := [11]) (by kernel_rfl) (by simp) ?_
        refine AllReady.cons rfl (fun K hK => ?_) ?_
        · go_simp
          refine hK _ _ ?_
          clear hK K; refine wpAny_ready (rs := [12]) (by kernel_rfl) (by simp) ?_
          refine AllReady.cons rfl (fun K hK => ?_) ?_
          · go_simp
            refine (CQ.out _ (bel_tr B1.out (bel_drewN _ 1))).mono ?_; rintro e w3 ⟨rfl, c3⟩; have B3 : Hid (Below w.heap.size w w3) := bel_tr (bel_tr B1.out (bel_drewN w1 1)) c3; have BB3 : Hid (Below w1.heap.size w1 w3) := bel_tr (bel_drewN w1 1) c3; have v1 := bel_cell BB3.out y1; have v5 := bel_cell BB3.out y5; have vk := bel_cell BB3.out k4; clear c3
            try go_simp
            refine hK _ _ ?_
            clear hK K; refine wpAny_take (i := 13) (v := ?_) rfl (by kernel_rfl) (by kernel_rfl) (by kernel_rfl) (fun _ _ _ h => h) (Or.inl ⟨by rfl, ?_⟩) ?_
            rotate_left
            · intro w; go_simp; first | done | with_reducible rfl
            refine wpAny_take (i := 14) (v := ?_) rfl (by kernel_rfl) (by kernel_rfl) (by kernel_rfl) (fun _ _ _ h => h) (Or.inl ⟨by rfl, ?_⟩) ?_
            rotate_left
            · intro w; go_simp; first | done | with_reducible rfl
            refine wpAny_ready (rs := [15]) (by kernel_rfl) (by simp) ?_
            refine AllReady.cons rfl (fun K hK => ?_) ?_
            · go_simp
              refine (refuse_yes _ _).mono ?_; rintro e w4 ⟨rfl, hw4⟩; subst hw4; exact left_post rfl (LeftR.of B3.out)
            exact AllReady.nil
          exact AllReady.nil
        exact AllReady.nil
      refine AllReady.cons rfl (fun K hK => ?_) ?_
      · go_simp
        refine hK _ _ ?_
        clear hK K; refine wpAny_ready (rs := [9]) (by kernel_rfl) (by simp) ?_
        refine AllReady.cons rfl (fun K hK => ?_) ?_
        · go_simp
          refine hK _ _ ?_
          clear hK K; refine wpAny_ready (rs := [12]) (by kernel_rfl) (by simp) ?_
          refine AllReady.cons rfl (fun K hK => ?_) ?_
          · go_simp
            refine (CQ.out _ (bel_tr B1.out (bel_drewN _ 1))).mono ?_; rintro e w3 ⟨rfl, c3⟩; have B3 : Hid (Below w.heap.size w w3) := bel_tr (bel_tr B1.out (bel_drewN w1 1)) c3; have BB3 : Hid (Below w1.heap.size w1 w3) := bel_tr (bel_drewN w1 1) c3; have v1 := bel_cell BB3.out y1; have v5 := bel_cell BB3.out y5; have vk := bel_cell BB3.out k4; clear c3
            try go_simp
            refine hK _ _ ?_
            clear hK K; refine wpAny_take (i := 13) (v := ?_) rfl (by kernel_rfl) (by kernel_rfl) (by kernel_rfl) (fun _ _ _ h => h) (Or.inl ⟨by rfl, ?_⟩) ?_
            rotate_left
            · intro w; go_simp; first | done | with_reducible rfl
            refine wpAny_take (i := 14) (v := ?_) rfl (by kernel_rfl) (by kernel_rfl) (by kernel_rfl) (fun _ _ _ h => h) (Or.inl ⟨by rfl, ?_⟩) ?_
            rotate_left
            · intro w; go_simp; first | done | with_reducible rfl
            refine wpAny_ready (rs := [15]) (by kernel_rfl) (by simp) ?_
            refine AllReady.cons rfl (fun K hK => ?_) ?_
            · go_simp
              refine (refuse_yes _ _).mono ?_; rintro e w4 ⟨rfl, hw4⟩; subst hw4; exact left_post rfl (LeftR.of B3.out)
            exact AllReady.nil
          exact AllReady.nil
        exact AllReady.nil
      exact AllReady.nil
    refine AllReady.cons rfl (fun K hK => ?_) ?_
    · go_simp
      refine hK _ _ ?_
      clear hK K; refine wpAny_ready (rs := [5, 11]) (by kernel_rfl) (by simp) ?_
      refine AllReady.cons rfl (fun K hK => ?_) ?_
      · go_simp
        refine hK _ _ ?_
        clear hK K; refine wpAny_ready (rs := [11]) (by kernel_rfl) (by simp) ?_
        refine AllReady.cons rfl (fun K hK => ?_) ?_
        · go_simp
          refine hK _ _ ?_
          clear hK K; refine wpAny_ready (rs := [12]) (by kernel_rfl) (by simp) ?_
          refine AllReady.cons rfl (fun K hK => ?_) ?_
          · go_simp
            refine (CQ.out _ (bel_tr B1.out (bel_drewN _ 1))).mono ?_; rintro e w3 ⟨rfl, c3⟩; have B3 : Hid (Below w.heap.size w w3) := bel_tr (bel_tr B1.out (bel_drewN w1 1)) c3; have BB3 : Hid (Below w1.heap.size w1 w3) := bel_tr (bel_drewN w1 1) c3; have v1 := bel_cell BB3.out y1; have v5 := bel_cell BB3.out y5; have vk := bel_cell BB3.out k4; clear c3
            try go_simp
            refine hK _ _ ?_
            clear hK K; refine wpAny_take (i := 13) (v := ?_) rfl (by kernel_rfl) (by kernel_rfl) (by kernel_rfl) (fun _ _ _ h => h) (Or.inl ⟨by rfl, ?_⟩) ?_
            rotate_left
            · intro w; go_simp; first | done | with_reducible rfl
            refine wpAny_take (i := 14) (v := ?_) rfl (by kernel_rfl) (by kernel_rfl) (by kernel_rfl) (fun _ _ _ h => h) (Or.inl ⟨by rfl, ?_⟩) ?_
            rotate_left
            · intro w; go_simp; first | done | with_reducible rfl
            refine wpAny_ready (rs := [15]) (by kernel_rfl) (by simp) ?_
            refine AllReady.cons rfl (fun K hK => ?_) ?_
            · go_simp
              refine (refuse_yes _ _).mono ?_; rintro e w4 ⟨rfl, hw4⟩; subst hw4; exact left_post rfl (LeftR.of B3.out)
            exact AllReady.nil
          exact AllReady.nil
        exact AllReady.nil
      refine AllReady.cons rfl (fun K hK => ?_) ?_
      · go_simp
        refine hK _ _ ?_
        clear hK K; refine wpAny_ready (rs := [5, 12]) (by kernel_rfl) (by simp) ?_
        refine AllReady.cons rfl (fun K hK => ?_) ?_
        · go_simp
          refine hK _ _ ?_
          clear hK K; refine wpAny_ready (rs := [12]) (by kernel_rfl) (by simp) ?_
          refine AllReady.cons rfl (fun K hK => ?_) ?_
          · go_simp
            refine (CQ.out _ (bel_tr B1.out (bel_drewN _ 1))).mono ?_; rintro e w3 ⟨rfl, c3⟩; have B3 : Hid (Below w.heap.size w w3) := bel_tr (bel_tr B1.out (bel_drewN w1 1)) c3; have BB3 : Hid (Below w1.heap.size w1 w3) := bel_tr (bel_drewN w1 1) c3; have v1 := bel_cell BB3.out y1; have v5 := bel_cell BB3.out y5; have vk := bel_cell BB3.out k4; clear c3
            try go_simp
            refine hK _ _ ?_
            clear hK K; refine wpAny_take (i := 13) (v := ?_) rfl (by kernel_rfl) (by kernel_rfl) (by kernel_rfl) (fun _ _ _ h => h) (Or.inl ⟨by rfl, ?_⟩) ?_
            rotate_left
            · intro w; go_simp; first | done | with_reducible rfl
            refine wpAny_take (i := 14) (v := ?_) rfl (by kernel_rfl) (by kernel_rfl) (by kernel_rfl) (fun _ _ _ h => h) (Or.inl ⟨by rfl, ?_⟩) ?_
            rotate_left
            · intro w; go_simp; first | done | with_reducible rfl
            refine wpAny_ready (rs := [15]) (by kernel_rfl) (by simp) ?_
            refine AllReady.cons rfl (fun K hK => ?_) ?_
            · go_simp
              refine (refuse_yes _ _).mono ?_; rintro e w4 ⟨rfl, hw4⟩; subst hw4; exact left_post rfl (LeftR.of B3.out)
            exact AllReady.nil
          exact AllReady.nil
        refine AllReady.cons rfl (fun K hK => ?_) ?_
        · go_simp
          refine (CQ.out _ (bel_tr B1.out (bel_drewN _ 1))).mono ?_; rintro e w3 ⟨rfl, c3⟩; have B3 : Hid (Below w.heap.size w w3) := bel_tr (bel_tr B1.out (bel_drewN w1 1)) c3; have BB3 : Hid (Below w1.heap.size w1 w3) := bel_tr (bel_drewN w1 1) c3; have v1 := bel_cell BB3.out y1; have v5 := bel_cell BB3.out y5; have vk := bel_cell BB3.out k4; clear c3
          try go_simp
          refine hK _ _ ?_
          clear hK K; refine wpAny_ready (rs := [5]) (by kernel_rfl) (by simp) ?_
          refine AllReady.cons rfl (fun K hK => ?_) ?_
          · go_simp
            refine hK _ _ ?_
            clear hK K; refine wpAny_take (i := 13) (v := ?_) rfl (by kernel_rfl) (by kernel_rfl) (by kernel_rfl) (fun _ _ _ h => h) (Or.inl ⟨by rfl, ?_⟩) ?_
            rotate_left
            · intro w; go_simp; first | done | with_reducible rfl
            refine wpAny_take (i := 14) (v := ?_) rfl (by kernel_rfl) (by kernel_rfl) (by kernel_rfl) (fun _ _ _ h => h) (Or.inl ⟨by rfl, ?_⟩) ?_
            rotate_left
            · intro w; go_simp; first | done | with_reducible rfl
            refine wpAny_ready (rs := [15]) (by kernel_rfl) (by simp) ?_
            refine AllReady.cons rfl (fun K hK => ?_) ?_
            · go_simp
              refine (refuse_yes _ _).mono ?_; rintro e w4 ⟨rfl, hw4⟩; subst hw4; exact left_post rfl (LeftR.of B3.out)
            exact AllReady.nil
          exact AllReady.nil
        exact AllReady.nil
      exact AllReady.nil
    refine AllReady.cons rfl (fun K hK => ?_) ?_
    · go_simp
      refine hK _ _ ?_
      clear hK K; refine wpAny_ready (rs := [5, 9]) (by kernel_rfl) (by simp) ?_
      refine AllReady.cons rfl (fun K hK => ?_) ?_
      · go_simp
        refine hK _ _ ?_
        clear hK K; refine wpAny_ready (rs := [9]) (by kernel_rfl) (by simp) ?_
        refine AllReady.cons rfl (fun K hK => ?_) ?_
        · go_simp
          refine hK _ _ ?_
          clear hK K; refine wpAny_ready (rs := [12]) (by kernel_rfl) (by simp) ?_
          refine AllReady.cons rfl (fun K hK => ?_) ?_
          · go_simp
            refine (CQ.out _ (bel_tr B1.out (bel_drewN _ 1))).mono ?_; rintro e w3 ⟨rfl, c3⟩; have B3 : Hid (Below w.heap.size w w3) := bel_tr (bel_tr B1.out (bel_drewN w1 1)) c3; have BB3 : Hid (Below w1.heap.size w1 w3) := bel_tr (bel_drewN w1 1) c3; have v1 := bel_cell BB3.out y1; have v5 := bel_cell BB3.out y5; have vk := bel_cell BB3.out k4; clear c3
            try go_simp
            refine hK _ _ ?_
            clear hK K; refine wpAny_take (i := 13) (v := ?_) rfl (by kernel_rfl) (by kernel_rfl) (by kernel_rfl) (fun _ _ _ h => h) (Or.inl ⟨by rfl, ?_⟩) ?_
            rotate_left
            · intro w; go_simp; first | done | with_reducible rfl
            refine wpAny_take (i := 14) (v := ?_) rfl (by kernel_rfl) (by kernel_rfl) (by kernel_rfl) (fun _ _ _ h => h) (Or.inl ⟨by rfl, ?_⟩) ?_
            rotate_left
            · intro w; go_simp; first | done | with_reducible rfl
            refine wpAny_ready (rs := [15]) (by kernel_rfl) (by simp) ?_
            refine AllReady.cons rfl (fun K hK => ?_) ?_
            · go_simp
              refine (refuse_yes _ _).mono ?_; rintro e w4 ⟨rfl, hw4⟩; subst hw4; exact left_post rfl (LeftR.of B3.out)
            exact AllReady.nil
          exact AllReady.nil
        exact AllReady.nil
      refine AllReady.cons rfl (fun K hK => ?_) ?_
      · go_simp
        refine hK _ _ ?_
        clear hK K; refine wpAny_ready (rs := [5, 12]) (by kernel_rfl) (by simp) ?_
        refine AllReady.cons rfl (fun K hK => ?_) ?_
        · go_simp
          refine hK _ _ ?_
          clear hK K; refine wpAny_ready (rs := [12]) (by kernel_rfl) (by simp) ?_
          refine AllReady.cons rfl (fun K hK => ?_) ?_
          · go_simp
            refine (CQ.out _ (bel_tr B1.out (bel_drewN _ 1))).mono ?_; rintro e w3 ⟨rfl, c3⟩; have B3 : Hid (Below w.heap.size w w3) := bel_tr (bel_tr B1.out (bel_drewN w1 1)) c3; have BB3 : Hid (Below w1.heap.size w1 w3) := bel_tr (bel_drewN w1 1) c3; have v1 := bel_cell BB3.out y1; have v5 := bel_cell BB3.out y5; have vk := bel_cell BB3.out k4; clear c3
            try go_simp
            refine hK _ _ ?_
            clear hK K; refine wpAny_take (i := 13) (v := ?_) rfl (by kernel_rfl) (by kernel_rfl) (by kernel_rfl) (fun _ _ _ h => h) (Or.inl ⟨by rfl, ?_⟩) ?_
            rotate_left
            · intro w; go_simp; first | done | with_reducible rfl
            refine wpAny_take (i := 14) (v := ?_) rfl (by kernel_rfl) (by kernel_rfl) (by kernel_rfl) (fun _ _ _ h => h) (Or.inl ⟨by rfl, ?_⟩) ?_
            rotate_left
            · intro w; go_simp; first | done | with_reducible rfl
            refine wpAny_ready (rs := [15]) (by kernel_rfl) (by simp) ?_
            refine AllReady.cons rfl (fun K hK => ?_) ?_
            · go_simp
              refine (refuse_yes _ _).mono ?_; rintro e w4 ⟨rfl, hw4⟩; subst hw4; exact left_post rfl (LeftR.of B3.out)
            exact AllReady.nil
          exact AllReady.nil
        refine AllReady.cons rfl (fun K hK => ?_) ?_
        · go_simp
          refine (CQ.out _ (bel_tr B1.out (bel_drewN _ 1))).mono ?_; rintro e w3 ⟨rfl, c3⟩; have B3 : Hid (Below w.heap.size w w3) := bel_tr (bel_tr B1.out (bel_drewN w1 1)) c3; have BB3 : Hid (Below w1.heap.size w1 w3) := bel_tr (bel_drewN w1 1) c3; have v1 := bel_cell BB3.out y1; have v5 := bel_cell BB3.out y5; have vk := bel_cell BB3.out k4; clear c3
          try go_simp
          refine hK _ _ ?_
          clear hK K; refine wpAny_ready (rs := [5]) (by kernel_rfl) (by simp) ?_
          refine AllReady.cons rfl (fun K hK => ?_) ?_
          · go_simp
            refine hK _ _ ?_
            clear hK K; refine wpAny_take (i := 13) (v := ?_) rfl (by kernel_rfl) (by kernel_rfl) (by kernel_rfl) (fun _ _ _ h => h) (Or.inl ⟨by rfl, ?_⟩) ?_
            rotate_left
            · intro w; go_simp; first | done | with_reducible rfl
            refine wpAny_take (i := 14) (v := ?_) rfl (by kernel_rfl) (by kernel_rfl) (by kernel_rfl) (fun _ _ _ h => h) (Or.inl ⟨by rfl, ?_⟩) ?_
            rotate_left
            · intro w; go_simp; first | done | with_reducible rfl
            refine wpAny_ready (rs := [15]) (by kernel_rfl) (by simp) ?_
            refine AllReady.cons rfl (fun K hK => ?_) ?_
            · go_simp
              refine (refuse_yes _ _).mono ?_; rintro e w4 ⟨rfl, hw4⟩; subst hw4; exact left_post rfl (LeftR.of B3.out)
            exact AllReady.nil
          exact AllReady.nil
        exact AllReady.nil
      exact AllReady.nil
    exact AllReady.nil
  exact AllReady.nil
theorem renew_ok {base M0 S : Nat} {w : World} {s : Sp} {N L : RS} {ps : List NR} {gb : Nat} {gl : Option Nat} (h : Pre base M0 S w s N L ps gb gl) (e : Ed) (ea : Option Addr) (em eq : Nat) (h1 : s.now ≤ e.n) (h2 : e.n ≤ 9007199254740981) (ys : LS) (hr : renX s.ls e.c e.n = (ys, true)) :
    Calls Tryz.prog 64 #[.pointer (some ⟨S, 0, none⟩), edV e ea em eq] w fun r w' => UnitR S base M0 ⟨s.tx, s.nb, s.ng, e.n, s.ns, ys⟩ w r w' := by
  have HPRE : Hid (Pre base M0 S w s N L ps gb gl) := h
  have CRB : Hid (∀ E W, Calls Tryz.prog 25 #[.bool false, .int .i64 E] W fun e w' => e = .returned (.tuple #[]) ∧ Below W.heap.size W w') := fun E W => (refuse_no E W).mono fun e w' ⟨h1, h2⟩ => ⟨h1, by rw [h2]; exact Below.refl _ _⟩
  have CI : Hid (∀ W, Calls Tryz.prog 45 #[.int .i64 e.n, .int .i64 s.now, .int .i64 9007199254740981] W fun e w' => e = .returned (.bool true) ∧ Below W.heap.size W w') := fun W => (within_val _ _ _ true W (Edi.inB_yes h1 h2)).mono fun e w' ⟨h1, h2⟩ => ⟨h1, by rw [h2]; exact Below.refl _ _⟩
  have CL : Hid (∀ W, Pre base M0 S W ⟨s.tx, s.nb, s.ng, e.n, s.ns, s.ls⟩ N L ps gb gl → Calls Tryz.prog 101 #[.pointer (some ⟨S, 0, none⟩), .int .i64 e.c] W fun r w' => RnwR S ⟨s.tx, s.nb, s.ng, e.n, s.ns, s.ls⟩ N ys W r w') := fun W hP => renewLease_ok hP.c hP.own.lo.ll e.c ys hr
  have k3 := h.c.c3
  have K3 : Hid (w.cell? ⟨S, 3, none⟩ = some (.int .i64 s.now)) := k3
  have HN3 : Hid (∀ w2, Below w.heap.size w w2 → Pre base M0 S (w2.setCell ⟨S, 3, none⟩ (.int .i64 e.n)) ⟨s.tx, s.nb, s.ng, e.n, s.ns, s.ls⟩ N L ps gb gl ∧ Stay (fun k => k = S) w2 (w2.setCell ⟨S, 3, none⟩ (.int .i64 e.n))) := fun w2 hb => by
    have hP := HPRE.out.below hb
    obtain ⟨a1, a2⟩ := hP.c.set3 e.n
    have hsb := hP.sb
    have ho := hP.own.out a2 (fun k hk => by omega)
    exact ⟨⟨a1, ⟨ho.lot, ho.map, ho.lo, ho.sep, ho.gl1, ho.gl2⟩, hP.na, hP.sb, Nat.le_trans hP.bw a2.size, hP.m1, hP.m2, hP.m3, Nat.le_trans hP.mw a2.size⟩, a2⟩
  obtain ⟨k, p, t, cl, l, nn, ls⟩ := e
  obtain ⟨tx, nb, ng, now, ns, lss⟩ := s
  unfold edV; simp only at CI CL HN3 K3 ⊢
  have hst := run_store_str
  have hst2 := sto2
  clear h h1 h2 hr k3; go_enter Tryz.func64, Tryz.ntmps64; go_wp2; have y3 := World.cell?_alloc_new w #[.int .i64 k, .string p, .string t, .int .i64 cl, .int .i64 l, .int .i64 nn, .slice ea em eq] 42 3
  have y5 := World.cell?_alloc_new w #[.int .i64 k, .string p, .string t, .int .i64 cl, .int .i64 l, .int .i64 nn, .slice ea em eq] 42 5
  have Y3 : Hid ((w.alloc (.cells #[.int .i64 k, .string p, .string t, .int .i64 cl, .int .i64 l, .int .i64 nn, .slice ea em eq] 42)).cell? ⟨w.heap.size, 3, none⟩ = some (.int .i64 cl)) := y3
  have Y5 : Hid ((w.alloc (.cells #[.int .i64 k, .string p, .string t, .int .i64 cl, .int .i64 l, .int .i64 nn, .slice ea em eq] 42)).cell? ⟨w.heap.size, 5, none⟩ = some (.int .i64 nn)) := y5
  have KA : Hid ((w.alloc (.cells #[.int .i64 k, .string p, .string t, .int .i64 cl, .int .i64 l, .int .i64 nn, .slice ea em eq] 42)).cell? ⟨S, 3, none⟩ = some (.int .i64 now)) := cell_al K3.out _
  have B0 : Hid (Below w.heap.size w (w.alloc (.cells #[.int .i64 k, .string p, .string t, .int .i64 cl, .int .i64 l, .int .i64 nn, .slice ea em eq] 42))) := bel_al _ _
  clear y3 y5; generalize w.alloc (.cells #[.int .i64 k, .string p, .string t, .int .i64 cl, .int .i64 l, .int .i64 nn, .slice ea em eq] 42) = W0 at *
  have r5 : ∀ dd os, (Sort.grow (redrawn W0 dd) os).cell? ⟨w.heap.size, 5, none⟩ = some (.int .i64 nn) := fun dd os => cell_regrown Y5.out dd os
  have r3 : ∀ dd os, (Sort.grow (redrawn W0 dd) os).cell? ⟨S, 3, none⟩ = some (.int .i64 now) := fun dd os => cell_regrown KA.out dd os
  refine wp_region_quiet_below (by kernel_rfl) (by kernel_rfl) ?_
  repeat (first | go_big_quiet_step (first | exact Calls.regrown_of (CRB.out _ _) | exact Calls.regrown_of (CI.out _)) | quiet_step (first | exact Calls.regrown_of (CRB.out _ _) | exact Calls.regrown_of (CI.out _)))
  refine wpQuiet_nil ?_
  intro _ hw'
  obtain ⟨⟨dq, osq⟩, hw''⟩ := hw'
  subst hw''
  have B5 : Hid (Below w.heap.size w (Sort.grow (redrawn W0 dq) osq)) := bel_tr B0.out (below_regrown W0 dq osq)
  have z5 := r5 dq osq
  have z3 := cell_regrown Y3.out dq osq
  have zn := r3 dq osq
  have hfz := (HPRE.out.below B5.out).c.fr 3
  have HP5 : Hid _ := HN3.out _ B5.out
  clear r5 r3; generalize Sort.grow (redrawn W0 dq) osq = w5 at *
  have hne : w.heap.size ≠ S := by have := HPRE.out.lt; omega
  have z3b : (w5.setCell ⟨S, 3, none⟩ (.int .i64 nn)).cell? ⟨w.heap.size, 3, none⟩ = some (.int .i64 cl) := (other_block _ _ _ _ _ _ (fun e => hne e.symm)).trans z3
  go_wp2_with (go_at_call 101; refine (CL.out _ HP5.out.1).mono ?_; rintro e w6 ⟨⟨L', gl', rfl, hC6, hL6⟩, hS6⟩; have HC6 : Hid _ := hC6; have HL6 : Hid _ := hL6; have HS6 : Hid _ := hS6; clear hC6 hL6 hS6)
  first | go_end0 | refine bodyPost_ret (results_none rfl _ _ _) rfl ?_
  have hsb := HPRE.out.sb
  exact ⟨⟨N, L', ps, some gb, gl', rfl, HC6.out, HP5.out.1.own.m.renew (Nat.le_refl _) hsb HP5.out.1.bw HL6.out HS6.out, fun k hk => .inl (by cases hk; exact HPRE.out.m1), fun k hk => .inr (Nat.le_trans (Nat.le_trans B5.out.size HP5.out.2.size) (HL6.out.own k hk).2), fun x hx k hk => .inl (HPRE.out.m3 x hx k hk)⟩, ((Stay.of_below B5.out).trans HP5.out.2 (fun k _ e => .inl e)).trans HS6.out (fun k _ e => .inl e)⟩
theorem renew_no {base M0 S : Nat} {w : World} {s : Sp} {N L : RS} {ps : List NR} {gb : Nat} {gl : Option Nat} (h : Pre base M0 S w s N L ps gb gl) (e : Ed) (ea : Option Addr) (em eq : Nat) (hx : ¬ (s.now ≤ e.n ∧ e.n ≤ 9007199254740981)) :
    Calls Tryz.prog 64 #[.pointer (some ⟨S, 0, none⟩), edV e ea em eq] w fun r w' => LeftR S base M0 1 w r w' := by
  have CI : Hid (∀ W, Calls Tryz.prog 45 #[.int .i64 e.n, .int .i64 s.now, .int .i64 9007199254740981] W fun e w' => e = .returned (.bool false) ∧ W = w') := fun W => (within_val _ _ _ false W (Edi.inB_no (by omega))).mono fun e w' ⟨h1, h2⟩ => ⟨h1, h2.symm⟩
  have k3 := h.c.c3
  have K3 : Hid (w.cell? ⟨S, 3, none⟩ = some (.int .i64 s.now)) := k3
  obtain ⟨k, p, t, cl, l, nn, ls⟩ := e
  obtain ⟨tx, nb, ng, now, ns, lss⟩ := s
  unfold edV; simp only at CI K3 ⊢
  have hst := run_store_str
  clear h hx k3; go_enter Tryz.func64, Tryz.ntmps64; go_wp2; have ka := cell_al K3.out (.cells #[.int .i64 k, .string p, .string t, .int .i64 cl, .int .i64 l, .int .i64 nn, .slice ea em eq] 42)
  refine wp_region_any (by kernel_rfl) ?_
  try (change wpAny _ _ _ _ _ _ _ (World.drew _))
  refine wpAny_take (i := 0) (v := ?_) rfl (by kernel_rfl) (by kernel_rfl) (by kernel_rfl) (fun _ _ _ h => h) (Or.inl ⟨by rfl, ?_⟩) ?_
  rotate_left
  · intro w; go_simp; first | done | with_reducible rfl
  refine wpAny_take (i := 2) (v := ?_) rfl (by kernel_rfl) (by kernel_rfl) (by kernel_rfl) (fun _ _ _ h => h) (Or.inl ⟨by rfl, ?_⟩) ?_
  rotate_left
  · intro w; go_simp; first | done | with_reducible rfl
  refine wpAny_take (i := 3) (v := ?_) rfl (by kernel_rfl) (by kernel_rfl) (by kernel_rfl) (fun _ _ _ h => h) (Or.inl ⟨by rfl, ?_⟩) ?_
  rotate_left
  · intro w; go_simp; first | done | with_reducible rfl
  refine wpAny_take (i := 4) (v := ?_) rfl (by kernel_rfl) (by kernel_rfl) (by kernel_rfl) (fun _ _ _ h => h) (Or.inl ⟨by rfl, ?_⟩) ?_
  rotate_left
  · intro w; go_simp; first | done | with_reducible rfl
  refine wpAny_ready (rs := [1, 5]) (by kernel_rfl) (by simp) ?_
  refine AllReady.cons rfl (fun K hK => ?_) ?_
  · go_simp
    refine hK _ _ ?_
    clear hK K; refine wpAny_ready (rs := [5]) (by kernel_rfl) (by simp) ?_
    refine AllReady.cons rfl (fun K hK => ?_) ?_
    · go_simp
      refine hK _ _ ?_
      clear hK K; refine wpAny_ready (rs := [6]) (by kernel_rfl) (by simp) ?_
      refine AllReady.cons rfl (fun K hK => ?_) ?_
      · go_simp
        refine (CI.out _).mono ?_; rintro e w3 ⟨rfl, rfl⟩
        try go_simp
        refine hK _ _ ?_
        clear hK K; refine wpAny_take (i := 7) (v := ?_) rfl (by kernel_rfl) (by kernel_rfl) (by kernel_rfl) (fun _ _ _ h => h) (Or.inl ⟨by rfl, ?_⟩) ?_
        rotate_left
        · intro w; go_simp; first | done | with_reducible rfl
        refine wpAny_ready (rs := [8]) (by kernel_rfl) (by simp) ?_
        refine AllReady.cons rfl (fun K hK => ?_) ?_
        · go_simp
          refine (refuse_yes _ _).mono ?_; rintro e w4 ⟨rfl, hw4⟩; subst hw4; exact left_post rfl (LeftR.of (bel_tr (bel_al _ _) (bel_drewN _ 1)))
        exact AllReady.nil
      exact AllReady.nil
    exact AllReady.nil
  refine AllReady.cons rfl (fun K hK => ?_) ?_
  · go_simp
    refine hK _ _ ?_
    clear hK K; refine wpAny_ready (rs := [1]) (by kernel_rfl) (by simp) ?_
    refine AllReady.cons rfl (fun K hK => ?_) ?_
    · go_simp
      refine hK _ _ ?_
      clear hK K; refine wpAny_ready (rs := [6]) (by kernel_rfl) (by simp) ?_
      refine AllReady.cons rfl (fun K hK => ?_) ?_
      · go_simp
        refine (CI.out _).mono ?_; rintro e w3 ⟨rfl, rfl⟩
        try go_simp
        refine hK _ _ ?_
        clear hK K; refine wpAny_take (i := 7) (v := ?_) rfl (by kernel_rfl) (by kernel_rfl) (by kernel_rfl) (fun _ _ _ h => h) (Or.inl ⟨by rfl, ?_⟩) ?_
        rotate_left
        · intro w; go_simp; first | done | with_reducible rfl
        refine wpAny_ready (rs := [8]) (by kernel_rfl) (by simp) ?_
        refine AllReady.cons rfl (fun K hK => ?_) ?_
        · go_simp
          refine (refuse_yes _ _).mono ?_; rintro e w4 ⟨rfl, hw4⟩; subst hw4; exact left_post rfl (LeftR.of (bel_tr (bel_al _ _) (bel_drewN _ 1)))
        exact AllReady.nil
      exact AllReady.nil
    exact AllReady.nil
  exact AllReady.nil
theorem Pre.nl {base M0 S : Nat} {w : World} {s : Sp} {N L : RS} {ps : List NR} {gb : Nat} {gl : Option Nat} (h : Pre base M0 S w s N L ps gb gl) (hp : 0 < ps.length) : NL w (some ⟨gb, 0, none⟩) N.n s.ns := by
  have := (h.lies hp).nl
  rw [h.own.map] at this
  exact this
theorem Pre.c4' {base M0 S : Nat} {w : World} {s : Sp} {N L : RS} {ps : List NR} {gb : Nat} {gl : Option Nat} (h : Pre base M0 S w s N L ps gb gl) : w.cell? ⟨S, 4, none⟩ = some (.slice (some ⟨gb, 0, none⟩) N.n N.c) := by
  have := h.c.c4
  rw [h.na] at this
  exact this
theorem Pre.newNs {base M0 S : Nat} {w w1 : World} {s : Sp} {N L : RS} {ps : List NR} {gb : Nat} {gl : Option Nat} (h : Pre base M0 S w s N L ps gb gl) {W : Nat} (hW : w.heap.size ≤ W) (hb : Below w.heap.size w w1) {N' : RS} {ns : NS} (hX : LX W w1 N'.a N'.n N'.c ns) :
    ∃ ps' g', SpC (w1.setCell ⟨S, 4, none⟩ (.slice N'.a N'.n N'.c)) S ⟨s.tx, s.nb, s.ng, s.now, ns, s.ls⟩ N' L ∧ OwnM base w1.heap.size (w1.setCell ⟨S, 4, none⟩ (.slice N'.a N'.n N'.c)) ⟨s.tx, s.nb, s.ng, s.now, ns, s.ls⟩ N' L ps' g' gl ∧ Stay (fun k => k = S) w (w1.setCell ⟨S, 4, none⟩ (.slice N'.a N'.n N'.c)) ∧ (∀ k, g' = some k → w.heap.size ≤ k) ∧ (∀ x ∈ ps', ∀ k, x.2.blk = some k → w.heap.size ≤ k) := by
  obtain ⟨ps', g', hm, hl⟩ := hX.ex
  have hP := h.below hb
  have hsb := hP.sb
  have hbw := h.bw
  obtain ⟨a1, a2⟩ := hP.c.set4 N' ns
  have hgl := h.own.lo.own
  have hg : ∀ k, g' = some k → k < w1.heap.size ∧ W ≤ k := fun k hk => by have := hl.cel; rw [hk] at this; exact this.lt
  have hO : OwnM base w1.heap.size w1 ⟨s.tx, s.nb, s.ng, s.now, ns, s.ls⟩ N' L ps' g' gl :=
    ⟨hl.mono (by omega), hm, hP.own.lo, fun k hk e => by have := (hg k hk).2; have := (hgl k e).1; omega, fun x hx k hk e => by have := (hl.ok x hx).blk_ge k hk; have := (hgl k e).1; omega, fun k hk => (hg k hk).1, fun k hk => by have := (hgl k hk).1; have := hb.size; omega, fun x hx k hk => (hl.ok x hx).ok.bs.lt k hk⟩
  exact ⟨ps', g', a1, hO.out a2 (fun k hk => .inl (by omega)), (Stay.of_below hb).trans a2 (fun k _ e => e), fun k hk => Nat.le_trans hW (hg k hk).2, fun x hx k hk => Nat.le_trans hW ((hl.ok x hx).blk_ge k hk)⟩
structure AddR (S base : Nat) (t : Sp) (L : RS) (gl : Option Nat) (w : World) (r : Ending) (w' : World) : Prop where
  ex : ∃ N ps g, r = .returned (.tuple #[]) ∧ SpC w' S t N L ∧ OwnM base w'.heap.size w' t N L ps g gl ∧ (∀ k, g = some k → w.heap.size ≤ k) ∧ (∀ x ∈ ps, ∀ k, x.2.blk = some k → w.heap.size ≤ k)
  st : Stay (fun k => k = S) w w'
theorem split_small {p : ByteArray} (h : splitE p = 0) : p.size ≤ 120 := by
  rw [splitX_ok h]; exact pathT_small (split_ok h).1
theorem parD_small {xs : NS} {x : Nd} (h : AddE xs x 0) : (parD x.path).size ≤ 120 := by
  cases h with
  | par e h1 h2 h3 h4 h5 h6 => exact absurd rfl h6
  | ok h1 h2 h3 h4 h5 h6 =>
    obtain ⟨d, n, _, hd, _, _, hE⟩ := par_ex (fits_path h2) h3
    rw [hd]; exact split_small hE
theorem setC_size (w : World) (a : Addr) (v : Value) : (w.setCell a v).heap.size = w.heap.size := by simp [World.setCell]
theorem add_no {base M0 S : Nat} {w : World} {s : Sp} {N L : RS} {ps : List NR} {gb : Nat} {gl : Option Nat} (h : Pre base M0 S w s N L ps gb gl) (hp : 0 < ps.length) (x : Nd) (hx : NdOk w (x, noS)) (E : Int) (hA : AddE s.ns x E) (h0 : E ≠ 0) :
    Calls Tryz.prog 56 #[.pointer (some ⟨S, 0, none⟩), ndV (x, noS)] w fun r w' => LeftR S base M0 E w r w' := by
  have HPRE : Hid (Pre base M0 S w s N L ps gb gl) := h
  have CA : Hid (∀ W, Below w.heap.size w W → Calls Tryz.prog 97 #[.slice (some ⟨gb, 0, none⟩) N.n N.c, ndV (x, noS)] W fun e w' => TwoR W.heap.size (addL s.ns x E) E e w' ∧ Below W.heap.size W w') := fun W hb => add_val ((h.below hb).nl hp) (x, noS) (hx.below hb) E hA
  have k4 := h.c4'
  have K4 : Hid (w.cell? ⟨S, 4, none⟩ = some (.slice (some ⟨gb, 0, none⟩) N.n N.c)) := k4
  have h0b : (E != 0) = true := by simpa using h0
  obtain ⟨xp, xd, xq, xb, xw⟩ := x
  unfold ndV noS at CA ⊢
  simp only at CA ⊢
  have hst := run_store_str
  clear h hp hx hA h0 k4; go_enter Tryz.func56, Tryz.ntmps56; go_wp2; have ka := cell_al K4.out (.cells #[.string xp, .bool xd, .int .i64 xq, .slice none 0 0, .int .i64 xw] 35)
  refine wp_region_any (by kernel_rfl) ?_
  try (change wpAny _ _ _ _ _ _ _ (World.drew _))
  refine wpAny_take (i := 0) (v := ?_) rfl (by kernel_rfl) (by kernel_rfl) (by kernel_rfl) (fun _ _ _ h => h) (Or.inl ⟨by rfl, ?_⟩) ?_
  rotate_left
  · intro w; go_simp; first | done | with_reducible rfl
  refine wpAny_take (i := 1) (v := ?_) rfl (by kernel_rfl) (by kernel_rfl) (by kernel_rfl) (fun _ _ _ h => h) (Or.inl ⟨by rfl, ?_⟩) ?_
  rotate_left
  · intro w; go_simp; first | done | with_reducible rfl
  refine wpAny_take (i := 2) (v := ?_) rfl (by kernel_rfl) (by kernel_rfl) (by kernel_rfl) (fun _ _ _ h => h) (Or.inl ⟨by rfl, ?_⟩) ?_
  rotate_left
  · intro w; go_simp; first | done | with_reducible rfl
  refine wpAny_ready (rs := [3, 4]) (by kernel_rfl) (by simp) ?_
  refine AllReady.cons rfl (fun K hK => ?_) ?_
  · go_simp
    refine hK _ _ ?_
    clear hK K; refine wpAny_ready (rs := [4]) (by kernel_rfl) (by simp) ?_
    refine AllReady.cons rfl (fun K hK => ?_) ?_
    · go_simp
      refine hK _ _ ?_
      clear hK K; refine wpAny_ready (rs := [5]) (by kernel_rfl) (by simp) ?_
      refine AllReady.cons rfl (fun K hK => ?_) ?_
      · go_simp
        refine (CA.out _ (bel_tr (bel_al _ _) (bel_drewN _ 1))).mono ?_; rintro e w1 ⟨⟨na, nn, nc, rfl, hX⟩, c1⟩; have B1 : Hid (Below w.heap.size w w1) := bel_tr (bel_tr (bel_al _ _) (bel_drewN _ 1)) c1; have y0 := bel_cell (bel_tr (bel_drewN _ 1) c1) (World.cell?_alloc_new w _ _ 0); have d4 := bel_cell B1.out K4.out; have HX : Hid _ := hX; clear hX c1
        try go_simp
        refine hK _ _ ?_
        clear hK K; refine wpAny_take (i := 6) (v := ?_) rfl (by kernel_rfl) (by kernel_rfl) (by kernel_rfl) (fun _ _ _ h => h) (Or.inl ⟨by rfl, ?_⟩) ?_
        rotate_left
        · intro w; go_simp; first | done | with_reducible rfl
        refine wpAny_take (i := 7) (v := ?_) rfl (by kernel_rfl) (by kernel_rfl) (by kernel_rfl) (fun _ _ _ h => h) (Or.inl ⟨by rfl, ?_⟩) ?_
        rotate_left
        · intro w; go_simp; first | done | with_reducible rfl
        refine wpAny_ready (rs := [8]) (by kernel_rfl) (by simp) ?_
        refine AllReady.cons rfl (fun K hK => ?_) ?_
        · go_simp
          refine (takenN_no _ h0b _).mono ?_; rintro e w2 ⟨rfl, hw2⟩; subst hw2; exact left_post rfl (LeftR.of B1.out)
        exact AllReady.nil
      exact AllReady.nil
    exact AllReady.nil
  refine AllReady.cons rfl (fun K hK => ?_) ?_
  · go_simp
    refine hK _ _ ?_
    clear hK K; refine wpAny_ready (rs := [3]) (by kernel_rfl) (by simp) ?_
    refine AllReady.cons rfl (fun K hK => ?_) ?_
    · go_simp
      refine hK _ _ ?_
      clear hK K; refine wpAny_ready (rs := [5]) (by kernel_rfl) (by simp) ?_
      refine AllReady.cons rfl (fun K hK => ?_) ?_
      · go_simp
        refine (CA.out _ (bel_tr (bel_al _ _) (bel_drewN _ 1))).mono ?_; rintro e w1 ⟨⟨na, nn, nc, rfl, hX⟩, c1⟩; have B1 : Hid (Below w.heap.size w w1) := bel_tr (bel_tr (bel_al _ _) (bel_drewN _ 1)) c1; have y0 := bel_cell (bel_tr (bel_drewN _ 1) c1) (World.cell?_alloc_new w _ _ 0); have d4 := bel_cell B1.out K4.out; have HX : Hid _ := hX; clear hX c1
        try go_simp
        refine hK _ _ ?_
        clear hK K; refine wpAny_take (i := 6) (v := ?_) rfl (by kernel_rfl) (by kernel_rfl) (by kernel_rfl) (fun _ _ _ h => h) (Or.inl ⟨by rfl, ?_⟩) ?_
        rotate_left
        · intro w; go_simp; first | done | with_reducible rfl
        refine wpAny_take (i := 7) (v := ?_) rfl (by kernel_rfl) (by kernel_rfl) (by kernel_rfl) (fun _ _ _ h => h) (Or.inl ⟨by rfl, ?_⟩) ?_
        rotate_left
        · intro w; go_simp; first | done | with_reducible rfl
        refine wpAny_ready (rs := [8]) (by kernel_rfl) (by simp) ?_
        refine AllReady.cons rfl (fun K hK => ?_) ?_
        · go_simp
          refine (takenN_no _ h0b _).mono ?_; rintro e w2 ⟨rfl, hw2⟩; subst hw2; exact left_post rfl (LeftR.of B1.out)
        exact AllReady.nil
      exact AllReady.nil
    exact AllReady.nil
  exact AllReady.nil
theorem add_full {base M0 S : Nat} {w : World} {s : Sp} {N L : RS} {ps : List NR} {gb : Nat} {gl : Option Nat} (h : Pre base M0 S w s N L ps gb gl) (hp : 0 < ps.length) (x : Nd) (hx : NdOk w (x, noS)) (hA : AddE s.ns x 0) (hR : Right s.ns) (hr : roomI s.ns (parD x.path) < 1) :
    Calls Tryz.prog 56 #[.pointer (some ⟨S, 0, none⟩), ndV (x, noS)] w fun r w' => LeftR S base M0 8 w r w' := by
  have HPRE : Hid (Pre base M0 S w s N L ps gb gl) := h
  have CA : Hid (∀ W, Below w.heap.size w W → Calls Tryz.prog 97 #[.slice (some ⟨gb, 0, none⟩) N.n N.c, ndV (x, noS)] W fun e w' => TwoR W.heap.size (addL s.ns x 0) 0 e w' ∧ Below W.heap.size W w') := fun W hb => add_val ((h.below hb).nl hp) (x, noS) (hx.below hb) 0 hA
  have k4 := h.c4'
  have K4 : Hid (w.cell? ⟨S, 4, none⟩ = some (.slice (some ⟨gb, 0, none⟩) N.n N.c)) := k4
  obtain ⟨⟨D, M, F⟩, hP⟩ : ∃ y, parentX x.path = y := ⟨_, rfl⟩
  have hD : parD x.path = D := by unfold parD; rw [hP]
  have hsD : D.size ≤ maxLen := by
    have := parD_small hA
    rw [hD] at this; unfold maxLen; omega
  obtain ⟨R, hRR⟩ : ∃ R, roomI s.ns D = R := ⟨_, rfl⟩
  rw [hD, hRR] at hr
  have hrb : decide (R < 1) = true := decide_eq_true hr
  have CP : Hid (∀ W, Calls Tryz.prog 98 #[.string x.path] W fun e w' => e = .returned (.tuple #[.string D, .string M, .int .i64 F]) ∧ Below W.heap.size W w') := fun W => parent_val x.path D M F W hx.small hP
  have CM : Hid (∀ W, Below w.heap.size w W → Calls Tryz.prog 99 #[.slice (some ⟨gb, 0, none⟩) N.n N.c, .string D] W fun e w' => e = .returned (.int .i64 R) ∧ Below W.heap.size W w') := fun W hb => room_val ((h.below hb).nl hp) true ⟨fun _ => hR, fun _ => rfl⟩ D hsD R hRR
  have CT : Hid (∀ W a n c, Calls Tryz.prog 58 #[.slice a n c, .int .i64 0] W fun e w' => e = .returned (.slice a n c) ∧ W = w') := fun W a n c => (takenN_ok W).mono fun e w' ⟨h1, h2⟩ => ⟨h1, h2.symm⟩
  obtain ⟨xp, xd, xq, xb, xw⟩ := x
  unfold ndV noS at CA ⊢
  simp only at CA CP ⊢
  have hst := run_store_str
  clear h hp hx hA hR hr hRR hsD hD hP k4; go_enter Tryz.func56, Tryz.ntmps56; go_wp2; have ka := cell_al K4.out (.cells #[.string xp, .bool xd, .int .i64 xq, .slice none 0 0, .int .i64 xw] 35)
  refine wp_region_any (by kernel_rfl) ?_
  try (change wpAny _ _ _ _ _ _ _ (World.drew _))
  refine wpAny_take (i := 0) (v := ?_) rfl (by kernel_rfl) (by kernel_rfl) (by kernel_rfl) (fun _ _ _ h => h) (Or.inl ⟨by rfl, ?_⟩) ?_
  rotate_left
  · intro w; go_simp; first | done | with_reducible rfl
  refine wpAny_take (i := 1) (v := ?_) rfl (by kernel_rfl) (by kernel_rfl) (by kernel_rfl) (fun _ _ _ h => h) (Or.inl ⟨by rfl, ?_⟩) ?_
  rotate_left
  · intro w; go_simp; first | done | with_reducible rfl
  refine wpAny_take (i := 2) (v := ?_) rfl (by kernel_rfl) (by kernel_rfl) (by kernel_rfl) (fun _ _ _ h => h) (Or.inl ⟨by rfl, ?_⟩) ?_
  rotate_left
  · intro w; go_simp; first | done | with_reducible rfl
  refine wpAny_ready (rs := [3, 4]) (by kernel_rfl) (by simp) ?_
  refine AllReady.cons rfl (fun K hK => ?_) ?_
  · go_simp
    refine hK _ _ ?_
    clear hK K; refine wpAny_ready (rs := [4]) (by kernel_rfl) (by simp) ?_
    refine AllReady.cons rfl (fun K hK => ?_) ?_
    · go_simp
      refine hK _ _ ?_
      clear hK K; refine wpAny_ready (rs := [5]) (by kernel_rfl) (by simp) ?_
      refine AllReady.cons rfl (fun K hK => ?_) ?_
      · go_simp
        refine (CA.out _ (bel_tr (bel_al _ _) (bel_drewN _ 1))).mono ?_; rintro e w1 ⟨⟨na, nn, nc, rfl, hX⟩, c1⟩; have B1 : Hid (Below w.heap.size w w1) := bel_tr (bel_tr (bel_al _ _) (bel_drewN _ 1)) c1; have y0 := bel_cell (bel_tr (bel_drewN _ 1) c1) (World.cell?_alloc_new w _ _ 0); have d4 := bel_cell B1.out K4.out; have HX : Hid _ := hX; clear hX c1
        try go_simp
        refine hK _ _ ?_
        clear hK K; refine wpAny_take (i := 6) (v := ?_) rfl (by kernel_rfl) (by kernel_rfl) (by kernel_rfl) (fun _ _ _ h => h) (Or.inl ⟨by rfl, ?_⟩) ?_
        rotate_left
        · intro w; go_simp; first | done | with_reducible rfl
        refine wpAny_take (i := 7) (v := ?_) rfl (by kernel_rfl) (by kernel_rfl) (by kernel_rfl) (fun _ _ _ h => h) (Or.inl ⟨by rfl, ?_⟩) ?_
        rotate_left
        · intro w; go_simp; first | done | with_reducible rfl
        refine wpAny_ready (rs := [8]) (by kernel_rfl) (by simp) ?_
        refine AllReady.cons rfl (fun K hK => ?_) ?_
        · go_simp
          refine (CT.out _ _ _ _).mono ?_; rintro e w2 ⟨rfl, rfl⟩
          try go_simp
          refine hK _ _ ?_
          clear hK K; refine wpAny_take (i := 9) (v := ?_) rfl (by kernel_rfl) (by kernel_rfl) (by kernel_rfl) (fun _ _ _ h => h) (Or.inl ⟨by rfl, ?_⟩) ?_
          rotate_left
          · intro w; go_simp; first | done | with_reducible rfl
          refine wpAny_done (by kernel_rfl) ?_ _
          go_wp2_with (first
            | (go_at_call 98; refine (CP.out _).mono ?_; rintro e w3 ⟨rfl, c3⟩; have B3 : Hid (Below w.heap.size w w3) := bel_tr B1.out c3; have d43 := bel_cell B3.out K4.out; have BB3 : Hid _ := c3; clear c3)
            | (go_at_call 99; refine (CM.out _ B3.out).mono ?_; rintro e w4 ⟨rfl, c4⟩; have B4 : Hid (Below w.heap.size w w4) := bel_tr B3.out c4; clear c4)
            | (go_at_call 25; refine (refuse_yes _ _).mono ?_; rintro e w5 ⟨rfl, hw5⟩; subst hw5))
          exact left_post rfl (LeftR.of B4.out)
        exact AllReady.nil
      exact AllReady.nil
    exact AllReady.nil
  refine AllReady.cons rfl (fun K hK => ?_) ?_
  · go_simp
    refine hK _ _ ?_
    clear hK K; refine wpAny_ready (rs := [3]) (by kernel_rfl) (by simp) ?_
    refine AllReady.cons rfl (fun K hK => ?_) ?_
    · go_simp
      refine hK _ _ ?_
      clear hK K; refine wpAny_ready (rs := [5]) (by kernel_rfl) (by simp) ?_
      refine AllReady.cons rfl (fun K hK => ?_) ?_
      · go_simp
        refine (CA.out _ (bel_tr (bel_al _ _) (bel_drewN _ 1))).mono ?_; rintro e w1 ⟨⟨na, nn, nc, rfl, hX⟩, c1⟩; have B1 : Hid (Below w.heap.size w w1) := bel_tr (bel_tr (bel_al _ _) (bel_drewN _ 1)) c1; have y0 := bel_cell (bel_tr (bel_drewN _ 1) c1) (World.cell?_alloc_new w _ _ 0); have d4 := bel_cell B1.out K4.out; have HX : Hid _ := hX; clear hX c1
        try go_simp
        refine hK _ _ ?_
        clear hK K; refine wpAny_take (i := 6) (v := ?_) rfl (by kernel_rfl) (by kernel_rfl) (by kernel_rfl) (fun _ _ _ h => h) (Or.inl ⟨by rfl, ?_⟩) ?_
        rotate_left
        · intro w; go_simp; first | done | with_reducible rfl
        refine wpAny_take (i := 7) (v := ?_) rfl (by kernel_rfl) (by kernel_rfl) (by kernel_rfl) (fun _ _ _ h => h) (Or.inl ⟨by rfl, ?_⟩) ?_
        rotate_left
        · intro w; go_simp; first | done | with_reducible rfl
        refine wpAny_ready (rs := [8]) (by kernel_rfl) (by simp) ?_
        refine AllReady.cons rfl (fun K hK => ?_) ?_
        · go_simp
          refine (CT.out _ _ _ _).mono ?_; rintro e w2 ⟨rfl, rfl⟩
          try go_simp
          refine hK _ _ ?_
          clear hK K; refine wpAny_take (i := 9) (v := ?_) rfl (by kernel_rfl) (by kernel_rfl) (by kernel_rfl) (fun _ _ _ h => h) (Or.inl ⟨by rfl, ?_⟩) ?_
          rotate_left
          · intro w; go_simp; first | done | with_reducible rfl
          refine wpAny_done (by kernel_rfl) ?_ _
          go_wp2_with (first
            | (go_at_call 98; refine (CP.out _).mono ?_; rintro e w3 ⟨rfl, c3⟩; have B3 : Hid (Below w.heap.size w w3) := bel_tr B1.out c3; have d43 := bel_cell B3.out K4.out; have BB3 : Hid _ := c3; clear c3)
            | (go_at_call 99; refine (CM.out _ B3.out).mono ?_; rintro e w4 ⟨rfl, c4⟩; have B4 : Hid (Below w.heap.size w w4) := bel_tr B3.out c4; clear c4)
            | (go_at_call 25; refine (refuse_yes _ _).mono ?_; rintro e w5 ⟨rfl, hw5⟩; subst hw5))
          exact left_post rfl (LeftR.of B4.out)
        exact AllReady.nil
      exact AllReady.nil
    exact AllReady.nil
  exact AllReady.nil
theorem add_ok {base M0 S : Nat} {w : World} {s : Sp} {N L : RS} {ps : List NR} {gb : Nat} {gl : Option Nat} (h : Pre base M0 S w s N L ps gb gl) (hp : 0 < ps.length) (x : Nd) (hx : NdOk w (x, noS)) (hA : AddE s.ns x 0) (hR : Right s.ns) (hr : 1 ≤ roomI s.ns (parD x.path)) :
    Calls Tryz.prog 56 #[.pointer (some ⟨S, 0, none⟩), ndV (x, noS)] w fun r w' => AddR S base ⟨s.tx, s.nb, s.ng, s.now, sortN (s.ns ++ [x]), s.ls⟩ L gl w r w' := by
  have HPRE : Hid (Pre base M0 S w s N L ps gb gl) := h
  have CA : Hid (∀ W, Below w.heap.size w W → Calls Tryz.prog 97 #[.slice (some ⟨gb, 0, none⟩) N.n N.c, ndV (x, noS)] W fun e w' => TwoR W.heap.size (addL s.ns x 0) 0 e w' ∧ Below W.heap.size W w') := fun W hb => add_val ((h.below hb).nl hp) (x, noS) (hx.below hb) 0 hA
  have k4 := h.c4'
  have K4 : Hid (w.cell? ⟨S, 4, none⟩ = some (.slice (some ⟨gb, 0, none⟩) N.n N.c)) := k4
  obtain ⟨⟨D, M, F⟩, hP⟩ : ∃ y, parentX x.path = y := ⟨_, rfl⟩
  have hD : parD x.path = D := by unfold parD; rw [hP]
  have hsD : D.size ≤ maxLen := by
    have := parD_small hA
    rw [hD] at this; unfold maxLen; omega
  obtain ⟨R, hRR⟩ : ∃ R, roomI s.ns D = R := ⟨_, rfl⟩
  rw [hD, hRR] at hr
  have hrb : decide (R < 1) = false := decide_eq_false (by omega)
  have CP : Hid (∀ W, Calls Tryz.prog 98 #[.string x.path] W fun e w' => e = .returned (.tuple #[.string D, .string M, .int .i64 F]) ∧ Below W.heap.size W w') := fun W => parent_val x.path D M F W hx.small hP
  have CM : Hid (∀ W, Below w.heap.size w W → Calls Tryz.prog 99 #[.slice (some ⟨gb, 0, none⟩) N.n N.c, .string D] W fun e w' => e = .returned (.int .i64 R) ∧ Below W.heap.size W w') := fun W hb => room_val ((h.below hb).nl hp) true ⟨fun _ => hR, fun _ => rfl⟩ D hsD R hRR
  have CR : Hid (∀ E W, Calls Tryz.prog 25 #[.bool false, .int .i64 E] W fun e w' => e = .returned (.tuple #[]) ∧ W = w') := fun E W => (refuse_no E W).mono fun e w' ⟨h1, h2⟩ => ⟨h1, h2.symm⟩
  have CT : Hid (∀ W a n c, Calls Tryz.prog 58 #[.slice a n c, .int .i64 0] W fun e w' => e = .returned (.slice a n c) ∧ W = w') := fun W a n c => (takenN_ok W).mono fun e w' ⟨h1, h2⟩ => ⟨h1, h2.symm⟩
  have HAL : Hid (addL s.ns x 0 = sortN (s.ns ++ [x])) := rfl
  obtain ⟨xp, xd, xq, xb, xw⟩ := x
  unfold ndV noS at CA ⊢
  simp only at CA CP HAL ⊢
  have hst := run_store_str
  have hst2 := sto2
  clear h hp hx hA hR hr hRR hsD hD hP k4; go_enter Tryz.func56, Tryz.ntmps56; go_wp2; have ka := cell_al K4.out (.cells #[.string xp, .bool xd, .int .i64 xq, .slice none 0 0, .int .i64 xw] 35)
  refine wp_region_any (by kernel_rfl) ?_
  try (change wpAny _ _ _ _ _ _ _ (World.drew _))
  refine wpAny_take (i := 0) (v := ?_) rfl (by kernel_rfl) (by kernel_rfl) (by kernel_rfl) (fun _ _ _ h => h) (Or.inl ⟨by rfl, ?_⟩) ?_
  rotate_left
  · intro w; go_simp; first | done | with_reducible rfl
  refine wpAny_take (i := 1) (v := ?_) rfl (by kernel_rfl) (by kernel_rfl) (by kernel_rfl) (fun _ _ _ h => h) (Or.inl ⟨by rfl, ?_⟩) ?_
  rotate_left
  · intro w; go_simp; first | done | with_reducible rfl
  refine wpAny_take (i := 2) (v := ?_) rfl (by kernel_rfl) (by kernel_rfl) (by kernel_rfl) (fun _ _ _ h => h) (Or.inl ⟨by rfl, ?_⟩) ?_
  rotate_left
  · intro w; go_simp; first | done | with_reducible rfl
  refine wpAny_ready (rs := [3, 4]) (by kernel_rfl) (by simp) ?_
  refine AllReady.cons rfl (fun K hK => ?_) ?_
  · go_simp
    refine hK _ _ ?_
    clear hK K; refine wpAny_ready (rs := [4]) (by kernel_rfl) (by simp) ?_
    refine AllReady.cons rfl (fun K hK => ?_) ?_
    · go_simp
      refine hK _ _ ?_
      clear hK K; refine wpAny_ready (rs := [5]) (by kernel_rfl) (by simp) ?_
      refine AllReady.cons rfl (fun K hK => ?_) ?_
      · go_simp
        refine (CA.out _ (bel_tr (bel_al _ _) (bel_drewN _ 1))).mono ?_; rintro e w1 ⟨⟨na, nn, nc, rfl, hX⟩, c1⟩; have B1 : Hid (Below w.heap.size w w1) := bel_tr (bel_tr (bel_al _ _) (bel_drewN _ 1)) c1; have y0 := bel_cell (bel_tr (bel_drewN _ 1) c1) (World.cell?_alloc_new w _ _ 0); have d4 := bel_cell B1.out K4.out; have HX : Hid _ := hX; clear hX c1
        try go_simp
        refine hK _ _ ?_
        clear hK K; refine wpAny_take (i := 6) (v := ?_) rfl (by kernel_rfl) (by kernel_rfl) (by kernel_rfl) (fun _ _ _ h => h) (Or.inl ⟨by rfl, ?_⟩) ?_
        rotate_left
        · intro w; go_simp; first | done | with_reducible rfl
        refine wpAny_take (i := 7) (v := ?_) rfl (by kernel_rfl) (by kernel_rfl) (by kernel_rfl) (fun _ _ _ h => h) (Or.inl ⟨by rfl, ?_⟩) ?_
        rotate_left
        · intro w; go_simp; first | done | with_reducible rfl
        refine wpAny_ready (rs := [8]) (by kernel_rfl) (by simp) ?_
        refine AllReady.cons rfl (fun K hK => ?_) ?_
        · go_simp
          refine (CT.out _ _ _ _).mono ?_; rintro e w2 ⟨rfl, rfl⟩
          try go_simp
          refine hK _ _ ?_
          clear hK K; refine wpAny_take (i := 9) (v := ?_) rfl (by kernel_rfl) (by kernel_rfl) (by kernel_rfl) (fun _ _ _ h => h) (Or.inl ⟨by rfl, ?_⟩) ?_
          rotate_left
          · intro w; go_simp; first | done | with_reducible rfl
          refine wpAny_done (by kernel_rfl) ?_ _
          go_wp2_with (first
            | (go_at_call 98; refine (CP.out _).mono ?_; rintro e w3 ⟨rfl, c3⟩; have B3 : Hid (Below w.heap.size w w3) := bel_tr B1.out c3; have d43 := bel_cell B3.out K4.out; have BB3 : Hid (Below w1.heap.size w1 w3) := c3; clear c3)
            | (go_at_call 99; refine (CM.out _ B3.out).mono ?_; rintro e w4 ⟨rfl, c4⟩; have B4 : Hid (Below w.heap.size w w4) := bel_tr B3.out c4; have d44 := bel_cell B4.out K4.out; have BB4 : Hid (Below w1.heap.size w1 w4) := bel_tr BB3.out c4; have hfz := (HPRE.out.below B4.out).c.fr 4; clear c4)
            | (go_at_call 25; refine (CR.out _ _).mono ?_; rintro e w5 ⟨rfl, rfl⟩))
          first | go_end0 | refine bodyPost_ret (results_none rfl _ _ _) rfl ?_
          have hX4 := HX.out.below BB4.out
          rw [HAL.out] at hX4
          obtain ⟨ps', g', r1, r2, r3, r4, r5⟩ := HPRE.out.newNs (N' := ⟨na, nn, nc⟩) (by simp) B4.out hX4
          exact ⟨⟨⟨na, nn, nc⟩, ps', g', rfl, r1, by rw [setC_size]; exact r2, r4, r5⟩, r3⟩
        exact AllReady.nil
      exact AllReady.nil
    exact AllReady.nil
  refine AllReady.cons rfl (fun K hK => ?_) ?_
  · go_simp
    refine hK _ _ ?_
    clear hK K; refine wpAny_ready (rs := [3]) (by kernel_rfl) (by simp) ?_
    refine AllReady.cons rfl (fun K hK => ?_) ?_
    · go_simp
      refine hK _ _ ?_
      clear hK K; refine wpAny_ready (rs := [5]) (by kernel_rfl) (by simp) ?_
      refine AllReady.cons rfl (fun K hK => ?_) ?_
      · go_simp
        refine (CA.out _ (bel_tr (bel_al _ _) (bel_drewN _ 1))).mono ?_; rintro e w1 ⟨⟨na, nn, nc, rfl, hX⟩, c1⟩; have B1 : Hid (Below w.heap.size w w1) := bel_tr (bel_tr (bel_al _ _) (bel_drewN _ 1)) c1; have y0 := bel_cell (bel_tr (bel_drewN _ 1) c1) (World.cell?_alloc_new w _ _ 0); have d4 := bel_cell B1.out K4.out; have HX : Hid _ := hX; clear hX c1
        try go_simp
        refine hK _ _ ?_
        clear hK K; refine wpAny_take (i := 6) (v := ?_) rfl (by kernel_rfl) (by kernel_rfl) (by kernel_rfl) (fun _ _ _ h => h) (Or.inl ⟨by rfl, ?_⟩) ?_
        rotate_left
        · intro w; go_simp; first | done | with_reducible rfl
        refine wpAny_take (i := 7) (v := ?_) rfl (by kernel_rfl) (by kernel_rfl) (by kernel_rfl) (fun _ _ _ h => h) (Or.inl ⟨by rfl, ?_⟩) ?_
        rotate_left
        · intro w; go_simp; first | done | with_reducible rfl
        refine wpAny_ready (rs := [8]) (by kernel_rfl) (by simp) ?_
        refine AllReady.cons rfl (fun K hK => ?_) ?_
        · go_simp
          refine (CT.out _ _ _ _).mono ?_; rintro e w2 ⟨rfl, rfl⟩
          try go_simp
          refine hK _ _ ?_
          clear hK K; refine wpAny_take (i := 9) (v := ?_) rfl (by kernel_rfl) (by kernel_rfl) (by kernel_rfl) (fun _ _ _ h => h) (Or.inl ⟨by rfl, ?_⟩) ?_
          rotate_left
          · intro w; go_simp; first | done | with_reducible rfl
          refine wpAny_done (by kernel_rfl) ?_ _
          go_wp2_with (first
            | (go_at_call 98; refine (CP.out _).mono ?_; rintro e w3 ⟨rfl, c3⟩; have B3 : Hid (Below w.heap.size w w3) := bel_tr B1.out c3; have d43 := bel_cell B3.out K4.out; have BB3 : Hid (Below w1.heap.size w1 w3) := c3; clear c3)
            | (go_at_call 99; refine (CM.out _ B3.out).mono ?_; rintro e w4 ⟨rfl, c4⟩; have B4 : Hid (Below w.heap.size w w4) := bel_tr B3.out c4; have d44 := bel_cell B4.out K4.out; have BB4 : Hid (Below w1.heap.size w1 w4) := bel_tr BB3.out c4; have hfz := (HPRE.out.below B4.out).c.fr 4; clear c4)
            | (go_at_call 25; refine (CR.out _ _).mono ?_; rintro e w5 ⟨rfl, rfl⟩))
          first | go_end0 | refine bodyPost_ret (results_none rfl _ _ _) rfl ?_
          have hX4 := HX.out.below BB4.out
          rw [HAL.out] at hX4
          obtain ⟨ps', g', r1, r2, r3, r4, r5⟩ := HPRE.out.newNs (N' := ⟨na, nn, nc⟩) (by simp) B4.out hX4
          exact ⟨⟨⟨na, nn, nc⟩, ps', g', rfl, r1, by rw [setC_size]; exact r2, r4, r5⟩, r3⟩
        exact AllReady.nil
      exact AllReady.nil
    exact AllReady.nil
  exact AllReady.nil
end Go.Proofs.YtdilfbfkeiaafaaGreat.Spa
