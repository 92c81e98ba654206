/- Part 29 of the proof: SpaceFE, SpaceFF, SpaceFG, SpaceFH, SpaceFI, SpaceFJ. -/
import Derived.Test.YticiihjkgiookaaGreatB28

/- The contracts of space.setQuota (refused), renew. -/
namespace Go.Proofs.YticiihjkgiookaaGreat.Spa
open Go.RowKit Go.Proofs.YticiihjkgiookaaGreat
open Go.Proofs.YticiihjkgiookaaGreat.Lea (LS Ls findX putL renX LL LO LsR lsC wideL)
open Go.Proofs.YticiihjkgiookaaGreat.Edi (Ed Nm EdAt edV)

set_option maxRecDepth 100000 in
set_option maxHeartbeats 4000000 in
theorem setQuota_node {base M0 S : Nat} {w : World} {s : Sp} {N L : RS} {ps : List NR} {gb : Nat} {gl : Option Nat} (h : Pre base M0 S w s N L ps gb gl) (e : Ed) (ea : Option Addr) (em eq : Nat) (hs : e.p.size ≤ maxLen) (E : Int) (hE : NodeE s.ns e.p E) (h0 : E ≠ 0) (hp : 0 < ps.length) :
    Calls Tryz.prog 50 #[.pointer (some ⟨S, 0, none⟩), edV e ea em eq] w fun r w' => LeftR S base M0 E w r w' := by
  have hE2 : NodeE (ps.map (·.1)) e.p E := by rw [h.own.map]; exact hE
  have CW : Hid (∀ W, Below w.heap.size w W → Calls Tryz.prog 95 #[.pointer (some ⟨S, 0, none⟩), .string e.p] W fun e w' => e = leftV E ∧ Below W.heap.size W w') := fun W hb => nodeAt_no ((h.below hb).lies hp).c4 ((h.below hb).lies hp).nl e.p hs E hE2 h0
  obtain ⟨k, p, t, cl, l, nn, ls⟩ := e
  unfold edV
  simp only at CW ⊢
  have hst := run_store_str
  clear h hs hE hE2 h0 hp
  go_enter Tryz.func50, Tryz.ntmps50
  go_wp2_with (go_at_call 95; refine (CW.out _ (bel_al _ _)).mono ?_; rintro e w1 ⟨rfl, c1⟩)
  exact left_post rfl (LeftR.of (bel_tr (bel_al _ _) c1))

set_option maxRecDepth 100000 in
set_option maxHeartbeats 4000000 in
theorem setQuota_dir {base M0 S : Nat} {w : World} {s : Sp} {N L : RS} {ps : List NR} {gb : Nat} {gl : Option Nat} (h : Pre base M0 S w s N L ps gb gl) (e : Ed) (ea : Option Addr) (em eq : Nat) (hs : e.p.size ≤ maxLen) (i : Nat) (x : Nd) (hi : Is s.ns e.p i x) (hd : x.dir = false) :
    Calls Tryz.prog 50 #[.pointer (some ⟨S, 0, none⟩), edV e ea em eq] w fun r w' => LeftR S base M0 7 w r w' := by
  have hiq : Is (ps.map (·.1)) e.p i x := by rw [h.own.map]; exact hi
  obtain ⟨r, hX⟩ := is_at' hiq
  obtain ⟨hF0, hg0, hiN, hpos, _⟩ := h.free' hX
  have CN : Hid (∀ W, Below w.heap.size w W → Calls Tryz.prog 95 #[.pointer (some ⟨S, 0, none⟩), .string e.p] W fun e w' => e = .returned (.pointer (some ⟨gb, i * 5, none⟩)) ∧ Below W.heap.size W w') := fun W hb => nodeAt_ok ((h.below hb).lies hpos).c4 ((h.below hb).lies hpos).nl e.p hs i x hiq
  have HX : Hid (ps[i]? = some (x, r)) := hX
  have HPRE : Hid (Pre base M0 S w s N L ps gb gl) := h
  obtain ⟨k, p, t, cl, l, nn, ls⟩ := e
  obtain ⟨xp, xd, xq, xb, xw⟩ := x
  simp only at hd
  subst hd
  unfold edV
  simp only at CN ⊢
  have hst := run_store_str
  clear h hs hi hiq hX hF0 hg0 hiN hpos
  go_enter Tryz.func50, Tryz.ntmps50
  go_wp2_with (first
    | (go_at_call 95; refine (CN.out _ (bel_al _ _)).mono ?_; rintro e w1 ⟨rfl, c1⟩; have B1 : Hid (Below w.heap.size w w1) := bel_tr (bel_al _ _) c1; have hP1 := HPRE.out.below B1.out; have n1 := ((hP1.lies (hP1.free' HX.out).2.2.2.1).at' HX.out).c1; simp only at n1; clear hP1 c1)
    | (go_at_call 18; refine (refuse_yes _ _).mono ?_; rintro e w2 ⟨rfl, hw2⟩; subst hw2))
  exact left_post rfl (LeftR.of B1.out)

set_option maxRecDepth 100000 in
set_option maxHeartbeats 4000000 in
theorem setQuota_full {base M0 S : Nat} {w : World} {s : Sp} {N L : RS} {ps : List NR} {gb : Nat} {gl : Option Nat} (h : Pre base M0 S w s N L ps gb gl) (e : Ed) (ea : Option Addr) (em eq : Nat) (hs : e.p.size ≤ maxLen) (hR : Right s.ns) (i : Nat) (x : Nd) (hi : Is s.ns e.p i x) (hd : x.dir = true) (hn : e.n ≠ -1) (hq : e.n < (cntL s.ns e.p : Int)) :
    Calls Tryz.prog 50 #[.pointer (some ⟨S, 0, none⟩), edV e ea em eq] w fun r w' => LeftR S base M0 8 w r w' := by
  have hiq : Is (ps.map (·.1)) e.p i x := by rw [h.own.map]; exact hi
  obtain ⟨r, hX⟩ := is_at' hiq
  obtain ⟨hF0, hg0, hiN, hpos, _⟩ := h.free' hX
  have CN : Hid (∀ W, Below w.heap.size w W → Calls Tryz.prog 95 #[.pointer (some ⟨S, 0, none⟩), .string e.p] W fun e w' => e = .returned (.pointer (some ⟨gb, i * 5, none⟩)) ∧ Below W.heap.size W w') := fun W hb => nodeAt_ok ((h.below hb).lies hpos).c4 ((h.below hb).lies hpos).nl e.p hs i x hiq
  have HX : Hid (ps[i]? = some (x, r)) := hX
  have HPRE : Hid (Pre base M0 S w s N L ps gb gl) := h
  have CQ : Hid (∀ W, Below w.heap.size w W → Calls Tryz.prog 96 #[.slice (some ⟨gb, 0, none⟩) N.n N.c, .string e.p] W fun r' w' => r' = .returned (.int .i64 (cntL s.ns e.p : Int)) ∧ Below W.heap.size W w') := fun W hb => by
    have := ((h.below hb).lies hpos).nl
    rw [h.own.map] at this
    exact count_val this true ⟨fun _ => hR, fun _ => rfl⟩ e.p hs _ rfl
  have CR : Hid (∀ E W, Calls Tryz.prog 18 #[.bool false, .int .i64 E] W fun e w' => e = .returned (.tuple #[]) ∧ W = w') := fun E W => (refuse_no E W).mono fun e w' ⟨h1, h2⟩ => ⟨h1, h2.symm⟩
  obtain ⟨k, p, t, cl, l, nn, ls⟩ := e
  obtain ⟨xp, xd, xq, xb, xw⟩ := x
  simp only at hd hn hq
  subst hd
  obtain ⟨C, hC⟩ : ∃ C : Int, (cntL s.ns p : Int) = C := ⟨_, rfl⟩
  unfold edV
  simp only at CN CQ ⊢
  rw [hC] at CQ hq
  have hnb : (nn != -1) = true := by simpa using hn
  have hlt : decide (nn < C) = true := decide_eq_true hq
  have hst := run_store_str
  clear h hs hi hiq hX hF0 hg0 hiN hpos hR hC hn hq
  go_enter Tryz.func50, Tryz.ntmps50
  go_wp2_with (first
    | (go_at_call 95; refine (CN.out _ (bel_al _ _)).mono ?_; rintro e w1 ⟨rfl, c1⟩; have B1 : Hid (Below w.heap.size w w1) := bel_tr (bel_al _ _) c1; have y1 := bel_cell c1 (World.cell?_alloc_new w _ _ 1); have y5 := bel_cell c1 (World.cell?_alloc_new w _ _ 5); have hP1 := HPRE.out.below B1.out; have n1 := ((hP1.lies (hP1.free' HX.out).2.2.2.1).at' HX.out).c1; have k4 := (hP1.lies (hP1.free' HX.out).2.2.2.1).c4; simp only at n1; clear hP1 c1)
    | (go_at_call 18; refine (CR.out _ _).mono ?_; rintro e w2 ⟨rfl, rfl⟩))
  refine wp_region_any (by kernel_rfl) ?_
  try (change wpAny _ _ _ _ _ _ _ (World.drew _))
  refine wpAny_take (i := 0) (v := ?_) rfl (by kernel_rfl) (by kernel_rfl) (by kernel_rfl) (fun _ _ _ h => h) (Or.inl ⟨by rfl, ?_⟩) ?_
  rotate_left
  · intro w; go_simp; first | done | with_reducible rfl
  refine wpAny_ready (rs := [1]) (by kernel_rfl) (by simp) ?_
  refine AllReady.cons rfl (fun K hK => ?_) ?_
  · go_simp
    refine hK _ _ ?_
    clear hK K
    refine wpAny_take (i := 2) (v := ?_) rfl (by kernel_rfl) (by kernel_rfl) (by kernel_rfl) (fun _ _ _ h => h) (Or.inl ⟨by rfl, ?_⟩) ?_
    rotate_left
    · intro w; go_simp; first | done | with_reducible rfl
    refine wpAny_take (i := 3) (v := ?_) rfl (by kernel_rfl) (by kernel_rfl) (by kernel_rfl) (fun _ _ _ h => h) (Or.inl ⟨by rfl, ?_⟩) ?_
    rotate_left
    · intro w; go_simp; first | done | with_reducible rfl
    refine wpAny_take (i := 4) (v := ?_) rfl (by kernel_rfl) (by kernel_rfl) (by kernel_rfl) (fun _ _ _ h => h) (Or.inl ⟨by rfl, ?_⟩) ?_
    rotate_left
    · intro w; go_simp; first | done | with_reducible rfl
    refine wpAny_take (i := 6) (v := ?_) rfl (by kernel_rfl) (by kernel_rfl) (by kernel_rfl) (fun _ _ _ h => h) (Or.inl ⟨by rfl, ?_⟩) ?_
    rotate_left
    · intro w; go_simp; first | done | with_reducible rfl
    refine wpAny_take (i := 7) (v := ?_) rfl (by kernel_rfl) (by kernel_rfl) (by kernel_rfl) (fun _ _ _ h => h) (Or.inl ⟨by rfl, ?_⟩) ?_
    rotate_left
    · intro w; go_simp; first | done | with_reducible rfl
    refine wpAny_take (i := 8) (v := ?_) rfl (by kernel_rfl) (by kernel_rfl) (by kernel_rfl) (fun _ _ _ h => h) (Or.inl ⟨by rfl, ?_⟩) ?_
    rotate_left
    · intro w; go_simp; first | done | with_reducible rfl
    refine wpAny_take (i := 10) (v := ?_) rfl (by kernel_rfl) (by kernel_rfl) (by kernel_rfl) (fun _ _ _ h => h) (Or.inl ⟨by rfl, ?_⟩) ?_
    rotate_left
    · intro w; go_simp; first | done | with_reducible rfl
    refine wpAny_ready (rs := [5, 9, 11]) (by kernel_rfl) (by simp) ?_
    refine AllReady.cons rfl (fun K hK => ?_) ?_
    · go_simp
      refine hK _ _ ?_
      clear hK K
      refine wpAny_ready (rs := [9, 11]) (by kernel_rfl) (by simp) ?_
      refine AllReady.cons rfl (fun K hK => ?_) ?_
      · go_simp
        refine hK _ _ ?_
        clear hK K
        refine wpAny_ready (rs := [11]) (by kernel_rfl) (by simp) ?_
        refine AllReady.cons rfl (fun K hK => ?_) ?_
        · go_simp
          refine hK _ _ ?_
          clear hK K
          refine wpAny_ready (rs := [12]) (by kernel_rfl) (by simp) ?_
          refine AllReady.cons rfl (fun K hK => ?_) ?_
          · go_simp
            refine (CQ.out _ (bel_tr B1.out (bel_drewN _ 1))).mono ?_; rintro e w3 ⟨rfl, c3⟩; have B3 : Hid (Below w.heap.size w w3) := bel_tr (bel_tr B1.out (bel_drewN w1 1)) c3; have BB3 : Hid (Below w1.heap.size w1 w3) := bel_tr (bel_drewN w1 1) c3; have v1 := bel_cell BB3.out y1; have v5 := bel_cell BB3.out y5; have vk := bel_cell BB3.out k4; clear c3
            try go_simp
            refine hK _ _ ?_
            clear hK K
            refine wpAny_take (i := 13) (v := ?_) rfl (by kernel_rfl) (by kernel_rfl) (by kernel_rfl) (fun _ _ _ h => h) (Or.inl ⟨by rfl, ?_⟩) ?_
            rotate_left
            · intro w; go_simp; first | done | with_reducible rfl
            refine wpAny_take (i := 14) (v := ?_) rfl (by kernel_rfl) (by kernel_rfl) (by kernel_rfl) (fun _ _ _ h => h) (Or.inl ⟨by rfl, ?_⟩) ?_
            rotate_left
            · intro w; go_simp; first | done | with_reducible rfl
            refine wpAny_ready (rs := [15]) (by kernel_rfl) (by simp) ?_
            refine AllReady.cons rfl (fun K hK => ?_) ?_
            · go_simp
              refine (refuse_yes _ _).mono ?_; rintro e w4 ⟨rfl, hw4⟩; subst hw4; exact left_post rfl (LeftR.of B3.out)
            exact AllReady.nil
          exact AllReady.nil
        exact AllReady.nil
      refine AllReady.cons rfl (fun K hK => ?_) ?_
      · go_simp
        refine hK _ _ ?_
        clear hK K
        refine wpAny_ready (rs := [9]) (by kernel_rfl) (by simp) ?_
        refine AllReady.cons rfl (fun K hK => ?_) ?_
        · go_simp
          refine hK _ _ ?_
          clear hK K
          refine wpAny_ready (rs := [12]) (by kernel_rfl) (by simp) ?_
          refine AllReady.cons rfl (fun K hK => ?_) ?_
          · go_simp
            refine (CQ.out _ (bel_tr B1.out (bel_drewN _ 1))).mono ?_; rintro e w3 ⟨rfl, c3⟩; have B3 : Hid (Below w.heap.size w w3) := bel_tr (bel_tr B1.out (bel_drewN w1 1)) c3; have BB3 : Hid (Below w1.heap.size w1 w3) := bel_tr (bel_drewN w1 1) c3; have v1 := bel_cell BB3.out y1; have v5 := bel_cell BB3.out y5; have vk := bel_cell BB3.out k4; clear c3
            try go_simp
            refine hK _ _ ?_
            clear hK K
            refine wpAny_take (i := 13) (v := ?_) rfl (by kernel_rfl) (by kernel_rfl) (by kernel_rfl) (fun _ _ _ h => h) (Or.inl ⟨by rfl, ?_⟩) ?_
            rotate_left
            · intro w; go_simp; first | done | with_reducible rfl
            refine wpAny_take (i := 14) (v := ?_) rfl (by kernel_rfl) (by kernel_rfl) (by kernel_rfl) (fun _ _ _ h => h) (Or.inl ⟨by rfl, ?_⟩) ?_
            rotate_left
            · intro w; go_simp; first | done | with_reducible rfl
            refine wpAny_ready (rs := [15]) (by kernel_rfl) (by simp) ?_
            refine AllReady.cons rfl (fun K hK => ?_) ?_
            · go_simp
              refine (refuse_yes _ _).mono ?_; rintro e w4 ⟨rfl, hw4⟩; subst hw4; exact left_post rfl (LeftR.of B3.out)
            exact AllReady.nil
          exact AllReady.nil
        exact AllReady.nil
      exact AllReady.nil
    refine AllReady.cons rfl (fun K hK => ?_) ?_
    · go_simp
      refine hK _ _ ?_
      clear hK K
      refine wpAny_ready (rs := [5, 11]) (by kernel_rfl) (by simp) ?_
      refine AllReady.cons rfl (fun K hK => ?_) ?_
      · go_simp
        refine hK _ _ ?_
        clear hK K
        refine wpAny_ready (rs := [11]) (by kernel_rfl) (by simp) ?_
        refine AllReady.cons rfl (fun K hK => ?_) ?_
        · go_simp
          refine hK _ _ ?_
          clear hK K
          refine wpAny_ready (rs := [12]) (by kernel_rfl) (by simp) ?_
          refine AllReady.cons rfl (fun K hK => ?_) ?_
          · go_simp
            refine (CQ.out _ (bel_tr B1.out (bel_drewN _ 1))).mono ?_; rintro e w3 ⟨rfl, c3⟩; have B3 : Hid (Below w.heap.size w w3) := bel_tr (bel_tr B1.out (bel_drewN w1 1)) c3; have BB3 : Hid (Below w1.heap.size w1 w3) := bel_tr (bel_drewN w1 1) c3; have v1 := bel_cell BB3.out y1; have v5 := bel_cell BB3.out y5; have vk := bel_cell BB3.out k4; clear c3
            try go_simp
            refine hK _ _ ?_
            clear hK K
            refine wpAny_take (i := 13) (v := ?_) rfl (by kernel_rfl) (by kernel_rfl) (by kernel_rfl) (fun _ _ _ h => h) (Or.inl ⟨by rfl, ?_⟩) ?_
            rotate_left
            · intro w; go_simp; first | done | with_reducible rfl
            refine wpAny_take (i := 14) (v := ?_) rfl (by kernel_rfl) (by kernel_rfl) (by kernel_rfl) (fun _ _ _ h => h) (Or.inl ⟨by rfl, ?_⟩) ?_
            rotate_left
            · intro w; go_simp; first | done | with_reducible rfl
            refine wpAny_ready (rs := [15]) (by kernel_rfl) (by simp) ?_
            refine AllReady.cons rfl (fun K hK => ?_) ?_
            · go_simp
              refine (refuse_yes _ _).mono ?_; rintro e w4 ⟨rfl, hw4⟩; subst hw4; exact left_post rfl (LeftR.of B3.out)
            exact AllReady.nil
          exact AllReady.nil
        exact AllReady.nil
      refine AllReady.cons rfl (fun K hK => ?_) ?_
      · go_simp
        refine hK _ _ ?_
        clear hK K
        refine wpAny_ready (rs := [5, 12]) (by kernel_rfl) (by simp) ?_
        refine AllReady.cons rfl (fun K hK => ?_) ?_
        · go_simp
          refine hK _ _ ?_
          clear hK K
          refine wpAny_ready (rs := [12]) (by kernel_rfl) (by simp) ?_
          refine AllReady.cons rfl (fun K hK => ?_) ?_
          · go_simp
            refine (CQ.out _ (bel_tr B1.out (bel_drewN _ 1))).mono ?_; rintro e w3 ⟨rfl, c3⟩; have B3 : Hid (Below w.heap.size w w3) := bel_tr (bel_tr B1.out (bel_drewN w1 1)) c3; have BB3 : Hid (Below w1.heap.size w1 w3) := bel_tr (bel_drewN w1 1) c3; have v1 := bel_cell BB3.out y1; have v5 := bel_cell BB3.out y5; have vk := bel_cell BB3.out k4; clear c3
            try go_simp
            refine hK _ _ ?_
            clear hK K
            refine wpAny_take (i := 13) (v := ?_) rfl (by kernel_rfl) (by kernel_rfl) (by kernel_rfl) (fun _ _ _ h => h) (Or.inl ⟨by rfl, ?_⟩) ?_
            rotate_left
            · intro w; go_simp; first | done | with_reducible rfl
            refine wpAny_take (i := 14) (v := ?_) rfl (by kernel_rfl) (by kernel_rfl) (by kernel_rfl) (fun _ _ _ h => h) (Or.inl ⟨by rfl, ?_⟩) ?_
            rotate_left
            · intro w; go_simp; first | done | with_reducible rfl
            refine wpAny_ready (rs := [15]) (by kernel_rfl) (by simp) ?_
            refine AllReady.cons rfl (fun K hK => ?_) ?_
            · go_simp
              refine (refuse_yes _ _).mono ?_; rintro e w4 ⟨rfl, hw4⟩; subst hw4; exact left_post rfl (LeftR.of B3.out)
            exact AllReady.nil
          exact AllReady.nil
        refine AllReady.cons rfl (fun K hK => ?_) ?_
        · go_simp
          refine (CQ.out _ (bel_tr B1.out (bel_drewN _ 1))).mono ?_; rintro e w3 ⟨rfl, c3⟩; have B3 : Hid (Below w.heap.size w w3) := bel_tr (bel_tr B1.out (bel_drewN w1 1)) c3; have BB3 : Hid (Below w1.heap.size w1 w3) := bel_tr (bel_drewN w1 1) c3; have v1 := bel_cell BB3.out y1; have v5 := bel_cell BB3.out y5; have vk := bel_cell BB3.out k4; clear c3
          try go_simp
          refine hK _ _ ?_
          clear hK K
          refine wpAny_ready (rs := [5]) (by kernel_rfl) (by simp) ?_
          refine AllReady.cons rfl (fun K hK => ?_) ?_
          · go_simp
            refine hK _ _ ?_
            clear hK K
            refine wpAny_take (i := 13) (v := ?_) rfl (by kernel_rfl) (by kernel_rfl) (by kernel_rfl) (fun _ _ _ h => h) (Or.inl ⟨by rfl, ?_⟩) ?_
            rotate_left
            · intro w; go_simp; first | done | with_reducible rfl
            refine wpAny_take (i := 14) (v := ?_) rfl (by kernel_rfl) (by kernel_rfl) (by kernel_rfl) (fun _ _ _ h => h) (Or.inl ⟨by rfl, ?_⟩) ?_
            rotate_left
            · intro w; go_simp; first | done | with_reducible rfl
            refine wpAny_ready (rs := [15]) (by kernel_rfl) (by simp) ?_
            refine AllReady.cons rfl (fun K hK => ?_) ?_
            · go_simp
              refine (refuse_yes _ _).mono ?_; rintro e w4 ⟨rfl, hw4⟩; subst hw4; exact left_post rfl (LeftR.of B3.out)
            exact AllReady.nil
          exact AllReady.nil
        exact AllReady.nil
      exact AllReady.nil
    refine AllReady.cons rfl (fun K hK => ?_) ?_
    · go_simp
      refine hK _ _ ?_
      clear hK K
      refine wpAny_ready (rs := [5, 9]) (by kernel_rfl) (by simp) ?_
      refine AllReady.cons rfl (fun K hK => ?_) ?_
      · go_simp
        refine hK _ _ ?_
        clear hK K
        refine wpAny_ready (rs := [9]) (by kernel_rfl) (by simp) ?_
        refine AllReady.cons rfl (fun K hK => ?_) ?_
        · go_simp
          refine hK _ _ ?_
          clear hK K
          refine wpAny_ready (rs := [12]) (by kernel_rfl) (by simp) ?_
          refine AllReady.cons rfl (fun K hK => ?_) ?_
          · go_simp
            refine (CQ.out _ (bel_tr B1.out (bel_drewN _ 1))).mono ?_; rintro e w3 ⟨rfl, c3⟩; have B3 : Hid (Below w.heap.size w w3) := bel_tr (bel_tr B1.out (bel_drewN w1 1)) c3; have BB3 : Hid (Below w1.heap.size w1 w3) := bel_tr (bel_drewN w1 1) c3; have v1 := bel_cell BB3.out y1; have v5 := bel_cell BB3.out y5; have vk := bel_cell BB3.out k4; clear c3
            try go_simp
            refine hK _ _ ?_
            clear hK K
            refine wpAny_take (i := 13) (v := ?_) rfl (by kernel_rfl) (by kernel_rfl) (by kernel_rfl) (fun _ _ _ h => h) (Or.inl ⟨by rfl, ?_⟩) ?_
            rotate_left
            · intro w; go_simp; first | done | with_reducible rfl
            refine wpAny_take (i := 14) (v := ?_) rfl (by kernel_rfl) (by kernel_rfl) (by kernel_rfl) (fun _ _ _ h => h) (Or.inl ⟨by rfl, ?_⟩) ?_
            rotate_left
            · intro w; go_simp; first | done | with_reducible rfl
            refine wpAny_ready (rs := [15]) (by kernel_rfl) (by simp) ?_
            refine AllReady.cons rfl (fun K hK => ?_) ?_
            · go_simp
              refine (refuse_yes _ _).mono ?_; rintro e w4 ⟨rfl, hw4⟩; subst hw4; exact left_post rfl (LeftR.of B3.out)
            exact AllReady.nil
          exact AllReady.nil
        exact AllReady.nil
      refine AllReady.cons rfl (fun K hK => ?_) ?_
      · go_simp
        refine hK _ _ ?_
        clear hK K
        refine wpAny_ready (rs := [5, 12]) (by kernel_rfl) (by simp) ?_
        refine AllReady.cons rfl (fun K hK => ?_) ?_
        · go_simp
          refine hK _ _ ?_
          clear hK K
          refine wpAny_ready (rs := [12]) (by kernel_rfl) (by simp) ?_
          refine AllReady.cons rfl (fun K hK => ?_) ?_
          · go_simp
            refine (CQ.out _ (bel_tr B1.out (bel_drewN _ 1))).mono ?_; rintro e w3 ⟨rfl, c3⟩; have B3 : Hid (Below w.heap.size w w3) := bel_tr (bel_tr B1.out (bel_drewN w1 1)) c3; have BB3 : Hid (Below w1.heap.size w1 w3) := bel_tr (bel_drewN w1 1) c3; have v1 := bel_cell BB3.out y1; have v5 := bel_cell BB3.out y5; have vk := bel_cell BB3.out k4; clear c3
            try go_simp
            refine hK _ _ ?_
            clear hK K
            refine wpAny_take (i := 13) (v := ?_) rfl (by kernel_rfl) (by kernel_rfl) (by kernel_rfl) (fun _ _ _ h => h) (Or.inl ⟨by rfl, ?_⟩) ?_
            rotate_left
            · intro w; go_simp; first | done | with_reducible rfl
            refine wpAny_take (i := 14) (v := ?_) rfl (by kernel_rfl) (by kernel_rfl) (by kernel_rfl) (fun _ _ _ h => h) (Or.inl ⟨by rfl, ?_⟩) ?_
            rotate_left
            · intro w; go_simp; first | done | with_reducible rfl
            refine wpAny_ready (rs := [15]) (by kernel_rfl) (by simp) ?_
            refine AllReady.cons rfl (fun K hK => ?_) ?_
            · go_simp
              refine (refuse_yes _ _).mono ?_; rintro e w4 ⟨rfl, hw4⟩; subst hw4; exact left_post rfl (LeftR.of B3.out)
            exact AllReady.nil
          exact AllReady.nil
        refine AllReady.cons rfl (fun K hK => ?_) ?_
        · go_simp
          refine (CQ.out _ (bel_tr B1.out (bel_drewN _ 1))).mono ?_; rintro e w3 ⟨rfl, c3⟩; have B3 : Hid (Below w.heap.size w w3) := bel_tr (bel_tr B1.out (bel_drewN w1 1)) c3; have BB3 : Hid (Below w1.heap.size w1 w3) := bel_tr (bel_drewN w1 1) c3; have v1 := bel_cell BB3.out y1; have v5 := bel_cell BB3.out y5; have vk := bel_cell BB3.out k4; clear c3
          try go_simp
          refine hK _ _ ?_
          clear hK K
          refine wpAny_ready (rs := [5]) (by kernel_rfl) (by simp) ?_
          refine AllReady.cons rfl (fun K hK => ?_) ?_
          · go_simp
            refine hK _ _ ?_
            clear hK K
            refine wpAny_take (i := 13) (v := ?_) rfl (by kernel_rfl) (by kernel_rfl) (by kernel_rfl) (fun _ _ _ h => h) (Or.inl ⟨by rfl, ?_⟩) ?_
            rotate_left
            · intro w; go_simp; first | done | with_reducible rfl
            refine wpAny_take (i := 14) (v := ?_) rfl (by kernel_rfl) (by kernel_rfl) (by kernel_rfl) (fun _ _ _ h => h) (Or.inl ⟨by rfl, ?_⟩) ?_
            rotate_left
            · intro w; go_simp; first | done | with_reducible rfl
            refine wpAny_ready (rs := [15]) (by kernel_rfl) (by simp) ?_
            refine AllReady.cons rfl (fun K hK => ?_) ?_
            · go_simp
              refine (refuse_yes _ _).mono ?_; rintro e w4 ⟨rfl, hw4⟩; subst hw4; exact left_post rfl (LeftR.of B3.out)
            exact AllReady.nil
          exact AllReady.nil
        exact AllReady.nil
      exact AllReady.nil
    exact AllReady.nil
  exact AllReady.nil

set_option maxRecDepth 100000 in
set_option maxHeartbeats 4000000 in
theorem renew_ok {base M0 S : Nat} {w : World} {s : Sp} {N L : RS} {ps : List NR} {gb : Nat} {gl : Option Nat} (h : Pre base M0 S w s N L ps gb gl) (e : Ed) (ea : Option Addr) (em eq : Nat) (h1 : s.now ≤ e.n) (h2 : e.n ≤ 9007199254740981) (ys : LS) (hr : renX s.ls e.c e.n = (ys, true)) :
    Calls Tryz.prog 51 #[.pointer (some ⟨S, 0, none⟩), edV e ea em eq] w fun r w' => UnitR S base M0 ⟨s.tx, s.nb, s.ng, e.n, s.ns, ys⟩ w r w' := by
  have HPRE : Hid (Pre base M0 S w s N L ps gb gl) := h
  have CRB : Hid (∀ E W, Calls Tryz.prog 18 #[.bool false, .int .i64 E] W fun e w' => e = .returned (.tuple #[]) ∧ Below W.heap.size W w') := fun E W => (refuse_no E W).mono fun e w' ⟨h1, h2⟩ => ⟨h1, by rw [h2]; exact Below.refl _ _⟩
  have CI : Hid (∀ W, Calls Tryz.prog 32 #[.int .i64 e.n, .int .i64 s.now, .int .i64 9007199254740981] W fun e w' => e = .returned (.bool true) ∧ Below W.heap.size W w') := fun W => (within_val _ _ _ true W (Edi.inB_yes h1 h2)).mono fun e w' ⟨h1, h2⟩ => ⟨h1, by rw [h2]; exact Below.refl _ _⟩
  have CL : Hid (∀ W, Pre base M0 S W ⟨s.tx, s.nb, s.ng, e.n, s.ns, s.ls⟩ N L ps gb gl → Calls Tryz.prog 87 #[.pointer (some ⟨S, 0, none⟩), .int .i64 e.c] W fun r w' => RnwR S ⟨s.tx, s.nb, s.ng, e.n, s.ns, s.ls⟩ N ys W r w') := fun W hP => renewLease_ok hP.c hP.own.lo.ll e.c ys hr
  have k3 := h.c.c3
  have K3 : Hid (w.cell? ⟨S, 3, none⟩ = some (.int .i64 s.now)) := k3
  have HN3 : Hid (∀ w2, Below w.heap.size w w2 → Pre base M0 S (w2.setCell ⟨S, 3, none⟩ (.int .i64 e.n)) ⟨s.tx, s.nb, s.ng, e.n, s.ns, s.ls⟩ N L ps gb gl ∧ Stay (fun k => k = S) w2 (w2.setCell ⟨S, 3, none⟩ (.int .i64 e.n))) := fun w2 hb => by
    have hP := HPRE.out.below hb
    obtain ⟨a1, a2⟩ := hP.c.set3 e.n
    have hsb := hP.sb
    have ho := hP.own.out a2 (fun k hk => by omega)
    exact ⟨⟨a1, ⟨ho.lot, ho.map, ho.lo, ho.sep, ho.gl1, ho.gl2⟩, hP.na, hP.sb, Nat.le_trans hP.bw a2.size, hP.m1, hP.m2, hP.m3, Nat.le_trans hP.mw a2.size⟩, a2⟩
  obtain ⟨k, p, t, cl, l, nn, ls⟩ := e
  obtain ⟨tx, nb, ng, now, ns, lss⟩ := s
  unfold edV
  simp only at CI CL HN3 K3 ⊢
  have hst := run_store_str
  have hst2 : ∀ (w : World) (a : Addr) (x : Option Addr) (n c : Nat) (m : Mode), (store a (.slice x n c) m).run Tryz.prog w = stored Tryz.prog w a (.slice x n c) m := fun w a x n c m => run_store_any w a _ m rfl
  clear h h1 h2 hr k3
  go_enter Tryz.func51, Tryz.ntmps51
  go_wp2
  have y3 := World.cell?_alloc_new w #[.int .i64 k, .string p, .string t, .int .i64 cl, .int .i64 l, .int .i64 nn, .slice ea em eq] 42 3
  have y5 := World.cell?_alloc_new w #[.int .i64 k, .string p, .string t, .int .i64 cl, .int .i64 l, .int .i64 nn, .slice ea em eq] 42 5
  have Y3 : Hid ((w.alloc (.cells #[.int .i64 k, .string p, .string t, .int .i64 cl, .int .i64 l, .int .i64 nn, .slice ea em eq] 42)).cell? ⟨w.heap.size, 3, none⟩ = some (.int .i64 cl)) := y3
  have Y5 : Hid ((w.alloc (.cells #[.int .i64 k, .string p, .string t, .int .i64 cl, .int .i64 l, .int .i64 nn, .slice ea em eq] 42)).cell? ⟨w.heap.size, 5, none⟩ = some (.int .i64 nn)) := y5
  have KA : Hid ((w.alloc (.cells #[.int .i64 k, .string p, .string t, .int .i64 cl, .int .i64 l, .int .i64 nn, .slice ea em eq] 42)).cell? ⟨S, 3, none⟩ = some (.int .i64 now)) := cell_al K3.out _
  have B0 : Hid (Below w.heap.size w (w.alloc (.cells #[.int .i64 k, .string p, .string t, .int .i64 cl, .int .i64 l, .int .i64 nn, .slice ea em eq] 42))) := bel_al _ _
  clear y3 y5
  generalize w.alloc (.cells #[.int .i64 k, .string p, .string t, .int .i64 cl, .int .i64 l, .int .i64 nn, .slice ea em eq] 42) = W0 at *
  have r5 : ∀ dd os, (Sort.grow (redrawn W0 dd) os).cell? ⟨w.heap.size, 5, none⟩ = some (.int .i64 nn) := fun dd os => cell_regrown Y5.out dd os
  have r3 : ∀ dd os, (Sort.grow (redrawn W0 dd) os).cell? ⟨S, 3, none⟩ = some (.int .i64 now) := fun dd os => cell_regrown KA.out dd os
  refine wp_region_quiet_below (by kernel_rfl) (by kernel_rfl) ?_
  repeat (first | go_big_quiet_step (first | exact Calls.regrown_of (CRB.out _ _) | exact Calls.regrown_of (CI.out _)) | quiet_step (first | exact Calls.regrown_of (CRB.out _ _) | exact Calls.regrown_of (CI.out _)))
  refine wpQuiet_nil ?_
  intro _ hw'
  obtain ⟨⟨dq, osq⟩, hw''⟩ := hw'
  subst hw''
  have B5 : Hid (Below w.heap.size w (Sort.grow (redrawn W0 dq) osq)) := bel_tr B0.out (below_regrown W0 dq osq)
  have z5 := r5 dq osq
  have z3 := cell_regrown Y3.out dq osq
  have zn := r3 dq osq
  have hfz := (HPRE.out.below B5.out).c.fr 3
  have HP5 : Hid _ := HN3.out _ B5.out
  clear r5 r3
  generalize Sort.grow (redrawn W0 dq) osq = w5 at *
  have hne : w.heap.size ≠ S := by have := HPRE.out.lt; omega
  have z3b : (w5.setCell ⟨S, 3, none⟩ (.int .i64 nn)).cell? ⟨w.heap.size, 3, none⟩ = some (.int .i64 cl) := (other_block _ _ _ _ _ _ (fun e => hne e.symm)).trans z3
  go_wp2_with (go_at_call 87; refine (CL.out _ HP5.out.1).mono ?_; rintro e w6 ⟨⟨L', gl', rfl, hC6, hL6⟩, hS6⟩; have HC6 : Hid _ := hC6; have HL6 : Hid _ := hL6; have HS6 : Hid _ := hS6; clear hC6 hL6 hS6)
  first | go_end0 | refine bodyPost_ret (results_none rfl _ _ _) rfl ?_
  have hsb := HPRE.out.sb
  exact ⟨⟨N, L', ps, some gb, gl', rfl, HC6.out, HP5.out.1.own.m.renew (Nat.le_refl _) hsb HP5.out.1.bw HL6.out HS6.out, fun k hk => .inl (by cases hk; exact HPRE.out.m1), fun k hk => .inr (Nat.le_trans (Nat.le_trans B5.out.size HP5.out.2.size) (HL6.out.own k hk).2), fun x hx k hk => .inl (HPRE.out.m3 x hx k hk)⟩, ((Stay.of_below B5.out).trans HP5.out.2 (fun k _ e => .inl e)).trans HS6.out (fun k _ e => .inl e)⟩

set_option maxRecDepth 100000 in
set_option maxHeartbeats 4000000 in
theorem renew_no {base M0 S : Nat} {w : World} {s : Sp} {N L : RS} {ps : List NR} {gb : Nat} {gl : Option Nat} (h : Pre base M0 S w s N L ps gb gl) (e : Ed) (ea : Option Addr) (em eq : Nat) (hx : ¬ (s.now ≤ e.n ∧ e.n ≤ 9007199254740981)) :
    Calls Tryz.prog 51 #[.pointer (some ⟨S, 0, none⟩), edV e ea em eq] w fun r w' => LeftR S base M0 1 w r w' := by
  have CI : Hid (∀ W, Calls Tryz.prog 32 #[.int .i64 e.n, .int .i64 s.now, .int .i64 9007199254740981] W fun e w' => e = .returned (.bool false) ∧ W = w') := fun W => (within_val _ _ _ false W (Edi.inB_no (by omega))).mono fun e w' ⟨h1, h2⟩ => ⟨h1, h2.symm⟩
  have k3 := h.c.c3
  have K3 : Hid (w.cell? ⟨S, 3, none⟩ = some (.int .i64 s.now)) := k3
  obtain ⟨k, p, t, cl, l, nn, ls⟩ := e
  obtain ⟨tx, nb, ng, now, ns, lss⟩ := s
  unfold edV
  simp only at CI K3 ⊢
  have hst := run_store_str
  clear h hx k3
  go_enter Tryz.func51, Tryz.ntmps51
  go_wp2
  have ka := cell_al K3.out (.cells #[.int .i64 k, .string p, .string t, .int .i64 cl, .int .i64 l, .int .i64 nn, .slice ea em eq] 42)
  refine wp_region_any (by kernel_rfl) ?_
  try (change wpAny _ _ _ _ _ _ _ (World.drew _))
  refine wpAny_take (i := 0) (v := ?_) rfl (by kernel_rfl) (by kernel_rfl) (by kernel_rfl) (fun _ _ _ h => h) (Or.inl ⟨by rfl, ?_⟩) ?_
  rotate_left
  · intro w; go_simp; first | done | with_reducible rfl
  refine wpAny_take (i := 2) (v := ?_) rfl (by kernel_rfl) (by kernel_rfl) (by kernel_rfl) (fun _ _ _ h => h) (Or.inl ⟨by rfl, ?_⟩) ?_
  rotate_left
  · intro w; go_simp; first | done | with_reducible rfl
  refine wpAny_take (i := 3) (v := ?_) rfl (by kernel_rfl) (by kernel_rfl) (by kernel_rfl) (fun _ _ _ h => h) (Or.inl ⟨by rfl, ?_⟩) ?_
  rotate_left
  · intro w; go_simp; first | done | with_reducible rfl
  refine wpAny_take (i := 4) (v := ?_) rfl (by kernel_rfl) (by kernel_rfl) (by kernel_rfl) (fun _ _ _ h => h) (Or.inl ⟨by rfl, ?_⟩) ?_
  rotate_left
  · intro w; go_simp; first | done | with_reducible rfl
  refine wpAny_ready (rs := [1, 5]) (by kernel_rfl) (by simp) ?_
  refine AllReady.cons rfl (fun K hK => ?_) ?_
  · go_simp
    refine hK _ _ ?_
    clear hK K
    refine wpAny_ready (rs := [5]) (by kernel_rfl) (by simp) ?_
    refine AllReady.cons rfl (fun K hK => ?_) ?_
    · go_simp
      refine hK _ _ ?_
      clear hK K
      refine wpAny_ready (rs := [6]) (by kernel_rfl) (by simp) ?_
      refine AllReady.cons rfl (fun K hK => ?_) ?_
      · go_simp
        refine (CI.out _).mono ?_; rintro e w3 ⟨rfl, rfl⟩
        try go_simp
        refine hK _ _ ?_
        clear hK K
        refine wpAny_take (i := 7) (v := ?_) rfl (by kernel_rfl) (by kernel_rfl) (by kernel_rfl) (fun _ _ _ h => h) (Or.inl ⟨by rfl, ?_⟩) ?_
        rotate_left
        · intro w; go_simp; first | done | with_reducible rfl
        refine wpAny_ready (rs := [8]) (by kernel_rfl) (by simp) ?_
        refine AllReady.cons rfl (fun K hK => ?_) ?_
        · go_simp
          refine (refuse_yes _ _).mono ?_; rintro e w4 ⟨rfl, hw4⟩; subst hw4; exact left_post rfl (LeftR.of (bel_tr (bel_al _ _) (bel_drewN _ 1)))
        exact AllReady.nil
      exact AllReady.nil
    exact AllReady.nil
  refine AllReady.cons rfl (fun K hK => ?_) ?_
  · go_simp
    refine hK _ _ ?_
    clear hK K
    refine wpAny_ready (rs := [1]) (by kernel_rfl) (by simp) ?_
    refine AllReady.cons rfl (fun K hK => ?_) ?_
    · go_simp
      refine hK _ _ ?_
      clear hK K
      refine wpAny_ready (rs := [6]) (by kernel_rfl) (by simp) ?_
      refine AllReady.cons rfl (fun K hK => ?_) ?_
      · go_simp
        refine (CI.out _).mono ?_; rintro e w3 ⟨rfl, rfl⟩
        try go_simp
        refine hK _ _ ?_
        clear hK K
        refine wpAny_take (i := 7) (v := ?_) rfl (by kernel_rfl) (by kernel_rfl) (by kernel_rfl) (fun _ _ _ h => h) (Or.inl ⟨by rfl, ?_⟩) ?_
        rotate_left
        · intro w; go_simp; first | done | with_reducible rfl
        refine wpAny_ready (rs := [8]) (by kernel_rfl) (by simp) ?_
        refine AllReady.cons rfl (fun K hK => ?_) ?_
        · go_simp
          refine (refuse_yes _ _).mono ?_; rintro e w4 ⟨rfl, hw4⟩; subst hw4; exact left_post rfl (LeftR.of (bel_tr (bel_al _ _) (bel_drewN _ 1)))
        exact AllReady.nil
      exact AllReady.nil
    exact AllReady.nil
  exact AllReady.nil

end Go.Proofs.YticiihjkgiookaaGreat.Spa

/- The contract of space.add. -/
namespace Go.Proofs.YticiihjkgiookaaGreat.Spa
open Go.RowKit Go.Proofs.YticiihjkgiookaaGreat
open Go.Proofs.YticiihjkgiookaaGreat.Lea (LS Ls findX putL renX LL LO LsR lsC wideL)
open Go.Proofs.YticiihjkgiookaaGreat.Edi (Ed Nm EdAt edV)

theorem Pre.nl {base M0 S : Nat} {w : World} {s : Sp} {N L : RS} {ps : List NR} {gb : Nat} {gl : Option Nat} (h : Pre base M0 S w s N L ps gb gl) (hp : 0 < ps.length) : NL w (some ⟨gb, 0, none⟩) N.n s.ns := by
  have := (h.lies hp).nl
  rw [h.own.map] at this
  exact this
theorem Pre.c4' {base M0 S : Nat} {w : World} {s : Sp} {N L : RS} {ps : List NR} {gb : Nat} {gl : Option Nat} (h : Pre base M0 S w s N L ps gb gl) : w.cell? ⟨S, 4, none⟩ = some (.slice (some ⟨gb, 0, none⟩) N.n N.c) := by
  have := h.c.c4
  rw [h.na] at this
  exact this

/-- Other nodes are laid into the space. -/
theorem Pre.newNs {base M0 S : Nat} {w w1 : World} {s : Sp} {N L : RS} {ps : List NR} {gb : Nat} {gl : Option Nat} (h : Pre base M0 S w s N L ps gb gl) {W : Nat} (hW : w.heap.size ≤ W) (hb : Below w.heap.size w w1) {N' : RS} {ns : NS} (hX : LX W w1 N'.a N'.n N'.c ns) :
    ∃ ps' g', SpC (w1.setCell ⟨S, 4, none⟩ (.slice N'.a N'.n N'.c)) S ⟨s.tx, s.nb, s.ng, s.now, ns, s.ls⟩ N' L ∧ OwnM base w1.heap.size (w1.setCell ⟨S, 4, none⟩ (.slice N'.a N'.n N'.c)) ⟨s.tx, s.nb, s.ng, s.now, ns, s.ls⟩ N' L ps' g' gl ∧ Stay (fun k => k = S) w (w1.setCell ⟨S, 4, none⟩ (.slice N'.a N'.n N'.c)) ∧ (∀ k, g' = some k → w.heap.size ≤ k) ∧ (∀ x ∈ ps', ∀ k, x.2.blk = some k → w.heap.size ≤ k) := by
  obtain ⟨ps', g', hm, hl⟩ := hX.ex
  have hP := h.below hb
  have hsb := hP.sb
  have hbw := h.bw
  obtain ⟨a1, a2⟩ := hP.c.set4 N' ns
  have hgl := h.own.lo.own
  have hg : ∀ k, g' = some k → k < w1.heap.size ∧ W ≤ k := fun k hk => by have := hl.cel; rw [hk] at this; exact this.lt
  have hO : OwnM base w1.heap.size w1 ⟨s.tx, s.nb, s.ng, s.now, ns, s.ls⟩ N' L ps' g' gl :=
    ⟨hl.mono (by omega), hm, hP.own.lo, fun k hk e => by have := (hg k hk).2; have := (hgl k e).1; omega, fun x hx k hk e => by have := (hl.ok x hx).blk_ge k hk; have := (hgl k e).1; omega, fun k hk => (hg k hk).1, fun k hk => by have := (hgl k hk).1; have := hb.size; omega, fun x hx k hk => (hl.ok x hx).ok.bs.lt k hk⟩
  exact ⟨ps', g', a1, hO.out a2 (fun k hk => .inl (by omega)), (Stay.of_below hb).trans a2 (fun k _ e => e), fun k hk => Nat.le_trans hW (hg k hk).2, fun x hx k hk => Nat.le_trans hW ((hl.ok x hx).blk_ge k hk)⟩
/-- A node is added. -/
structure AddR (S base : Nat) (t : Sp) (L : RS) (gl : Option Nat) (w : World) (r : Ending) (w' : World) : Prop where
  ex : ∃ N ps g, r = .returned (.tuple #[]) ∧ SpC w' S t N L ∧ OwnM base w'.heap.size w' t N L ps g gl ∧ (∀ k, g = some k → w.heap.size ≤ k) ∧ (∀ x ∈ ps, ∀ k, x.2.blk = some k → w.heap.size ≤ k)
  st : Stay (fun k => k = S) w w'

theorem split_small {p : ByteArray} (h : splitE p = 0) : p.size ≤ 120 := by
  rw [splitX_ok h]; exact pathT_small (split_ok h).1
theorem parD_small {xs : NS} {x : Nd} (h : AddE xs x 0) : (parD x.path).size ≤ 120 := by
  cases h with
  | par e h1 h2 h3 h4 h5 h6 => exact absurd rfl h6
  | ok h1 h2 h3 h4 h5 h6 =>
    obtain ⟨d, n, _, hd, _, _, hE⟩ := par_ex (fits_path h2) h3
    rw [hd]; exact split_small hE
theorem setC_size (w : World) (a : Addr) (v : Value) : (w.setCell a v).heap.size = w.heap.size := by simp [World.setCell]

set_option maxRecDepth 100000 in
set_option maxHeartbeats 4000000 in
theorem add_no {base M0 S : Nat} {w : World} {s : Sp} {N L : RS} {ps : List NR} {gb : Nat} {gl : Option Nat} (h : Pre base M0 S w s N L ps gb gl) (hp : 0 < ps.length) (x : Nd) (hx : NdOk w (x, noS)) (E : Int) (hA : AddE s.ns x E) (h0 : E ≠ 0) :
    Calls Tryz.prog 43 #[.pointer (some ⟨S, 0, none⟩), ndV (x, noS)] w fun r w' => LeftR S base M0 E w r w' := by
  have HPRE : Hid (Pre base M0 S w s N L ps gb gl) := h
  have CA : Hid (∀ W, Below w.heap.size w W → Calls Tryz.prog 83 #[.slice (some ⟨gb, 0, none⟩) N.n N.c, ndV (x, noS)] W fun e w' => TwoR W.heap.size (addL s.ns x E) E e w' ∧ Below W.heap.size W w') := fun W hb => add_val ((h.below hb).nl hp) (x, noS) (hx.below hb) E hA
  have k4 := h.c4'
  have K4 : Hid (w.cell? ⟨S, 4, none⟩ = some (.slice (some ⟨gb, 0, none⟩) N.n N.c)) := k4
  have h0b : (E != 0) = true := by simpa using h0
  obtain ⟨xp, xd, xq, xb, xw⟩ := x
  unfold ndV noS at CA ⊢
  simp only at CA ⊢
  have hst := run_store_str
  clear h hp hx hA h0 k4
  go_enter Tryz.func43, Tryz.ntmps43
  go_wp2
  have ka := cell_al K4.out (.cells #[.string xp, .bool xd, .int .i64 xq, .slice none 0 0, .int .i64 xw] 35)
  refine wp_region_any (by kernel_rfl) ?_
  try (change wpAny _ _ _ _ _ _ _ (World.drew _))
  refine wpAny_take (i := 0) (v := ?_) rfl (by kernel_rfl) (by kernel_rfl) (by kernel_rfl) (fun _ _ _ h => h) (Or.inl ⟨by rfl, ?_⟩) ?_
  rotate_left
  · intro w; go_simp; first | done | with_reducible rfl
  refine wpAny_take (i := 1) (v := ?_) rfl (by kernel_rfl) (by kernel_rfl) (by kernel_rfl) (fun _ _ _ h => h) (Or.inl ⟨by rfl, ?_⟩) ?_
  rotate_left
  · intro w; go_simp; first | done | with_reducible rfl
  refine wpAny_take (i := 2) (v := ?_) rfl (by kernel_rfl) (by kernel_rfl) (by kernel_rfl) (fun _ _ _ h => h) (Or.inl ⟨by rfl, ?_⟩) ?_
  rotate_left
  · intro w; go_simp; first | done | with_reducible rfl
  refine wpAny_ready (rs := [3, 4]) (by kernel_rfl) (by simp) ?_
  refine AllReady.cons rfl (fun K hK => ?_) ?_
  · go_simp
    refine hK _ _ ?_
    clear hK K
    refine wpAny_ready (rs := [4]) (by kernel_rfl) (by simp) ?_
    refine AllReady.cons rfl (fun K hK => ?_) ?_
    · go_simp
      refine hK _ _ ?_
      clear hK K
      refine wpAny_ready (rs := [5]) (by kernel_rfl) (by simp) ?_
      refine AllReady.cons rfl (fun K hK => ?_) ?_
      · go_simp
        refine (CA.out _ (bel_tr (bel_al _ _) (bel_drewN _ 1))).mono ?_; rintro e w1 ⟨⟨na, nn, nc, rfl, hX⟩, c1⟩; have B1 : Hid (Below w.heap.size w w1) := bel_tr (bel_tr (bel_al _ _) (bel_drewN _ 1)) c1; have y0 := bel_cell (bel_tr (bel_drewN _ 1) c1) (World.cell?_alloc_new w _ _ 0); have d4 := bel_cell B1.out K4.out; have HX : Hid _ := hX; clear hX c1
        try go_simp
        refine hK _ _ ?_
        clear hK K
        refine wpAny_take (i := 6) (v := ?_) rfl (by kernel_rfl) (by kernel_rfl) (by kernel_rfl) (fun _ _ _ h => h) (Or.inl ⟨by rfl, ?_⟩) ?_
        rotate_left
        · intro w; go_simp; first | done | with_reducible rfl
        refine wpAny_take (i := 7) (v := ?_) rfl (by kernel_rfl) (by kernel_rfl) (by kernel_rfl) (fun _ _ _ h => h) (Or.inl ⟨by rfl, ?_⟩) ?_
        rotate_left
        · intro w; go_simp; first | done | with_reducible rfl
        refine wpAny_ready (rs := [8]) (by kernel_rfl) (by simp) ?_
        refine AllReady.cons rfl (fun K hK => ?_) ?_
        · go_simp
          refine (takenN_no _ h0b _).mono ?_; rintro e w2 ⟨rfl, hw2⟩; subst hw2; exact left_post rfl (LeftR.of B1.out)
        exact AllReady.nil
      exact AllReady.nil
    exact AllReady.nil
  refine AllReady.cons rfl (fun K hK => ?_) ?_
  · go_simp
    refine hK _ _ ?_
    clear hK K
    refine wpAny_ready (rs := [3]) (by kernel_rfl) (by simp) ?_
    refine AllReady.cons rfl (fun K hK => ?_) ?_
    · go_simp
      refine hK _ _ ?_
      clear hK K
      refine wpAny_ready (rs := [5]) (by kernel_rfl) (by simp) ?_
      refine AllReady.cons rfl (fun K hK => ?_) ?_
      · go_simp
        refine (CA.out _ (bel_tr (bel_al _ _) (bel_drewN _ 1))).mono ?_; rintro e w1 ⟨⟨na, nn, nc, rfl, hX⟩, c1⟩; have B1 : Hid (Below w.heap.size w w1) := bel_tr (bel_tr (bel_al _ _) (bel_drewN _ 1)) c1; have y0 := bel_cell (bel_tr (bel_drewN _ 1) c1) (World.cell?_alloc_new w _ _ 0); have d4 := bel_cell B1.out K4.out; have HX : Hid _ := hX; clear hX c1
        try go_simp
        refine hK _ _ ?_
        clear hK K
        refine wpAny_take (i := 6) (v := ?_) rfl (by kernel_rfl) (by kernel_rfl) (by kernel_rfl) (fun _ _ _ h => h) (Or.inl ⟨by rfl, ?_⟩) ?_
        rotate_left
        · intro w; go_simp; first | done | with_reducible rfl
        refine wpAny_take (i := 7) (v := ?_) rfl (by kernel_rfl) (by kernel_rfl) (by kernel_rfl) (fun _ _ _ h => h) (Or.inl ⟨by rfl, ?_⟩) ?_
        rotate_left
        · intro w; go_simp; first | done | with_reducible rfl
        refine wpAny_ready (rs := [8]) (by kernel_rfl) (by simp) ?_
        refine AllReady.cons rfl (fun K hK => ?_) ?_
        · go_simp
          refine (takenN_no _ h0b _).mono ?_; rintro e w2 ⟨rfl, hw2⟩; subst hw2; exact left_post rfl (LeftR.of B1.out)
        exact AllReady.nil
      exact AllReady.nil
    exact AllReady.nil
  exact AllReady.nil
set_option maxRecDepth 100000 in
set_option maxHeartbeats 4000000 in
theorem add_full {base M0 S : Nat} {w : World} {s : Sp} {N L : RS} {ps : List NR} {gb : Nat} {gl : Option Nat} (h : Pre base M0 S w s N L ps gb gl) (hp : 0 < ps.length) (x : Nd) (hx : NdOk w (x, noS)) (hA : AddE s.ns x 0) (hR : Right s.ns) (hr : roomI s.ns (parD x.path) < 1) :
    Calls Tryz.prog 43 #[.pointer (some ⟨S, 0, none⟩), ndV (x, noS)] w fun r w' => LeftR S base M0 8 w r w' := by
  have HPRE : Hid (Pre base M0 S w s N L ps gb gl) := h
  have CA : Hid (∀ W, Below w.heap.size w W → Calls Tryz.prog 83 #[.slice (some ⟨gb, 0, none⟩) N.n N.c, ndV (x, noS)] W fun e w' => TwoR W.heap.size (addL s.ns x 0) 0 e w' ∧ Below W.heap.size W w') := fun W hb => add_val ((h.below hb).nl hp) (x, noS) (hx.below hb) 0 hA
  have k4 := h.c4'
  have K4 : Hid (w.cell? ⟨S, 4, none⟩ = some (.slice (some ⟨gb, 0, none⟩) N.n N.c)) := k4
  obtain ⟨⟨D, M, F⟩, hP⟩ : ∃ y, parentX x.path = y := ⟨_, rfl⟩
  have hD : parD x.path = D := by unfold parD; rw [hP]
  have hsD : D.size ≤ maxLen := by
    have := parD_small hA
    rw [hD] at this; unfold maxLen; omega
  obtain ⟨R, hRR⟩ : ∃ R, roomI s.ns D = R := ⟨_, rfl⟩
  rw [hD, hRR] at hr
  have hrb : decide (R < 1) = true := decide_eq_true hr
  have CP : Hid (∀ W, Calls Tryz.prog 84 #[.string x.path] W fun e w' => e = .returned (.tuple #[.string D, .string M, .int .i64 F]) ∧ Below W.heap.size W w') := fun W => parent_val x.path D M F W hx.small hP
  have CM : Hid (∀ W, Below w.heap.size w W → Calls Tryz.prog 85 #[.slice (some ⟨gb, 0, none⟩) N.n N.c, .string D] W fun e w' => e = .returned (.int .i64 R) ∧ Below W.heap.size W w') := fun W hb => room_val ((h.below hb).nl hp) true ⟨fun _ => hR, fun _ => rfl⟩ D hsD R hRR
  have CT : Hid (∀ W a n c, Calls Tryz.prog 45 #[.slice a n c, .int .i64 0] W fun e w' => e = .returned (.slice a n c) ∧ W = w') := fun W a n c => (takenN_ok W).mono fun e w' ⟨h1, h2⟩ => ⟨h1, h2.symm⟩
  obtain ⟨xp, xd, xq, xb, xw⟩ := x
  unfold ndV noS at CA ⊢
  simp only at CA CP ⊢
  have hst := run_store_str
  clear h hp hx hA hR hr hRR hsD hD hP k4
  go_enter Tryz.func43, Tryz.ntmps43
  go_wp2
  have ka := cell_al K4.out (.cells #[.string xp, .bool xd, .int .i64 xq, .slice none 0 0, .int .i64 xw] 35)
  refine wp_region_any (by kernel_rfl) ?_
  try (change wpAny _ _ _ _ _ _ _ (World.drew _))
  refine wpAny_take (i := 0) (v := ?_) rfl (by kernel_rfl) (by kernel_rfl) (by kernel_rfl) (fun _ _ _ h => h) (Or.inl ⟨by rfl, ?_⟩) ?_
  rotate_left
  · intro w; go_simp; first | done | with_reducible rfl
  refine wpAny_take (i := 1) (v := ?_) rfl (by kernel_rfl) (by kernel_rfl) (by kernel_rfl) (fun _ _ _ h => h) (Or.inl ⟨by rfl, ?_⟩) ?_
  rotate_left
  · intro w; go_simp; first | done | with_reducible rfl
  refine wpAny_take (i := 2) (v := ?_) rfl (by kernel_rfl) (by kernel_rfl) (by kernel_rfl) (fun _ _ _ h => h) (Or.inl ⟨by rfl, ?_⟩) ?_
  rotate_left
  · intro w; go_simp; first | done | with_reducible rfl
  refine wpAny_ready (rs := [3, 4]) (by kernel_rfl) (by simp) ?_
  refine AllReady.cons rfl (fun K hK => ?_) ?_
  · go_simp
    refine hK _ _ ?_
    clear hK K
    refine wpAny_ready (rs := [4]) (by kernel_rfl) (by simp) ?_
    refine AllReady.cons rfl (fun K hK => ?_) ?_
    · go_simp
      refine hK _ _ ?_
      clear hK K
      refine wpAny_ready (rs := [5]) (by kernel_rfl) (by simp) ?_
      refine AllReady.cons rfl (fun K hK => ?_) ?_
      · go_simp
        refine (CA.out _ (bel_tr (bel_al _ _) (bel_drewN _ 1))).mono ?_; rintro e w1 ⟨⟨na, nn, nc, rfl, hX⟩, c1⟩; have B1 : Hid (Below w.heap.size w w1) := bel_tr (bel_tr (bel_al _ _) (bel_drewN _ 1)) c1; have y0 := bel_cell (bel_tr (bel_drewN _ 1) c1) (World.cell?_alloc_new w _ _ 0); have d4 := bel_cell B1.out K4.out; have HX : Hid _ := hX; clear hX c1
        try go_simp
        refine hK _ _ ?_
        clear hK K
        refine wpAny_take (i := 6) (v := ?_) rfl (by kernel_rfl) (by kernel_rfl) (by kernel_rfl) (fun _ _ _ h => h) (Or.inl ⟨by rfl, ?_⟩) ?_
        rotate_left
        · intro w; go_simp; first | done | with_reducible rfl
        refine wpAny_take (i := 7) (v := ?_) rfl (by kernel_rfl) (by kernel_rfl) (by kernel_rfl) (fun _ _ _ h => h) (Or.inl ⟨by rfl, ?_⟩) ?_
        rotate_left
        · intro w; go_simp; first | done | with_reducible rfl
        refine wpAny_ready (rs := [8]) (by kernel_rfl) (by simp) ?_
        refine AllReady.cons rfl (fun K hK => ?_) ?_
        · go_simp
          refine (CT.out _ _ _ _).mono ?_; rintro e w2 ⟨rfl, rfl⟩
          try go_simp
          refine hK _ _ ?_
          clear hK K
          refine wpAny_take (i := 9) (v := ?_) rfl (by kernel_rfl) (by kernel_rfl) (by kernel_rfl) (fun _ _ _ h => h) (Or.inl ⟨by rfl, ?_⟩) ?_
          rotate_left
          · intro w; go_simp; first | done | with_reducible rfl
          refine wpAny_done (by kernel_rfl) ?_ _
          go_wp2_with (first
            | (go_at_call 84; refine (CP.out _).mono ?_; rintro e w3 ⟨rfl, c3⟩; have B3 : Hid (Below w.heap.size w w3) := bel_tr B1.out c3; have d43 := bel_cell B3.out K4.out; have BB3 : Hid _ := c3; clear c3)
            | (go_at_call 85; refine (CM.out _ B3.out).mono ?_; rintro e w4 ⟨rfl, c4⟩; have B4 : Hid (Below w.heap.size w w4) := bel_tr B3.out c4; clear c4)
            | (go_at_call 18; refine (refuse_yes _ _).mono ?_; rintro e w5 ⟨rfl, hw5⟩; subst hw5))
          exact left_post rfl (LeftR.of B4.out)
        exact AllReady.nil
      exact AllReady.nil
    exact AllReady.nil
  refine AllReady.cons rfl (fun K hK => ?_) ?_
  · go_simp
    refine hK _ _ ?_
    clear hK K
    refine wpAny_ready (rs := [3]) (by kernel_rfl) (by simp) ?_
    refine AllReady.cons rfl (fun K hK => ?_) ?_
    · go_simp
      refine hK _ _ ?_
      clear hK K
      refine wpAny_ready (rs := [5]) (by kernel_rfl) (by simp) ?_
      refine AllReady.cons rfl (fun K hK => ?_) ?_
      · go_simp
        refine (CA.out _ (bel_tr (bel_al _ _) (bel_drewN _ 1))).mono ?_; rintro e w1 ⟨⟨na, nn, nc, rfl, hX⟩, c1⟩; have B1 : Hid (Below w.heap.size w w1) := bel_tr (bel_tr (bel_al _ _) (bel_drewN _ 1)) c1; have y0 := bel_cell (bel_tr (bel_drewN _ 1) c1) (World.cell?_alloc_new w _ _ 0); have d4 := bel_cell B1.out K4.out; have HX : Hid _ := hX; clear hX c1
        try go_simp
        refine hK _ _ ?_
        clear hK K
        refine wpAny_take (i := 6) (v := ?_) rfl (by kernel_rfl) (by kernel_rfl) (by kernel_rfl) (fun _ _ _ h => h) (Or.inl ⟨by rfl, ?_⟩) ?_
        rotate_left
        · intro w; go_simp; first | done | with_reducible rfl
        refine wpAny_take (i := 7) (v := ?_) rfl (by kernel_rfl) (by kernel_rfl) (by kernel_rfl) (fun _ _ _ h => h) (Or.inl ⟨by rfl, ?_⟩) ?_
        rotate_left
        · intro w; go_simp; first | done | with_reducible rfl
        refine wpAny_ready (rs := [8]) (by kernel_rfl) (by simp) ?_
        refine AllReady.cons rfl (fun K hK => ?_) ?_
        · go_simp
          refine (CT.out _ _ _ _).mono ?_; rintro e w2 ⟨rfl, rfl⟩
          try go_simp
          refine hK _ _ ?_
          clear hK K
          refine wpAny_take (i := 9) (v := ?_) rfl (by kernel_rfl) (by kernel_rfl) (by kernel_rfl) (fun _ _ _ h => h) (Or.inl ⟨by rfl, ?_⟩) ?_
          rotate_left
          · intro w; go_simp; first | done | with_reducible rfl
          refine wpAny_done (by kernel_rfl) ?_ _
          go_wp2_with (first
            | (go_at_call 84; refine (CP.out _).mono ?_; rintro e w3 ⟨rfl, c3⟩; have B3 : Hid (Below w.heap.size w w3) := bel_tr B1.out c3; have d43 := bel_cell B3.out K4.out; have BB3 : Hid _ := c3; clear c3)
            | (go_at_call 85; refine (CM.out _ B3.out).mono ?_; rintro e w4 ⟨rfl, c4⟩; have B4 : Hid (Below w.heap.size w w4) := bel_tr B3.out c4; clear c4)
            | (go_at_call 18; refine (refuse_yes _ _).mono ?_; rintro e w5 ⟨rfl, hw5⟩; subst hw5))
          exact left_post rfl (LeftR.of B4.out)
        exact AllReady.nil
      exact AllReady.nil
    exact AllReady.nil
  exact AllReady.nil
set_option maxRecDepth 100000 in
set_option maxHeartbeats 4000000 in
theorem add_ok {base M0 S : Nat} {w : World} {s : Sp} {N L : RS} {ps : List NR} {gb : Nat} {gl : Option Nat} (h : Pre base M0 S w s N L ps gb gl) (hp : 0 < ps.length) (x : Nd) (hx : NdOk w (x, noS)) (hA : AddE s.ns x 0) (hR : Right s.ns) (hr : 1 ≤ roomI s.ns (parD x.path)) :
    Calls Tryz.prog 43 #[.pointer (some ⟨S, 0, none⟩), ndV (x, noS)] w fun r w' => AddR S base ⟨s.tx, s.nb, s.ng, s.now, sortN (s.ns ++ [x]), s.ls⟩ L gl w r w' := by
  have HPRE : Hid (Pre base M0 S w s N L ps gb gl) := h
  have CA : Hid (∀ W, Below w.heap.size w W → Calls Tryz.prog 83 #[.slice (some ⟨gb, 0, none⟩) N.n N.c, ndV (x, noS)] W fun e w' => TwoR W.heap.size (addL s.ns x 0) 0 e w' ∧ Below W.heap.size W w') := fun W hb => add_val ((h.below hb).nl hp) (x, noS) (hx.below hb) 0 hA
  have k4 := h.c4'
  have K4 : Hid (w.cell? ⟨S, 4, none⟩ = some (.slice (some ⟨gb, 0, none⟩) N.n N.c)) := k4
  obtain ⟨⟨D, M, F⟩, hP⟩ : ∃ y, parentX x.path = y := ⟨_, rfl⟩
  have hD : parD x.path = D := by unfold parD; rw [hP]
  have hsD : D.size ≤ maxLen := by
    have := parD_small hA
    rw [hD] at this; unfold maxLen; omega
  obtain ⟨R, hRR⟩ : ∃ R, roomI s.ns D = R := ⟨_, rfl⟩
  rw [hD, hRR] at hr
  have hrb : decide (R < 1) = false := decide_eq_false (by omega)
  have CP : Hid (∀ W, Calls Tryz.prog 84 #[.string x.path] W fun e w' => e = .returned (.tuple #[.string D, .string M, .int .i64 F]) ∧ Below W.heap.size W w') := fun W => parent_val x.path D M F W hx.small hP
  have CM : Hid (∀ W, Below w.heap.size w W → Calls Tryz.prog 85 #[.slice (some ⟨gb, 0, none⟩) N.n N.c, .string D] W fun e w' => e = .returned (.int .i64 R) ∧ Below W.heap.size W w') := fun W hb => room_val ((h.below hb).nl hp) true ⟨fun _ => hR, fun _ => rfl⟩ D hsD R hRR
  have CR : Hid (∀ E W, Calls Tryz.prog 18 #[.bool false, .int .i64 E] W fun e w' => e = .returned (.tuple #[]) ∧ W = w') := fun E W => (refuse_no E W).mono fun e w' ⟨h1, h2⟩ => ⟨h1, h2.symm⟩
  have CT : Hid (∀ W a n c, Calls Tryz.prog 45 #[.slice a n c, .int .i64 0] W fun e w' => e = .returned (.slice a n c) ∧ W = w') := fun W a n c => (takenN_ok W).mono fun e w' ⟨h1, h2⟩ => ⟨h1, h2.symm⟩
  have HAL : Hid (addL s.ns x 0 = sortN (s.ns ++ [x])) := rfl
  obtain ⟨xp, xd, xq, xb, xw⟩ := x
  unfold ndV noS at CA ⊢
  simp only at CA CP HAL ⊢
  have hst := run_store_str
  have hst2 : ∀ (w : World) (a : Addr) (x : Option Addr) (n c : Nat) (m : Mode), (store a (.slice x n c) m).run Tryz.prog w = stored Tryz.prog w a (.slice x n c) m := fun w a x n c m => run_store_any w a _ m rfl
  clear h hp hx hA hR hr hRR hsD hD hP k4
  go_enter Tryz.func43, Tryz.ntmps43
  go_wp2
  have ka := cell_al K4.out (.cells #[.string xp, .bool xd, .int .i64 xq, .slice none 0 0, .int .i64 xw] 35)
  refine wp_region_any (by kernel_rfl) ?_
  try (change wpAny _ _ _ _ _ _ _ (World.drew _))
  refine wpAny_take (i := 0) (v := ?_) rfl (by kernel_rfl) (by kernel_rfl) (by kernel_rfl) (fun _ _ _ h => h) (Or.inl ⟨by rfl, ?_⟩) ?_
  rotate_left
  · intro w; go_simp; first | done | with_reducible rfl
  refine wpAny_take (i := 1) (v := ?_) rfl (by kernel_rfl) (by kernel_rfl) (by kernel_rfl) (fun _ _ _ h => h) (Or.inl ⟨by rfl, ?_⟩) ?_
  rotate_left
  · intro w; go_simp; first | done | with_reducible rfl
  refine wpAny_take (i := 2) (v := ?_) rfl (by kernel_rfl) (by kernel_rfl) (by kernel_rfl) (fun _ _ _ h => h) (Or.inl ⟨by rfl, ?_⟩) ?_
  rotate_left
  · intro w; go_simp; first | done | with_reducible rfl
  refine wpAny_ready (rs := [3, 4]) (by kernel_rfl) (by simp) ?_
  refine AllReady.cons rfl (fun K hK => ?_) ?_
  · go_simp
    refine hK _ _ ?_
    clear hK K
    refine wpAny_ready (rs := [4]) (by kernel_rfl) (by simp) ?_
    refine AllReady.cons rfl (fun K hK => ?_) ?_
    · go_simp
      refine hK _ _ ?_
      clear hK K
      refine wpAny_ready (rs := [5]) (by kernel_rfl) (by simp) ?_
      refine AllReady.cons rfl (fun K hK => ?_) ?_
      · go_simp
        refine (CA.out _ (bel_tr (bel_al _ _) (bel_drewN _ 1))).mono ?_; rintro e w1 ⟨⟨na, nn, nc, rfl, hX⟩, c1⟩; have B1 : Hid (Below w.heap.size w w1) := bel_tr (bel_tr (bel_al _ _) (bel_drewN _ 1)) c1; have y0 := bel_cell (bel_tr (bel_drewN _ 1) c1) (World.cell?_alloc_new w _ _ 0); have d4 := bel_cell B1.out K4.out; have HX : Hid _ := hX; clear hX c1
        try go_simp
        refine hK _ _ ?_
        clear hK K
        refine wpAny_take (i := 6) (v := ?_) rfl (by kernel_rfl) (by kernel_rfl) (by kernel_rfl) (fun _ _ _ h => h) (Or.inl ⟨by rfl, ?_⟩) ?_
        rotate_left
        · intro w; go_simp; first | done | with_reducible rfl
        refine wpAny_take (i := 7) (v := ?_) rfl (by kernel_rfl) (by kernel_rfl) (by kernel_rfl) (fun _ _ _ h => h) (Or.inl ⟨by rfl, ?_⟩) ?_
        rotate_left
        · intro w; go_simp; first | done | with_reducible rfl
        refine wpAny_ready (rs := [8]) (by kernel_rfl) (by simp) ?_
        refine AllReady.cons rfl (fun K hK => ?_) ?_
        · go_simp
          refine (CT.out _ _ _ _).mono ?_; rintro e w2 ⟨rfl, rfl⟩
          try go_simp
          refine hK _ _ ?_
          clear hK K
          refine wpAny_take (i := 9) (v := ?_) rfl (by kernel_rfl) (by kernel_rfl) (by kernel_rfl) (fun _ _ _ h => h) (Or.inl ⟨by rfl, ?_⟩) ?_
          rotate_left
          · intro w; go_simp; first | done | with_reducible rfl
          refine wpAny_done (by kernel_rfl) ?_ _
          go_wp2_with (first
            | (go_at_call 84; refine (CP.out _).mono ?_; rintro e w3 ⟨rfl, c3⟩; have B3 : Hid (Below w.heap.size w w3) := bel_tr B1.out c3; have d43 := bel_cell B3.out K4.out; have BB3 : Hid (Below w1.heap.size w1 w3) := c3; clear c3)
            | (go_at_call 85; refine (CM.out _ B3.out).mono ?_; rintro e w4 ⟨rfl, c4⟩; have B4 : Hid (Below w.heap.size w w4) := bel_tr B3.out c4; have d44 := bel_cell B4.out K4.out; have BB4 : Hid (Below w1.heap.size w1 w4) := bel_tr BB3.out c4; have hfz := (HPRE.out.below B4.out).c.fr 4; clear c4)
            | (go_at_call 18; refine (CR.out _ _).mono ?_; rintro e w5 ⟨rfl, rfl⟩))
          first | go_end0 | refine bodyPost_ret (results_none rfl _ _ _) rfl ?_
          have hX4 := HX.out.below BB4.out
          rw [HAL.out] at hX4
          obtain ⟨ps', g', r1, r2, r3, r4, r5⟩ := HPRE.out.newNs (N' := ⟨na, nn, nc⟩) (by simp) B4.out hX4
          exact ⟨⟨⟨na, nn, nc⟩, ps', g', rfl, r1, by rw [setC_size]; exact r2, r4, r5⟩, r3⟩
        exact AllReady.nil
      exact AllReady.nil
    exact AllReady.nil
  refine AllReady.cons rfl (fun K hK => ?_) ?_
  · go_simp
    refine hK _ _ ?_
    clear hK K
    refine wpAny_ready (rs := [3]) (by kernel_rfl) (by simp) ?_
    refine AllReady.cons rfl (fun K hK => ?_) ?_
    · go_simp
      refine hK _ _ ?_
      clear hK K
      refine wpAny_ready (rs := [5]) (by kernel_rfl) (by simp) ?_
      refine AllReady.cons rfl (fun K hK => ?_) ?_
      · go_simp
        refine (CA.out _ (bel_tr (bel_al _ _) (bel_drewN _ 1))).mono ?_; rintro e w1 ⟨⟨na, nn, nc, rfl, hX⟩, c1⟩; have B1 : Hid (Below w.heap.size w w1) := bel_tr (bel_tr (bel_al _ _) (bel_drewN _ 1)) c1; have y0 := bel_cell (bel_tr (bel_drewN _ 1) c1) (World.cell?_alloc_new w _ _ 0); have d4 := bel_cell B1.out K4.out; have HX : Hid _ := hX; clear hX c1
        try go_simp
        refine hK _ _ ?_
        clear hK K
        refine wpAny_take (i := 6) (v := ?_) rfl (by kernel_rfl) (by kernel_rfl) (by kernel_rfl) (fun _ _ _ h => h) (Or.inl ⟨by rfl, ?_⟩) ?_
        rotate_left
        · intro w; go_simp; first | done | with_reducible rfl
        refine wpAny_take (i := 7) (v := ?_) rfl (by kernel_rfl) (by kernel_rfl) (by kernel_rfl) (fun _ _ _ h => h) (Or.inl ⟨by rfl, ?_⟩) ?_
        rotate_left
        · intro w; go_simp; first | done | with_reducible rfl
        refine wpAny_ready (rs := [8]) (by kernel_rfl) (by simp) ?_
        refine AllReady.cons rfl (fun K hK => ?_) ?_
        · go_simp
          refine (CT.out _ _ _ _).mono ?_; rintro e w2 ⟨rfl, rfl⟩
          try go_simp
          refine hK _ _ ?_
          clear hK K
          refine wpAny_take (i := 9) (v := ?_) rfl (by kernel_rfl) (by kernel_rfl) (by kernel_rfl) (fun _ _ _ h => h) (Or.inl ⟨by rfl, ?_⟩) ?_
          rotate_left
          · intro w; go_simp; first | done | with_reducible rfl
          refine wpAny_done (by kernel_rfl) ?_ _
          go_wp2_with (first
            | (go_at_call 84; refine (CP.out _).mono ?_; rintro e w3 ⟨rfl, c3⟩; have B3 : Hid (Below w.heap.size w w3) := bel_tr B1.out c3; have d43 := bel_cell B3.out K4.out; have BB3 : Hid (Below w1.heap.size w1 w3) := c3; clear c3)
            | (go_at_call 85; refine (CM.out _ B3.out).mono ?_; rintro e w4 ⟨rfl, c4⟩; have B4 : Hid (Below w.heap.size w w4) := bel_tr B3.out c4; have d44 := bel_cell B4.out K4.out; have BB4 : Hid (Below w1.heap.size w1 w4) := bel_tr BB3.out c4; have hfz := (HPRE.out.below B4.out).c.fr 4; clear c4)
            | (go_at_call 18; refine (CR.out _ _).mono ?_; rintro e w5 ⟨rfl, rfl⟩))
          first | go_end0 | refine bodyPost_ret (results_none rfl _ _ _) rfl ?_
          have hX4 := HX.out.below BB4.out
          rw [HAL.out] at hX4
          obtain ⟨ps', g', r1, r2, r3, r4, r5⟩ := HPRE.out.newNs (N' := ⟨na, nn, nc⟩) (by simp) B4.out hX4
          exact ⟨⟨⟨na, nn, nc⟩, ps', g', rfl, r1, by rw [setC_size]; exact r2, r4, r5⟩, r3⟩
        exact AllReady.nil
      exact AllReady.nil
    exact AllReady.nil
  exact AllReady.nil

end Go.Proofs.YticiihjkgiookaaGreat.Spa

/- The contracts of space.create, rename. -/
namespace Go.Proofs.YticiihjkgiookaaGreat.Spa
open Go.RowKit Go.Proofs.YticiihjkgiookaaGreat
open Go.Proofs.YticiihjkgiookaaGreat.Lea (LS Ls findX putL renX LL LO LsR lsC wideL)
open Go.Proofs.YticiihjkgiookaaGreat.Edi (Ed Nm EdAt edV)

theorem noS_ok (w : World) (x : Nd) (hb : x.bs = []) (hs : x.path.size ≤ maxLen) : NdOk w (x, noS) := ⟨hs, by rw [hb]; rfl, Nat.zero_le _, fun _ => rfl, fun hp => absurd hp (Nat.lt_irrefl 0)⟩
theorem free_no (base : Nat) (w : World) (x : Nd) (hb : x.bs = []) (hs : x.path.size ≤ maxLen) : Free base w (x, noS) := ⟨noS_ok w x hb hs, fun hp => absurd hp (Nat.lt_irrefl 0)⟩
theorem stay_cell {O : Nat → Prop} {w w' : World} (hs : Stay O w w') {b j : Nat} {v : Value} (hO : ¬ O b) (hc : w.cell? ⟨b, j, none⟩ = some v) : w'.cell? ⟨b, j, none⟩ = some v :=
  (World.cell?_of_block (a := ⟨b, j, none⟩) (hs.block b (World.block_lt_of_cell? _ _ hc) hO)).trans hc
theorem LeftR.after {S base M0 : Nat} {E : Int} {w w1 w2 : World} {r : Ending} (hb : Below w.heap.size w w1) (h : LeftR S base M0 E w1 r w2) : LeftR S base M0 E w r w2 := ⟨h.eq, (Stay.of_below hb).then_same h.st, fun s N L hc => h.c s N L (hc.below hb)⟩

set_option maxRecDepth 100000 in
set_option maxHeartbeats 4000000 in
theorem create_add {base M0 S : Nat} {w : World} {s : Sp} {N L : RS} {ps : List NR} {gb : Nat} {gl : Option Nat} (h : Pre base M0 S w s N L ps gb gl) (e : Ed) (ea : Option Addr) (em eq : Nat) (hp : 0 < ps.length) (hs : e.p.size ≤ maxLen) (hk : e.k = 2) (E : Int) (hA : AddE s.ns (newN e) E) (h0 : E ≠ 0) :
    Calls Tryz.prog 44 #[.pointer (some ⟨S, 0, none⟩), edV e ea em eq] w fun r w' => LeftR S base M0 E w r w' := by
  have hN : newN e = ⟨e.p, false, -1, [], e.c⟩ := by unfold newN; rw [if_pos hk, decide_eq_false (by omega)]
  rw [hN] at hA
  have CA : Hid (∀ W, Below w.heap.size w W → Calls Tryz.prog 43 #[.pointer (some ⟨S, 0, none⟩), ndV ((⟨e.p, false, -1, [], e.c⟩ : Nd), noS)] W fun r w' => LeftR S base M0 E W r w') := fun W hb => add_no (h.below hb) hp _ (noS_ok W _ rfl hs) E hA h0
  obtain ⟨k, p, t, cl, l, nn, ls⟩ := e
  unfold edV
  unfold ndV noS at CA
  simp only at CA ⊢
  have hst := run_store_str
  have hst2 : ∀ (w : World) (a : Addr) (x : Option Addr) (n c : Nat) (m : Mode), (store a (.slice x n c) m).run Tryz.prog w = stored Tryz.prog w a (.slice x n c) m := fun w a x n c m => run_store_any w a _ m rfl
  clear h hp hs hA hN
  go_enter Tryz.func44, Tryz.ntmps44
  go_wp2_with (first
    | (go_at_call 86; refine (newFile_val _ _ _).mono ?_; rintro e w1 ⟨rfl, c1⟩; obtain ⟨q1, q2, q3, q4, q5, q6⟩ := two_boxes c1; have y3 := q1 3 _ rfl; have B1 : Hid (Below w.heap.size w w1) := q5; have HAN : Hid (AnC w1 (w.heap.size + 1) 0 zeroB noS zeroX 0) := ⟨q3 0 _ rfl, q3 1 _ rfl, q3 2 _ rfl, q3 3 _ rfl, q3 4 _ rfl, q3 5 _ rfl, q3 6 _ rfl, q3 7 _ rfl, q3 8 _ rfl, q3 9 _ rfl, q3 10 _ rfl, q4⟩; have HSZ : Hid (w.heap.size + 2 ≤ w1.heap.size) := q6; unfold ndV; simp only; clear c1 q1 q2 q3 q4 q5 q6)
    | (go_at_call 43; refine (CA.out _ (bel_tr B1.out (bel_al _ _))).mono ?_; rintro e w2 ⟨rfl, hS2, hc2⟩; have HS2 : Hid _ := hS2; have HCC : Hid _ := hc2; clear hS2 hc2))
  exact left_post rfl ⟨rfl, (Stay.of_below (bel_tr B1.out (bel_al _ _))).then_same HS2.out, fun s N L h => HCC.out s N L (h.below (bel_tr B1.out (bel_al _ _)))⟩

set_option maxRecDepth 100000 in
set_option maxHeartbeats 4000000 in
theorem create_full {base M0 S : Nat} {w : World} {s : Sp} {N L : RS} {ps : List NR} {gb : Nat} {gl : Option Nat} (h : Pre base M0 S w s N L ps gb gl) (e : Ed) (ea : Option Addr) (em eq : Nat) (hp : 0 < ps.length) (hs : e.p.size ≤ maxLen) (hk : e.k = 2) (hR : Right s.ns) (hA : AddE s.ns (newN e) 0) (hr : roomI s.ns (parD e.p) < 1) :
    Calls Tryz.prog 44 #[.pointer (some ⟨S, 0, none⟩), edV e ea em eq] w fun r w' => LeftR S base M0 8 w r w' := by
  have hN : newN e = ⟨e.p, false, -1, [], e.c⟩ := by unfold newN; rw [if_pos hk, decide_eq_false (by omega)]
  rw [hN] at hA
  have CA : Hid (∀ W, Below w.heap.size w W → Calls Tryz.prog 43 #[.pointer (some ⟨S, 0, none⟩), ndV ((⟨e.p, false, -1, [], e.c⟩ : Nd), noS)] W fun r w' => LeftR S base M0 8 W r w') := fun W hb => add_full (h.below hb) hp _ (noS_ok W _ rfl hs) hA hR hr
  obtain ⟨k, p, t, cl, l, nn, ls⟩ := e
  unfold edV
  unfold ndV noS at CA
  simp only at CA ⊢
  have hst := run_store_str
  have hst2 : ∀ (w : World) (a : Addr) (x : Option Addr) (n c : Nat) (m : Mode), (store a (.slice x n c) m).run Tryz.prog w = stored Tryz.prog w a (.slice x n c) m := fun w a x n c m => run_store_any w a _ m rfl
  clear h hp hs hA hN
  go_enter Tryz.func44, Tryz.ntmps44
  go_wp2_with (first
    | (go_at_call 86; refine (newFile_val _ _ _).mono ?_; rintro e w1 ⟨rfl, c1⟩; obtain ⟨q1, q2, q3, q4, q5, q6⟩ := two_boxes c1; have y3 := q1 3 _ rfl; have B1 : Hid (Below w.heap.size w w1) := q5; have HAN : Hid (AnC w1 (w.heap.size + 1) 0 zeroB noS zeroX 0) := ⟨q3 0 _ rfl, q3 1 _ rfl, q3 2 _ rfl, q3 3 _ rfl, q3 4 _ rfl, q3 5 _ rfl, q3 6 _ rfl, q3 7 _ rfl, q3 8 _ rfl, q3 9 _ rfl, q3 10 _ rfl, q4⟩; have HSZ : Hid (w.heap.size + 2 ≤ w1.heap.size) := q6; unfold ndV; simp only; clear c1 q1 q2 q3 q4 q5 q6)
    | (go_at_call 43; refine (CA.out _ (bel_tr B1.out (bel_al _ _))).mono ?_; rintro e w2 ⟨rfl, hS2, hc2⟩; have HS2 : Hid _ := hS2; have HCC : Hid _ := hc2; clear hS2 hc2))
  exact left_post rfl ⟨rfl, (Stay.of_below (bel_tr B1.out (bel_al _ _))).then_same HS2.out, fun s N L h => HCC.out s N L (h.below (bel_tr B1.out (bel_al _ _)))⟩

set_option maxRecDepth 100000 in
set_option maxHeartbeats 4000000 in
theorem create_ok {base M0 S : Nat} {w : World} {s : Sp} {N L : RS} {ps : List NR} {gb : Nat} {gl : Option Nat} (h : Pre base M0 S w s N L ps gb gl) (e : Ed) (ea : Option Addr) (em eq : Nat) (hp : 0 < ps.length) (hs : e.p.size ≤ maxLen) (hk : e.k = 2) (hR : Right s.ns) (hA : AddE s.ns (newN e) 0) (hr : 1 ≤ roomI s.ns (parD e.p)) (ys : LS) (hL : renX s.ls e.c s.now = (ys, true)) :
    Calls Tryz.prog 44 #[.pointer (some ⟨S, 0, none⟩), edV e ea em eq] w fun r w' => DoneR S base M0 ⟨s.tx, s.nb, s.ng, s.now, sortN (s.ns ++ [newN e]), ys⟩ zeroB (newN e) w r w' := by
  have hN : newN e = ⟨e.p, false, -1, [], e.c⟩ := by unfold newN; rw [if_pos hk, decide_eq_false (by omega)]
  rw [hN] at hA ⊢
  have CA : Hid (∀ W, Below w.heap.size w W → Calls Tryz.prog 43 #[.pointer (some ⟨S, 0, none⟩), ndV ((⟨e.p, false, -1, [], e.c⟩ : Nd), noS)] W fun r w' => AddR S base ⟨s.tx, s.nb, s.ng, s.now, sortN (s.ns ++ [⟨e.p, false, -1, [], e.c⟩]), s.ls⟩ L gl W r w') := fun W hb => add_ok (h.below hb) hp _ (noS_ok W _ rfl hs) hA hR hr
  have CL : Hid (∀ W N' L', SpC W S ⟨s.tx, s.nb, s.ng, s.now, sortN (s.ns ++ [⟨e.p, false, -1, [], e.c⟩]), s.ls⟩ N' L' → LL W L'.a L'.n L'.c s.ls → Calls Tryz.prog 87 #[.pointer (some ⟨S, 0, none⟩), .int .i64 e.c] W fun r w' => RnwR S ⟨s.tx, s.nb, s.ng, s.now, sortN (s.ns ++ [⟨e.p, false, -1, [], e.c⟩]), s.ls⟩ N' ys W r w') := fun W N' L' hC hll => renewLease_ok hC hll e.c ys hL
  have HPRE : Hid (Pre base M0 S w s N L ps gb gl) := h
  have HS : Hid (e.p.size ≤ maxLen) := hs
  obtain ⟨k, p, t, cl, l, nn, ls⟩ := e
  unfold edV
  unfold ndV noS at CA
  simp only at CA CL HS ⊢
  have hst := run_store_str
  have hst2 : ∀ (w : World) (a : Addr) (x : Option Addr) (n c : Nat) (m : Mode), (store a (.slice x n c) m).run Tryz.prog w = stored Tryz.prog w a (.slice x n c) m := fun w a x n c m => run_store_any w a _ m rfl
  clear h hp hs hA hN hr hR hL
  go_enter Tryz.func44, Tryz.ntmps44
  go_wp2_with (first
    | (go_at_call 86; refine (newFile_val _ _ _).mono ?_; rintro e w1 ⟨rfl, c1⟩; obtain ⟨q1, q2, q3, q4, q5, q6⟩ := two_boxes c1; have y3 := q1 3 _ rfl; have B1 : Hid (Below w.heap.size w w1) := q5; have HAN : Hid (AnC w1 (w.heap.size + 1) 0 zeroB noS zeroX 0) := ⟨q3 0 _ rfl, q3 1 _ rfl, q3 2 _ rfl, q3 3 _ rfl, q3 4 _ rfl, q3 5 _ rfl, q3 6 _ rfl, q3 7 _ rfl, q3 8 _ rfl, q3 9 _ rfl, q3 10 _ rfl, q4⟩; have HSZ : Hid (w.heap.size + 2 ≤ w1.heap.size) := q6; unfold ndV; simp only; clear c1 q1 q2 q3 q4 q5 q6)
    | (go_at_call 43; refine (CA.out _ (bel_tr B1.out (bel_al _ _))).mono ?_; rintro e w2 ⟨⟨N', ps', g', rfl, hC2, hO2, hg2, hx2⟩, hS2⟩; have HC2 : Hid _ := hC2; have HO2 : Hid _ := hO2; have HG2 : Hid _ := hg2; have HXX : Hid _ := hx2; have HS2 : Hid _ := hS2; have hlt := HPRE.out.lt; have hsz := HSZ.out; have b3 := stay_cell hS2 (b := w.heap.size) (by omega) (cell_al y3 _); have n0 := stay_cell hS2 (b := w1.heap.size) (by omega) (World.cell?_alloc_new w1 _ _ 0); have n1 := stay_cell hS2 (b := w1.heap.size) (by omega) (World.cell?_alloc_new w1 _ _ 1); have n2 := stay_cell hS2 (b := w1.heap.size) (by omega) (World.cell?_alloc_new w1 _ _ 2); have n3 := stay_cell hS2 (b := w1.heap.size) (by omega) (World.cell?_alloc_new w1 _ _ 3); have n4 := stay_cell hS2 (b := w1.heap.size) (by omega) (World.cell?_alloc_new w1 _ _ 4); have HAN2 : Hid _ := (HAN.out.below (bel_al w1 _)).keep hS2 (by omega); clear hlt hsz hC2 hO2 hg2 hx2 hS2)
    | (go_at_call 87; refine (CL.out _ N' L HC2.out HO2.out.lo.ll).mono ?_; rintro e w3 ⟨⟨L', gl', rfl, hC3, hL3⟩, hS3⟩; have hlt := HPRE.out.lt; have hsz := HSZ.out; have m0 := stay_cell hS3 (b := w1.heap.size) (by omega) n0; have m1 := stay_cell hS3 (b := w1.heap.size) (by omega) n1; have m2 := stay_cell hS3 (b := w1.heap.size) (by omega) n2; have m3 := stay_cell hS3 (b := w1.heap.size) (by omega) n3; have m4 := stay_cell hS3 (b := w1.heap.size) (by omega) n4; have HAN4 : Hid (AnC w3 (w.heap.size + 1) 0 zeroB noS zeroX 0) := HAN2.out.keep hS3 (by omega); have HC3 : Hid _ := hC3; have HL3 : Hid _ := hL3; have HS3 : Hid _ := hS3; obtain ⟨a0, a1, a2, a3, a4, a5, a6, a7, a8, a9, a10, afr⟩ := HAN4.out; unfold zeroB at a1 a2 a3; unfold noS at a4; unfold zeroX zeroN noS at a5 a6 a7 a8 a9; simp only at a1 a2 a3 a4 a5 a6 a7 a8 a9; clear hC3 hL3 hS3 hlt hsz))
  have hsb := HPRE.out.sb
  have hbw := HPRE.out.bw
  have hlt := HPRE.out.lt
  have hsz1 := HSZ.out
  have hsW : (w1.alloc (.cells #[.string p, .bool false, .int .i64 (-1), .slice none 0 0, .int .i64 cl] 35)).heap.size = w1.heap.size + 1 := by simp
  have hsz2 := HS2.out.size
  have hsz3 := HS3.out.size
  have hO4 := HO2.out.renew (Nat.le_refl _) hsb (by omega) HL3.out HS3.out
  have hlo := HL3.out.own
  have hg2 := HG2.out
  have hx2 := HXX.out
  have hst4 : Stay (Chg S base M0) w w3 := ((Stay.of_below (bel_tr B1.out (bel_al w1 _))).trans HS2.out (fun k _ e => .inl e)).trans HS3.out (fun k _ e => .inl e)
  obtain ⟨hA, hD⟩ := DoneR.mk2 (b := zeroB) (x := ⟨p, false, -1, [], cl⟩) (sx := noS) HAN4.out HC3.out hO4 (free_no _ w3 ⟨p, false, -1, [], cl⟩ rfl HS.out) (by omega) hst4 (by omega) HPRE.out.bw HPRE.out.lt.2.2.1 (fun k hk => by have := hg2 k hk; omega) (fun k hk => by have := (hlo k hk).2; omega) (fun z hz k hk => by have := hx2 z hz k hk; omega) (fun k hk => by unfold noS RS.blk at hk; simp at hk)
  have k0 := hA.c0
  have k1 := hA.c1
  have k2 := hA.c2
  have k3 := hA.c3
  have k4 := hA.c4
  have k5 := hA.c5
  have k6 := hA.c6
  have k7 := hA.c7
  have k8 := hA.c8
  have k9 := hA.c9
  have k10 := hA.c10
  unfold put11 noS at k0 k1 k2 k3 k4 k5 k6 k7 k8 k9 k10 hD
  simp only [zeroB, anV] at k0 k1 k2 k3 k4 k5 k6 k7 k8 k9 k10 hD
  refine bodyPost_ret ?_ rfl hD
  simp only [results, Tryz.results44]
  simp [go_sem, k0, k1, k2, k3, k4, k5, k6, k7, k8, k9, k10]

end Go.Proofs.YticiihjkgiookaaGreat.Spa

/- The contract of space.rename. -/
namespace Go.Proofs.YticiihjkgiookaaGreat.Spa
open Go.RowKit Go.Proofs.YticiihjkgiookaaGreat
open Go.Proofs.YticiihjkgiookaaGreat.Lea (LS Ls findX putL renX LL LO LsR lsC wideL)
open Go.Proofs.YticiihjkgiookaaGreat.Edi (Ed Nm EdAt edV)

set_option maxRecDepth 100000 in
set_option maxHeartbeats 4000000 in
theorem rename_mov {base M0 S : Nat} {w : World} {s : Sp} {N L : RS} {ps : List NR} {gb : Nat} {gl : Option Nat} (h : Pre base M0 S w s N L ps gb gl) (e : Ed) (ea : Option Addr) (em eq : Nat) (hp : 0 < ps.length) (hs : e.p.size ≤ maxLen) (ht : e.t.size ≤ maxLen) (E : Int) (hM : MovE s.ns e.p e.t E) (h0 : E ≠ 0) :
    Calls Tryz.prog 47 #[.pointer (some ⟨S, 0, none⟩), edV e ea em eq] w fun r w' => LeftR S base M0 E w r w' := by
  have HPRE : Hid (Pre base M0 S w s N L ps gb gl) := h
  have CM : Hid (∀ W, Below w.heap.size w W → Calls Tryz.prog 92 #[.slice (some ⟨gb, 0, none⟩) N.n N.c, .string e.p, .string e.t] W fun r w' => TwoR W.heap.size (movA s.ns e.p e.t E) E r w' ∧ Below W.heap.size W w') := fun W hb => move_tree ((h.below hb).nl hp) e.p e.t hs ht E hM
  have k4 := h.c4'
  have K4 : Hid (w.cell? ⟨S, 4, none⟩ = some (.slice (some ⟨gb, 0, none⟩) N.n N.c)) := k4
  have h0b : (E != 0) = true := by simpa using h0
  obtain ⟨k, p, t, cl, l, nn, ls⟩ := e
  unfold edV
  simp only at CM ⊢
  have hst := run_store_str
  clear h hp hs ht hM h0 k4
  go_enter Tryz.func47, Tryz.ntmps47
  go_wp2
  have ka := cell_al K4.out (.cells #[.int .i64 k, .string p, .string t, .int .i64 cl, .int .i64 l, .int .i64 nn, .slice ea em eq] 42)
  refine wp_region_any (by kernel_rfl) ?_
  try (change wpAny _ _ _ _ _ _ _ (World.drew _))
  refine wpAny_take (i := 0) (v := ?_) rfl (by kernel_rfl) (by kernel_rfl) (by kernel_rfl) (fun _ _ _ h => h) (Or.inl ⟨by rfl, ?_⟩) ?_
  rotate_left
  · intro w; go_simp; first | done | with_reducible rfl
  refine wpAny_take (i := 1) (v := ?_) rfl (by kernel_rfl) (by kernel_rfl) (by kernel_rfl) (fun _ _ _ h => h) (Or.inl ⟨by rfl, ?_⟩) ?_
  rotate_left
  · intro w; go_simp; first | done | with_reducible rfl
  refine wpAny_take (i := 2) (v := ?_) rfl (by kernel_rfl) (by kernel_rfl) (by kernel_rfl) (fun _ _ _ h => h) (Or.inl ⟨by rfl, ?_⟩) ?_
  rotate_left
  · intro w; go_simp; first | done | with_reducible rfl
  refine wpAny_take (i := 3) (v := ?_) rfl (by kernel_rfl) (by kernel_rfl) (by kernel_rfl) (fun _ _ _ h => h) (Or.inl ⟨by rfl, ?_⟩) ?_
  rotate_left
  · intro w; go_simp; first | done | with_reducible rfl
  refine wpAny_take (i := 5) (v := ?_) rfl (by kernel_rfl) (by kernel_rfl) (by kernel_rfl) (fun _ _ _ h => h) (Or.inl ⟨by rfl, ?_⟩) ?_
  rotate_left
  · intro w; go_simp; first | done | with_reducible rfl
  refine wpAny_take (i := 7) (v := ?_) rfl (by kernel_rfl) (by kernel_rfl) (by kernel_rfl) (fun _ _ _ h => h) (Or.inl ⟨by rfl, ?_⟩) ?_
  rotate_left
  · intro w; go_simp; first | done | with_reducible rfl
  refine wpAny_ready (rs := [4, 6, 8]) (by kernel_rfl) (by simp) ?_
  refine AllReady.cons rfl (fun K hK => ?_) ?_
  · go_simp
    refine hK _ _ ?_
    clear hK K
    refine wpAny_ready (rs := [6, 8]) (by kernel_rfl) (by simp) ?_
    refine AllReady.cons rfl (fun K hK => ?_) ?_
    · go_simp
      refine hK _ _ ?_
      clear hK K
      refine wpAny_ready (rs := [8]) (by kernel_rfl) (by simp) ?_
      refine AllReady.cons rfl (fun K hK => ?_) ?_
      · go_simp
        refine hK _ _ ?_
        clear hK K
        refine wpAny_ready (rs := [9]) (by kernel_rfl) (by simp) ?_
        refine AllReady.cons rfl (fun K hK => ?_) ?_
        · go_simp
          refine (CM.out _ (bel_tr (bel_al _ _) (bel_drewN _ 1))).mono ?_; rintro e w1 ⟨⟨na, n1, nc, rfl, hX⟩, c1⟩; have B1 : Hid (Below w.heap.size w w1) := bel_tr (bel_tr (bel_al _ _) (bel_drewN _ 1)) c1; have d4 := bel_cell B1.out K4.out; have HX : Hid _ := hX; clear hX c1
          try go_simp
          refine hK _ _ ?_
          clear hK K
          refine wpAny_take (i := 10) (v := ?_) rfl (by kernel_rfl) (by kernel_rfl) (by kernel_rfl) (fun _ _ _ h => h) (Or.inl ⟨by rfl, ?_⟩) ?_
          rotate_left
          · intro w; go_simp; first | done | with_reducible rfl
          refine wpAny_take (i := 11) (v := ?_) rfl (by kernel_rfl) (by kernel_rfl) (by kernel_rfl) (fun _ _ _ h => h) (Or.inl ⟨by rfl, ?_⟩) ?_
          rotate_left
          · intro w; go_simp; first | done | with_reducible rfl
          refine wpAny_ready (rs := [12]) (by kernel_rfl) (by simp) ?_
          refine AllReady.cons rfl (fun K hK => ?_) ?_
          · go_simp
            refine (takenN_no _ h0b _).mono ?_; rintro e w2 ⟨rfl, hw2⟩; subst hw2; exact left_post rfl (LeftR.of B1.out)
          exact AllReady.nil
        exact AllReady.nil
      exact AllReady.nil
    refine AllReady.cons rfl (fun K hK => ?_) ?_
    · go_simp
      refine hK _ _ ?_
      clear hK K
      refine wpAny_ready (rs := [6]) (by kernel_rfl) (by simp) ?_
      refine AllReady.cons rfl (fun K hK => ?_) ?_
      · go_simp
        refine hK _ _ ?_
        clear hK K
        refine wpAny_ready (rs := [9]) (by kernel_rfl) (by simp) ?_
        refine AllReady.cons rfl (fun K hK => ?_) ?_
        · go_simp
          refine (CM.out _ (bel_tr (bel_al _ _) (bel_drewN _ 1))).mono ?_; rintro e w1 ⟨⟨na, n1, nc, rfl, hX⟩, c1⟩; have B1 : Hid (Below w.heap.size w w1) := bel_tr (bel_tr (bel_al _ _) (bel_drewN _ 1)) c1; have d4 := bel_cell B1.out K4.out; have HX : Hid _ := hX; clear hX c1
          try go_simp
          refine hK _ _ ?_
          clear hK K
          refine wpAny_take (i := 10) (v := ?_) rfl (by kernel_rfl) (by kernel_rfl) (by kernel_rfl) (fun _ _ _ h => h) (Or.inl ⟨by rfl, ?_⟩) ?_
          rotate_left
          · intro w; go_simp; first | done | with_reducible rfl
          refine wpAny_take (i := 11) (v := ?_) rfl (by kernel_rfl) (by kernel_rfl) (by kernel_rfl) (fun _ _ _ h => h) (Or.inl ⟨by rfl, ?_⟩) ?_
          rotate_left
          · intro w; go_simp; first | done | with_reducible rfl
          refine wpAny_ready (rs := [12]) (by kernel_rfl) (by simp) ?_
          refine AllReady.cons rfl (fun K hK => ?_) ?_
          · go_simp
            refine (takenN_no _ h0b _).mono ?_; rintro e w2 ⟨rfl, hw2⟩; subst hw2; exact left_post rfl (LeftR.of B1.out)
          exact AllReady.nil
        exact AllReady.nil
      exact AllReady.nil
    exact AllReady.nil
  refine AllReady.cons rfl (fun K hK => ?_) ?_
  · go_simp
    refine hK _ _ ?_
    clear hK K
    refine wpAny_ready (rs := [4, 8]) (by kernel_rfl) (by simp) ?_
    refine AllReady.cons rfl (fun K hK => ?_) ?_
    · go_simp
      refine hK _ _ ?_
      clear hK K
      refine wpAny_ready (rs := [8]) (by kernel_rfl) (by simp) ?_
      refine AllReady.cons rfl (fun K hK => ?_) ?_
      · go_simp
        refine hK _ _ ?_
        clear hK K
        refine wpAny_ready (rs := [9]) (by kernel_rfl) (by simp) ?_
        refine AllReady.cons rfl (fun K hK => ?_) ?_
        · go_simp
          refine (CM.out _ (bel_tr (bel_al _ _) (bel_drewN _ 1))).mono ?_; rintro e w1 ⟨⟨na, n1, nc, rfl, hX⟩, c1⟩; have B1 : Hid (Below w.heap.size w w1) := bel_tr (bel_tr (bel_al _ _) (bel_drewN _ 1)) c1; have d4 := bel_cell B1.out K4.out; have HX : Hid _ := hX; clear hX c1
          try go_simp
          refine hK _ _ ?_
          clear hK K
          refine wpAny_take (i := 10) (v := ?_) rfl (by kernel_rfl) (by kernel_rfl) (by kernel_rfl) (fun _ _ _ h => h) (Or.inl ⟨by rfl, ?_⟩) ?_
          rotate_left
          · intro w; go_simp; first | done | with_reducible rfl
          refine wpAny_take (i := 11) (v := ?_) rfl (by kernel_rfl) (by kernel_rfl) (by kernel_rfl) (fun _ _ _ h => h) (Or.inl ⟨by rfl, ?_⟩) ?_
          rotate_left
          · intro w; go_simp; first | done | with_reducible rfl
          refine wpAny_ready (rs := [12]) (by kernel_rfl) (by simp) ?_
          refine AllReady.cons rfl (fun K hK => ?_) ?_
          · go_simp
            refine (takenN_no _ h0b _).mono ?_; rintro e w2 ⟨rfl, hw2⟩; subst hw2; exact left_post rfl (LeftR.of B1.out)
          exact AllReady.nil
        exact AllReady.nil
      exact AllReady.nil
    refine AllReady.cons rfl (fun K hK => ?_) ?_
    · go_simp
      refine hK _ _ ?_
      clear hK K
      refine wpAny_ready (rs := [4]) (by kernel_rfl) (by simp) ?_
      refine AllReady.cons rfl (fun K hK => ?_) ?_
      · go_simp
        refine hK _ _ ?_
        clear hK K
        refine wpAny_ready (rs := [9]) (by kernel_rfl) (by simp) ?_
        refine AllReady.cons rfl (fun K hK => ?_) ?_
        · go_simp
          refine (CM.out _ (bel_tr (bel_al _ _) (bel_drewN _ 1))).mono ?_; rintro e w1 ⟨⟨na, n1, nc, rfl, hX⟩, c1⟩; have B1 : Hid (Below w.heap.size w w1) := bel_tr (bel_tr (bel_al _ _) (bel_drewN _ 1)) c1; have d4 := bel_cell B1.out K4.out; have HX : Hid _ := hX; clear hX c1
          try go_simp
          refine hK _ _ ?_
          clear hK K
          refine wpAny_take (i := 10) (v := ?_) rfl (by kernel_rfl) (by kernel_rfl) (by kernel_rfl) (fun _ _ _ h => h) (Or.inl ⟨by rfl, ?_⟩) ?_
          rotate_left
          · intro w; go_simp; first | done | with_reducible rfl
          refine wpAny_take (i := 11) (v := ?_) rfl (by kernel_rfl) (by kernel_rfl) (by kernel_rfl) (fun _ _ _ h => h) (Or.inl ⟨by rfl, ?_⟩) ?_
          rotate_left
          · intro w; go_simp; first | done | with_reducible rfl
          refine wpAny_ready (rs := [12]) (by kernel_rfl) (by simp) ?_
          refine AllReady.cons rfl (fun K hK => ?_) ?_
          · go_simp
            refine (takenN_no _ h0b _).mono ?_; rintro e w2 ⟨rfl, hw2⟩; subst hw2; exact left_post rfl (LeftR.of B1.out)
          exact AllReady.nil
        exact AllReady.nil
      exact AllReady.nil
    exact AllReady.nil
  refine AllReady.cons rfl (fun K hK => ?_) ?_
  · go_simp
    refine hK _ _ ?_
    clear hK K
    refine wpAny_ready (rs := [4, 6]) (by kernel_rfl) (by simp) ?_
    refine AllReady.cons rfl (fun K hK => ?_) ?_
    · go_simp
      refine hK _ _ ?_
      clear hK K
      refine wpAny_ready (rs := [6]) (by kernel_rfl) (by simp) ?_
      refine AllReady.cons rfl (fun K hK => ?_) ?_
      · go_simp
        refine hK _ _ ?_
        clear hK K
        refine wpAny_ready (rs := [9]) (by kernel_rfl) (by simp) ?_
        refine AllReady.cons rfl (fun K hK => ?_) ?_
        · go_simp
          refine (CM.out _ (bel_tr (bel_al _ _) (bel_drewN _ 1))).mono ?_; rintro e w1 ⟨⟨na, n1, nc, rfl, hX⟩, c1⟩; have B1 : Hid (Below w.heap.size w w1) := bel_tr (bel_tr (bel_al _ _) (bel_drewN _ 1)) c1; have d4 := bel_cell B1.out K4.out; have HX : Hid _ := hX; clear hX c1
          try go_simp
          refine hK _ _ ?_
          clear hK K
          refine wpAny_take (i := 10) (v := ?_) rfl (by kernel_rfl) (by kernel_rfl) (by kernel_rfl) (fun _ _ _ h => h) (Or.inl ⟨by rfl, ?_⟩) ?_
          rotate_left
          · intro w; go_simp; first | done | with_reducible rfl
          refine wpAny_take (i := 11) (v := ?_) rfl (by kernel_rfl) (by kernel_rfl) (by kernel_rfl) (fun _ _ _ h => h) (Or.inl ⟨by rfl, ?_⟩) ?_
          rotate_left
          · intro w; go_simp; first | done | with_reducible rfl
          refine wpAny_ready (rs := [12]) (by kernel_rfl) (by simp) ?_
          refine AllReady.cons rfl (fun K hK => ?_) ?_
          · go_simp
            refine (takenN_no _ h0b _).mono ?_; rintro e w2 ⟨rfl, hw2⟩; subst hw2; exact left_post rfl (LeftR.of B1.out)
          exact AllReady.nil
        exact AllReady.nil
      exact AllReady.nil
    refine AllReady.cons rfl (fun K hK => ?_) ?_
    · go_simp
      refine hK _ _ ?_
      clear hK K
      refine wpAny_ready (rs := [4]) (by kernel_rfl) (by simp) ?_
      refine AllReady.cons rfl (fun K hK => ?_) ?_
      · go_simp
        refine hK _ _ ?_
        clear hK K
        refine wpAny_ready (rs := [9]) (by kernel_rfl) (by simp) ?_
        refine AllReady.cons rfl (fun K hK => ?_) ?_
        · go_simp
          refine (CM.out _ (bel_tr (bel_al _ _) (bel_drewN _ 1))).mono ?_; rintro e w1 ⟨⟨na, n1, nc, rfl, hX⟩, c1⟩; have B1 : Hid (Below w.heap.size w w1) := bel_tr (bel_tr (bel_al _ _) (bel_drewN _ 1)) c1; have d4 := bel_cell B1.out K4.out; have HX : Hid _ := hX; clear hX c1
          try go_simp
          refine hK _ _ ?_
          clear hK K
          refine wpAny_take (i := 10) (v := ?_) rfl (by kernel_rfl) (by kernel_rfl) (by kernel_rfl) (fun _ _ _ h => h) (Or.inl ⟨by rfl, ?_⟩) ?_
          rotate_left
          · intro w; go_simp; first | done | with_reducible rfl
          refine wpAny_take (i := 11) (v := ?_) rfl (by kernel_rfl) (by kernel_rfl) (by kernel_rfl) (fun _ _ _ h => h) (Or.inl ⟨by rfl, ?_⟩) ?_
          rotate_left
          · intro w; go_simp; first | done | with_reducible rfl
          refine wpAny_ready (rs := [12]) (by kernel_rfl) (by simp) ?_
          refine AllReady.cons rfl (fun K hK => ?_) ?_
          · go_simp
            refine (takenN_no _ h0b _).mono ?_; rintro e w2 ⟨rfl, hw2⟩; subst hw2; exact left_post rfl (LeftR.of B1.out)
          exact AllReady.nil
        exact AllReady.nil
      exact AllReady.nil
    exact AllReady.nil
  exact AllReady.nil
set_option maxRecDepth 100000 in
set_option maxHeartbeats 4000000 in
theorem rename_full {base M0 S : Nat} {w : World} {s : Sp} {N L : RS} {ps : List NR} {gb : Nat} {gl : Option Nat} (h : Pre base M0 S w s N L ps gb gl) (e : Ed) (ea : Option Addr) (em eq : Nat) (hp : 0 < ps.length) (hs : e.p.size ≤ maxLen) (ht : e.t.size ≤ maxLen) (hM : MovE s.ns e.p e.t 0) (ho : overL (movL s.ns e.p e.t) ≠ []) :
    Calls Tryz.prog 47 #[.pointer (some ⟨S, 0, none⟩), edV e ea em eq] w fun r w' => LeftR S base M0 8 w r w' := by
  have HPRE : Hid (Pre base M0 S w s N L ps gb gl) := h
  have CM : Hid (∀ W, Below w.heap.size w W → Calls Tryz.prog 92 #[.slice (some ⟨gb, 0, none⟩) N.n N.c, .string e.p, .string e.t] W fun r w' => TwoR W.heap.size (movA s.ns e.p e.t 0) 0 r w' ∧ Below W.heap.size W w') := fun W hb => move_tree ((h.below hb).nl hp) e.p e.t hs ht 0 hM
  have k4 := h.c4'
  have K4 : Hid (w.cell? ⟨S, 4, none⟩ = some (.slice (some ⟨gb, 0, none⟩) N.n N.c)) := k4
  have hR : Right (movL s.ns e.p e.t) := (mov_of hM).tree.1
  obtain ⟨ys, hy⟩ : ∃ ys, overL (movL s.ns e.p e.t) = ys := ⟨_, rfl⟩
  obtain ⟨m, hm⟩ : ∃ m, ys.length = m := ⟨_, rfl⟩
  have CO : Hid (∀ W a n c, NL W a n (movL s.ns e.p e.t) → Calls Tryz.prog 34 #[.slice a n c] W fun r w' => (∃ a c, r = .returned (.slice a m c)) ∧ Below W.heap.size W w') := fun W a n c hN => (over_val hN true ⟨fun _ => hR, fun _ => rfl⟩ ys hy m hm).mono fun r w' ⟨h1, h2⟩ => ⟨by obtain ⟨a, b, c, k, _⟩ := h1.ex; exact ⟨_, _, k⟩, h2⟩
  have hmb : decide ((0 : Int) < (m : Int)) = true := decide_eq_true (by have : 0 < ys.length := List.length_pos_iff.2 (by rw [← hy]; exact ho); omega)
  have hmb2 : decide (0 < m) = true := decide_eq_true (by have : 0 < ys.length := List.length_pos_iff.2 (by rw [← hy]; exact ho); omega)
  have CT : Hid (∀ W a n c, Calls Tryz.prog 45 #[.slice a n c, .int .i64 0] W fun e w' => e = .returned (.slice a n c) ∧ W = w') := fun W a n c => (takenN_ok W).mono fun e w' ⟨h1, h2⟩ => ⟨h1, h2.symm⟩
  have HAL : Hid (movA s.ns e.p e.t 0 = movL s.ns e.p e.t) := rfl
  have HNN : Hid (∀ w1 (N' : RS), Below w.heap.size w w1 → LX ((w.alloc (.cells #[.int .i64 e.k, .string e.p, .string e.t, .int .i64 e.c, .int .i64 e.l, .int .i64 e.n, .slice ea em eq] 42)).drewN 1).heap.size w1 N'.a N'.n N'.c (movL s.ns e.p e.t) → ∃ ps' g', SpC (w1.setCell ⟨S, 4, none⟩ (.slice N'.a N'.n N'.c)) S ⟨s.tx, s.nb, s.ng, s.now, movL s.ns e.p e.t, s.ls⟩ N' L ∧ OwnM base w1.heap.size (w1.setCell ⟨S, 4, none⟩ (.slice N'.a N'.n N'.c)) ⟨s.tx, s.nb, s.ng, s.now, movL s.ns e.p e.t, s.ls⟩ N' L ps' g' gl ∧ Stay (fun k => k = S) w (w1.setCell ⟨S, 4, none⟩ (.slice N'.a N'.n N'.c)) ∧ (∀ k, g' = some k → w.heap.size ≤ k) ∧ (∀ x ∈ ps', ∀ k, x.2.blk = some k → w.heap.size ≤ k)) := fun w1 N' hb hX => by
    obtain ⟨ps', g', r1, r2, r3, r4, r5⟩ := HPRE.out.newNs (N' := N') (W := ((w.alloc (.cells #[.int .i64 e.k, .string e.p, .string e.t, .int .i64 e.c, .int .i64 e.l, .int .i64 e.n, .slice ea em eq] 42)).drewN 1).heap.size) (by simp) hb hX
    exact ⟨ps', g', r1, r2, r3, r4, r5⟩
  obtain ⟨k, p, t, cl, l, nn, ls⟩ := e
  unfold edV
  simp only at CM CO HAL HNN ⊢
  have hst := run_store_str
  have hst2 : ∀ (w : World) (a : Addr) (x : Option Addr) (n c : Nat) (m : Mode), (store a (.slice x n c) m).run Tryz.prog w = stored Tryz.prog w a (.slice x n c) m := fun w a x n c m => run_store_any w a _ m rfl
  clear h hp hs ht hM k4 hR hy hm ho
  generalize movL s.ns p t = MV at *
  go_enter Tryz.func47, Tryz.ntmps47
  go_wp2
  have ka := cell_al K4.out (.cells #[.int .i64 k, .string p, .string t, .int .i64 cl, .int .i64 l, .int .i64 nn, .slice ea em eq] 42)
  refine wp_region_any (by kernel_rfl) ?_
  try (change wpAny _ _ _ _ _ _ _ (World.drew _))
  refine wpAny_take (i := 0) (v := ?_) rfl (by kernel_rfl) (by kernel_rfl) (by kernel_rfl) (fun _ _ _ h => h) (Or.inl ⟨by rfl, ?_⟩) ?_
  rotate_left
  · intro w; go_simp; first | done | with_reducible rfl
  refine wpAny_take (i := 1) (v := ?_) rfl (by kernel_rfl) (by kernel_rfl) (by kernel_rfl) (fun _ _ _ h => h) (Or.inl ⟨by rfl, ?_⟩) ?_
  rotate_left
  · intro w; go_simp; first | done | with_reducible rfl
  refine wpAny_take (i := 2) (v := ?_) rfl (by kernel_rfl) (by kernel_rfl) (by kernel_rfl) (fun _ _ _ h => h) (Or.inl ⟨by rfl, ?_⟩) ?_
  rotate_left
  · intro w; go_simp; first | done | with_reducible rfl
  refine wpAny_take (i := 3) (v := ?_) rfl (by kernel_rfl) (by kernel_rfl) (by kernel_rfl) (fun _ _ _ h => h) (Or.inl ⟨by rfl, ?_⟩) ?_
  rotate_left
  · intro w; go_simp; first | done | with_reducible rfl
  refine wpAny_take (i := 5) (v := ?_) rfl (by kernel_rfl) (by kernel_rfl) (by kernel_rfl) (fun _ _ _ h => h) (Or.inl ⟨by rfl, ?_⟩) ?_
  rotate_left
  · intro w; go_simp; first | done | with_reducible rfl
  refine wpAny_take (i := 7) (v := ?_) rfl (by kernel_rfl) (by kernel_rfl) (by kernel_rfl) (fun _ _ _ h => h) (Or.inl ⟨by rfl, ?_⟩) ?_
  rotate_left
  · intro w; go_simp; first | done | with_reducible rfl
  refine wpAny_ready (rs := [4, 6, 8]) (by kernel_rfl) (by simp) ?_
  refine AllReady.cons rfl (fun K hK => ?_) ?_
  · go_simp
    refine hK _ _ ?_
    clear hK K
    refine wpAny_ready (rs := [6, 8]) (by kernel_rfl) (by simp) ?_
    refine AllReady.cons rfl (fun K hK => ?_) ?_
    · go_simp
      refine hK _ _ ?_
      clear hK K
      refine wpAny_ready (rs := [8]) (by kernel_rfl) (by simp) ?_
      refine AllReady.cons rfl (fun K hK => ?_) ?_
      · go_simp
        refine hK _ _ ?_
        clear hK K
        refine wpAny_ready (rs := [9]) (by kernel_rfl) (by simp) ?_
        refine AllReady.cons rfl (fun K hK => ?_) ?_
        · go_simp
          refine (CM.out _ (bel_tr (bel_al _ _) (bel_drewN _ 1))).mono ?_; rintro e w1 ⟨⟨na, n1, nc, rfl, hX⟩, c1⟩; have B1 : Hid (Below w.heap.size w w1) := bel_tr (bel_tr (bel_al _ _) (bel_drewN _ 1)) c1; have d4 := bel_cell B1.out K4.out; rw [HAL.out] at hX; have HNX : Hid _ := HNN.out w1 ⟨na, n1, nc⟩ B1.out hX; have hfz := (HPRE.out.below B1.out).c.fr 4; clear hX c1
          try go_simp
          refine hK _ _ ?_
          clear hK K
          refine wpAny_take (i := 10) (v := ?_) rfl (by kernel_rfl) (by kernel_rfl) (by kernel_rfl) (fun _ _ _ h => h) (Or.inl ⟨by rfl, ?_⟩) ?_
          rotate_left
          · intro w; go_simp; first | done | with_reducible rfl
          refine wpAny_take (i := 11) (v := ?_) rfl (by kernel_rfl) (by kernel_rfl) (by kernel_rfl) (fun _ _ _ h => h) (Or.inl ⟨by rfl, ?_⟩) ?_
          rotate_left
          · intro w; go_simp; first | done | with_reducible rfl
          refine wpAny_ready (rs := [12]) (by kernel_rfl) (by simp) ?_
          refine AllReady.cons rfl (fun K hK => ?_) ?_
          · go_simp
            refine (CT.out _ _ _ _).mono ?_; rintro e w2 ⟨rfl, rfl⟩
            try go_simp
            refine hK _ _ ?_
            clear hK K
            refine wpAny_take (i := 13) (v := ?_) rfl (by kernel_rfl) (by kernel_rfl) (by kernel_rfl) (fun _ _ _ h => h) (Or.inl ⟨by rfl, ?_⟩) ?_
            rotate_left
            · intro w; go_simp; first | done | with_reducible rfl
            refine wpAny_take (i := 14) (v := ?_) rfl (by kernel_rfl) (by kernel_rfl) (by kernel_rfl) (fun _ _ _ h => h) (Or.inl ⟨by rfl, ?_⟩) ?_
            rotate_left
            · intro w; go_simp; first | done | with_reducible rfl
            refine wpAny_ready (rs := [15]) (by kernel_rfl) (by simp) ?_
            refine AllReady.cons rfl (fun K hK => ?_) ?_
            · go_simp
              refine hK _ _ ?_
              clear hK K
              refine wpAny_done (by kernel_rfl) ?_ _
              obtain ⟨ps', g', r1, r2, r3, r4, r5⟩ := HNX.out
              have c4n := r1.c4
              have hnl := (LX.nl ⟨ps', g', r2.map, r2.lot⟩)
              have HC : Hid _ := r1
              have HO : Hid _ := r2
              have HS3 : Hid _ := r3
              have HR4 : Hid _ := r4
              have HR5 : Hid _ := r5
              have HNL : Hid _ := hnl
              clear r1 r2 r3 r4 r5 hnl
              simp only at c4n
              go_wp2_with (first
                | (go_at_call 34; refine (CO.out _ _ _ _ HNL.out).mono ?_; rintro e w4 ⟨⟨oa, oc, rfl⟩, c4⟩; have B4 : Hid _ := c4; clear c4)
                | (go_at_call 18; refine (refuse_yes _ _).mono ?_; rintro e w5 ⟨rfl, hw5⟩; subst hw5))
              exact left_post rfl ⟨rfl, (HS3.out.mono (fun k hk => .inl hk)).then_below B4.out, fun _ _ _ _ => ⟨_, _, _, HC.out.below B4.out⟩⟩
            exact AllReady.nil
          exact AllReady.nil
        exact AllReady.nil
      exact AllReady.nil
    refine AllReady.cons rfl (fun K hK => ?_) ?_
    · go_simp
      refine hK _ _ ?_
      clear hK K
      refine wpAny_ready (rs := [6]) (by kernel_rfl) (by simp) ?_
      refine AllReady.cons rfl (fun K hK => ?_) ?_
      · go_simp
        refine hK _ _ ?_
        clear hK K
        refine wpAny_ready (rs := [9]) (by kernel_rfl) (by simp) ?_
        refine AllReady.cons rfl (fun K hK => ?_) ?_
        · go_simp
          refine (CM.out _ (bel_tr (bel_al _ _) (bel_drewN _ 1))).mono ?_; rintro e w1 ⟨⟨na, n1, nc, rfl, hX⟩, c1⟩; have B1 : Hid (Below w.heap.size w w1) := bel_tr (bel_tr (bel_al _ _) (bel_drewN _ 1)) c1; have d4 := bel_cell B1.out K4.out; rw [HAL.out] at hX; have HNX : Hid _ := HNN.out w1 ⟨na, n1, nc⟩ B1.out hX; have hfz := (HPRE.out.below B1.out).c.fr 4; clear hX c1
          try go_simp
          refine hK _ _ ?_
          clear hK K
          refine wpAny_take (i := 10) (v := ?_) rfl (by kernel_rfl) (by kernel_rfl) (by kernel_rfl) (fun _ _ _ h => h) (Or.inl ⟨by rfl, ?_⟩) ?_
          rotate_left
          · intro w; go_simp; first | done | with_reducible rfl
          refine wpAny_take (i := 11) (v := ?_) rfl (by kernel_rfl) (by kernel_rfl) (by kernel_rfl) (fun _ _ _ h => h) (Or.inl ⟨by rfl, ?_⟩) ?_
          rotate_left
          · intro w; go_simp; first | done | with_reducible rfl
          refine wpAny_ready (rs := [12]) (by kernel_rfl) (by simp) ?_
          refine AllReady.cons rfl (fun K hK => ?_) ?_
          · go_simp
            refine (CT.out _ _ _ _).mono ?_; rintro e w2 ⟨rfl, rfl⟩
            try go_simp
            refine hK _ _ ?_
            clear hK K
            refine wpAny_take (i := 13) (v := ?_) rfl (by kernel_rfl) (by kernel_rfl) (by kernel_rfl) (fun _ _ _ h => h) (Or.inl ⟨by rfl, ?_⟩) ?_
            rotate_left
            · intro w; go_simp; first | done | with_reducible rfl
            refine wpAny_take (i := 14) (v := ?_) rfl (by kernel_rfl) (by kernel_rfl) (by kernel_rfl) (fun _ _ _ h => h) (Or.inl ⟨by rfl, ?_⟩) ?_
            rotate_left
            · intro w; go_simp; first | done | with_reducible rfl
            refine wpAny_ready (rs := [15]) (by kernel_rfl) (by simp) ?_
            refine AllReady.cons rfl (fun K hK => ?_) ?_
            · go_simp
              refine hK _ _ ?_
              clear hK K
              refine wpAny_done (by kernel_rfl) ?_ _
              obtain ⟨ps', g', r1, r2, r3, r4, r5⟩ := HNX.out
              have c4n := r1.c4
              have hnl := (LX.nl ⟨ps', g', r2.map, r2.lot⟩)
              have HC : Hid _ := r1
              have HO : Hid _ := r2
              have HS3 : Hid _ := r3
              have HR4 : Hid _ := r4
              have HR5 : Hid _ := r5
              have HNL : Hid _ := hnl
              clear r1 r2 r3 r4 r5 hnl
              simp only at c4n
              go_wp2_with (first
                | (go_at_call 34; refine (CO.out _ _ _ _ HNL.out).mono ?_; rintro e w4 ⟨⟨oa, oc, rfl⟩, c4⟩; have B4 : Hid _ := c4; clear c4)
                | (go_at_call 18; refine (refuse_yes _ _).mono ?_; rintro e w5 ⟨rfl, hw5⟩; subst hw5))
              exact left_post rfl ⟨rfl, (HS3.out.mono (fun k hk => .inl hk)).then_below B4.out, fun _ _ _ _ => ⟨_, _, _, HC.out.below B4.out⟩⟩
            exact AllReady.nil
          exact AllReady.nil
        exact AllReady.nil
      exact AllReady.nil
    exact AllReady.nil
  refine AllReady.cons rfl (fun K hK => ?_) ?_
  · go_simp
    refine hK _ _ ?_
    clear hK K
    refine wpAny_ready (rs := [4, 8]) (by kernel_rfl) (by simp) ?_
    refine AllReady.cons rfl (fun K hK => ?_) ?_
    · go_simp
      refine hK _ _ ?_
      clear hK K
      refine wpAny_ready (rs := [8]) (by kernel_rfl) (by simp) ?_
      refine AllReady.cons rfl (fun K hK => ?_) ?_
      · go_simp
        refine hK _ _ ?_
        clear hK K
        refine wpAny_ready (rs := [9]) (by kernel_rfl) (by simp) ?_
        refine AllReady.cons rfl (fun K hK => ?_) ?_
        · go_simp
          refine (CM.out _ (bel_tr (bel_al _ _) (bel_drewN _ 1))).mono ?_; rintro e w1 ⟨⟨na, n1, nc, rfl, hX⟩, c1⟩; have B1 : Hid (Below w.heap.size w w1) := bel_tr (bel_tr (bel_al _ _) (bel_drewN _ 1)) c1; have d4 := bel_cell B1.out K4.out; rw [HAL.out] at hX; have HNX : Hid _ := HNN.out w1 ⟨na, n1, nc⟩ B1.out hX; have hfz := (HPRE.out.below B1.out).c.fr 4; clear hX c1
          try go_simp
          refine hK _ _ ?_
          clear hK K
          refine wpAny_take (i := 10) (v := ?_) rfl (by kernel_rfl) (by kernel_rfl) (by kernel_rfl) (fun _ _ _ h => h) (Or.inl ⟨by rfl, ?_⟩) ?_
          rotate_left
          · intro w; go_simp; first | done | with_reducible rfl
          refine wpAny_take (i := 11) (v := ?_) rfl (by kernel_rfl) (by kernel_rfl) (by kernel_rfl) (fun _ _ _ h => h) (Or.inl ⟨by rfl, ?_⟩) ?_
          rotate_left
          · intro w; go_simp; first | done | with_reducible rfl
          refine wpAny_ready (rs := [12]) (by kernel_rfl) (by simp) ?_
          refine AllReady.cons rfl (fun K hK => ?_) ?_
          · go_simp
            refine (CT.out _ _ _ _).mono ?_; rintro e w2 ⟨rfl, rfl⟩
            try go_simp
            refine hK _ _ ?_
            clear hK K
            refine wpAny_take (i := 13) (v := ?_) rfl (by kernel_rfl) (by kernel_rfl) (by kernel_rfl) (fun _ _ _ h => h) (Or.inl ⟨by rfl, ?_⟩) ?_
            rotate_left
            · intro w; go_simp; first | done | with_reducible rfl
            refine wpAny_take (i := 14) (v := ?_) rfl (by kernel_rfl) (by kernel_rfl) (by kernel_rfl) (fun _ _ _ h => h) (Or.inl ⟨by rfl, ?_⟩) ?_
            rotate_left
            · intro w; go_simp; first | done | with_reducible rfl
            refine wpAny_ready (rs := [15]) (by kernel_rfl) (by simp) ?_
            refine AllReady.cons rfl (fun K hK => ?_) ?_
            · go_simp
              refine hK _ _ ?_
              clear hK K
              refine wpAny_done (by kernel_rfl) ?_ _
              obtain ⟨ps', g', r1, r2, r3, r4, r5⟩ := HNX.out
              have c4n := r1.c4
              have hnl := (LX.nl ⟨ps', g', r2.map, r2.lot⟩)
              have HC : Hid _ := r1
              have HO : Hid _ := r2
              have HS3 : Hid _ := r3
              have HR4 : Hid _ := r4
              have HR5 : Hid _ := r5
              have HNL : Hid _ := hnl
              clear r1 r2 r3 r4 r5 hnl
              simp only at c4n
              go_wp2_with (first
                | (go_at_call 34; refine (CO.out _ _ _ _ HNL.out).mono ?_; rintro e w4 ⟨⟨oa, oc, rfl⟩, c4⟩; have B4 : Hid _ := c4; clear c4)
                | (go_at_call 18; refine (refuse_yes _ _).mono ?_; rintro e w5 ⟨rfl, hw5⟩; subst hw5))
              exact left_post rfl ⟨rfl, (HS3.out.mono (fun k hk => .inl hk)).then_below B4.out, fun _ _ _ _ => ⟨_, _, _, HC.out.below B4.out⟩⟩
            exact AllReady.nil
          exact AllReady.nil
        exact AllReady.nil
      exact AllReady.nil
    refine AllReady.cons rfl (fun K hK => ?_) ?_
    · go_simp
      refine hK _ _ ?_
      clear hK K
      refine wpAny_ready (rs := [4]) (by kernel_rfl) (by simp) ?_
      refine AllReady.cons rfl (fun K hK => ?_) ?_
      · go_simp
        refine hK _ _ ?_
        clear hK K
        refine wpAny_ready (rs := [9]) (by kernel_rfl) (by simp) ?_
        refine AllReady.cons rfl (fun K hK => ?_) ?_
        · go_simp
          refine (CM.out _ (bel_tr (bel_al _ _) (bel_drewN _ 1))).mono ?_; rintro e w1 ⟨⟨na, n1, nc, rfl, hX⟩, c1⟩; have B1 : Hid (Below w.heap.size w w1) := bel_tr (bel_tr (bel_al _ _) (bel_drewN _ 1)) c1; have d4 := bel_cell B1.out K4.out; rw [HAL.out] at hX; have HNX : Hid _ := HNN.out w1 ⟨na, n1, nc⟩ B1.out hX; have hfz := (HPRE.out.below B1.out).c.fr 4; clear hX c1
          try go_simp
          refine hK _ _ ?_
          clear hK K
          refine wpAny_take (i := 10) (v := ?_) rfl (by kernel_rfl) (by kernel_rfl) (by kernel_rfl) (fun _ _ _ h => h) (Or.inl ⟨by rfl, ?_⟩) ?_
          rotate_left
          · intro w; go_simp; first | done | with_reducible rfl
          refine wpAny_take (i := 11) (v := ?_) rfl (by kernel_rfl) (by kernel_rfl) (by kernel_rfl) (fun _ _ _ h => h) (Or.inl ⟨by rfl, ?_⟩) ?_
          rotate_left
          · intro w; go_simp; first | done | with_reducible rfl
          refine wpAny_ready (rs := [12]) (by kernel_rfl) (by simp) ?_
          refine AllReady.cons rfl (fun K hK => ?_) ?_
          · go_simp
            refine (CT.out _ _ _ _).mono ?_; rintro e w2 ⟨rfl, rfl⟩
            try go_simp
            refine hK _ _ ?_
            clear hK K
            refine wpAny_take (i := 13) (v := ?_) rfl (by kernel_rfl) (by kernel_rfl) (by kernel_rfl) (fun _ _ _ h => h) (Or.inl ⟨by rfl, ?_⟩) ?_
            rotate_left
            · intro w; go_simp; first | done | with_reducible rfl
            refine wpAny_take (i := 14) (v := ?_) rfl (by kernel_rfl) (by kernel_rfl) (by kernel_rfl) (fun _ _ _ h => h) (Or.inl ⟨by rfl, ?_⟩) ?_
            rotate_left
            · intro w; go_simp; first | done | with_reducible rfl
            refine wpAny_ready (rs := [15]) (by kernel_rfl) (by simp) ?_
            refine AllReady.cons rfl (fun K hK => ?_) ?_
            · go_simp
              refine hK _ _ ?_
              clear hK K
              refine wpAny_done (by kernel_rfl) ?_ _
              obtain ⟨ps', g', r1, r2, r3, r4, r5⟩ := HNX.out
              have c4n := r1.c4
              have hnl := (LX.nl ⟨ps', g', r2.map, r2.lot⟩)
              have HC : Hid _ := r1
              have HO : Hid _ := r2
              have HS3 : Hid _ := r3
              have HR4 : Hid _ := r4
              have HR5 : Hid _ := r5
              have HNL : Hid _ := hnl
              clear r1 r2 r3 r4 r5 hnl
              simp only at c4n
              go_wp2_with (first
                | (go_at_call 34; refine (CO.out _ _ _ _ HNL.out).mono ?_; rintro e w4 ⟨⟨oa, oc, rfl⟩, c4⟩; have B4 : Hid _ := c4; clear c4)
                | (go_at_call 18; refine (refuse_yes _ _).mono ?_; rintro e w5 ⟨rfl, hw5⟩; subst hw5))
              exact left_post rfl ⟨rfl, (HS3.out.mono (fun k hk => .inl hk)).then_below B4.out, fun _ _ _ _ => ⟨_, _, _, HC.out.below B4.out⟩⟩
            exact AllReady.nil
          exact AllReady.nil
        exact AllReady.nil
      exact AllReady.nil
    exact AllReady.nil
  refine AllReady.cons rfl (fun K hK => ?_) ?_
  · go_simp
    refine hK _ _ ?_
    clear hK K
    refine wpAny_ready (rs := [4, 6]) (by kernel_rfl) (by simp) ?_
    refine AllReady.cons rfl (fun K hK => ?_) ?_
    · go_simp
      refine hK _ _ ?_
      clear hK K
      refine wpAny_ready (rs := [6]) (by kernel_rfl) (by simp) ?_
      refine AllReady.cons rfl (fun K hK => ?_) ?_
      · go_simp
        refine hK _ _ ?_
        clear hK K
        refine wpAny_ready (rs := [9]) (by kernel_rfl) (by simp) ?_
        refine AllReady.cons rfl (fun K hK => ?_) ?_
        · go_simp
          refine (CM.out _ (bel_tr (bel_al _ _) (bel_drewN _ 1))).mono ?_; rintro e w1 ⟨⟨na, n1, nc, rfl, hX⟩, c1⟩; have B1 : Hid (Below w.heap.size w w1) := bel_tr (bel_tr (bel_al _ _) (bel_drewN _ 1)) c1; have d4 := bel_cell B1.out K4.out; rw [HAL.out] at hX; have HNX : Hid _ := HNN.out w1 ⟨na, n1, nc⟩ B1.out hX; have hfz := (HPRE.out.below B1.out).c.fr 4; clear hX c1
          try go_simp
          refine hK _ _ ?_
          clear hK K
          refine wpAny_take (i := 10) (v := ?_) rfl (by kernel_rfl) (by kernel_rfl) (by kernel_rfl) (fun _ _ _ h => h) (Or.inl ⟨by rfl, ?_⟩) ?_
          rotate_left
          · intro w; go_simp; first | done | with_reducible rfl
          refine wpAny_take (i := 11) (v := ?_) rfl (by kernel_rfl) (by kernel_rfl) (by kernel_rfl) (fun _ _ _ h => h) (Or.inl ⟨by rfl, ?_⟩) ?_
          rotate_left
          · intro w; go_simp; first | done | with_reducible rfl
          refine wpAny_ready (rs := [12]) (by kernel_rfl) (by simp) ?_
          refine AllReady.cons rfl (fun K hK => ?_) ?_
          · go_simp
            refine (CT.out _ _ _ _).mono ?_; rintro e w2 ⟨rfl, rfl⟩
            try go_simp
            refine hK _ _ ?_
            clear hK K
            refine wpAny_take (i := 13) (v := ?_) rfl (by kernel_rfl) (by kernel_rfl) (by kernel_rfl) (fun _ _ _ h => h) (Or.inl ⟨by rfl, ?_⟩) ?_
            rotate_left
            · intro w; go_simp; first | done | with_reducible rfl
            refine wpAny_take (i := 14) (v := ?_) rfl (by kernel_rfl) (by kernel_rfl) (by kernel_rfl) (fun _ _ _ h => h) (Or.inl ⟨by rfl, ?_⟩) ?_
            rotate_left
            · intro w; go_simp; first | done | with_reducible rfl
            refine wpAny_ready (rs := [15]) (by kernel_rfl) (by simp) ?_
            refine AllReady.cons rfl (fun K hK => ?_) ?_
            · go_simp
              refine hK _ _ ?_
              clear hK K
              refine wpAny_done (by kernel_rfl) ?_ _
              obtain ⟨ps', g', r1, r2, r3, r4, r5⟩ := HNX.out
              have c4n := r1.c4
              have hnl := (LX.nl ⟨ps', g', r2.map, r2.lot⟩)
              have HC : Hid _ := r1
              have HO : Hid _ := r2
              have HS3 : Hid _ := r3
              have HR4 : Hid _ := r4
              have HR5 : Hid _ := r5
              have HNL : Hid _ := hnl
              clear r1 r2 r3 r4 r5 hnl
              simp only at c4n
              go_wp2_with (first
                | (go_at_call 34; refine (CO.out _ _ _ _ HNL.out).mono ?_; rintro e w4 ⟨⟨oa, oc, rfl⟩, c4⟩; have B4 : Hid _ := c4; clear c4)
                | (go_at_call 18; refine (refuse_yes _ _).mono ?_; rintro e w5 ⟨rfl, hw5⟩; subst hw5))
              exact left_post rfl ⟨rfl, (HS3.out.mono (fun k hk => .inl hk)).then_below B4.out, fun _ _ _ _ => ⟨_, _, _, HC.out.below B4.out⟩⟩
            exact AllReady.nil
          exact AllReady.nil
        exact AllReady.nil
      exact AllReady.nil
    refine AllReady.cons rfl (fun K hK => ?_) ?_
    · go_simp
      refine hK _ _ ?_
      clear hK K
      refine wpAny_ready (rs := [4]) (by kernel_rfl) (by simp) ?_
      refine AllReady.cons rfl (fun K hK => ?_) ?_
      · go_simp
        refine hK _ _ ?_
        clear hK K
        refine wpAny_ready (rs := [9]) (by kernel_rfl) (by simp) ?_
        refine AllReady.cons rfl (fun K hK => ?_) ?_
        · go_simp
          refine (CM.out _ (bel_tr (bel_al _ _) (bel_drewN _ 1))).mono ?_; rintro e w1 ⟨⟨na, n1, nc, rfl, hX⟩, c1⟩; have B1 : Hid (Below w.heap.size w w1) := bel_tr (bel_tr (bel_al _ _) (bel_drewN _ 1)) c1; have d4 := bel_cell B1.out K4.out; rw [HAL.out] at hX; have HNX : Hid _ := HNN.out w1 ⟨na, n1, nc⟩ B1.out hX; have hfz := (HPRE.out.below B1.out).c.fr 4; clear hX c1
          try go_simp
          refine hK _ _ ?_
          clear hK K
          refine wpAny_take (i := 10) (v := ?_) rfl (by kernel_rfl) (by kernel_rfl) (by kernel_rfl) (fun _ _ _ h => h) (Or.inl ⟨by rfl, ?_⟩) ?_
          rotate_left
          · intro w; go_simp; first | done | with_reducible rfl
          refine wpAny_take (i := 11) (v := ?_) rfl (by kernel_rfl) (by kernel_rfl) (by kernel_rfl) (fun _ _ _ h => h) (Or.inl ⟨by rfl, ?_⟩) ?_
          rotate_left
          · intro w; go_simp; first | done | with_reducible rfl
          refine wpAny_ready (rs := [12]) (by kernel_rfl) (by simp) ?_
          refine AllReady.cons rfl (fun K hK => ?_) ?_
          · go_simp
            refine (CT.out _ _ _ _).mono ?_; rintro e w2 ⟨rfl, rfl⟩
            try go_simp
            refine hK _ _ ?_
            clear hK K
            refine wpAny_take (i := 13) (v := ?_) rfl (by kernel_rfl) (by kernel_rfl) (by kernel_rfl) (fun _ _ _ h => h) (Or.inl ⟨by rfl, ?_⟩) ?_
            rotate_left
            · intro w; go_simp; first | done | with_reducible rfl
            refine wpAny_take (i := 14) (v := ?_) rfl (by kernel_rfl) (by kernel_rfl) (by kernel_rfl) (fun _ _ _ h => h) (Or.inl ⟨by rfl, ?_⟩) ?_
            rotate_left
            · intro w; go_simp; first | done | with_reducible rfl
            refine wpAny_ready (rs := [15]) (by kernel_rfl) (by simp) ?_
            refine AllReady.cons rfl (fun K hK => ?_) ?_
            · go_simp
              refine hK _ _ ?_
              clear hK K
              refine wpAny_done (by kernel_rfl) ?_ _
              obtain ⟨ps', g', r1, r2, r3, r4, r5⟩ := HNX.out
              have c4n := r1.c4
              have hnl := (LX.nl ⟨ps', g', r2.map, r2.lot⟩)
              have HC : Hid _ := r1
              have HO : Hid _ := r2
              have HS3 : Hid _ := r3
              have HR4 : Hid _ := r4
              have HR5 : Hid _ := r5
              have HNL : Hid _ := hnl
              clear r1 r2 r3 r4 r5 hnl
              simp only at c4n
              go_wp2_with (first
                | (go_at_call 34; refine (CO.out _ _ _ _ HNL.out).mono ?_; rintro e w4 ⟨⟨oa, oc, rfl⟩, c4⟩; have B4 : Hid _ := c4; clear c4)
                | (go_at_call 18; refine (refuse_yes _ _).mono ?_; rintro e w5 ⟨rfl, hw5⟩; subst hw5))
              exact left_post rfl ⟨rfl, (HS3.out.mono (fun k hk => .inl hk)).then_below B4.out, fun _ _ _ _ => ⟨_, _, _, HC.out.below B4.out⟩⟩
            exact AllReady.nil
          exact AllReady.nil
        exact AllReady.nil
      exact AllReady.nil
    exact AllReady.nil
  exact AllReady.nil
set_option maxRecDepth 100000 in
set_option maxHeartbeats 4000000 in
theorem rename_ok {base M0 S : Nat} {w : World} {s : Sp} {N L : RS} {ps : List NR} {gb : Nat} {gl : Option Nat} (h : Pre base M0 S w s N L ps gb gl) (e : Ed) (ea : Option Addr) (em eq : Nat) (hp : 0 < ps.length) (hs : e.p.size ≤ maxLen) (ht : e.t.size ≤ maxLen) (hM : MovE s.ns e.p e.t 0) (ho : overL (movL s.ns e.p e.t) = []) :
    Calls Tryz.prog 47 #[.pointer (some ⟨S, 0, none⟩), edV e ea em eq] w fun r w' => UnitR S base M0 ⟨s.tx, s.nb, s.ng, s.now, movL s.ns e.p e.t, s.ls⟩ w r w' := by
  have HPRE : Hid (Pre base M0 S w s N L ps gb gl) := h
  have CM : Hid (∀ W, Below w.heap.size w W → Calls Tryz.prog 92 #[.slice (some ⟨gb, 0, none⟩) N.n N.c, .string e.p, .string e.t] W fun r w' => TwoR W.heap.size (movA s.ns e.p e.t 0) 0 r w' ∧ Below W.heap.size W w') := fun W hb => move_tree ((h.below hb).nl hp) e.p e.t hs ht 0 hM
  have k4 := h.c4'
  have K4 : Hid (w.cell? ⟨S, 4, none⟩ = some (.slice (some ⟨gb, 0, none⟩) N.n N.c)) := k4
  have hR : Right (movL s.ns e.p e.t) := (mov_of hM).tree.1
  obtain ⟨ys, hy⟩ : ∃ ys, overL (movL s.ns e.p e.t) = ys := ⟨_, rfl⟩
  obtain ⟨m, hm⟩ : ∃ m, ys.length = m := ⟨_, rfl⟩
  have CO : Hid (∀ W a n c, NL W a n (movL s.ns e.p e.t) → Calls Tryz.prog 34 #[.slice a n c] W fun r w' => (∃ a c, r = .returned (.slice a m c)) ∧ Below W.heap.size W w') := fun W a n c hN => (over_val hN true ⟨fun _ => hR, fun _ => rfl⟩ ys hy m hm).mono fun r w' ⟨h1, h2⟩ => ⟨by obtain ⟨a, b, c, k, _⟩ := h1.ex; exact ⟨_, _, k⟩, h2⟩
  have hmb : decide ((0 : Int) < (m : Int)) = false := decide_eq_false (by rw [← hm, ← hy, ho]; simp)
  have hmb2 : decide (0 < m) = false := decide_eq_false (by rw [← hm, ← hy, ho]; simp)
  have CT : Hid (∀ W a n c, Calls Tryz.prog 45 #[.slice a n c, .int .i64 0] W fun e w' => e = .returned (.slice a n c) ∧ W = w') := fun W a n c => (takenN_ok W).mono fun e w' ⟨h1, h2⟩ => ⟨h1, h2.symm⟩
  have HAL : Hid (movA s.ns e.p e.t 0 = movL s.ns e.p e.t) := rfl
  have HNN : Hid (∀ w1 (N' : RS), Below w.heap.size w w1 → LX ((w.alloc (.cells #[.int .i64 e.k, .string e.p, .string e.t, .int .i64 e.c, .int .i64 e.l, .int .i64 e.n, .slice ea em eq] 42)).drewN 1).heap.size w1 N'.a N'.n N'.c (movL s.ns e.p e.t) → ∃ ps' g', SpC (w1.setCell ⟨S, 4, none⟩ (.slice N'.a N'.n N'.c)) S ⟨s.tx, s.nb, s.ng, s.now, movL s.ns e.p e.t, s.ls⟩ N' L ∧ OwnM base w1.heap.size (w1.setCell ⟨S, 4, none⟩ (.slice N'.a N'.n N'.c)) ⟨s.tx, s.nb, s.ng, s.now, movL s.ns e.p e.t, s.ls⟩ N' L ps' g' gl ∧ Stay (fun k => k = S) w (w1.setCell ⟨S, 4, none⟩ (.slice N'.a N'.n N'.c)) ∧ (∀ k, g' = some k → w.heap.size ≤ k) ∧ (∀ x ∈ ps', ∀ k, x.2.blk = some k → w.heap.size ≤ k)) := fun w1 N' hb hX => by
    obtain ⟨ps', g', r1, r2, r3, r4, r5⟩ := HPRE.out.newNs (N' := N') (W := ((w.alloc (.cells #[.int .i64 e.k, .string e.p, .string e.t, .int .i64 e.c, .int .i64 e.l, .int .i64 e.n, .slice ea em eq] 42)).drewN 1).heap.size) (by simp) hb hX
    exact ⟨ps', g', r1, r2, r3, r4, r5⟩
  have CR : Hid (∀ E W, Calls Tryz.prog 18 #[.bool false, .int .i64 E] W fun e w' => e = .returned (.tuple #[]) ∧ W = w') := fun E W => (refuse_no E W).mono fun e w' ⟨h1, h2⟩ => ⟨h1, h2.symm⟩
  obtain ⟨k, p, t, cl, l, nn, ls⟩ := e
  unfold edV
  simp only at CM CO HAL HNN ⊢
  have hst := run_store_str
  have hst2 : ∀ (w : World) (a : Addr) (x : Option Addr) (n c : Nat) (m : Mode), (store a (.slice x n c) m).run Tryz.prog w = stored Tryz.prog w a (.slice x n c) m := fun w a x n c m => run_store_any w a _ m rfl
  clear h hp hs ht hM k4 hR hy hm ho
  generalize movL s.ns p t = MV at *
  go_enter Tryz.func47, Tryz.ntmps47
  go_wp2
  have ka := cell_al K4.out (.cells #[.int .i64 k, .string p, .string t, .int .i64 cl, .int .i64 l, .int .i64 nn, .slice ea em eq] 42)
  refine wp_region_any (by kernel_rfl) ?_
  try (change wpAny _ _ _ _ _ _ _ (World.drew _))
  refine wpAny_take (i := 0) (v := ?_) rfl (by kernel_rfl) (by kernel_rfl) (by kernel_rfl) (fun _ _ _ h => h) (Or.inl ⟨by rfl, ?_⟩) ?_
  rotate_left
  · intro w; go_simp; first | done | with_reducible rfl
  refine wpAny_take (i := 1) (v := ?_) rfl (by kernel_rfl) (by kernel_rfl) (by kernel_rfl) (fun _ _ _ h => h) (Or.inl ⟨by rfl, ?_⟩) ?_
  rotate_left
  · intro w; go_simp; first | done | with_reducible rfl
  refine wpAny_take (i := 2) (v := ?_) rfl (by kernel_rfl) (by kernel_rfl) (by kernel_rfl) (fun _ _ _ h => h) (Or.inl ⟨by rfl, ?_⟩) ?_
  rotate_left
  · intro w; go_simp; first | done | with_reducible rfl
  refine wpAny_take (i := 3) (v := ?_) rfl (by kernel_rfl) (by kernel_rfl) (by kernel_rfl) (fun _ _ _ h => h) (Or.inl ⟨by rfl, ?_⟩) ?_
  rotate_left
  · intro w; go_simp; first | done | with_reducible rfl
  refine wpAny_take (i := 5) (v := ?_) rfl (by kernel_rfl) (by kernel_rfl) (by kernel_rfl) (fun _ _ _ h => h) (Or.inl ⟨by rfl, ?_⟩) ?_
  rotate_left
  · intro w; go_simp; first | done | with_reducible rfl
  refine wpAny_take (i := 7) (v := ?_) rfl (by kernel_rfl) (by kernel_rfl) (by kernel_rfl) (fun _ _ _ h => h) (Or.inl ⟨by rfl, ?_⟩) ?_
  rotate_left
  · intro w; go_simp; first | done | with_reducible rfl
  refine wpAny_ready (rs := [4, 6, 8]) (by kernel_rfl) (by simp) ?_
  refine AllReady.cons rfl (fun K hK => ?_) ?_
  · go_simp
    refine hK _ _ ?_
    clear hK K
    refine wpAny_ready (rs := [6, 8]) (by kernel_rfl) (by simp) ?_
    refine AllReady.cons rfl (fun K hK => ?_) ?_
    · go_simp
      refine hK _ _ ?_
      clear hK K
      refine wpAny_ready (rs := [8]) (by kernel_rfl) (by simp) ?_
      refine AllReady.cons rfl (fun K hK => ?_) ?_
      · go_simp
        refine hK _ _ ?_
        clear hK K
        refine wpAny_ready (rs := [9]) (by kernel_rfl) (by simp) ?_
        refine AllReady.cons rfl (fun K hK => ?_) ?_
        · go_simp
          refine (CM.out _ (bel_tr (bel_al _ _) (bel_drewN _ 1))).mono ?_; rintro e w1 ⟨⟨na, n1, nc, rfl, hX⟩, c1⟩; have B1 : Hid (Below w.heap.size w w1) := bel_tr (bel_tr (bel_al _ _) (bel_drewN _ 1)) c1; have d4 := bel_cell B1.out K4.out; rw [HAL.out] at hX; have HNX : Hid _ := HNN.out w1 ⟨na, n1, nc⟩ B1.out hX; have hfz := (HPRE.out.below B1.out).c.fr 4; clear hX c1
          try go_simp
          refine hK _ _ ?_
          clear hK K
          refine wpAny_take (i := 10) (v := ?_) rfl (by kernel_rfl) (by kernel_rfl) (by kernel_rfl) (fun _ _ _ h => h) (Or.inl ⟨by rfl, ?_⟩) ?_
          rotate_left
          · intro w; go_simp; first | done | with_reducible rfl
          refine wpAny_take (i := 11) (v := ?_) rfl (by kernel_rfl) (by kernel_rfl) (by kernel_rfl) (fun _ _ _ h => h) (Or.inl ⟨by rfl, ?_⟩) ?_
          rotate_left
          · intro w; go_simp; first | done | with_reducible rfl
          refine wpAny_ready (rs := [12]) (by kernel_rfl) (by simp) ?_
          refine AllReady.cons rfl (fun K hK => ?_) ?_
          · go_simp
            refine (CT.out _ _ _ _).mono ?_; rintro e w2 ⟨rfl, rfl⟩
            try go_simp
            refine hK _ _ ?_
            clear hK K
            refine wpAny_take (i := 13) (v := ?_) rfl (by kernel_rfl) (by kernel_rfl) (by kernel_rfl) (fun _ _ _ h => h) (Or.inl ⟨by rfl, ?_⟩) ?_
            rotate_left
            · intro w; go_simp; first | done | with_reducible rfl
            refine wpAny_take (i := 14) (v := ?_) rfl (by kernel_rfl) (by kernel_rfl) (by kernel_rfl) (fun _ _ _ h => h) (Or.inl ⟨by rfl, ?_⟩) ?_
            rotate_left
            · intro w; go_simp; first | done | with_reducible rfl
            refine wpAny_ready (rs := [15]) (by kernel_rfl) (by simp) ?_
            refine AllReady.cons rfl (fun K hK => ?_) ?_
            · go_simp
              refine hK _ _ ?_
              clear hK K
              refine wpAny_done (by kernel_rfl) ?_ _
              obtain ⟨ps', g', r1, r2, r3, r4, r5⟩ := HNX.out
              have c4n := r1.c4
              have hnl := (LX.nl ⟨ps', g', r2.map, r2.lot⟩)
              have HC : Hid _ := r1
              have HO : Hid _ := r2
              have HS3 : Hid _ := r3
              have HR4 : Hid _ := r4
              have HR5 : Hid _ := r5
              have HNL : Hid _ := hnl
              clear r1 r2 r3 r4 r5 hnl
              simp only at c4n
              go_wp2_with (first
                | (go_at_call 34; refine (CO.out _ _ _ _ HNL.out).mono ?_; rintro e w4 ⟨⟨oa, oc, rfl⟩, c4⟩; have B4 : Hid _ := c4; clear c4)
                | (go_at_call 18; refine (CR.out _ _).mono ?_; rintro e w5 ⟨rfl, rfl⟩))
              first | go_end0 | refine bodyPost_ret (results_none rfl _ _ _) rfl ?_
              exact ⟨⟨⟨na, n1, nc⟩, L, ps', g', gl, rfl, HC.out.below B4.out, (HO.out.below B4.out).up (by have := B4.out.size; rw [setC_size] at this; exact this), fun k hk => .inr (HR4.out k hk), fun k hk => .inl (HPRE.out.m2 k hk), fun x hx k hk => .inr (HR5.out x hx k hk)⟩, (HS3.out.mono (fun k hk => .inl hk)).then_below B4.out⟩
            exact AllReady.nil
          exact AllReady.nil
        exact AllReady.nil
      exact AllReady.nil
    refine AllReady.cons rfl (fun K hK => ?_) ?_
    · go_simp
      refine hK _ _ ?_
      clear hK K
      refine wpAny_ready (rs := [6]) (by kernel_rfl) (by simp) ?_
      refine AllReady.cons rfl (fun K hK => ?_) ?_
      · go_simp
        refine hK _ _ ?_
        clear hK K
        refine wpAny_ready (rs := [9]) (by kernel_rfl) (by simp) ?_
        refine AllReady.cons rfl (fun K hK => ?_) ?_
        · go_simp
          refine (CM.out _ (bel_tr (bel_al _ _) (bel_drewN _ 1))).mono ?_; rintro e w1 ⟨⟨na, n1, nc, rfl, hX⟩, c1⟩; have B1 : Hid (Below w.heap.size w w1) := bel_tr (bel_tr (bel_al _ _) (bel_drewN _ 1)) c1; have d4 := bel_cell B1.out K4.out; rw [HAL.out] at hX; have HNX : Hid _ := HNN.out w1 ⟨na, n1, nc⟩ B1.out hX; have hfz := (HPRE.out.below B1.out).c.fr 4; clear hX c1
          try go_simp
          refine hK _ _ ?_
          clear hK K
          refine wpAny_take (i := 10) (v := ?_) rfl (by kernel_rfl) (by kernel_rfl) (by kernel_rfl) (fun _ _ _ h => h) (Or.inl ⟨by rfl, ?_⟩) ?_
          rotate_left
          · intro w; go_simp; first | done | with_reducible rfl
          refine wpAny_take (i := 11) (v := ?_) rfl (by kernel_rfl) (by kernel_rfl) (by kernel_rfl) (fun _ _ _ h => h) (Or.inl ⟨by rfl, ?_⟩) ?_
          rotate_left
          · intro w; go_simp; first | done | with_reducible rfl
          refine wpAny_ready (rs := [12]) (by kernel_rfl) (by simp) ?_
          refine AllReady.cons rfl (fun K hK => ?_) ?_
          · go_simp
            refine (CT.out _ _ _ _).mono ?_; rintro e w2 ⟨rfl, rfl⟩
            try go_simp
            refine hK _ _ ?_
            clear hK K
            refine wpAny_take (i := 13) (v := ?_) rfl (by kernel_rfl) (by kernel_rfl) (by kernel_rfl) (fun _ _ _ h => h) (Or.inl ⟨by rfl, ?_⟩) ?_
            rotate_left
            · intro w; go_simp; first | done | with_reducible rfl
            refine wpAny_take (i := 14) (v := ?_) rfl (by kernel_rfl) (by kernel_rfl) (by kernel_rfl) (fun _ _ _ h => h) (Or.inl ⟨by rfl, ?_⟩) ?_
            rotate_left
            · intro w; go_simp; first | done | with_reducible rfl
            refine wpAny_ready (rs := [15]) (by kernel_rfl) (by simp) ?_
            refine AllReady.cons rfl (fun K hK => ?_) ?_
            · go_simp
              refine hK _ _ ?_
              clear hK K
              refine wpAny_done (by kernel_rfl) ?_ _
              obtain ⟨ps', g', r1, r2, r3, r4, r5⟩ := HNX.out
              have c4n := r1.c4
              have hnl := (LX.nl ⟨ps', g', r2.map, r2.lot⟩)
              have HC : Hid _ := r1
              have HO : Hid _ := r2
              have HS3 : Hid _ := r3
              have HR4 : Hid _ := r4
              have HR5 : Hid _ := r5
              have HNL : Hid _ := hnl
              clear r1 r2 r3 r4 r5 hnl
              simp only at c4n
              go_wp2_with (first
                | (go_at_call 34; refine (CO.out _ _ _ _ HNL.out).mono ?_; rintro e w4 ⟨⟨oa, oc, rfl⟩, c4⟩; have B4 : Hid _ := c4; clear c4)
                | (go_at_call 18; refine (CR.out _ _).mono ?_; rintro e w5 ⟨rfl, rfl⟩))
              first | go_end0 | refine bodyPost_ret (results_none rfl _ _ _) rfl ?_
              exact ⟨⟨⟨na, n1, nc⟩, L, ps', g', gl, rfl, HC.out.below B4.out, (HO.out.below B4.out).up (by have := B4.out.size; rw [setC_size] at this; exact this), fun k hk => .inr (HR4.out k hk), fun k hk => .inl (HPRE.out.m2 k hk), fun x hx k hk => .inr (HR5.out x hx k hk)⟩, (HS3.out.mono (fun k hk => .inl hk)).then_below B4.out⟩
            exact AllReady.nil
          exact AllReady.nil
        exact AllReady.nil
      exact AllReady.nil
    exact AllReady.nil
  refine AllReady.cons rfl (fun K hK => ?_) ?_
  · go_simp
    refine hK _ _ ?_
    clear hK K
    refine wpAny_ready (rs := [4, 8]) (by kernel_rfl) (by simp) ?_
    refine AllReady.cons rfl (fun K hK => ?_) ?_
    · go_simp
      refine hK _ _ ?_
      clear hK K
      refine wpAny_ready (rs := [8]) (by kernel_rfl) (by simp) ?_
      refine AllReady.cons rfl (fun K hK => ?_) ?_
      · go_simp
        refine hK _ _ ?_
        clear hK K
        refine wpAny_ready (rs := [9]) (by kernel_rfl) (by simp) ?_
        refine AllReady.cons rfl (fun K hK => ?_) ?_
        · go_simp
          refine (CM.out _ (bel_tr (bel_al _ _) (bel_drewN _ 1))).mono ?_; rintro e w1 ⟨⟨na, n1, nc, rfl, hX⟩, c1⟩; have B1 : Hid (Below w.heap.size w w1) := bel_tr (bel_tr (bel_al _ _) (bel_drewN _ 1)) c1; have d4 := bel_cell B1.out K4.out; rw [HAL.out] at hX; have HNX : Hid _ := HNN.out w1 ⟨na, n1, nc⟩ B1.out hX; have hfz := (HPRE.out.below B1.out).c.fr 4; clear hX c1
          try go_simp
          refine hK _ _ ?_
          clear hK K
          refine wpAny_take (i := 10) (v := ?_) rfl (by kernel_rfl) (by kernel_rfl) (by kernel_rfl) (fun _ _ _ h => h) (Or.inl ⟨by rfl, ?_⟩) ?_
          rotate_left
          · intro w; go_simp; first | done | with_reducible rfl
          refine wpAny_take (i := 11) (v := ?_) rfl (by kernel_rfl) (by kernel_rfl) (by kernel_rfl) (fun _ _ _ h => h) (Or.inl ⟨by rfl, ?_⟩) ?_
          rotate_left
          · intro w; go_simp; first | done | with_reducible rfl
          refine wpAny_ready (rs := [12]) (by kernel_rfl) (by simp) ?_
          refine AllReady.cons rfl (fun K hK => ?_) ?_
          · go_simp
            refine (CT.out _ _ _ _).mono ?_; rintro e w2 ⟨rfl, rfl⟩
            try go_simp
            refine hK _ _ ?_
            clear hK K
            refine wpAny_take (i := 13) (v := ?_) rfl (by kernel_rfl) (by kernel_rfl) (by kernel_rfl) (fun _ _ _ h => h) (Or.inl ⟨by rfl, ?_⟩) ?_
            rotate_left
            · intro w; go_simp; first | done | with_reducible rfl
            refine wpAny_take (i := 14) (v := ?_) rfl (by kernel_rfl) (by kernel_rfl) (by kernel_rfl) (fun _ _ _ h => h) (Or.inl ⟨by rfl, ?_⟩) ?_
            rotate_left
            · intro w; go_simp; first | done | with_reducible rfl
            refine wpAny_ready (rs := [15]) (by kernel_rfl) (by simp) ?_
            refine AllReady.cons rfl (fun K hK => ?_) ?_
            · go_simp
              refine hK _ _ ?_
              clear hK K
              refine wpAny_done (by kernel_rfl) ?_ _
              obtain ⟨ps', g', r1, r2, r3, r4, r5⟩ := HNX.out
              have c4n := r1.c4
              have hnl := (LX.nl ⟨ps', g', r2.map, r2.lot⟩)
              have HC : Hid _ := r1
              have HO : Hid _ := r2
              have HS3 : Hid _ := r3
              have HR4 : Hid _ := r4
              have HR5 : Hid _ := r5
              have HNL : Hid _ := hnl
              clear r1 r2 r3 r4 r5 hnl
              simp only at c4n
              go_wp2_with (first
                | (go_at_call 34; refine (CO.out _ _ _ _ HNL.out).mono ?_; rintro e w4 ⟨⟨oa, oc, rfl⟩, c4⟩; have B4 : Hid _ := c4; clear c4)
                | (go_at_call 18; refine (CR.out _ _).mono ?_; rintro e w5 ⟨rfl, rfl⟩))
              first | go_end0 | refine bodyPost_ret (results_none rfl _ _ _) rfl ?_
              exact ⟨⟨⟨na, n1, nc⟩, L, ps', g', gl, rfl, HC.out.below B4.out, (HO.out.below B4.out).up (by have := B4.out.size; rw [setC_size] at this; exact this), fun k hk => .inr (HR4.out k hk), fun k hk => .inl (HPRE.out.m2 k hk), fun x hx k hk => .inr (HR5.out x hx k hk)⟩, (HS3.out.mono (fun k hk => .inl hk)).then_below B4.out⟩
            exact AllReady.nil
          exact AllReady.nil
        exact AllReady.nil
      exact AllReady.nil
    refine AllReady.cons rfl (fun K hK => ?_) ?_
    · go_simp
      refine hK _ _ ?_
      clear hK K
      refine wpAny_ready (rs := [4]) (by kernel_rfl) (by simp) ?_
      refine AllReady.cons rfl (fun K hK => ?_) ?_
      · go_simp
        refine hK _ _ ?_
        clear hK K
        refine wpAny_ready (rs := [9]) (by kernel_rfl) (by simp) ?_
        refine AllReady.cons rfl (fun K hK => ?_) ?_
        · go_simp
          refine (CM.out _ (bel_tr (bel_al _ _) (bel_drewN _ 1))).mono ?_; rintro e w1 ⟨⟨na, n1, nc, rfl, hX⟩, c1⟩; have B1 : Hid (Below w.heap.size w w1) := bel_tr (bel_tr (bel_al _ _) (bel_drewN _ 1)) c1; have d4 := bel_cell B1.out K4.out; rw [HAL.out] at hX; have HNX : Hid _ := HNN.out w1 ⟨na, n1, nc⟩ B1.out hX; have hfz := (HPRE.out.below B1.out).c.fr 4; clear hX c1
          try go_simp
          refine hK _ _ ?_
          clear hK K
          refine wpAny_take (i := 10) (v := ?_) rfl (by kernel_rfl) (by kernel_rfl) (by kernel_rfl) (fun _ _ _ h => h) (Or.inl ⟨by rfl, ?_⟩) ?_
          rotate_left
          · intro w; go_simp; first | done | with_reducible rfl
          refine wpAny_take (i := 11) (v := ?_) rfl (by kernel_rfl) (by kernel_rfl) (by kernel_rfl) (fun _ _ _ h => h) (Or.inl ⟨by rfl, ?_⟩) ?_
          rotate_left
          · intro w; go_simp; first | done | with_reducible rfl
          refine wpAny_ready (rs := [12]) (by kernel_rfl) (by simp) ?_
          refine AllReady.cons rfl (fun K hK => ?_) ?_
          · go_simp
            refine (CT.out _ _ _ _).mono ?_; rintro e w2 ⟨rfl, rfl⟩
            try go_simp
            refine hK _ _ ?_
            clear hK K
            refine wpAny_take (i := 13) (v := ?_) rfl (by kernel_rfl) (by kernel_rfl) (by kernel_rfl) (fun _ _ _ h => h) (Or.inl ⟨by rfl, ?_⟩) ?_
            rotate_left
            · intro w; go_simp; first | done | with_reducible rfl
            refine wpAny_take (i := 14) (v := ?_) rfl (by kernel_rfl) (by kernel_rfl) (by kernel_rfl) (fun _ _ _ h => h) (Or.inl ⟨by rfl, ?_⟩) ?_
            rotate_left
            · intro w; go_simp; first | done | with_reducible rfl
            refine wpAny_ready (rs := [15]) (by kernel_rfl) (by simp) ?_
            refine AllReady.cons rfl (fun K hK => ?_) ?_
            · go_simp
              refine hK _ _ ?_
              clear hK K
              refine wpAny_done (by kernel_rfl) ?_ _
              obtain ⟨ps', g', r1, r2, r3, r4, r5⟩ := HNX.out
              have c4n := r1.c4
              have hnl := (LX.nl ⟨ps', g', r2.map, r2.lot⟩)
              have HC : Hid _ := r1
              have HO : Hid _ := r2
              have HS3 : Hid _ := r3
              have HR4 : Hid _ := r4
              have HR5 : Hid _ := r5
              have HNL : Hid _ := hnl
              clear r1 r2 r3 r4 r5 hnl
              simp only at c4n
              go_wp2_with (first
                | (go_at_call 34; refine (CO.out _ _ _ _ HNL.out).mono ?_; rintro e w4 ⟨⟨oa, oc, rfl⟩, c4⟩; have B4 : Hid _ := c4; clear c4)
                | (go_at_call 18; refine (CR.out _ _).mono ?_; rintro e w5 ⟨rfl, rfl⟩))
              first | go_end0 | refine bodyPost_ret (results_none rfl _ _ _) rfl ?_
              exact ⟨⟨⟨na, n1, nc⟩, L, ps', g', gl, rfl, HC.out.below B4.out, (HO.out.below B4.out).up (by have := B4.out.size; rw [setC_size] at this; exact this), fun k hk => .inr (HR4.out k hk), fun k hk => .inl (HPRE.out.m2 k hk), fun x hx k hk => .inr (HR5.out x hx k hk)⟩, (HS3.out.mono (fun k hk => .inl hk)).then_below B4.out⟩
            exact AllReady.nil
          exact AllReady.nil
        exact AllReady.nil
      exact AllReady.nil
    exact AllReady.nil
  refine AllReady.cons rfl (fun K hK => ?_) ?_
  · go_simp
    refine hK _ _ ?_
    clear hK K
    refine wpAny_ready (rs := [4, 6]) (by kernel_rfl) (by simp) ?_
    refine AllReady.cons rfl (fun K hK => ?_) ?_
    · go_simp
      refine hK _ _ ?_
      clear hK K
      refine wpAny_ready (rs := [6]) (by kernel_rfl) (by simp) ?_
      refine AllReady.cons rfl (fun K hK => ?_) ?_
      · go_simp
        refine hK _ _ ?_
        clear hK K
        refine wpAny_ready (rs := [9]) (by kernel_rfl) (by simp) ?_
        refine AllReady.cons rfl (fun K hK => ?_) ?_
        · go_simp
          refine (CM.out _ (bel_tr (bel_al _ _) (bel_drewN _ 1))).mono ?_; rintro e w1 ⟨⟨na, n1, nc, rfl, hX⟩, c1⟩; have B1 : Hid (Below w.heap.size w w1) := bel_tr (bel_tr (bel_al _ _) (bel_drewN _ 1)) c1; have d4 := bel_cell B1.out K4.out; rw [HAL.out] at hX; have HNX : Hid _ := HNN.out w1 ⟨na, n1, nc⟩ B1.out hX; have hfz := (HPRE.out.below B1.out).c.fr 4; clear hX c1
          try go_simp
          refine hK _ _ ?_
          clear hK K
          refine wpAny_take (i := 10) (v := ?_) rfl (by kernel_rfl) (by kernel_rfl) (by kernel_rfl) (fun _ _ _ h => h) (Or.inl ⟨by rfl, ?_⟩) ?_
          rotate_left
          · intro w; go_simp; first | done | with_reducible rfl
          refine wpAny_take (i := 11) (v := ?_) rfl (by kernel_rfl) (by kernel_rfl) (by kernel_rfl) (fun _ _ _ h => h) (Or.inl ⟨by rfl, ?_⟩) ?_
          rotate_left
          · intro w; go_simp; first | done | with_reducible rfl
          refine wpAny_ready (rs := [12]) (by kernel_rfl) (by simp) ?_
          refine AllReady.cons rfl (fun K hK => ?_) ?_
          · go_simp
            refine (CT.out _ _ _ _).mono ?_; rintro e w2 ⟨rfl, rfl⟩
            try go_simp
            refine hK _ _ ?_
            clear hK K
            refine wpAny_take (i := 13) (v := ?_) rfl (by kernel_rfl) (by kernel_rfl) (by kernel_rfl) (fun _ _ _ h => h) (Or.inl ⟨by rfl, ?_⟩) ?_
            rotate_left
            · intro w; go_simp; first | done | with_reducible rfl
            refine wpAny_take (i := 14) (v := ?_) rfl (by kernel_rfl) (by kernel_rfl) (by kernel_rfl) (fun _ _ _ h => h) (Or.inl ⟨by rfl, ?_⟩) ?_
            rotate_left
            · intro w; go_simp; first | done | with_reducible rfl
            refine wpAny_ready (rs := [15]) (by kernel_rfl) (by simp) ?_
            refine AllReady.cons rfl (fun K hK => ?_) ?_
            · go_simp
              refine hK _ _ ?_
              clear hK K
              refine wpAny_done (by kernel_rfl) ?_ _
              obtain ⟨ps', g', r1, r2, r3, r4, r5⟩ := HNX.out
              have c4n := r1.c4
              have hnl := (LX.nl ⟨ps', g', r2.map, r2.lot⟩)
              have HC : Hid _ := r1
              have HO : Hid _ := r2
              have HS3 : Hid _ := r3
              have HR4 : Hid _ := r4
              have HR5 : Hid _ := r5
              have HNL : Hid _ := hnl
              clear r1 r2 r3 r4 r5 hnl
              simp only at c4n
              go_wp2_with (first
                | (go_at_call 34; refine (CO.out _ _ _ _ HNL.out).mono ?_; rintro e w4 ⟨⟨oa, oc, rfl⟩, c4⟩; have B4 : Hid _ := c4; clear c4)
                | (go_at_call 18; refine (CR.out _ _).mono ?_; rintro e w5 ⟨rfl, rfl⟩))
              first | go_end0 | refine bodyPost_ret (results_none rfl _ _ _) rfl ?_
              exact ⟨⟨⟨na, n1, nc⟩, L, ps', g', gl, rfl, HC.out.below B4.out, (HO.out.below B4.out).up (by have := B4.out.size; rw [setC_size] at this; exact this), fun k hk => .inr (HR4.out k hk), fun k hk => .inl (HPRE.out.m2 k hk), fun x hx k hk => .inr (HR5.out x hx k hk)⟩, (HS3.out.mono (fun k hk => .inl hk)).then_below B4.out⟩
            exact AllReady.nil
          exact AllReady.nil
        exact AllReady.nil
      exact AllReady.nil
    refine AllReady.cons rfl (fun K hK => ?_) ?_
    · go_simp
      refine hK _ _ ?_
      clear hK K
      refine wpAny_ready (rs := [4]) (by kernel_rfl) (by simp) ?_
      refine AllReady.cons rfl (fun K hK => ?_) ?_
      · go_simp
        refine hK _ _ ?_
        clear hK K
        refine wpAny_ready (rs := [9]) (by kernel_rfl) (by simp) ?_
        refine AllReady.cons rfl (fun K hK => ?_) ?_
        · go_simp
          refine (CM.out _ (bel_tr (bel_al _ _) (bel_drewN _ 1))).mono ?_; rintro e w1 ⟨⟨na, n1, nc, rfl, hX⟩, c1⟩; have B1 : Hid (Below w.heap.size w w1) := bel_tr (bel_tr (bel_al _ _) (bel_drewN _ 1)) c1; have d4 := bel_cell B1.out K4.out; rw [HAL.out] at hX; have HNX : Hid _ := HNN.out w1 ⟨na, n1, nc⟩ B1.out hX; have hfz := (HPRE.out.below B1.out).c.fr 4; clear hX c1
          try go_simp
          refine hK _ _ ?_
          clear hK K
          refine wpAny_take (i := 10) (v := ?_) rfl (by kernel_rfl) (by kernel_rfl) (by kernel_rfl) (fun _ _ _ h => h) (Or.inl ⟨by rfl, ?_⟩) ?_
          rotate_left
          · intro w; go_simp; first | done | with_reducible rfl
          refine wpAny_take (i := 11) (v := ?_) rfl (by kernel_rfl) (by kernel_rfl) (by kernel_rfl) (fun _ _ _ h => h) (Or.inl ⟨by rfl, ?_⟩) ?_
          rotate_left
          · intro w; go_simp; first | done | with_reducible rfl
          refine wpAny_ready (rs := [12]) (by kernel_rfl) (by simp) ?_
          refine AllReady.cons rfl (fun K hK => ?_) ?_
          · go_simp
            refine (CT.out _ _ _ _).mono ?_; rintro e w2 ⟨rfl, rfl⟩
            try go_simp
            refine hK _ _ ?_
            clear hK K
            refine wpAny_take (i := 13) (v := ?_) rfl (by kernel_rfl) (by kernel_rfl) (by kernel_rfl) (fun _ _ _ h => h) (Or.inl ⟨by rfl, ?_⟩) ?_
            rotate_left
            · intro w; go_simp; first | done | with_reducible rfl
            refine wpAny_take (i := 14) (v := ?_) rfl (by kernel_rfl) (by kernel_rfl) (by kernel_rfl) (fun _ _ _ h => h) (Or.inl ⟨by rfl, ?_⟩) ?_
            rotate_left
            · intro w; go_simp; first | done | with_reducible rfl
            refine wpAny_ready (rs := [15]) (by kernel_rfl) (by simp) ?_
            refine AllReady.cons rfl (fun K hK => ?_) ?_
            · go_simp
              refine hK _ _ ?_
              clear hK K
              refine wpAny_done (by kernel_rfl) ?_ _
              obtain ⟨ps', g', r1, r2, r3, r4, r5⟩ := HNX.out
              have c4n := r1.c4
              have hnl := (LX.nl ⟨ps', g', r2.map, r2.lot⟩)
              have HC : Hid _ := r1
              have HO : Hid _ := r2
              have HS3 : Hid _ := r3
              have HR4 : Hid _ := r4
              have HR5 : Hid _ := r5
              have HNL : Hid _ := hnl
              clear r1 r2 r3 r4 r5 hnl
              simp only at c4n
              go_wp2_with (first
                | (go_at_call 34; refine (CO.out _ _ _ _ HNL.out).mono ?_; rintro e w4 ⟨⟨oa, oc, rfl⟩, c4⟩; have B4 : Hid _ := c4; clear c4)
                | (go_at_call 18; refine (CR.out _ _).mono ?_; rintro e w5 ⟨rfl, rfl⟩))
              first | go_end0 | refine bodyPost_ret (results_none rfl _ _ _) rfl ?_
              exact ⟨⟨⟨na, n1, nc⟩, L, ps', g', gl, rfl, HC.out.below B4.out, (HO.out.below B4.out).up (by have := B4.out.size; rw [setC_size] at this; exact this), fun k hk => .inr (HR4.out k hk), fun k hk => .inl (HPRE.out.m2 k hk), fun x hx k hk => .inr (HR5.out x hx k hk)⟩, (HS3.out.mono (fun k hk => .inl hk)).then_below B4.out⟩
            exact AllReady.nil
          exact AllReady.nil
        exact AllReady.nil
      exact AllReady.nil
    exact AllReady.nil
  exact AllReady.nil

end Go.Proofs.YticiihjkgiookaaGreat.Spa

/- The contract of space.bump. -/
namespace Go.Proofs.YticiihjkgiookaaGreat.Spa
open Go.RowKit Go.Proofs.YticiihjkgiookaaGreat
open Go.Proofs.YticiihjkgiookaaGreat.Lea (LS Ls findX putL renX LL LO LsR lsC wideL)
open Go.Proofs.YticiihjkgiookaaGreat.Edi (Ed Nm EdAt edV)

theorem stay_cel {O : Nat → Prop} {w w' : World} (hs : Stay O w w') {b j : Nat} {v : Value} (hO : ¬ O b) (hc : w.cell? ⟨b, j, none⟩ = some v) : w'.cell? ⟨b, j, none⟩ = some v :=
  (World.cell?_of_block (a := ⟨b, j, none⟩) (hs.block b (World.block_lt_of_cell? _ _ hc) hO)).trans hc

set_option maxRecDepth 100000 in
set_option maxHeartbeats 4000000 in
theorem bump_writ {base M0 S : Nat} {w : World} {s : Sp} {N L : RS} {ps : List NR} {gb : Nat} {gl : Option Nat} (h : Pre base M0 S w s N L ps gb gl) (e : Ed) (ea : Option Addr) (em eq : Nat) (hs : e.p.size ≤ maxLen) (E : Int) (hE : WritE s.ns e.p e.c E) (h0 : E ≠ 0) (hp : 0 < ps.length) :
    Calls Tryz.prog 52 #[.pointer (some ⟨S, 0, none⟩), edV e ea em eq] w fun r w' => LeftR S base M0 E w r w' := by
  have hE2 : WritE (ps.map (·.1)) e.p e.c E := by rw [h.own.map]; exact hE
  have CW : Hid (∀ W, Below w.heap.size w W → Calls Tryz.prog 93 #[.pointer (some ⟨S, 0, none⟩), edV e ea em eq] W fun e w' => e = leftV E ∧ Below W.heap.size W w') := fun W hb => written_no ((h.below hb).lies hp) e ea em eq hs E hE2 h0
  obtain ⟨k, p, t, cl, l, nn, ls⟩ := e
  unfold edV at CW ⊢
  simp only at CW ⊢
  have hst := run_store_str
  clear h hs hE hE2 h0 hp
  go_enter Tryz.func52, Tryz.ntmps52
  go_wp2_with (go_at_call 93; refine (CW.out _ (bel_tr (bel_al _ _) (bel_al _ _))).mono ?_; rintro e w1 ⟨rfl, c1⟩)
  exact left_post rfl (LeftR.of (bel_tr (bel_tr (bel_al _ _) (bel_al _ _)) c1))

set_option maxRecDepth 100000 in
set_option maxHeartbeats 4000000 in
theorem bump_arg {base M0 S : Nat} {w : World} {s : Sp} {N L : RS} {ps : List NR} {gb : Nat} {gl : Option Nat} (h : Pre base M0 S w s N L ps gb gl) (e : Ed) (ea : Option Addr) (em eq : Nat) (hs : e.p.size ≤ maxLen) (i : Nat) (x : Nd) (hw : Wr s e i x) (hl : (x.bs.length : Int) ≤ e.n) :
    Calls Tryz.prog 52 #[.pointer (some ⟨S, 0, none⟩), edV e ea em eq] w fun r w' => LeftR S base M0 1 w r w' := by
  have hiq : Is (ps.map (·.1)) e.p i x := by rw [h.own.map]; exact hw.is
  obtain ⟨r, hX⟩ := is_at' hiq
  obtain ⟨hF0, hg0, hiN, hpos, _⟩ := h.free' hX
  have hrn : x.bs.length = r.n := hF0.ok.bs.len
  have CW : Hid (∀ W, Below w.heap.size w W → Calls Tryz.prog 93 #[.pointer (some ⟨S, 0, none⟩), edV e ea em eq] W fun e w' => e = .returned (.pointer (some ⟨gb, i * 5, none⟩)) ∧ Below W.heap.size W w') := fun W hb => written_ok ((h.below hb).lies hpos) e ea em eq hs i x hiq hw.dir hw.wr
  have HX : Hid (ps[i]? = some (x, r)) := hX
  have HPRE : Hid (Pre base M0 S w s N L ps gb gl) := h
  obtain ⟨k, p, t, cl, l, nn, ls⟩ := e
  obtain ⟨xp, xd, xq, xb, xw⟩ := x
  obtain ⟨ra, rn, rc⟩ := r
  simp only at hrn hl HX
  have hge : decide ((rn : Int) ≤ nn) = true := decide_eq_true (by omega)
  unfold edV at CW ⊢
  simp only at CW ⊢
  have hst := run_store_str
  clear h hs hw hiq hX hF0 hg0 hiN hpos hrn hl
  go_enter Tryz.func52, Tryz.ntmps52
  go_wp2_with (go_at_call 93; refine (CW.out _ (bel_tr (bel_al _ _) (bel_al _ _))).mono ?_; rintro e w1 ⟨rfl, c1⟩; obtain ⟨q1, q2, q3, q4, q5, q6⟩ := two_boxes c1; have y5 := q1 5 _ rfl; have B1 : Hid (Below w.heap.size w w1) := q5; have hP1 := HPRE.out.below q5; have n3 := ((hP1.lies (hP1.free' HX.out).2.2.2.1).at' HX.out).c3; simp only at n3; clear hP1 c1 q1 q2 q3 q4 q5 q6)
  refine wp_region_any (by kernel_rfl) ?_
  try (change wpAny _ _ _ _ _ _ _ (World.drew _))
  refine wpAny_take (i := 0) (v := ?_) rfl (by kernel_rfl) (by kernel_rfl) (by kernel_rfl) (fun _ _ _ h => h) (Or.inl ⟨by rfl, ?_⟩) ?_
  rotate_left
  · intro w; go_simp; first | done | with_reducible rfl
  refine wpAny_take (i := 2) (v := ?_) rfl (by kernel_rfl) (by kernel_rfl) (by kernel_rfl) (fun _ _ _ h => h) (Or.inl ⟨by rfl, ?_⟩) ?_
  rotate_left
  · intro w; go_simp; first | done | with_reducible rfl
  refine wpAny_take (i := 3) (v := ?_) rfl (by kernel_rfl) (by kernel_rfl) (by kernel_rfl) (fun _ _ _ h => h) (Or.inl ⟨by rfl, ?_⟩) ?_
  rotate_left
  · intro w; go_simp; first | done | with_reducible rfl
  refine wpAny_take (i := 4) (v := ?_) rfl (by kernel_rfl) (by kernel_rfl) (by kernel_rfl) (fun _ _ _ h => h) (Or.inl ⟨by rfl, ?_⟩) ?_
  rotate_left
  · intro w; go_simp; first | done | with_reducible rfl
  refine wpAny_ready (rs := [1, 5]) (by kernel_rfl) (by simp) ?_
  refine AllReady.cons rfl (fun K hK => ?_) ?_
  · go_simp
    refine hK _ _ ?_
    clear hK K
    refine wpAny_ready (rs := [5]) (by kernel_rfl) (by simp) ?_
    refine AllReady.cons rfl (fun K hK => ?_) ?_
    · go_simp
      refine hK _ _ ?_
      clear hK K
      refine wpAny_ready (rs := [6]) (by kernel_rfl) (by simp) ?_
      refine AllReady.cons rfl (fun K hK => ?_) ?_
      · go_simp
        refine hK _ _ ?_
        clear hK K
        refine wpAny_take (i := 7) (v := ?_) rfl (by kernel_rfl) (by kernel_rfl) (by kernel_rfl) (fun _ _ _ h => h) (Or.inl ⟨by rfl, ?_⟩) ?_
        rotate_left
        · intro w; go_simp; first | done | with_reducible rfl
        refine wpAny_ready (rs := [8]) (by kernel_rfl) (by simp) ?_
        refine AllReady.cons rfl (fun K hK => ?_) ?_
        · go_simp
          refine (refuse_yes _ _).mono ?_; rintro e w2 ⟨rfl, hw2⟩; subst hw2; exact left_post rfl (LeftR.of (bel_tr B1.out (bel_drewN _ 1)))
        exact AllReady.nil
      exact AllReady.nil
    exact AllReady.nil
  refine AllReady.cons rfl (fun K hK => ?_) ?_
  · go_simp
    refine hK _ _ ?_
    clear hK K
    refine wpAny_ready (rs := [1, 6]) (by kernel_rfl) (by simp) ?_
    refine AllReady.cons rfl (fun K hK => ?_) ?_
    · go_simp
      refine hK _ _ ?_
      clear hK K
      refine wpAny_ready (rs := [6]) (by kernel_rfl) (by simp) ?_
      refine AllReady.cons rfl (fun K hK => ?_) ?_
      · go_simp
        refine hK _ _ ?_
        clear hK K
        refine wpAny_take (i := 7) (v := ?_) rfl (by kernel_rfl) (by kernel_rfl) (by kernel_rfl) (fun _ _ _ h => h) (Or.inl ⟨by rfl, ?_⟩) ?_
        rotate_left
        · intro w; go_simp; first | done | with_reducible rfl
        refine wpAny_ready (rs := [8]) (by kernel_rfl) (by simp) ?_
        refine AllReady.cons rfl (fun K hK => ?_) ?_
        · go_simp
          refine (refuse_yes _ _).mono ?_; rintro e w2 ⟨rfl, hw2⟩; subst hw2; exact left_post rfl (LeftR.of (bel_tr B1.out (bel_drewN _ 1)))
        exact AllReady.nil
      exact AllReady.nil
    refine AllReady.cons rfl (fun K hK => ?_) ?_
    · go_simp
      refine hK _ _ ?_
      clear hK K
      refine wpAny_ready (rs := [1]) (by kernel_rfl) (by simp) ?_
      refine AllReady.cons rfl (fun K hK => ?_) ?_
      · go_simp
        refine hK _ _ ?_
        clear hK K
        refine wpAny_take (i := 7) (v := ?_) rfl (by kernel_rfl) (by kernel_rfl) (by kernel_rfl) (fun _ _ _ h => h) (Or.inl ⟨by rfl, ?_⟩) ?_
        rotate_left
        · intro w; go_simp; first | done | with_reducible rfl
        refine wpAny_ready (rs := [8]) (by kernel_rfl) (by simp) ?_
        refine AllReady.cons rfl (fun K hK => ?_) ?_
        · go_simp
          refine (refuse_yes _ _).mono ?_; rintro e w2 ⟨rfl, hw2⟩; subst hw2; exact left_post rfl (LeftR.of (bel_tr B1.out (bel_drewN _ 1)))
        exact AllReady.nil
      exact AllReady.nil
    exact AllReady.nil
  exact AllReady.nil

set_option maxRecDepth 100000 in
set_option maxHeartbeats 4000000 in
theorem bump_long {base M0 S : Nat} {w : World} {s : Sp} {N L : RS} {ps : List NR} {gb : Nat} {gl : Option Nat} (h : Pre base M0 S w s N L ps gb gl) (e : Ed) (ea : Option Addr) (em eq : Nat) (hs : e.p.size ≤ maxLen) (i : Nat) (x : Nd) (hw : Wr s e i x) (j : Nat) (hj : e.n = (j : Int)) (hl : j < x.bs.length) (hg : s.ng = 9007199254740991) :
    Calls Tryz.prog 52 #[.pointer (some ⟨S, 0, none⟩), edV e ea em eq] w fun r w' => LeftR S base M0 4 w r w' := by
  have hiq : Is (ps.map (·.1)) e.p i x := by rw [h.own.map]; exact hw.is
  obtain ⟨r, hX⟩ := is_at' hiq
  obtain ⟨hF0, hg0, hiN, hpos, _⟩ := h.free' hX
  have hrn : x.bs.length = r.n := hF0.ok.bs.len
  have CW : Hid (∀ W, Below w.heap.size w W → Calls Tryz.prog 93 #[.pointer (some ⟨S, 0, none⟩), edV e ea em eq] W fun e w' => e = .returned (.pointer (some ⟨gb, i * 5, none⟩)) ∧ Below W.heap.size W w') := fun W hb => written_ok ((h.below hb).lies hpos) e ea em eq hs i x hiq hw.dir hw.wr
  have HX : Hid (ps[i]? = some (x, r)) := hX
  have HPRE : Hid (Pre base M0 S w s N L ps gb gl) := h
  have CRB : Hid (∀ E W, Calls Tryz.prog 18 #[.bool false, .int .i64 E] W fun e w' => e = .returned (.tuple #[]) ∧ Below W.heap.size W w') := fun E W => (refuse_no E W).mono fun e w' ⟨h1, h2⟩ => ⟨h1, by rw [h2]; exact Below.refl _ _⟩
  obtain ⟨k, p, t, cl, l, nn, ls⟩ := e
  obtain ⟨xp, xd, xq, xb, xw⟩ := x
  obtain ⟨ra, rn, rc⟩ := r
  obtain ⟨tx, nb, ng, now, ns, lss⟩ := s
  simp only at hrn hl HX hj hg
  subst hj
  have hge : decide ((rn : Int) ≤ (j : Int)) = false := decide_eq_false (by omega)
  have hge2 : decide (rn ≤ j) = false := decide_eq_false (by omega)
  subst hg
  unfold edV at CW ⊢
  simp only at CW ⊢
  have hst := run_store_str
  clear h hs hw hiq hX hF0 hg0 hiN hpos hrn hl
  go_enter Tryz.func52, Tryz.ntmps52
  go_wp2_with (go_at_call 93; refine (CW.out _ (bel_tr (bel_al _ _) (bel_al _ _))).mono ?_; rintro e w1 ⟨rfl, c1⟩; obtain ⟨q1, q2, q3, q4, q5, q6⟩ := two_boxes c1; have y5 := q1 5 _ rfl; have B1 : Hid (Below w.heap.size w w1) := q5; have HAN : Hid (AnC w1 (w.heap.size + 1) 0 zeroB noS zeroX 0) := ⟨q3 0 _ rfl, q3 1 _ rfl, q3 2 _ rfl, q3 3 _ rfl, q3 4 _ rfl, q3 5 _ rfl, q3 6 _ rfl, q3 7 _ rfl, q3 8 _ rfl, q3 9 _ rfl, q3 10 _ rfl, q4⟩; have HSZ : Hid (w.heap.size + 2 ≤ w1.heap.size) := q6; have hP1 := HPRE.out.below q5; have n3 := ((hP1.lies (hP1.free' HX.out).2.2.2.1).at' HX.out).c3; simp only at n3; clear hP1 c1 q1 q2 q3 q4 q5 q6)
  have r5 : ∀ dd os, (Sort.grow (redrawn w1 dd) os).cell? ⟨w.heap.size, 5, none⟩ = some (.int .i64 (j : Int)) := fun dd os => cell_regrown y5 dd os
  have r3 : ∀ dd os, (Sort.grow (redrawn w1 dd) os).cell? ⟨gb, i * 5 + 3, none⟩ = some (.slice ra rn rc) := fun dd os => cell_regrown n3 dd os
  refine wp_region_quiet_below (by kernel_rfl) (by kernel_rfl) ?_
  repeat (first | go_big_quiet_step (exact Calls.regrown_of (CRB.out _ _)) | quiet_step (exact Calls.regrown_of (CRB.out _ _)))
  refine wpQuiet_nil ?_
  intro _ hw'
  obtain ⟨⟨dq, osq⟩, hw''⟩ := hw'
  subst hw''
  have BB2 : Hid (Below w1.heap.size w1 (Sort.grow (redrawn w1 dq) osq)) := below_regrown w1 dq osq
  clear r5 r3
  generalize Sort.grow (redrawn w1 dq) osq = w2 at *
  have B2 : Hid (Below w.heap.size w w2) := bel_tr B1.out BB2.out
  have hP2 := HPRE.out.below B2.out
  have g2 := hP2.c.c2
  simp only at g2
  clear hP2
  go_wp2_with (go_at_call 18; refine (refuse_yes _ _).mono ?_; rintro e w3 ⟨rfl, hw3⟩; subst hw3)
  exact left_post rfl (LeftR.of B2.out)

set_option maxRecDepth 100000 in
set_option maxHeartbeats 4000000 in
theorem bump_ok {base M0 S : Nat} {w : World} {s : Sp} {N L : RS} {ps : List NR} {gb : Nat} {gl : Option Nat} (h : Pre base M0 S w s N L ps gb gl) (e : Ed) (ea : Option Addr) (em eq : Nat) (hs : e.p.size ≤ maxLen) (i : Nat) (x : Nd) (hw : Wr s e i x) (h8 : x.bs.length ≤ 8) (j : Nat) (hj : e.n = (j : Int)) (hl : j < x.bs.length) (hg : s.ng ≠ 9007199254740991) (hng : 1 ≤ s.ng ∧ s.ng ≤ 9007199254740991) :
    Calls Tryz.prog 52 #[.pointer (some ⟨S, 0, none⟩), edV e ea em eq] w fun r w' => DoneR S base M0 ⟨s.tx, s.nb, s.ng + 1, s.now, s.ns.set i (withBs x (setGen x.bs j s.ng)), s.ls⟩ ⟨x.bs[j].id, s.ng, x.bs[j].len⟩ (withBs x (setGen x.bs j s.ng)) w r w' := by
  have hiq : Is (ps.map (·.1)) e.p i x := by rw [h.own.map]; exact hw.is
  obtain ⟨r, hX⟩ := is_at' hiq
  obtain ⟨hF0, hg0, hiN, hpos, _⟩ := h.free' hX
  have hrn : x.bs.length = r.n := hF0.ok.bs.len
  have CW : Hid (∀ W, Below w.heap.size w W → Calls Tryz.prog 93 #[.pointer (some ⟨S, 0, none⟩), edV e ea em eq] W fun e w' => e = .returned (.pointer (some ⟨gb, i * 5, none⟩)) ∧ Below W.heap.size W w') := fun W hb => written_ok ((h.below hb).lies hpos) e ea em eq hs i x hiq hw.dir hw.wr
  have HX : Hid (ps[i]? = some (x, r)) := hX
  have HPRE : Hid (Pre base M0 S w s N L ps gb gl) := h
  have CRB : Hid (∀ E W, Calls Tryz.prog 18 #[.bool false, .int .i64 E] W fun e w' => e = .returned (.tuple #[]) ∧ Below W.heap.size W w') := fun E W => (refuse_no E W).mono fun e w' ⟨h1, h2⟩ => ⟨h1, by rw [h2]; exact Below.refl _ _⟩
  obtain ⟨k, p, t, cl, l, nn, ls⟩ := e
  obtain ⟨xp, xd, xq, xb, xw⟩ := x
  obtain ⟨ra, rn, rc⟩ := r
  obtain ⟨tx, nb, ng, now, ns, lss⟩ := s
  simp only at hrn hl HX hj hg hng h8 ⊢
  subst hj
  have hge : decide ((rn : Int) ≤ (j : Int)) = false := decide_eq_false (by omega)
  have hge2 : decide (rn ≤ j) = false := decide_eq_false (by omega)
  have hgb : (ng == 9007199254740991) = false := by simpa using hg
  have hRB : ∃ rb, ra = some ⟨rb, 0, none⟩ := by
    obtain ⟨rb, ha, _⟩ := hF0.own (by show 0 < rn; omega)
    exact ⟨rb, ha⟩
  obtain ⟨rb, rfl⟩ := hRB
  have hrI : (j : Int) < (rn : Int) := by omega
  obtain ⟨b, hb⟩ : ∃ b : Blk, xb[j] = b := ⟨_, rfl⟩
  have hblk : (⟨some ⟨rb, 0, none⟩, rn, rc⟩ : RS).blk = some rb := by unfold RS.blk; rw [if_neg (by show ¬ rn = 0; omega)]; rfl
  have hsg : setGen xb j ng = xb.set j ⟨b.id, ng, b.len⟩ := by rw [setGen_set xb j ng hl, hb]
  have hjs : (setGen xb j ng).length = xb.length := setGen_len _ _ _
  have hat : (setGen xb j ng)[j]'(by omega) = ⟨b.id, ng, b.len⟩ := by simp only [hsg]; rw [List.getElem_set_self]
  have HJ : Hid (j < xb.length ∧ xb[j]? = some b) := ⟨hl, by rw [List.getElem?_eq_getElem hl, hb]⟩
  have HR8 : Hid (rn ≤ 8 ∧ j < rn ∧ xb.length = rn) := ⟨by omega, by omega, hrn⟩
  rw [hb]
  have HGEN : Hid (∀ W, Below w.heap.size w W → Pre base M0 S (W.setCell ⟨rb, j * 3 + 1, none⟩ (.int .i64 ng)) ⟨tx, nb, ng, now, ns.set i ⟨xp, xd, xq, setGen xb j ng, xw⟩, lss⟩ N L (ps.set i (⟨xp, xd, xq, setGen xb j ng, xw⟩, ⟨some ⟨rb, 0, none⟩, rn, rc⟩)) gb gl ∧ Stay (fun k => k = rb) W (W.setCell ⟨rb, j * 3 + 1, none⟩ (.int .i64 ng))) := fun W hB => by
    have hP := HPRE.out.below hB
    have hF := (hP.free' HX.out).1
    obtain ⟨h1, h2⟩ := Free.setBlk (x := ⟨xp, xd, xq, xb, xw⟩) (s := ⟨some ⟨rb, 0, none⟩, rn, rc⟩) hF (b := rb) (j := j) (o := 1) rfl HJ.out.1 (by omega) ng ⟨b.id, ng, b.len⟩ (fun q => by
      have e2 : xb[j]'HJ.out.1 = b := by have := HJ.out.2; rw [List.getElem?_eq_getElem HJ.out.1] at this; exact Option.some.inj this
      show _ = if q = 1 then _ else (blkC (xb[j]'HJ.out.1))[q]?
      rw [e2]
      match q with
      | 0 => rfl
      | 1 => rfl
      | 2 => rfl
      | q + 3 => rfl)
    have h1' : Free base (W.setCell ⟨rb, j * 3 + 1, none⟩ (.int .i64 ng)) (⟨xp, xd, xq, setGen xb j ng, xw⟩, ⟨some ⟨rb, 0, none⟩, rn, rc⟩) := by rw [hsg]; exact h1
    exact ⟨hP.bs' HX.out _ h1' h2, h2.mono (fun k hk => by rw [hblk] at hk; exact (Option.some.inj hk).symm)⟩
  have HNXT : Hid (∀ W, Pre base M0 S W ⟨tx, nb, ng, now, ns.set i ⟨xp, xd, xq, setGen xb j ng, xw⟩, lss⟩ N L (ps.set i (⟨xp, xd, xq, setGen xb j ng, xw⟩, ⟨some ⟨rb, 0, none⟩, rn, rc⟩)) gb gl → Pre base M0 S (W.setCell ⟨S, 2, none⟩ (.int .i64 (ng + 1))) ⟨tx, nb, ng + 1, now, ns.set i ⟨xp, xd, xq, setGen xb j ng, xw⟩, lss⟩ N L (ps.set i (⟨xp, xd, xq, setGen xb j ng, xw⟩, ⟨some ⟨rb, 0, none⟩, rn, rc⟩)) gb gl ∧ Stay (fun k => k = S) W (W.setCell ⟨S, 2, none⟩ (.int .i64 (ng + 1)))) := fun W hP => by
    obtain ⟨a1, a2⟩ := hP.c.set2 (ng + 1)
    have hsb := hP.sb
    have ho := hP.own.out a2 (fun k hk => by omega)
    exact ⟨⟨a1, ⟨ho.lot, ho.map, ho.lo, ho.sep, ho.gl1, ho.gl2⟩, hP.na, hP.sb, Nat.le_trans hP.bw a2.size, hP.m1, hP.m2, hP.m3, Nat.le_trans hP.mw a2.size⟩, a2⟩
  have HBK : Hid (∀ W, Free base W (⟨xp, xd, xq, setGen xb j ng, xw⟩, ⟨some ⟨rb, 0, none⟩, rn, rc⟩) → W.cell? ⟨rb, j * 3, none⟩ = some (.int .i64 b.id) ∧ W.cell? ⟨rb, j * 3 + 1, none⟩ = some (.int .i64 ng) ∧ W.cell? ⟨rb, j * 3 + 2, none⟩ = some (.int .i64 b.len)) := fun W hF => by
    obtain ⟨b2, off2, h1, h2⟩ := hF.ok.bs.cells (by show 0 < rn; have := HR8.out; omega)
    cases h1
    have hj2 : j < (setGen xb j ng).length := by have := HJ.out.1; omega
    have c0 := h2 j hj2 0 (.int .i64 b.id) (by show (blkC ((setGen xb j ng)[j]'hj2))[0]? = _; rw [hat]; rfl)
    have c1 := h2 j hj2 1 (.int .i64 ng) (by show (blkC ((setGen xb j ng)[j]'hj2))[1]? = _; rw [hat]; rfl)
    have c2 := h2 j hj2 2 (.int .i64 b.len) (by show (blkC ((setGen xb j ng)[j]'hj2))[2]? = _; rw [hat]; rfl)
    rw [Nat.zero_add] at c0 c1 c2
    exact ⟨c0, c1, c2⟩
  have HLV : Hid (∀ W, Below w.heap.size w W → (∃ u, W.cell? ⟨rb, j * 3 + 1, none⟩ = some u) ∧ W.frozen? ⟨rb, j * 3 + 1, none⟩ = false) := fun W hB => by
    obtain ⟨b2, h1, _, h2⟩ := ((HPRE.out.below hB).free' HX.out).1.own (by show 0 < rn; have := HR8.out; omega)
    cases h1
    have := h2 (j * 3 + 1) (by show j * 3 + 1 < rn * 3; have := HR8.out; omega)
    exact ⟨Option.isSome_iff_exists.1 this.1, this.2⟩
  have CC : Hid (∀ W, Free base W (⟨xp, xd, xq, setGen xb j ng, xw⟩, ⟨some ⟨rb, 0, none⟩, rn, rc⟩) → Calls Tryz.prog 31 #[.agg #[.string xp, .bool xd, .int .i64 xq, .slice (some ⟨rb, 0, none⟩) rn rc, .int .i64 xw]] W fun e w' => CopyR W.heap.size ⟨xp, xd, xq, setGen xb j ng, xw⟩ e w' ∧ Below W.heap.size W w') := fun W hF => copiedNode_val (⟨xp, xd, xq, setGen xb j ng, xw⟩, ⟨some ⟨rb, 0, none⟩, rn, rc⟩) W hF.ok (by show rn * 24 ≤ _; have := HR8.out; omega)
  have HRB : Hid (base ≤ rb ∧ rb < M0 ∧ rb ≠ gb) := ⟨hF0.blk_ge rb hblk, h.m3 _ (List.mem_of_getElem? hX) rb hblk, fun e => hg0 (by rw [hblk, e])⟩
  unfold withBs
  unfold edV at CW ⊢
  simp only at CW ⊢
  have hst := run_store_str
  have hst2 : ∀ (w : World) (a : Addr) (x : Option Addr) (n c : Nat) (m : Mode), (store a (.slice x n c) m).run Tryz.prog w = stored Tryz.prog w a (.slice x n c) m := fun w a x n c m => run_store_any w a _ m rfl
  clear h hs hw hiq hX hF0 hg0 hiN hpos hrn hl hg h8 hsg hjs hat hb hblk
  generalize setGen xb j ng = xg at *
  go_enter Tryz.func52, Tryz.ntmps52
  go_wp2_with (go_at_call 93; refine (CW.out _ (bel_tr (bel_al _ _) (bel_al _ _))).mono ?_; rintro e w1 ⟨rfl, c1⟩; obtain ⟨q1, q2, q3, q4, q5, q6⟩ := two_boxes c1; have y5 := q1 5 _ rfl; have B1 : Hid (Below w.heap.size w w1) := q5; have HAN : Hid (AnC w1 (w.heap.size + 1) 0 zeroB noS zeroX 0) := ⟨q3 0 _ rfl, q3 1 _ rfl, q3 2 _ rfl, q3 3 _ rfl, q3 4 _ rfl, q3 5 _ rfl, q3 6 _ rfl, q3 7 _ rfl, q3 8 _ rfl, q3 9 _ rfl, q3 10 _ rfl, q4⟩; have HSZ : Hid (w.heap.size + 2 ≤ w1.heap.size) := q6; have hP1 := HPRE.out.below q5; have n3 := ((hP1.lies (hP1.free' HX.out).2.2.2.1).at' HX.out).c3; simp only at n3; clear hP1 c1 q1 q2 q3 q4 q5 q6)
  have r5 : ∀ dd os, (Sort.grow (redrawn w1 dd) os).cell? ⟨w.heap.size, 5, none⟩ = some (.int .i64 (j : Int)) := fun dd os => cell_regrown y5 dd os
  have r3 : ∀ dd os, (Sort.grow (redrawn w1 dd) os).cell? ⟨gb, i * 5 + 3, none⟩ = some (.slice (some ⟨rb, 0, none⟩) rn rc) := fun dd os => cell_regrown n3 dd os
  refine wp_region_quiet_below (by kernel_rfl) (by kernel_rfl) ?_
  repeat (first | go_big_quiet_step (exact Calls.regrown_of (CRB.out _ _)) | quiet_step (exact Calls.regrown_of (CRB.out _ _)))
  refine wpQuiet_nil ?_
  intro _ hw'
  obtain ⟨⟨dq, osq⟩, hw''⟩ := hw'
  subst hw''
  have BB2 : Hid (Below w1.heap.size w1 (Sort.grow (redrawn w1 dq) osq)) := below_regrown w1 dq osq
  clear r5 r3
  generalize Sort.grow (redrawn w1 dq) osq = w2 at *
  have B2 : Hid (Below w.heap.size w w2) := bel_tr B1.out BB2.out
  have hP2 := HPRE.out.below B2.out
  have g2 := hP2.c.c2
  have z5 := bel_cell BB2.out y5
  have z3 := bel_cell BB2.out n3
  obtain ⟨⟨u, hu⟩, hfz⟩ := HLV.out w2 B2.out
  have HG2 : Hid _ := HGEN.out w2 B2.out
  simp only at g2
  clear hP2
  have CR : Hid (∀ E W, Calls Tryz.prog 18 #[.bool false, .int .i64 E] W fun e w' => e = .returned (.tuple #[]) ∧ W = w') := fun E W => (refuse_no E W).mono fun e w' ⟨h1, h2⟩ => ⟨h1, h2.symm⟩
  go_wp2_with (go_at_call 18; refine (CR.out _ _).mono ?_; rintro e w3 ⟨rfl, rfl⟩)
  go_region
  have hP4 : Pre base M0 S ((w2.setCell ⟨rb, j * 3 + 1, none⟩ (.int .i64 ng)).drew) ⟨tx, nb, ng, now, ns.set i ⟨xp, xd, xq, xg, xw⟩, lss⟩ N L (ps.set i (⟨xp, xd, xq, xg, xw⟩, ⟨some ⟨rb, 0, none⟩, rn, rc⟩)) gb gl := HG2.out.1.below (bel_drewN _ 1)
  have hlt := HPRE.out.lt
  have hrb := HRB.out
  have hsz := HSZ.out
  have hsz2 := BB2.out.size
  have BD : Hid (Below (w2.setCell ⟨rb, j * 3 + 1, none⟩ (.int .i64 ng)).heap.size (w2.setCell ⟨rb, j * 3 + 1, none⟩ (.int .i64 ng)) ((w2.setCell ⟨rb, j * 3 + 1, none⟩ (.int .i64 ng)).drew)) := bel_drewN _ 1
  have HST4 : Hid (Stay (Chg S base M0) w ((w2.setCell ⟨rb, j * 3 + 1, none⟩ (.int .i64 ng)).drew)) := ((Stay.of_below B2.out).trans HG2.out.2 (fun k _ e => .inr ⟨by omega, by omega⟩)).then_below BD.out
  have HAN3 : Hid (AnC ((w2.setCell ⟨rb, j * 3 + 1, none⟩ (.int .i64 ng)).drew) (w.heap.size + 1) 0 zeroB noS zeroX 0) := ((HAN.out.below BB2.out).keep HG2.out.2 (by omega)).below BD.out
  have e5 : ((w2.setCell ⟨rb, j * 3 + 1, none⟩ (.int .i64 ng)).drew).cell? ⟨w.heap.size, 5, none⟩ = some (.int .i64 (j : Int)) := bel_cell BD.out ((other_block _ _ _ _ _ _ (by omega)).trans z5)
  have HSZ4 : Hid (w.heap.size + 2 ≤ ((w2.setCell ⟨rb, j * 3 + 1, none⟩ (.int .i64 ng)).drew).heap.size) := by
    have h1 := HG2.out.2.size
    have h2 := BD.out.size
    show _ ≤ _
    omega
  clear hlt hrb hsz hsz2 BD HG2 hu hfz g2 z3 z5
  generalize (w2.setCell ⟨rb, j * 3 + 1, none⟩ (.int .i64 ng)).drew = W4 at *
  have g4 := hP4.c.c2
  have gf := hP4.c.fr 2
  have HP5 : Hid _ := HNXT.out W4 hP4
  simp only at g4
  obtain ⟨hng1, hng2⟩ := hng
  clear hP4
  go_wp2
  have hP5 := HP5.out.1
  have hlt := HPRE.out.lt
  have hsb := HPRE.out.sb
  have f5 := stay_cel HP5.out.2 (b := w.heap.size) (by omega) e5
  have hF5 := (hP5.free' (set_at' HX.out _)).1
  obtain ⟨v0, v1, v2, v3, v4⟩ := (hP5.lies (hP5.free' (set_at' HX.out _)).2.2.2.1).at' (set_at' HX.out _)
  obtain ⟨b0, b1, b2⟩ := HBK.out _ hF5
  have HAN5 : Hid _ := HAN3.out.keep HP5.out.2 (by omega)
  have HST5 : Hid (Stay (Chg S base M0) w (W4.setCell ⟨S, 2, none⟩ (.int .i64 (ng + 1)))) := HST4.out.trans HP5.out.2 (fun k _ e => .inl e)
  have HSZ5 : Hid (w.heap.size + 2 ≤ (W4.setCell ⟨S, 2, none⟩ (.int .i64 (ng + 1))).heap.size) := by have h1 := HP5.out.2.size; have := HSZ4.out; show _ ≤ _; omega
  have HF5 : Hid _ := hF5
  simp only at v0 v1 v2 v3 v4
  clear hP5 hlt hsb hF5 e5 g4 gf
  generalize W4.setCell ⟨S, 2, none⟩ (.int .i64 (ng + 1)) = W5 at *
  have HEND : Hid (∀ w4 (sx : RS), Below W5.heap.size W5 w4 → Free W5.heap.size w4 (⟨xp, xd, xq, xg, xw⟩, sx) → AnC (put11 w4 (w.heap.size + 1) 0 ⟨b.id, ng, b.len⟩ noS (⟨xp, xd, xq, xg, xw⟩, sx) 0) (w.heap.size + 1) 0 ⟨b.id, ng, b.len⟩ noS (⟨xp, xd, xq, xg, xw⟩, sx) 0 ∧ DoneR S base M0 ⟨tx, nb, ng + 1, now, ns.set i ⟨xp, xd, xq, xg, xw⟩, lss⟩ ⟨b.id, ng, b.len⟩ ⟨xp, xd, xq, xg, xw⟩ w (.returned (anV 0 ⟨b.id, ng, b.len⟩ noS (⟨xp, xd, xq, xg, xw⟩, sx) 0)) (put11 w4 (w.heap.size + 1) 0 ⟨b.id, ng, b.len⟩ noS (⟨xp, xd, xq, xg, xw⟩, sx) 0)) := fun w4 sx hB hF => by
    have hO4 : OwnM base w.heap.size w4 ⟨tx, nb, ng + 1, now, ns.set i ⟨xp, xd, xq, xg, xw⟩, lss⟩ N L (ps.set i (⟨xp, xd, xq, xg, xw⟩, ⟨some ⟨rb, 0, none⟩, rn, rc⟩)) (some gb) gl := (HP5.out.1.own.at HPRE.out.m.1 HPRE.out.m.2.1 (set_blk HX.out HPRE.out.m.2.2)).below hB
    have hs5 := HSZ5.out
    exact DoneR.mk2 (HAN5.out.below hB) (HP5.out.1.c.below hB) hO4 (hF.mono (by omega)) HPRE.out.bw (HST5.out.then_below hB) (by omega) HPRE.out.bw HPRE.out.lt.2.2.1 (fun k hk => by have := HPRE.out.m1; have := HPRE.out.mw; cases hk; omega) (fun k hk => by have := HPRE.out.m2 k hk; have := HPRE.out.mw; omega) (fun z hz k hk => by have := set_blk HX.out HPRE.out.m3 z hz k hk; have := HPRE.out.mw; omega) (fun k hk => by have h1 := hF.blk_ge k hk; omega)
  refine wp_region_any (by kernel_rfl) ?_
  try (change wpAny _ _ _ _ _ _ _ (World.drew _))
  refine wpAny_take (i := 0) (v := ?_) rfl (by kernel_rfl) (by kernel_rfl) (by kernel_rfl) (fun _ _ _ h => h) (Or.inl ⟨by rfl, ?_⟩) ?_
  rotate_left
  · intro w; go_simp; first | done | with_reducible rfl
  refine wpAny_take (i := 1) (v := ?_) rfl (by kernel_rfl) (by kernel_rfl) (by kernel_rfl) (fun _ _ _ h => h) (Or.inl ⟨by rfl, ?_⟩) ?_
  rotate_left
  · intro w; go_simp; first | done | with_reducible rfl
  refine wpAny_take (i := 2) (v := ?_) rfl (by kernel_rfl) (by kernel_rfl) (by kernel_rfl) (fun _ _ _ h => h) (Or.inl ⟨by rfl, ?_⟩) ?_
  rotate_left
  · intro w; go_simp; first | done | with_reducible rfl
  refine wpAny_take (i := 4) (v := ?_) rfl (by kernel_rfl) (by kernel_rfl) (by kernel_rfl) (fun _ _ _ h => h) (Or.inl ⟨by rfl, ?_⟩) ?_
  rotate_left
  · intro w; go_simp; first | done | with_reducible rfl
  refine wpAny_take (i := 8) (v := ?_) rfl (by kernel_rfl) (by kernel_rfl) (by kernel_rfl) (fun _ _ _ h => h) (Or.inl ⟨by rfl, ?_⟩) ?_
  rotate_left
  · intro w; go_simp; first | done | with_reducible rfl
  refine wpAny_take (i := 9) (v := ?_) rfl (by kernel_rfl) (by kernel_rfl) (by kernel_rfl) (fun _ _ _ h => h) (Or.inl ⟨by rfl, ?_⟩) ?_
  rotate_left
  · intro w; go_simp; first | done | with_reducible rfl
  refine wpAny_ready (rs := [3, 5, 10]) (by kernel_rfl) (by simp) ?_
  refine AllReady.cons rfl (fun K hK => ?_) ?_
  · go_simp
    refine hK _ _ ?_
    clear hK K
    refine wpAny_ready (rs := [5, 10]) (by kernel_rfl) (by simp) ?_
    refine AllReady.cons rfl (fun K hK => ?_) ?_
    · go_simp
      refine hK _ _ ?_
      clear hK K
      refine wpAny_take (i := 6) (v := ?_) rfl (by kernel_rfl) (by kernel_rfl) (by kernel_rfl) (fun _ _ _ h => h) (Or.inl ⟨by rfl, ?_⟩) ?_
      rotate_left
      · intro w; go_simp; first | done | with_reducible rfl
      refine wpAny_ready (rs := [7, 10]) (by kernel_rfl) (by simp) ?_
      refine AllReady.cons rfl (fun K hK => ?_) ?_
      · go_simp
        refine hK _ _ ?_
        clear hK K
        refine wpAny_ready (rs := [10]) (by kernel_rfl) (by simp) ?_
        refine AllReady.cons rfl (fun K hK => ?_) ?_
        · go_simp
          refine hK _ _ ?_
          clear hK K
          refine wpAny_ready (rs := [11]) (by kernel_rfl) (by simp) ?_
          refine AllReady.cons rfl (fun K hK => ?_) ?_
          · go_simp
            refine (CC.out _ (HF5.out.below (bel_drewN _ 1))).mono ?_; rintro e w4 ⟨⟨sx, rfl, hF4⟩, c4⟩; have B4 : Hid (Below W5.heap.size W5 w4) := bel_tr (bel_drewN _ 1) c4; have HF4 : Hid (Free W5.heap.size w4 (⟨xp, xd, xq, xg, xw⟩, sx)) := hF4; have p3 := bel_cell B4.out v3; have p5 := bel_cell B4.out f5; have p0 := bel_cell B4.out b0; have p1 := bel_cell B4.out b1; have p2 := bel_cell B4.out b2; obtain ⟨a0, a1, a2, a3, a4, a5, a6, a7, a8, a9, a10, afr⟩ := HAN5.out.below B4.out; unfold ndV; unfold zeroB at a1 a2 a3; unfold noS at a4; unfold zeroX zeroN noS at a5 a6 a7 a8 a9; simp only at a1 a2 a3 a4 a5 a6 a7 a8 a9 ⊢; clear hF4 c4
            try go_simp
            refine hK _ _ ?_
            clear hK K
            refine wpAny_take (i := 12) (v := ?_) rfl (by kernel_rfl) (by kernel_rfl) (by kernel_rfl) (fun _ _ _ h => h) (Or.inl ⟨by rfl, ?_⟩) ?_
            rotate_left
            · intro w; go_simp; first | done | with_reducible rfl
            refine wpAny_ready (rs := [13]) (by kernel_rfl) (by simp) ?_
            refine AllReady.cons rfl (fun K hK => ?_) ?_
            · go_simp
              refine hK _ _ ?_
              clear hK K
              refine wpAny_done (by kernel_rfl) ?_ _
              go_wp2
              obtain ⟨hA, hD⟩ := HEND.out w4 sx B4.out HF4.out
              have k0 := hA.c0
              have k1 := hA.c1
              have k2 := hA.c2
              have k3 := hA.c3
              have k4 := hA.c4
              have k5 := hA.c5
              have k6 := hA.c6
              have k7 := hA.c7
              have k8 := hA.c8
              have k9 := hA.c9
              have k10 := hA.c10
              unfold put11 noS at k0 k1 k2 k3 k4 k5 k6 k7 k8 k9 k10 hD
              simp only [anV] at k0 k1 k2 k3 k4 k5 k6 k7 k8 k9 k10 hD
              refine bodyPost_ret ?_ rfl hD
              simp only [results, Tryz.results52]
              simp [go_sem, k0, k1, k2, k3, k4, k5, k6, k7, k8, k9, k10]
            exact AllReady.nil
          exact AllReady.nil
        exact AllReady.nil
      refine AllReady.cons rfl (fun K hK => ?_) ?_
      · go_simp
        refine hK _ _ ?_
        clear hK K
        refine wpAny_ready (rs := [7, 11]) (by kernel_rfl) (by simp) ?_
        refine AllReady.cons rfl (fun K hK => ?_) ?_
        · go_simp
          refine hK _ _ ?_
          clear hK K
          refine wpAny_ready (rs := [11]) (by kernel_rfl) (by simp) ?_
          refine AllReady.cons rfl (fun K hK => ?_) ?_
          · go_simp
            refine (CC.out _ (HF5.out.below (bel_drewN _ 1))).mono ?_; rintro e w4 ⟨⟨sx, rfl, hF4⟩, c4⟩; have B4 : Hid (Below W5.heap.size W5 w4) := bel_tr (bel_drewN _ 1) c4; have HF4 : Hid (Free W5.heap.size w4 (⟨xp, xd, xq, xg, xw⟩, sx)) := hF4; have p3 := bel_cell B4.out v3; have p5 := bel_cell B4.out f5; have p0 := bel_cell B4.out b0; have p1 := bel_cell B4.out b1; have p2 := bel_cell B4.out b2; obtain ⟨a0, a1, a2, a3, a4, a5, a6, a7, a8, a9, a10, afr⟩ := HAN5.out.below B4.out; unfold ndV; unfold zeroB at a1 a2 a3; unfold noS at a4; unfold zeroX zeroN noS at a5 a6 a7 a8 a9; simp only at a1 a2 a3 a4 a5 a6 a7 a8 a9 ⊢; clear hF4 c4
            try go_simp
            refine hK _ _ ?_
            clear hK K
            refine wpAny_take (i := 12) (v := ?_) rfl (by kernel_rfl) (by kernel_rfl) (by kernel_rfl) (fun _ _ _ h => h) (Or.inl ⟨by rfl, ?_⟩) ?_
            rotate_left
            · intro w; go_simp; first | done | with_reducible rfl
            refine wpAny_ready (rs := [13]) (by kernel_rfl) (by simp) ?_
            refine AllReady.cons rfl (fun K hK => ?_) ?_
            · go_simp
              refine hK _ _ ?_
              clear hK K
              refine wpAny_done (by kernel_rfl) ?_ _
              go_wp2
              obtain ⟨hA, hD⟩ := HEND.out w4 sx B4.out HF4.out
              have k0 := hA.c0
              have k1 := hA.c1
              have k2 := hA.c2
              have k3 := hA.c3
              have k4 := hA.c4
              have k5 := hA.c5
              have k6 := hA.c6
              have k7 := hA.c7
              have k8 := hA.c8
              have k9 := hA.c9
              have k10 := hA.c10
              unfold put11 noS at k0 k1 k2 k3 k4 k5 k6 k7 k8 k9 k10 hD
              simp only [anV] at k0 k1 k2 k3 k4 k5 k6 k7 k8 k9 k10 hD
              refine bodyPost_ret ?_ rfl hD
              simp only [results, Tryz.results52]
              simp [go_sem, k0, k1, k2, k3, k4, k5, k6, k7, k8, k9, k10]
            exact AllReady.nil
          exact AllReady.nil
        refine AllReady.cons rfl (fun K hK => ?_) ?_
        · go_simp
          refine (CC.out _ (HF5.out.below (bel_drewN _ 1))).mono ?_; rintro e w4 ⟨⟨sx, rfl, hF4⟩, c4⟩; have B4 : Hid (Below W5.heap.size W5 w4) := bel_tr (bel_drewN _ 1) c4; have HF4 : Hid (Free W5.heap.size w4 (⟨xp, xd, xq, xg, xw⟩, sx)) := hF4; have p3 := bel_cell B4.out v3; have p5 := bel_cell B4.out f5; have p0 := bel_cell B4.out b0; have p1 := bel_cell B4.out b1; have p2 := bel_cell B4.out b2; obtain ⟨a0, a1, a2, a3, a4, a5, a6, a7, a8, a9, a10, afr⟩ := HAN5.out.below B4.out; unfold ndV; unfold zeroB at a1 a2 a3; unfold noS at a4; unfold zeroX zeroN noS at a5 a6 a7 a8 a9; simp only at a1 a2 a3 a4 a5 a6 a7 a8 a9 ⊢; clear hF4 c4
          try go_simp
          refine hK _ _ ?_
          clear hK K
          refine wpAny_ready (rs := [7]) (by kernel_rfl) (by simp) ?_
          refine AllReady.cons rfl (fun K hK => ?_) ?_
          · go_simp
            refine hK _ _ ?_
            clear hK K
            refine wpAny_take (i := 12) (v := ?_) rfl (by kernel_rfl) (by kernel_rfl) (by kernel_rfl) (fun _ _ _ h => h) (Or.inl ⟨by rfl, ?_⟩) ?_
            rotate_left
            · intro w; go_simp; first | done | with_reducible rfl
            refine wpAny_ready (rs := [13]) (by kernel_rfl) (by simp) ?_
            refine AllReady.cons rfl (fun K hK => ?_) ?_
            · go_simp
              refine hK _ _ ?_
              clear hK K
              refine wpAny_done (by kernel_rfl) ?_ _
              go_wp2
              obtain ⟨hA, hD⟩ := HEND.out w4 sx B4.out HF4.out
              have k0 := hA.c0
              have k1 := hA.c1
              have k2 := hA.c2
              have k3 := hA.c3
              have k4 := hA.c4
              have k5 := hA.c5
              have k6 := hA.c6
              have k7 := hA.c7
              have k8 := hA.c8
              have k9 := hA.c9
              have k10 := hA.c10
              unfold put11 noS at k0 k1 k2 k3 k4 k5 k6 k7 k8 k9 k10 hD
              simp only [anV] at k0 k1 k2 k3 k4 k5 k6 k7 k8 k9 k10 hD
              refine bodyPost_ret ?_ rfl hD
              simp only [results, Tryz.results52]
              simp [go_sem, k0, k1, k2, k3, k4, k5, k6, k7, k8, k9, k10]
            exact AllReady.nil
          exact AllReady.nil
        exact AllReady.nil
      exact AllReady.nil
    refine AllReady.cons rfl (fun K hK => ?_) ?_
    · go_simp
      refine hK _ _ ?_
      clear hK K
      refine wpAny_ready (rs := [5, 11]) (by kernel_rfl) (by simp) ?_
      refine AllReady.cons rfl (fun K hK => ?_) ?_
      · go_simp
        refine hK _ _ ?_
        clear hK K
        refine wpAny_take (i := 6) (v := ?_) rfl (by kernel_rfl) (by kernel_rfl) (by kernel_rfl) (fun _ _ _ h => h) (Or.inl ⟨by rfl, ?_⟩) ?_
        rotate_left
        · intro w; go_simp; first | done | with_reducible rfl
        refine wpAny_ready (rs := [7, 11]) (by kernel_rfl) (by simp) ?_
        refine AllReady.cons rfl (fun K hK => ?_) ?_
        · go_simp
          refine hK _ _ ?_
          clear hK K
          refine wpAny_ready (rs := [11]) (by kernel_rfl) (by simp) ?_
          refine AllReady.cons rfl (fun K hK => ?_) ?_
          · go_simp
            refine (CC.out _ (HF5.out.below (bel_drewN _ 1))).mono ?_; rintro e w4 ⟨⟨sx, rfl, hF4⟩, c4⟩; have B4 : Hid (Below W5.heap.size W5 w4) := bel_tr (bel_drewN _ 1) c4; have HF4 : Hid (Free W5.heap.size w4 (⟨xp, xd, xq, xg, xw⟩, sx)) := hF4; have p3 := bel_cell B4.out v3; have p5 := bel_cell B4.out f5; have p0 := bel_cell B4.out b0; have p1 := bel_cell B4.out b1; have p2 := bel_cell B4.out b2; obtain ⟨a0, a1, a2, a3, a4, a5, a6, a7, a8, a9, a10, afr⟩ := HAN5.out.below B4.out; unfold ndV; unfold zeroB at a1 a2 a3; unfold noS at a4; unfold zeroX zeroN noS at a5 a6 a7 a8 a9; simp only at a1 a2 a3 a4 a5 a6 a7 a8 a9 ⊢; clear hF4 c4
            try go_simp
            refine hK _ _ ?_
            clear hK K
            refine wpAny_take (i := 12) (v := ?_) rfl (by kernel_rfl) (by kernel_rfl) (by kernel_rfl) (fun _ _ _ h => h) (Or.inl ⟨by rfl, ?_⟩) ?_
            rotate_left
            · intro w; go_simp; first | done | with_reducible rfl
            refine wpAny_ready (rs := [13]) (by kernel_rfl) (by simp) ?_
            refine AllReady.cons rfl (fun K hK => ?_) ?_
            · go_simp
              refine hK _ _ ?_
              clear hK K
              refine wpAny_done (by kernel_rfl) ?_ _
              go_wp2
              obtain ⟨hA, hD⟩ := HEND.out w4 sx B4.out HF4.out
              have k0 := hA.c0
              have k1 := hA.c1
              have k2 := hA.c2
              have k3 := hA.c3
              have k4 := hA.c4
              have k5 := hA.c5
              have k6 := hA.c6
              have k7 := hA.c7
              have k8 := hA.c8
              have k9 := hA.c9
              have k10 := hA.c10
              unfold put11 noS at k0 k1 k2 k3 k4 k5 k6 k7 k8 k9 k10 hD
              simp only [anV] at k0 k1 k2 k3 k4 k5 k6 k7 k8 k9 k10 hD
              refine bodyPost_ret ?_ rfl hD
              simp only [results, Tryz.results52]
              simp [go_sem, k0, k1, k2, k3, k4, k5, k6, k7, k8, k9, k10]
            exact AllReady.nil
          exact AllReady.nil
        refine AllReady.cons rfl (fun K hK => ?_) ?_
        · go_simp
          refine (CC.out _ (HF5.out.below (bel_drewN _ 1))).mono ?_; rintro e w4 ⟨⟨sx, rfl, hF4⟩, c4⟩; have B4 : Hid (Below W5.heap.size W5 w4) := bel_tr (bel_drewN _ 1) c4; have HF4 : Hid (Free W5.heap.size w4 (⟨xp, xd, xq, xg, xw⟩, sx)) := hF4; have p3 := bel_cell B4.out v3; have p5 := bel_cell B4.out f5; have p0 := bel_cell B4.out b0; have p1 := bel_cell B4.out b1; have p2 := bel_cell B4.out b2; obtain ⟨a0, a1, a2, a3, a4, a5, a6, a7, a8, a9, a10, afr⟩ := HAN5.out.below B4.out; unfold ndV; unfold zeroB at a1 a2 a3; unfold noS at a4; unfold zeroX zeroN noS at a5 a6 a7 a8 a9; simp only at a1 a2 a3 a4 a5 a6 a7 a8 a9 ⊢; clear hF4 c4
          try go_simp
          refine hK _ _ ?_
          clear hK K
          refine wpAny_ready (rs := [7]) (by kernel_rfl) (by simp) ?_
          refine AllReady.cons rfl (fun K hK => ?_) ?_
          · go_simp
            refine hK _ _ ?_
            clear hK K
            refine wpAny_take (i := 12) (v := ?_) rfl (by kernel_rfl) (by kernel_rfl) (by kernel_rfl) (fun _ _ _ h => h) (Or.inl ⟨by rfl, ?_⟩) ?_
            rotate_left
            · intro w; go_simp; first | done | with_reducible rfl
            refine wpAny_ready (rs := [13]) (by kernel_rfl) (by simp) ?_
            refine AllReady.cons rfl (fun K hK => ?_) ?_
            · go_simp
              refine hK _ _ ?_
              clear hK K
              refine wpAny_done (by kernel_rfl) ?_ _
              go_wp2
              obtain ⟨hA, hD⟩ := HEND.out w4 sx B4.out HF4.out
              have k0 := hA.c0
              have k1 := hA.c1
              have k2 := hA.c2
              have k3 := hA.c3
              have k4 := hA.c4
              have k5 := hA.c5
              have k6 := hA.c6
              have k7 := hA.c7
              have k8 := hA.c8
              have k9 := hA.c9
              have k10 := hA.c10
              unfold put11 noS at k0 k1 k2 k3 k4 k5 k6 k7 k8 k9 k10 hD
              simp only [anV] at k0 k1 k2 k3 k4 k5 k6 k7 k8 k9 k10 hD
              refine bodyPost_ret ?_ rfl hD
              simp only [results, Tryz.results52]
              simp [go_sem, k0, k1, k2, k3, k4, k5, k6, k7, k8, k9, k10]
            exact AllReady.nil
          exact AllReady.nil
        exact AllReady.nil
      refine AllReady.cons rfl (fun K hK => ?_) ?_
      · go_simp
        refine (CC.out _ (HF5.out.below (bel_drewN _ 1))).mono ?_; rintro e w4 ⟨⟨sx, rfl, hF4⟩, c4⟩; have B4 : Hid (Below W5.heap.size W5 w4) := bel_tr (bel_drewN _ 1) c4; have HF4 : Hid (Free W5.heap.size w4 (⟨xp, xd, xq, xg, xw⟩, sx)) := hF4; have p3 := bel_cell B4.out v3; have p5 := bel_cell B4.out f5; have p0 := bel_cell B4.out b0; have p1 := bel_cell B4.out b1; have p2 := bel_cell B4.out b2; obtain ⟨a0, a1, a2, a3, a4, a5, a6, a7, a8, a9, a10, afr⟩ := HAN5.out.below B4.out; unfold ndV; unfold zeroB at a1 a2 a3; unfold noS at a4; unfold zeroX zeroN noS at a5 a6 a7 a8 a9; simp only at a1 a2 a3 a4 a5 a6 a7 a8 a9 ⊢; clear hF4 c4
        try go_simp
        refine hK _ _ ?_
        clear hK K
        refine wpAny_ready (rs := [5]) (by kernel_rfl) (by simp) ?_
        refine AllReady.cons rfl (fun K hK => ?_) ?_
        · go_simp
          refine hK _ _ ?_
          clear hK K
          refine wpAny_take (i := 6) (v := ?_) rfl (by kernel_rfl) (by kernel_rfl) (by kernel_rfl) (fun _ _ _ h => h) (Or.inl ⟨by rfl, ?_⟩) ?_
          rotate_left
          · intro w; go_simp; first | done | with_reducible rfl
          refine wpAny_ready (rs := [7]) (by kernel_rfl) (by simp) ?_
          refine AllReady.cons rfl (fun K hK => ?_) ?_
          · go_simp
            refine hK _ _ ?_
            clear hK K
            refine wpAny_take (i := 12) (v := ?_) rfl (by kernel_rfl) (by kernel_rfl) (by kernel_rfl) (fun _ _ _ h => h) (Or.inl ⟨by rfl, ?_⟩) ?_
            rotate_left
            · intro w; go_simp; first | done | with_reducible rfl
            refine wpAny_ready (rs := [13]) (by kernel_rfl) (by simp) ?_
            refine AllReady.cons rfl (fun K hK => ?_) ?_
            · go_simp
              refine hK _ _ ?_
              clear hK K
              refine wpAny_done (by kernel_rfl) ?_ _
              go_wp2
              obtain ⟨hA, hD⟩ := HEND.out w4 sx B4.out HF4.out
              have k0 := hA.c0
              have k1 := hA.c1
              have k2 := hA.c2
              have k3 := hA.c3
              have k4 := hA.c4
              have k5 := hA.c5
              have k6 := hA.c6
              have k7 := hA.c7
              have k8 := hA.c8
              have k9 := hA.c9
              have k10 := hA.c10
              unfold put11 noS at k0 k1 k2 k3 k4 k5 k6 k7 k8 k9 k10 hD
              simp only [anV] at k0 k1 k2 k3 k4 k5 k6 k7 k8 k9 k10 hD
              refine bodyPost_ret ?_ rfl hD
              simp only [results, Tryz.results52]
              simp [go_sem, k0, k1, k2, k3, k4, k5, k6, k7, k8, k9, k10]
            exact AllReady.nil
          exact AllReady.nil
        exact AllReady.nil
      exact AllReady.nil
    exact AllReady.nil
  refine AllReady.cons rfl (fun K hK => ?_) ?_
  · go_simp
    refine hK _ _ ?_
    clear hK K
    refine wpAny_ready (rs := [3, 10]) (by kernel_rfl) (by simp) ?_
    refine AllReady.cons rfl (fun K hK => ?_) ?_
    · go_simp
      refine hK _ _ ?_
      clear hK K
      refine wpAny_take (i := 6) (v := ?_) rfl (by kernel_rfl) (by kernel_rfl) (by kernel_rfl) (fun _ _ _ h => h) (Or.inl ⟨by rfl, ?_⟩) ?_
      rotate_left
      · intro w; go_simp; first | done | with_reducible rfl
      refine wpAny_ready (rs := [7, 10]) (by kernel_rfl) (by simp) ?_
      refine AllReady.cons rfl (fun K hK => ?_) ?_
      · go_simp
        refine hK _ _ ?_
        clear hK K
        refine wpAny_ready (rs := [10]) (by kernel_rfl) (by simp) ?_
        refine AllReady.cons rfl (fun K hK => ?_) ?_
        · go_simp
          refine hK _ _ ?_
          clear hK K
          refine wpAny_ready (rs := [11]) (by kernel_rfl) (by simp) ?_
          refine AllReady.cons rfl (fun K hK => ?_) ?_
          · go_simp
            refine (CC.out _ (HF5.out.below (bel_drewN _ 1))).mono ?_; rintro e w4 ⟨⟨sx, rfl, hF4⟩, c4⟩; have B4 : Hid (Below W5.heap.size W5 w4) := bel_tr (bel_drewN _ 1) c4; have HF4 : Hid (Free W5.heap.size w4 (⟨xp, xd, xq, xg, xw⟩, sx)) := hF4; have p3 := bel_cell B4.out v3; have p5 := bel_cell B4.out f5; have p0 := bel_cell B4.out b0; have p1 := bel_cell B4.out b1; have p2 := bel_cell B4.out b2; obtain ⟨a0, a1, a2, a3, a4, a5, a6, a7, a8, a9, a10, afr⟩ := HAN5.out.below B4.out; unfold ndV; unfold zeroB at a1 a2 a3; unfold noS at a4; unfold zeroX zeroN noS at a5 a6 a7 a8 a9; simp only at a1 a2 a3 a4 a5 a6 a7 a8 a9 ⊢; clear hF4 c4
            try go_simp
            refine hK _ _ ?_
            clear hK K
            refine wpAny_take (i := 12) (v := ?_) rfl (by kernel_rfl) (by kernel_rfl) (by kernel_rfl) (fun _ _ _ h => h) (Or.inl ⟨by rfl, ?_⟩) ?_
            rotate_left
            · intro w; go_simp; first | done | with_reducible rfl
            refine wpAny_ready (rs := [13]) (by kernel_rfl) (by simp) ?_
            refine AllReady.cons rfl (fun K hK => ?_) ?_
            · go_simp
              refine hK _ _ ?_
              clear hK K
              refine wpAny_done (by kernel_rfl) ?_ _
              go_wp2
              obtain ⟨hA, hD⟩ := HEND.out w4 sx B4.out HF4.out
              have k0 := hA.c0
              have k1 := hA.c1
              have k2 := hA.c2
              have k3 := hA.c3
              have k4 := hA.c4
              have k5 := hA.c5
              have k6 := hA.c6
              have k7 := hA.c7
              have k8 := hA.c8
              have k9 := hA.c9
              have k10 := hA.c10
              unfold put11 noS at k0 k1 k2 k3 k4 k5 k6 k7 k8 k9 k10 hD
              simp only [anV] at k0 k1 k2 k3 k4 k5 k6 k7 k8 k9 k10 hD
              refine bodyPost_ret ?_ rfl hD
              simp only [results, Tryz.results52]
              simp [go_sem, k0, k1, k2, k3, k4, k5, k6, k7, k8, k9, k10]
            exact AllReady.nil
          exact AllReady.nil
        exact AllReady.nil
      refine AllReady.cons rfl (fun K hK => ?_) ?_
      · go_simp
        refine hK _ _ ?_
        clear hK K
        refine wpAny_ready (rs := [7, 11]) (by kernel_rfl) (by simp) ?_
        refine AllReady.cons rfl (fun K hK => ?_) ?_
        · go_simp
          refine hK _ _ ?_
          clear hK K
          refine wpAny_ready (rs := [11]) (by kernel_rfl) (by simp) ?_
          refine AllReady.cons rfl (fun K hK => ?_) ?_
          · go_simp
            refine (CC.out _ (HF5.out.below (bel_drewN _ 1))).mono ?_; rintro e w4 ⟨⟨sx, rfl, hF4⟩, c4⟩; have B4 : Hid (Below W5.heap.size W5 w4) := bel_tr (bel_drewN _ 1) c4; have HF4 : Hid (Free W5.heap.size w4 (⟨xp, xd, xq, xg, xw⟩, sx)) := hF4; have p3 := bel_cell B4.out v3; have p5 := bel_cell B4.out f5; have p0 := bel_cell B4.out b0; have p1 := bel_cell B4.out b1; have p2 := bel_cell B4.out b2; obtain ⟨a0, a1, a2, a3, a4, a5, a6, a7, a8, a9, a10, afr⟩ := HAN5.out.below B4.out; unfold ndV; unfold zeroB at a1 a2 a3; unfold noS at a4; unfold zeroX zeroN noS at a5 a6 a7 a8 a9; simp only at a1 a2 a3 a4 a5 a6 a7 a8 a9 ⊢; clear hF4 c4
            try go_simp
            refine hK _ _ ?_
            clear hK K
            refine wpAny_take (i := 12) (v := ?_) rfl (by kernel_rfl) (by kernel_rfl) (by kernel_rfl) (fun _ _ _ h => h) (Or.inl ⟨by rfl, ?_⟩) ?_
            rotate_left
            · intro w; go_simp; first | done | with_reducible rfl
            refine wpAny_ready (rs := [13]) (by kernel_rfl) (by simp) ?_
            refine AllReady.cons rfl (fun K hK => ?_) ?_
            · go_simp
              refine hK _ _ ?_
              clear hK K
              refine wpAny_done (by kernel_rfl) ?_ _
              go_wp2
              obtain ⟨hA, hD⟩ := HEND.out w4 sx B4.out HF4.out
              have k0 := hA.c0
              have k1 := hA.c1
              have k2 := hA.c2
              have k3 := hA.c3
              have k4 := hA.c4
              have k5 := hA.c5
              have k6 := hA.c6
              have k7 := hA.c7
              have k8 := hA.c8
              have k9 := hA.c9
              have k10 := hA.c10
              unfold put11 noS at k0 k1 k2 k3 k4 k5 k6 k7 k8 k9 k10 hD
              simp only [anV] at k0 k1 k2 k3 k4 k5 k6 k7 k8 k9 k10 hD
              refine bodyPost_ret ?_ rfl hD
              simp only [results, Tryz.results52]
              simp [go_sem, k0, k1, k2, k3, k4, k5, k6, k7, k8, k9, k10]
            exact AllReady.nil
          exact AllReady.nil
        refine AllReady.cons rfl (fun K hK => ?_) ?_
        · go_simp
          refine (CC.out _ (HF5.out.below (bel_drewN _ 1))).mono ?_; rintro e w4 ⟨⟨sx, rfl, hF4⟩, c4⟩; have B4 : Hid (Below W5.heap.size W5 w4) := bel_tr (bel_drewN _ 1) c4; have HF4 : Hid (Free W5.heap.size w4 (⟨xp, xd, xq, xg, xw⟩, sx)) := hF4; have p3 := bel_cell B4.out v3; have p5 := bel_cell B4.out f5; have p0 := bel_cell B4.out b0; have p1 := bel_cell B4.out b1; have p2 := bel_cell B4.out b2; obtain ⟨a0, a1, a2, a3, a4, a5, a6, a7, a8, a9, a10, afr⟩ := HAN5.out.below B4.out; unfold ndV; unfold zeroB at a1 a2 a3; unfold noS at a4; unfold zeroX zeroN noS at a5 a6 a7 a8 a9; simp only at a1 a2 a3 a4 a5 a6 a7 a8 a9 ⊢; clear hF4 c4
          try go_simp
          refine hK _ _ ?_
          clear hK K
          refine wpAny_ready (rs := [7]) (by kernel_rfl) (by simp) ?_
          refine AllReady.cons rfl (fun K hK => ?_) ?_
          · go_simp
            refine hK _ _ ?_
            clear hK K
            refine wpAny_take (i := 12) (v := ?_) rfl (by kernel_rfl) (by kernel_rfl) (by kernel_rfl) (fun _ _ _ h => h) (Or.inl ⟨by rfl, ?_⟩) ?_
            rotate_left
            · intro w; go_simp; first | done | with_reducible rfl
            refine wpAny_ready (rs := [13]) (by kernel_rfl) (by simp) ?_
            refine AllReady.cons rfl (fun K hK => ?_) ?_
            · go_simp
              refine hK _ _ ?_
              clear hK K
              refine wpAny_done (by kernel_rfl) ?_ _
              go_wp2
              obtain ⟨hA, hD⟩ := HEND.out w4 sx B4.out HF4.out
              have k0 := hA.c0
              have k1 := hA.c1
              have k2 := hA.c2
              have k3 := hA.c3
              have k4 := hA.c4
              have k5 := hA.c5
              have k6 := hA.c6
              have k7 := hA.c7
              have k8 := hA.c8
              have k9 := hA.c9
              have k10 := hA.c10
              unfold put11 noS at k0 k1 k2 k3 k4 k5 k6 k7 k8 k9 k10 hD
              simp only [anV] at k0 k1 k2 k3 k4 k5 k6 k7 k8 k9 k10 hD
              refine bodyPost_ret ?_ rfl hD
              simp only [results, Tryz.results52]
              simp [go_sem, k0, k1, k2, k3, k4, k5, k6, k7, k8, k9, k10]
            exact AllReady.nil
          exact AllReady.nil
        exact AllReady.nil
      exact AllReady.nil
    refine AllReady.cons rfl (fun K hK => ?_) ?_
    · go_simp
      refine hK _ _ ?_
      clear hK K
      refine wpAny_ready (rs := [3, 11]) (by kernel_rfl) (by simp) ?_
      refine AllReady.cons rfl (fun K hK => ?_) ?_
      · go_simp
        refine hK _ _ ?_
        clear hK K
        refine wpAny_take (i := 6) (v := ?_) rfl (by kernel_rfl) (by kernel_rfl) (by kernel_rfl) (fun _ _ _ h => h) (Or.inl ⟨by rfl, ?_⟩) ?_
        rotate_left
        · intro w; go_simp; first | done | with_reducible rfl
        refine wpAny_ready (rs := [7, 11]) (by kernel_rfl) (by simp) ?_
        refine AllReady.cons rfl (fun K hK => ?_) ?_
        · go_simp
          refine hK _ _ ?_
          clear hK K
          refine wpAny_ready (rs := [11]) (by kernel_rfl) (by simp) ?_
          refine AllReady.cons rfl (fun K hK => ?_) ?_
          · go_simp
            refine (CC.out _ (HF5.out.below (bel_drewN _ 1))).mono ?_; rintro e w4 ⟨⟨sx, rfl, hF4⟩, c4⟩; have B4 : Hid (Below W5.heap.size W5 w4) := bel_tr (bel_drewN _ 1) c4; have HF4 : Hid (Free W5.heap.size w4 (⟨xp, xd, xq, xg, xw⟩, sx)) := hF4; have p3 := bel_cell B4.out v3; have p5 := bel_cell B4.out f5; have p0 := bel_cell B4.out b0; have p1 := bel_cell B4.out b1; have p2 := bel_cell B4.out b2; obtain ⟨a0, a1, a2, a3, a4, a5, a6, a7, a8, a9, a10, afr⟩ := HAN5.out.below B4.out; unfold ndV; unfold zeroB at a1 a2 a3; unfold noS at a4; unfold zeroX zeroN noS at a5 a6 a7 a8 a9; simp only at a1 a2 a3 a4 a5 a6 a7 a8 a9 ⊢; clear hF4 c4
            try go_simp
            refine hK _ _ ?_
            clear hK K
            refine wpAny_take (i := 12) (v := ?_) rfl (by kernel_rfl) (by kernel_rfl) (by kernel_rfl) (fun _ _ _ h => h) (Or.inl ⟨by rfl, ?_⟩) ?_
            rotate_left
            · intro w; go_simp; first | done | with_reducible rfl
            refine wpAny_ready (rs := [13]) (by kernel_rfl) (by simp) ?_
            refine AllReady.cons rfl (fun K hK => ?_) ?_
            · go_simp
              refine hK _ _ ?_
              clear hK K
              refine wpAny_done (by kernel_rfl) ?_ _
              go_wp2
              obtain ⟨hA, hD⟩ := HEND.out w4 sx B4.out HF4.out
              have k0 := hA.c0
              have k1 := hA.c1
              have k2 := hA.c2
              have k3 := hA.c3
              have k4 := hA.c4
              have k5 := hA.c5
              have k6 := hA.c6
              have k7 := hA.c7
              have k8 := hA.c8
              have k9 := hA.c9
              have k10 := hA.c10
              unfold put11 noS at k0 k1 k2 k3 k4 k5 k6 k7 k8 k9 k10 hD
              simp only [anV] at k0 k1 k2 k3 k4 k5 k6 k7 k8 k9 k10 hD
              refine bodyPost_ret ?_ rfl hD
              simp only [results, Tryz.results52]
              simp [go_sem, k0, k1, k2, k3, k4, k5, k6, k7, k8, k9, k10]
            exact AllReady.nil
          exact AllReady.nil
        refine AllReady.cons rfl (fun K hK => ?_) ?_
        · go_simp
          refine (CC.out _ (HF5.out.below (bel_drewN _ 1))).mono ?_; rintro e w4 ⟨⟨sx, rfl, hF4⟩, c4⟩; have B4 : Hid (Below W5.heap.size W5 w4) := bel_tr (bel_drewN _ 1) c4; have HF4 : Hid (Free W5.heap.size w4 (⟨xp, xd, xq, xg, xw⟩, sx)) := hF4; have p3 := bel_cell B4.out v3; have p5 := bel_cell B4.out f5; have p0 := bel_cell B4.out b0; have p1 := bel_cell B4.out b1; have p2 := bel_cell B4.out b2; obtain ⟨a0, a1, a2, a3, a4, a5, a6, a7, a8, a9, a10, afr⟩ := HAN5.out.below B4.out; unfold ndV; unfold zeroB at a1 a2 a3; unfold noS at a4; unfold zeroX zeroN noS at a5 a6 a7 a8 a9; simp only at a1 a2 a3 a4 a5 a6 a7 a8 a9 ⊢; clear hF4 c4
          try go_simp
          refine hK _ _ ?_
          clear hK K
          refine wpAny_ready (rs := [7]) (by kernel_rfl) (by simp) ?_
          refine AllReady.cons rfl (fun K hK => ?_) ?_
          · go_simp
            refine hK _ _ ?_
            clear hK K
            refine wpAny_take (i := 12) (v := ?_) rfl (by kernel_rfl) (by kernel_rfl) (by kernel_rfl) (fun _ _ _ h => h) (Or.inl ⟨by rfl, ?_⟩) ?_
            rotate_left
            · intro w; go_simp; first | done | with_reducible rfl
            refine wpAny_ready (rs := [13]) (by kernel_rfl) (by simp) ?_
            refine AllReady.cons rfl (fun K hK => ?_) ?_
            · go_simp
              refine hK _ _ ?_
              clear hK K
              refine wpAny_done (by kernel_rfl) ?_ _
              go_wp2
              obtain ⟨hA, hD⟩ := HEND.out w4 sx B4.out HF4.out
              have k0 := hA.c0
              have k1 := hA.c1
              have k2 := hA.c2
              have k3 := hA.c3
              have k4 := hA.c4
              have k5 := hA.c5
              have k6 := hA.c6
              have k7 := hA.c7
              have k8 := hA.c8
              have k9 := hA.c9
              have k10 := hA.c10
              unfold put11 noS at k0 k1 k2 k3 k4 k5 k6 k7 k8 k9 k10 hD
              simp only [anV] at k0 k1 k2 k3 k4 k5 k6 k7 k8 k9 k10 hD
              refine bodyPost_ret ?_ rfl hD
              simp only [results, Tryz.results52]
              simp [go_sem, k0, k1, k2, k3, k4, k5, k6, k7, k8, k9, k10]
            exact AllReady.nil
          exact AllReady.nil
        exact AllReady.nil
      refine AllReady.cons rfl (fun K hK => ?_) ?_
      · go_simp
        refine (CC.out _ (HF5.out.below (bel_drewN _ 1))).mono ?_; rintro e w4 ⟨⟨sx, rfl, hF4⟩, c4⟩; have B4 : Hid (Below W5.heap.size W5 w4) := bel_tr (bel_drewN _ 1) c4; have HF4 : Hid (Free W5.heap.size w4 (⟨xp, xd, xq, xg, xw⟩, sx)) := hF4; have p3 := bel_cell B4.out v3; have p5 := bel_cell B4.out f5; have p0 := bel_cell B4.out b0; have p1 := bel_cell B4.out b1; have p2 := bel_cell B4.out b2; obtain ⟨a0, a1, a2, a3, a4, a5, a6, a7, a8, a9, a10, afr⟩ := HAN5.out.below B4.out; unfold ndV; unfold zeroB at a1 a2 a3; unfold noS at a4; unfold zeroX zeroN noS at a5 a6 a7 a8 a9; simp only at a1 a2 a3 a4 a5 a6 a7 a8 a9 ⊢; clear hF4 c4
        try go_simp
        refine hK _ _ ?_
        clear hK K
        refine wpAny_ready (rs := [3]) (by kernel_rfl) (by simp) ?_
        refine AllReady.cons rfl (fun K hK => ?_) ?_
        · go_simp
          refine hK _ _ ?_
          clear hK K
          refine wpAny_take (i := 6) (v := ?_) rfl (by kernel_rfl) (by kernel_rfl) (by kernel_rfl) (fun _ _ _ h => h) (Or.inl ⟨by rfl, ?_⟩) ?_
          rotate_left
          · intro w; go_simp; first | done | with_reducible rfl
          refine wpAny_ready (rs := [7]) (by kernel_rfl) (by simp) ?_
          refine AllReady.cons rfl (fun K hK => ?_) ?_
          · go_simp
            refine hK _ _ ?_
            clear hK K
            refine wpAny_take (i := 12) (v := ?_) rfl (by kernel_rfl) (by kernel_rfl) (by kernel_rfl) (fun _ _ _ h => h) (Or.inl ⟨by rfl, ?_⟩) ?_
            rotate_left
            · intro w; go_simp; first | done | with_reducible rfl
            refine wpAny_ready (rs := [13]) (by kernel_rfl) (by simp) ?_
            refine AllReady.cons rfl (fun K hK => ?_) ?_
            · go_simp
              refine hK _ _ ?_
              clear hK K
              refine wpAny_done (by kernel_rfl) ?_ _
              go_wp2
              obtain ⟨hA, hD⟩ := HEND.out w4 sx B4.out HF4.out
              have k0 := hA.c0
              have k1 := hA.c1
              have k2 := hA.c2
              have k3 := hA.c3
              have k4 := hA.c4
              have k5 := hA.c5
              have k6 := hA.c6
              have k7 := hA.c7
              have k8 := hA.c8
              have k9 := hA.c9
              have k10 := hA.c10
              unfold put11 noS at k0 k1 k2 k3 k4 k5 k6 k7 k8 k9 k10 hD
              simp only [anV] at k0 k1 k2 k3 k4 k5 k6 k7 k8 k9 k10 hD
              refine bodyPost_ret ?_ rfl hD
              simp only [results, Tryz.results52]
              simp [go_sem, k0, k1, k2, k3, k4, k5, k6, k7, k8, k9, k10]
            exact AllReady.nil
          exact AllReady.nil
        exact AllReady.nil
      exact AllReady.nil
    exact AllReady.nil
  refine AllReady.cons rfl (fun K hK => ?_) ?_
  · go_simp
    refine hK _ _ ?_
    clear hK K
    refine wpAny_ready (rs := [3, 5, 11]) (by kernel_rfl) (by simp) ?_
    refine AllReady.cons rfl (fun K hK => ?_) ?_
    · go_simp
      refine hK _ _ ?_
      clear hK K
      refine wpAny_ready (rs := [5, 11]) (by kernel_rfl) (by simp) ?_
      refine AllReady.cons rfl (fun K hK => ?_) ?_
      · go_simp
        refine hK _ _ ?_
        clear hK K
        refine wpAny_take (i := 6) (v := ?_) rfl (by kernel_rfl) (by kernel_rfl) (by kernel_rfl) (fun _ _ _ h => h) (Or.inl ⟨by rfl, ?_⟩) ?_
        rotate_left
        · intro w; go_simp; first | done | with_reducible rfl
        refine wpAny_ready (rs := [7, 11]) (by kernel_rfl) (by simp) ?_
        refine AllReady.cons rfl (fun K hK => ?_) ?_
        · go_simp
          refine hK _ _ ?_
          clear hK K
          refine wpAny_ready (rs := [11]) (by kernel_rfl) (by simp) ?_
          refine AllReady.cons rfl (fun K hK => ?_) ?_
          · go_simp
            refine (CC.out _ (HF5.out.below (bel_drewN _ 1))).mono ?_; rintro e w4 ⟨⟨sx, rfl, hF4⟩, c4⟩; have B4 : Hid (Below W5.heap.size W5 w4) := bel_tr (bel_drewN _ 1) c4; have HF4 : Hid (Free W5.heap.size w4 (⟨xp, xd, xq, xg, xw⟩, sx)) := hF4; have p3 := bel_cell B4.out v3; have p5 := bel_cell B4.out f5; have p0 := bel_cell B4.out b0; have p1 := bel_cell B4.out b1; have p2 := bel_cell B4.out b2; obtain ⟨a0, a1, a2, a3, a4, a5, a6, a7, a8, a9, a10, afr⟩ := HAN5.out.below B4.out; unfold ndV; unfold zeroB at a1 a2 a3; unfold noS at a4; unfold zeroX zeroN noS at a5 a6 a7 a8 a9; simp only at a1 a2 a3 a4 a5 a6 a7 a8 a9 ⊢; clear hF4 c4
            try go_simp
            refine hK _ _ ?_
            clear hK K
            refine wpAny_take (i := 12) (v := ?_) rfl (by kernel_rfl) (by kernel_rfl) (by kernel_rfl) (fun _ _ _ h => h) (Or.inl ⟨by rfl, ?_⟩) ?_
            rotate_left
            · intro w; go_simp; first | done | with_reducible rfl
            refine wpAny_ready (rs := [13]) (by kernel_rfl) (by simp) ?_
            refine AllReady.cons rfl (fun K hK => ?_) ?_
            · go_simp
              refine hK _ _ ?_
              clear hK K
              refine wpAny_done (by kernel_rfl) ?_ _
              go_wp2
              obtain ⟨hA, hD⟩ := HEND.out w4 sx B4.out HF4.out
              have k0 := hA.c0
              have k1 := hA.c1
              have k2 := hA.c2
              have k3 := hA.c3
              have k4 := hA.c4
              have k5 := hA.c5
              have k6 := hA.c6
              have k7 := hA.c7
              have k8 := hA.c8
              have k9 := hA.c9
              have k10 := hA.c10
              unfold put11 noS at k0 k1 k2 k3 k4 k5 k6 k7 k8 k9 k10 hD
              simp only [anV] at k0 k1 k2 k3 k4 k5 k6 k7 k8 k9 k10 hD
              refine bodyPost_ret ?_ rfl hD
              simp only [results, Tryz.results52]
              simp [go_sem, k0, k1, k2, k3, k4, k5, k6, k7, k8, k9, k10]
            exact AllReady.nil
          exact AllReady.nil
        refine AllReady.cons rfl (fun K hK => ?_) ?_
        · go_simp
          refine (CC.out _ (HF5.out.below (bel_drewN _ 1))).mono ?_; rintro e w4 ⟨⟨sx, rfl, hF4⟩, c4⟩; have B4 : Hid (Below W5.heap.size W5 w4) := bel_tr (bel_drewN _ 1) c4; have HF4 : Hid (Free W5.heap.size w4 (⟨xp, xd, xq, xg, xw⟩, sx)) := hF4; have p3 := bel_cell B4.out v3; have p5 := bel_cell B4.out f5; have p0 := bel_cell B4.out b0; have p1 := bel_cell B4.out b1; have p2 := bel_cell B4.out b2; obtain ⟨a0, a1, a2, a3, a4, a5, a6, a7, a8, a9, a10, afr⟩ := HAN5.out.below B4.out; unfold ndV; unfold zeroB at a1 a2 a3; unfold noS at a4; unfold zeroX zeroN noS at a5 a6 a7 a8 a9; simp only at a1 a2 a3 a4 a5 a6 a7 a8 a9 ⊢; clear hF4 c4
          try go_simp
          refine hK _ _ ?_
          clear hK K
          refine wpAny_ready (rs := [7]) (by kernel_rfl) (by simp) ?_
          refine AllReady.cons rfl (fun K hK => ?_) ?_
          · go_simp
            refine hK _ _ ?_
            clear hK K
            refine wpAny_take (i := 12) (v := ?_) rfl (by kernel_rfl) (by kernel_rfl) (by kernel_rfl) (fun _ _ _ h => h) (Or.inl ⟨by rfl, ?_⟩) ?_
            rotate_left
            · intro w; go_simp; first | done | with_reducible rfl
            refine wpAny_ready (rs := [13]) (by kernel_rfl) (by simp) ?_
            refine AllReady.cons rfl (fun K hK => ?_) ?_
            · go_simp
              refine hK _ _ ?_
              clear hK K
              refine wpAny_done (by kernel_rfl) ?_ _
              go_wp2
              obtain ⟨hA, hD⟩ := HEND.out w4 sx B4.out HF4.out
              have k0 := hA.c0
              have k1 := hA.c1
              have k2 := hA.c2
              have k3 := hA.c3
              have k4 := hA.c4
              have k5 := hA.c5
              have k6 := hA.c6
              have k7 := hA.c7
              have k8 := hA.c8
              have k9 := hA.c9
              have k10 := hA.c10
              unfold put11 noS at k0 k1 k2 k3 k4 k5 k6 k7 k8 k9 k10 hD
              simp only [anV] at k0 k1 k2 k3 k4 k5 k6 k7 k8 k9 k10 hD
              refine bodyPost_ret ?_ rfl hD
              simp only [results, Tryz.results52]
              simp [go_sem, k0, k1, k2, k3, k4, k5, k6, k7, k8, k9, k10]
            exact AllReady.nil
          exact AllReady.nil
        exact AllReady.nil
      refine AllReady.cons rfl (fun K hK => ?_) ?_
      · go_simp
        refine (CC.out _ (HF5.out.below (bel_drewN _ 1))).mono ?_; rintro e w4 ⟨⟨sx, rfl, hF4⟩, c4⟩; have B4 : Hid (Below W5.heap.size W5 w4) := bel_tr (bel_drewN _ 1) c4; have HF4 : Hid (Free W5.heap.size w4 (⟨xp, xd, xq, xg, xw⟩, sx)) := hF4; have p3 := bel_cell B4.out v3; have p5 := bel_cell B4.out f5; have p0 := bel_cell B4.out b0; have p1 := bel_cell B4.out b1; have p2 := bel_cell B4.out b2; obtain ⟨a0, a1, a2, a3, a4, a5, a6, a7, a8, a9, a10, afr⟩ := HAN5.out.below B4.out; unfold ndV; unfold zeroB at a1 a2 a3; unfold noS at a4; unfold zeroX zeroN noS at a5 a6 a7 a8 a9; simp only at a1 a2 a3 a4 a5 a6 a7 a8 a9 ⊢; clear hF4 c4
        try go_simp
        refine hK _ _ ?_
        clear hK K
        refine wpAny_ready (rs := [5]) (by kernel_rfl) (by simp) ?_
        refine AllReady.cons rfl (fun K hK => ?_) ?_
        · go_simp
          refine hK _ _ ?_
          clear hK K
          refine wpAny_take (i := 6) (v := ?_) rfl (by kernel_rfl) (by kernel_rfl) (by kernel_rfl) (fun _ _ _ h => h) (Or.inl ⟨by rfl, ?_⟩) ?_
          rotate_left
          · intro w; go_simp; first | done | with_reducible rfl
          refine wpAny_ready (rs := [7]) (by kernel_rfl) (by simp) ?_
          refine AllReady.cons rfl (fun K hK => ?_) ?_
          · go_simp
            refine hK _ _ ?_
            clear hK K
            refine wpAny_take (i := 12) (v := ?_) rfl (by kernel_rfl) (by kernel_rfl) (by kernel_rfl) (fun _ _ _ h => h) (Or.inl ⟨by rfl, ?_⟩) ?_
            rotate_left
            · intro w; go_simp; first | done | with_reducible rfl
            refine wpAny_ready (rs := [13]) (by kernel_rfl) (by simp) ?_
            refine AllReady.cons rfl (fun K hK => ?_) ?_
            · go_simp
              refine hK _ _ ?_
              clear hK K
              refine wpAny_done (by kernel_rfl) ?_ _
              go_wp2
              obtain ⟨hA, hD⟩ := HEND.out w4 sx B4.out HF4.out
              have k0 := hA.c0
              have k1 := hA.c1
              have k2 := hA.c2
              have k3 := hA.c3
              have k4 := hA.c4
              have k5 := hA.c5
              have k6 := hA.c6
              have k7 := hA.c7
              have k8 := hA.c8
              have k9 := hA.c9
              have k10 := hA.c10
              unfold put11 noS at k0 k1 k2 k3 k4 k5 k6 k7 k8 k9 k10 hD
              simp only [anV] at k0 k1 k2 k3 k4 k5 k6 k7 k8 k9 k10 hD
              refine bodyPost_ret ?_ rfl hD
              simp only [results, Tryz.results52]
              simp [go_sem, k0, k1, k2, k3, k4, k5, k6, k7, k8, k9, k10]
            exact AllReady.nil
          exact AllReady.nil
        exact AllReady.nil
      exact AllReady.nil
    refine AllReady.cons rfl (fun K hK => ?_) ?_
    · go_simp
      refine hK _ _ ?_
      clear hK K
      refine wpAny_ready (rs := [3, 11]) (by kernel_rfl) (by simp) ?_
      refine AllReady.cons rfl (fun K hK => ?_) ?_
      · go_simp
        refine hK _ _ ?_
        clear hK K
        refine wpAny_take (i := 6) (v := ?_) rfl (by kernel_rfl) (by kernel_rfl) (by kernel_rfl) (fun _ _ _ h => h) (Or.inl ⟨by rfl, ?_⟩) ?_
        rotate_left
        · intro w; go_simp; first | done | with_reducible rfl
        refine wpAny_ready (rs := [7, 11]) (by kernel_rfl) (by simp) ?_
        refine AllReady.cons rfl (fun K hK => ?_) ?_
        · go_simp
          refine hK _ _ ?_
          clear hK K
          refine wpAny_ready (rs := [11]) (by kernel_rfl) (by simp) ?_
          refine AllReady.cons rfl (fun K hK => ?_) ?_
          · go_simp
            refine (CC.out _ (HF5.out.below (bel_drewN _ 1))).mono ?_; rintro e w4 ⟨⟨sx, rfl, hF4⟩, c4⟩; have B4 : Hid (Below W5.heap.size W5 w4) := bel_tr (bel_drewN _ 1) c4; have HF4 : Hid (Free W5.heap.size w4 (⟨xp, xd, xq, xg, xw⟩, sx)) := hF4; have p3 := bel_cell B4.out v3; have p5 := bel_cell B4.out f5; have p0 := bel_cell B4.out b0; have p1 := bel_cell B4.out b1; have p2 := bel_cell B4.out b2; obtain ⟨a0, a1, a2, a3, a4, a5, a6, a7, a8, a9, a10, afr⟩ := HAN5.out.below B4.out; unfold ndV; unfold zeroB at a1 a2 a3; unfold noS at a4; unfold zeroX zeroN noS at a5 a6 a7 a8 a9; simp only at a1 a2 a3 a4 a5 a6 a7 a8 a9 ⊢; clear hF4 c4
            try go_simp
            refine hK _ _ ?_
            clear hK K
            refine wpAny_take (i := 12) (v := ?_) rfl (by kernel_rfl) (by kernel_rfl) (by kernel_rfl) (fun _ _ _ h => h) (Or.inl ⟨by rfl, ?_⟩) ?_
            rotate_left
            · intro w; go_simp; first | done | with_reducible rfl
            refine wpAny_ready (rs := [13]) (by kernel_rfl) (by simp) ?_
            refine AllReady.cons rfl (fun K hK => ?_) ?_
            · go_simp
              refine hK _ _ ?_
              clear hK K
              refine wpAny_done (by kernel_rfl) ?_ _
              go_wp2
              obtain ⟨hA, hD⟩ := HEND.out w4 sx B4.out HF4.out
              have k0 := hA.c0
              have k1 := hA.c1
              have k2 := hA.c2
              have k3 := hA.c3
              have k4 := hA.c4
              have k5 := hA.c5
              have k6 := hA.c6
              have k7 := hA.c7
              have k8 := hA.c8
              have k9 := hA.c9
              have k10 := hA.c10
              unfold put11 noS at k0 k1 k2 k3 k4 k5 k6 k7 k8 k9 k10 hD
              simp only [anV] at k0 k1 k2 k3 k4 k5 k6 k7 k8 k9 k10 hD
              refine bodyPost_ret ?_ rfl hD
              simp only [results, Tryz.results52]
              simp [go_sem, k0, k1, k2, k3, k4, k5, k6, k7, k8, k9, k10]
            exact AllReady.nil
          exact AllReady.nil
        refine AllReady.cons rfl (fun K hK => ?_) ?_
        · go_simp
          refine (CC.out _ (HF5.out.below (bel_drewN _ 1))).mono ?_; rintro e w4 ⟨⟨sx, rfl, hF4⟩, c4⟩; have B4 : Hid (Below W5.heap.size W5 w4) := bel_tr (bel_drewN _ 1) c4; have HF4 : Hid (Free W5.heap.size w4 (⟨xp, xd, xq, xg, xw⟩, sx)) := hF4; have p3 := bel_cell B4.out v3; have p5 := bel_cell B4.out f5; have p0 := bel_cell B4.out b0; have p1 := bel_cell B4.out b1; have p2 := bel_cell B4.out b2; obtain ⟨a0, a1, a2, a3, a4, a5, a6, a7, a8, a9, a10, afr⟩ := HAN5.out.below B4.out; unfold ndV; unfold zeroB at a1 a2 a3; unfold noS at a4; unfold zeroX zeroN noS at a5 a6 a7 a8 a9; simp only at a1 a2 a3 a4 a5 a6 a7 a8 a9 ⊢; clear hF4 c4
          try go_simp
          refine hK _ _ ?_
          clear hK K
          refine wpAny_ready (rs := [7]) (by kernel_rfl) (by simp) ?_
          refine AllReady.cons rfl (fun K hK => ?_) ?_
          · go_simp
            refine hK _ _ ?_
            clear hK K
            refine wpAny_take (i := 12) (v := ?_) rfl (by kernel_rfl) (by kernel_rfl) (by kernel_rfl) (fun _ _ _ h => h) (Or.inl ⟨by rfl, ?_⟩) ?_
            rotate_left
            · intro w; go_simp; first | done | with_reducible rfl
            refine wpAny_ready (rs := [13]) (by kernel_rfl) (by simp) ?_
            refine AllReady.cons rfl (fun K hK => ?_) ?_
            · go_simp
              refine hK _ _ ?_
              clear hK K
              refine wpAny_done (by kernel_rfl) ?_ _
              go_wp2
              obtain ⟨hA, hD⟩ := HEND.out w4 sx B4.out HF4.out
              have k0 := hA.c0
              have k1 := hA.c1
              have k2 := hA.c2
              have k3 := hA.c3
              have k4 := hA.c4
              have k5 := hA.c5
              have k6 := hA.c6
              have k7 := hA.c7
              have k8 := hA.c8
              have k9 := hA.c9
              have k10 := hA.c10
              unfold put11 noS at k0 k1 k2 k3 k4 k5 k6 k7 k8 k9 k10 hD
              simp only [anV] at k0 k1 k2 k3 k4 k5 k6 k7 k8 k9 k10 hD
              refine bodyPost_ret ?_ rfl hD
              simp only [results, Tryz.results52]
              simp [go_sem, k0, k1, k2, k3, k4, k5, k6, k7, k8, k9, k10]
            exact AllReady.nil
          exact AllReady.nil
        exact AllReady.nil
      refine AllReady.cons rfl (fun K hK => ?_) ?_
      · go_simp
        refine (CC.out _ (HF5.out.below (bel_drewN _ 1))).mono ?_; rintro e w4 ⟨⟨sx, rfl, hF4⟩, c4⟩; have B4 : Hid (Below W5.heap.size W5 w4) := bel_tr (bel_drewN _ 1) c4; have HF4 : Hid (Free W5.heap.size w4 (⟨xp, xd, xq, xg, xw⟩, sx)) := hF4; have p3 := bel_cell B4.out v3; have p5 := bel_cell B4.out f5; have p0 := bel_cell B4.out b0; have p1 := bel_cell B4.out b1; have p2 := bel_cell B4.out b2; obtain ⟨a0, a1, a2, a3, a4, a5, a6, a7, a8, a9, a10, afr⟩ := HAN5.out.below B4.out; unfold ndV; unfold zeroB at a1 a2 a3; unfold noS at a4; unfold zeroX zeroN noS at a5 a6 a7 a8 a9; simp only at a1 a2 a3 a4 a5 a6 a7 a8 a9 ⊢; clear hF4 c4
        try go_simp
        refine hK _ _ ?_
        clear hK K
        refine wpAny_ready (rs := [3]) (by kernel_rfl) (by simp) ?_
        refine AllReady.cons rfl (fun K hK => ?_) ?_
        · go_simp
          refine hK _ _ ?_
          clear hK K
          refine wpAny_take (i := 6) (v := ?_) rfl (by kernel_rfl) (by kernel_rfl) (by kernel_rfl) (fun _ _ _ h => h) (Or.inl ⟨by rfl, ?_⟩) ?_
          rotate_left
          · intro w; go_simp; first | done | with_reducible rfl
          refine wpAny_ready (rs := [7]) (by kernel_rfl) (by simp) ?_
          refine AllReady.cons rfl (fun K hK => ?_) ?_
          · go_simp
            refine hK _ _ ?_
            clear hK K
            refine wpAny_take (i := 12) (v := ?_) rfl (by kernel_rfl) (by kernel_rfl) (by kernel_rfl) (fun _ _ _ h => h) (Or.inl ⟨by rfl, ?_⟩) ?_
            rotate_left
            · intro w; go_simp; first | done | with_reducible rfl
            refine wpAny_ready (rs := [13]) (by kernel_rfl) (by simp) ?_
            refine AllReady.cons rfl (fun K hK => ?_) ?_
            · go_simp
              refine hK _ _ ?_
              clear hK K
              refine wpAny_done (by kernel_rfl) ?_ _
              go_wp2
              obtain ⟨hA, hD⟩ := HEND.out w4 sx B4.out HF4.out
              have k0 := hA.c0
              have k1 := hA.c1
              have k2 := hA.c2
              have k3 := hA.c3
              have k4 := hA.c4
              have k5 := hA.c5
              have k6 := hA.c6
              have k7 := hA.c7
              have k8 := hA.c8
              have k9 := hA.c9
              have k10 := hA.c10
              unfold put11 noS at k0 k1 k2 k3 k4 k5 k6 k7 k8 k9 k10 hD
              simp only [anV] at k0 k1 k2 k3 k4 k5 k6 k7 k8 k9 k10 hD
              refine bodyPost_ret ?_ rfl hD
              simp only [results, Tryz.results52]
              simp [go_sem, k0, k1, k2, k3, k4, k5, k6, k7, k8, k9, k10]
            exact AllReady.nil
          exact AllReady.nil
        exact AllReady.nil
      exact AllReady.nil
    refine AllReady.cons rfl (fun K hK => ?_) ?_
    · go_simp
      refine (CC.out _ (HF5.out.below (bel_drewN _ 1))).mono ?_; rintro e w4 ⟨⟨sx, rfl, hF4⟩, c4⟩; have B4 : Hid (Below W5.heap.size W5 w4) := bel_tr (bel_drewN _ 1) c4; have HF4 : Hid (Free W5.heap.size w4 (⟨xp, xd, xq, xg, xw⟩, sx)) := hF4; have p3 := bel_cell B4.out v3; have p5 := bel_cell B4.out f5; have p0 := bel_cell B4.out b0; have p1 := bel_cell B4.out b1; have p2 := bel_cell B4.out b2; obtain ⟨a0, a1, a2, a3, a4, a5, a6, a7, a8, a9, a10, afr⟩ := HAN5.out.below B4.out; unfold ndV; unfold zeroB at a1 a2 a3; unfold noS at a4; unfold zeroX zeroN noS at a5 a6 a7 a8 a9; simp only at a1 a2 a3 a4 a5 a6 a7 a8 a9 ⊢; clear hF4 c4
      try go_simp
      refine hK _ _ ?_
      clear hK K
      refine wpAny_ready (rs := [3, 5]) (by kernel_rfl) (by simp) ?_
      refine AllReady.cons rfl (fun K hK => ?_) ?_
      · go_simp
        refine hK _ _ ?_
        clear hK K
        refine wpAny_ready (rs := [5]) (by kernel_rfl) (by simp) ?_
        refine AllReady.cons rfl (fun K hK => ?_) ?_
        · go_simp
          refine hK _ _ ?_
          clear hK K
          refine wpAny_take (i := 6) (v := ?_) rfl (by kernel_rfl) (by kernel_rfl) (by kernel_rfl) (fun _ _ _ h => h) (Or.inl ⟨by rfl, ?_⟩) ?_
          rotate_left
          · intro w; go_simp; first | done | with_reducible rfl
          refine wpAny_ready (rs := [7]) (by kernel_rfl) (by simp) ?_
          refine AllReady.cons rfl (fun K hK => ?_) ?_
          · go_simp
            refine hK _ _ ?_
            clear hK K
            refine wpAny_take (i := 12) (v := ?_) rfl (by kernel_rfl) (by kernel_rfl) (by kernel_rfl) (fun _ _ _ h => h) (Or.inl ⟨by rfl, ?_⟩) ?_
            rotate_left
            · intro w; go_simp; first | done | with_reducible rfl
            refine wpAny_ready (rs := [13]) (by kernel_rfl) (by simp) ?_
            refine AllReady.cons rfl (fun K hK => ?_) ?_
            · go_simp
              refine hK _ _ ?_
              clear hK K
              refine wpAny_done (by kernel_rfl) ?_ _
              go_wp2
              obtain ⟨hA, hD⟩ := HEND.out w4 sx B4.out HF4.out
              have k0 := hA.c0
              have k1 := hA.c1
              have k2 := hA.c2
              have k3 := hA.c3
              have k4 := hA.c4
              have k5 := hA.c5
              have k6 := hA.c6
              have k7 := hA.c7
              have k8 := hA.c8
              have k9 := hA.c9
              have k10 := hA.c10
              unfold put11 noS at k0 k1 k2 k3 k4 k5 k6 k7 k8 k9 k10 hD
              simp only [anV] at k0 k1 k2 k3 k4 k5 k6 k7 k8 k9 k10 hD
              refine bodyPost_ret ?_ rfl hD
              simp only [results, Tryz.results52]
              simp [go_sem, k0, k1, k2, k3, k4, k5, k6, k7, k8, k9, k10]
            exact AllReady.nil
          exact AllReady.nil
        exact AllReady.nil
      refine AllReady.cons rfl (fun K hK => ?_) ?_
      · go_simp
        refine hK _ _ ?_
        clear hK K
        refine wpAny_ready (rs := [3]) (by kernel_rfl) (by simp) ?_
        refine AllReady.cons rfl (fun K hK => ?_) ?_
        · go_simp
          refine hK _ _ ?_
          clear hK K
          refine wpAny_take (i := 6) (v := ?_) rfl (by kernel_rfl) (by kernel_rfl) (by kernel_rfl) (fun _ _ _ h => h) (Or.inl ⟨by rfl, ?_⟩) ?_
          rotate_left
          · intro w; go_simp; first | done | with_reducible rfl
          refine wpAny_ready (rs := [7]) (by kernel_rfl) (by simp) ?_
          refine AllReady.cons rfl (fun K hK => ?_) ?_
          · go_simp
            refine hK _ _ ?_
            clear hK K
            refine wpAny_take (i := 12) (v := ?_) rfl (by kernel_rfl) (by kernel_rfl) (by kernel_rfl) (fun _ _ _ h => h) (Or.inl ⟨by rfl, ?_⟩) ?_
            rotate_left
            · intro w; go_simp; first | done | with_reducible rfl
            refine wpAny_ready (rs := [13]) (by kernel_rfl) (by simp) ?_
            refine AllReady.cons rfl (fun K hK => ?_) ?_
            · go_simp
              refine hK _ _ ?_
              clear hK K
              refine wpAny_done (by kernel_rfl) ?_ _
              go_wp2
              obtain ⟨hA, hD⟩ := HEND.out w4 sx B4.out HF4.out
              have k0 := hA.c0
              have k1 := hA.c1
              have k2 := hA.c2
              have k3 := hA.c3
              have k4 := hA.c4
              have k5 := hA.c5
              have k6 := hA.c6
              have k7 := hA.c7
              have k8 := hA.c8
              have k9 := hA.c9
              have k10 := hA.c10
              unfold put11 noS at k0 k1 k2 k3 k4 k5 k6 k7 k8 k9 k10 hD
              simp only [anV] at k0 k1 k2 k3 k4 k5 k6 k7 k8 k9 k10 hD
              refine bodyPost_ret ?_ rfl hD
              simp only [results, Tryz.results52]
              simp [go_sem, k0, k1, k2, k3, k4, k5, k6, k7, k8, k9, k10]
            exact AllReady.nil
          exact AllReady.nil
        exact AllReady.nil
      exact AllReady.nil
    exact AllReady.nil
  exact AllReady.nil

end Go.Proofs.YticiihjkgiookaaGreat.Spa

/- The contract of space.addBlock. -/
namespace Go.Proofs.YticiihjkgiookaaGreat.Spa
open Go.RowKit Go.Proofs.YticiihjkgiookaaGreat
open Go.Proofs.YticiihjkgiookaaGreat.Lea (LS Ls findX putL renX LL LO LsR lsC wideL)
open Go.Proofs.YticiihjkgiookaaGreat.Edi (Ed Nm EdAt edV)

set_option maxRecDepth 100000 in
set_option maxHeartbeats 4000000 in
theorem addBlock_writ {base M0 S : Nat} {w : World} {s : Sp} {N L : RS} {ps : List NR} {gb : Nat} {gl : Option Nat} (h : Pre base M0 S w s N L ps gb gl) (e : Ed) (ea : Option Addr) (em eq : Nat) (hs : e.p.size ≤ maxLen) (E : Int) (hE : WritE s.ns e.p e.c E) (h0 : E ≠ 0) (hp : 0 < ps.length) :
    Calls Tryz.prog 48 #[.pointer (some ⟨S, 0, none⟩), edV e ea em eq] w fun r w' => LeftR S base M0 E w r w' := by
  have hE2 : WritE (ps.map (·.1)) e.p e.c E := by rw [h.own.map]; exact hE
  have CW : Hid (∀ W, Below w.heap.size w W → Calls Tryz.prog 93 #[.pointer (some ⟨S, 0, none⟩), edV e ea em eq] W fun e w' => e = leftV E ∧ Below W.heap.size W w') := fun W hb => written_no ((h.below hb).lies hp) e ea em eq hs E hE2 h0
  obtain ⟨k, p, t, cl, l, nn, ls⟩ := e
  unfold edV at CW ⊢
  simp only at CW ⊢
  have hst := run_store_str
  clear h hs hE hE2 h0 hp
  go_enter Tryz.func48, Tryz.ntmps48
  go_wp2_with (go_at_call 93; refine (CW.out _ (bel_tr (bel_al _ _) (bel_al _ _))).mono ?_; rintro e w1 ⟨rfl, c1⟩)
  exact left_post rfl (LeftR.of (bel_tr (bel_tr (bel_al _ _) (bel_al _ _)) c1))

set_option maxRecDepth 100000 in
set_option maxHeartbeats 4000000 in
theorem addBlock_lens {base M0 S : Nat} {w : World} {s : Sp} {N L : RS} {ps : List NR} {gb : Nat} {gl : Option Nat} (h : Pre base M0 S w s N L ps gb gl) (e : Ed) (ea : Option Addr) (em eq : Nat) (hn : Nm w ea em e.ls) (hnb : ∀ ad, ea = some ad → 0 < em → ad.block < base) (hs : e.p.size ≤ maxLen) (i : Nat) (x : Nd) (hw : Wr s e i x) (hl : ¬ LenOk x.bs e.ls) (h8 : x.bs.length ≤ 8) :
    Calls Tryz.prog 48 #[.pointer (some ⟨S, 0, none⟩), edV e ea em eq] w fun r w' => LeftR S base M0 1 w r w' := by
  have hiq : Is (ps.map (·.1)) e.p i x := by rw [h.own.map]; exact hw.is
  obtain ⟨r, hX⟩ := is_at' hiq
  obtain ⟨hF0, hg0, hiN, hpos, _⟩ := h.free' hX
  have hrn : x.bs.length = r.n := hF0.ok.bs.len
  have CW : Hid (∀ W, Below w.heap.size w W → Calls Tryz.prog 93 #[.pointer (some ⟨S, 0, none⟩), edV e ea em eq] W fun e w' => e = .returned (.pointer (some ⟨gb, i * 5, none⟩)) ∧ Below W.heap.size W w') := fun W hb => written_ok ((h.below hb).lies hpos) e ea em eq hs i x hiq hw.dir hw.wr
  have CS : Hid (∀ W, Below w.heap.size w W → Calls Tryz.prog 94 #[.pointer (some ⟨gb, i * 5, none⟩), .slice ea em eq] W fun r' w' => r' = leftV 1 ∧ Stay (fun k => r.blk = some k) W w') := fun W hb => by
    have hP := h.below hb
    obtain ⟨hF, hg, _, _, _⟩ := hP.free' hX
    refine setLengths_no (x := x) (s := r) hF ((hP.lies hpos).at' hX).c3 hg (hn.below hb) (fun ad had hp e => ?_) hl (by omega)
    have := hF.blk_ge _ e
    have := hnb ad had hp
    omega
  have HSB : Hid (S < base) := h.sb
  have HGE : Hid (∀ k, r.blk = some k → base ≤ k ∧ k < M0) := fun k hk => ⟨hF0.blk_ge k hk, h.m3 _ (List.mem_of_getElem? hX) k hk⟩
  obtain ⟨k, p, t, cl, l, nn, ls⟩ := e
  unfold edV at CW ⊢
  simp only at CW CS ⊢
  have hst := run_store_str
  clear h hn hnb hs hw hl h8 hiq hX hF0 hg0 hiN hpos hrn
  go_enter Tryz.func48, Tryz.ntmps48
  go_wp2_with (first
    | (go_at_call 93; refine (CW.out _ (bel_tr (bel_al _ _) (bel_al _ _))).mono ?_; rintro e w1 ⟨rfl, c1⟩; obtain ⟨q1, q2, q3, q4, q5, q6⟩ := two_boxes c1; have y6 := q1 6 _ rfl; have B1 : Hid (Below w.heap.size w w1) := q5; clear c1 q1 q2 q3 q4 q5 q6)
    | (go_at_call 94; refine (CS.out _ B1.out).mono ?_; rintro e w2 ⟨rfl, hS2⟩))
  exact left_post rfl ⟨rfl, (Stay.of_below B1.out).trans hS2 (fun k _ e => .inr (HGE.out k e)), fun s N L h => ⟨s, N, L, (h.below B1.out).keep hS2 (fun e => by have := HGE.out S e; have := HSB.out; omega)⟩⟩

/-- What is appended to a slice without room comes to lie in a new block. -/
theorem run_append_zero {P : Program} (w : World) (t tx ty e : TypeId) (i : TypeInfo) (z : Value) (size bytes : Nat) (ht : P.underlying t = some (.slice e)) (hi : P.info? e = some i) (hz : i.zero = some z) (hsize : i.size = size) (hby : i.bytes = bytes) (hzs : z.cells.size = size) (p : Option Addr)
    (x : Value) (m : Nat) (news : List Value) (hs : Src P size tx x m news w) (hm : 0 < m) (hlen : m ≤ maxLen) (hlb : m * bytes ≤ 140737488355328) :
    ∃ c' w', (Builtin.append_ #[t, tx] ty #[.slice p 0 0, x]).run P w = .ok (.slice (some ⟨w.heap.size, 0, none⟩) m c') w' ∧ Cel (fun k => w.heap.size ≤ k) w' size (.slice (some ⟨w.heap.size, 0, none⟩) m c') m news (some w.heap.size) ∧ Below w.heap.size w w' := by
  have hnl := hs.newsLen
  have hs' : Src P i.size tx x m news w := by rw [hsize]; exact hs
  have hold : (Builtin.firstCells i.size 0 (.slice p 0 0)).run P w.drew = .ok ([] : List Value).toArray w.drew := by
    cases p with
    | none => simp [Builtin.firstCells]
    | some ad => exact run_firstCells_some w.drew i.size 0 ad 0 0 [] (by simp) (fun j u hu => by simp at hu)
  have h63 : m ≤ 9223372036854775807 := by unfold maxLen at hlen; omega
  have hrun := run_append_grow_src (P := P) w t tx ty e i z ht hi hz p 0 0 [] hold x m news hs' (by omega) (by omega) (growslice_fits (by omega) (by rw [hby, Nat.zero_add]; exact hlb))
  rw [Nat.zero_add] at hrun
  have hge := grownCap_ge w m 0 e
  have hcm := grownCap_le_maxLen w m 0 e hlen
  generalize grownCap w m 0 e = c' at *
  rw [List.nil_append] at hrun
  have hsz : (news.toArray ++ Builtin.zeroCells z.cells (c' - m)).size = c' * size := by
    rw [Array.size_append, List.size_toArray, hnl, size_zeroCells, hzs, ← Nat.add_mul]
    congr 1; omega
  refine ⟨c', _, hrun, .row w.heap.size c' rfl hnl (Nat.le_refl _) (by simp) hge hcm (fun j hj => ?_) (fun j hj => ⟨?_, ?_⟩), bel_tr (bel_drewN w 1) (bel_al w.drew _)⟩
  · have e1 : (w.drew.alloc (.cells (news.toArray ++ Builtin.zeroCells z.cells (c' - m)) e)).cell? ⟨w.heap.size, j, none⟩ = _ := World.cell?_alloc_new w.drew _ _ j
    rw [e1, Array.getElem?_append_left (by rw [List.size_toArray]; exact hj), List.getElem?_toArray, List.getElem?_eq_getElem hj]
  · have e1 : (w.drew.alloc (.cells (news.toArray ++ Builtin.zeroCells z.cells (c' - m)) e)).cell? ⟨w.heap.size, j, none⟩ = _ := World.cell?_alloc_new w.drew _ _ j
    rw [e1, Array.getElem?_eq_getElem (by rw [hsz]; exact hj)]
    rfl
  · exact World.frozen?_alloc_new w.drew _ _ j

/-- A block more. -/
theorem append_blk {base : Nat} {w : World} {x : Nd} {s : RS} (hF : Free base w (x, s)) (hR : Rm w s) (hB : base ≤ w.heap.size) (h8 : s.n ≤ 8) (b : Blk) (xv : Value) (hs : Src Tryz.prog 3 33 xv 1 (blkC b) w) (ty : TypeId) :
    ∃ a' c' w' g', (Builtin.append_ #[33, 33] ty #[.slice s.a s.n s.c, xv]).run Tryz.prog w = .ok (.slice a' (s.n + 1) c') w' ∧ Cel (fun k => base ≤ k) w' 3 (.slice a' (s.n + 1) c') (s.n + 1) (rowC blkC (x.bs ++ [b])) g' ∧ Stay (fun k => s.blk = some k) w w' ∧ (∀ k, g' = some k → s.blk = some k ∨ w.heap.size ≤ k) := by
  obtain ⟨ti, hi1, hi2, hi3, hi4⟩ := blkRow
  have hl : x.bs.length = s.n := hF.ok.bs.len
  rcases Nat.eq_zero_or_pos s.n with h0 | h0
  · have hb0 : x.bs = [] := List.length_eq_zero_iff.1 (by omega)
    have hc := hR.z h0
    obtain ⟨c', w', hrun, hC, hBl⟩ := run_append_zero (P := Tryz.prog) w 33 33 ty 31 ti _ 3 24 Tryz.underlying33 hi1 hi2 hi3 hi4 rfl s.a xv 1 (blkC b) hs (by omega) (by unfold maxLen; omega) (by omega)
    refine ⟨some ⟨w.heap.size, 0, none⟩, c', w', some w.heap.size, ?_, ?_, Stay.of_below hBl, fun k hk => .inr (by cases hk; exact Nat.le_refl _)⟩
    · rw [h0, hc]; exact hrun
    · rw [h0, hb0, Nat.zero_add, List.nil_append, rowC_one]
      exact hC.stay (Nat.le_refl _) (fun _ _ => rfl) (fun k hk => Nat.le_trans hB hk)
  · obtain ⟨g, ha, hlv⟩ := hR.live h0
    have hblk : s.blk = some g := by unfold RS.blk; rw [if_neg (by omega), ha]; rfl
    have hC : Cel (fun k => base ≤ k) w 3 (.slice s.a s.n s.c) s.n (rowC blkC x.bs) (some g) := by
      rw [ha]
      refine .row g s.c rfl (by rw [rowC_len wideB, hl]) (hF.blk_ge g hblk) (hR.lt g hblk) hR.le hR.lid (fun j hj => ?_) hlv
      obtain ⟨b2, off2, h1, h2⟩ := hF.ok.bs.cells h0
      have h1' : s.a = some ⟨b2, off2, none⟩ := h1
      rw [ha] at h1'
      cases h1'
      have hj0 := hj
      rw [rowC_len wideB] at hj
      have e := rowC_at wideB x.bs (j / 3) (by omega) (j % 3) (by omega)
      have e2 : j / 3 * 3 + j % 3 = j := by omega
      rw [e2] at e
      rw [List.getElem?_eq_getElem hj0] at e
      have := h2 (j / 3) (by show j / 3 < x.bs.length; omega) (j % 3) _ e.symm
      rw [show 0 + j / 3 * 3 + j % 3 = j by omega] at this
      exact this
    obtain ⟨a', c', w', g', hrun, r1, r2, r3⟩ := run_append_cel (P := Tryz.prog) w 33 33 ty 31 ti _ 3 24 Tryz.underlying33 hi1 hi2 hi3 hi4 rfl hC xv 1 (blkC b) hs (by unfold maxLen; omega) (by omega)
    refine ⟨a', c', w', g', hrun, ?_, r2.mono (fun k hk => by rw [hblk]; exact hk), fun k hk => ?_⟩
    · rw [rowC_app, rowC_one]
      exact grow_base hB (fun k hk => hk) r1
    · rw [hblk]; exact r3 k hk

theorem step_append_blk {ops : Array Oper} {o : Oper} {a : Act} {w : World} {K : Act → World → Prop} {Q : Exit → Act → World → Prop} {F : Prop} (hgd : o.guard = none) (so xo : Operand)
    (ho : o.op = .call { callee := .builtin .append, args := #[so, xo], argTypes := #[33, 33] })
    {base : Nat} (x : Nd) (s : RS) (hv : a.eval so = .slice s.a s.n s.c) (hF : Free base w (x, s)) (hR : Rm w s) (hB : base ≤ w.heap.size) (h8 : s.n ≤ 8) (b : Blk) (xv : Value) (hxv : a.eval xo = xv) (hs : Src Tryz.prog 3 33 xv 1 (blkC b) w)
    (hK : ∀ a' c' w' g', Cel (fun k => base ≤ k) w' 3 (.slice a' (s.n + 1) c') (s.n + 1) (rowC blkC (x.bs ++ [b])) g' → Stay (fun k => s.blk = some k) w w' → (∀ k, g' = some k → s.blk = some k ∨ w.heap.size ≤ k) → K (a.put o.dst (.slice a' (s.n + 1) c')) w') :
    if Region.wanted o (yielded ops a.tmps) = true then Oper.wp Tryz.prog o a w K Q else F := by
  have hw : Region.wanted o (yielded ops a.tmps) = true := by simp [Region.wanted, hgd]
  rw [if_pos hw]
  obtain ⟨a', c', w', g', hrun, r1, r2, r3⟩ := append_blk hF hR hB h8 b xv hs o.type
  unfold Oper.wp
  simp [execOp, ho, resolve, invoke, builtin, hv, hxv, hrun, Result.andThen]
  exact hK a' c' w' g' r1 r2 r3

/-- One block as what is appended. -/
theorem src_blk (w : World) (b : Blk) (B : Nat) (hB : B = w.heap.size) : Src Tryz.prog 3 33 (.slice (some ⟨B, 0, none⟩) 1 1) 1 (blkC b) (w.alloc (.cells #[.int .i64 b.id, .int .i64 b.gen, .int .i64 b.len] 31)) := by
  subst hB
  refine Src.ofSlice _ Tryz.underlying33 ⟨w.heap.size, 0, none⟩ 1 1 _ rfl (fun j u hu => ?_) (fun u hu => wideB.one b u hu)
  rw [Addr.add_lit, Nat.zero_add]
  have := World.cell?_alloc_new w #[.int .i64 b.id, .int .i64 b.gen, .int .i64 b.len] 31 j
  rw [this, ← hu]
  unfold blkC
  simp


end Go.Proofs.YticiihjkgiookaaGreat.Spa
