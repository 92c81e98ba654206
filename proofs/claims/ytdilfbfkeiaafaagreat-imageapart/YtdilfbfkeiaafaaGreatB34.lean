/- Part 34 of the proof: SpaceFB, SpaceFC, SpaceFD, SpaceFK. -/
import Derived.Test.YtdilfbfkeiaafaaGreatB33
set_option maxRecDepth 100000
set_option maxHeartbeats 8000000
namespace Go.Proofs.YtdilfbfkeiaafaaGreat.Spa
open Go.RowKit Go.Proofs.YtdilfbfkeiaafaaGreat
open Go.Proofs.YtdilfbfkeiaafaaGreat.Lea (LS Ls findX putL renX LL LO LsR lsC wideL)
open Go.Proofs.YtdilfbfkeiaafaaGreat.Edi (Ed Nm EdAt edV)
structure LeftR (S base M0 : Nat) (E : Int) (w : World) (r : Ending) (w' : World) : Prop where
  eq : r = leftV E
  st : Stay (Chg S base M0) w w'
  c : ∀ s N L, SpC w S s N L → ∃ s' N' L', SpC w' S s' N' L'
theorem LeftR.of {S base M0 : Nat} {E : Int} {w w' : World} (hb : Below w.heap.size w w') : LeftR S base M0 E w (leftV E) w' := ⟨rfl, Stay.of_below hb, fun s N L h => ⟨s, N, L, h.below hb⟩⟩
theorem left_post {P : Program} {fn : Func} {S base M0 : Nat} {E : Int} {w w' : World} {a : Act} (ha : a.defers = []) (h : LeftR S base M0 E w (leftV E) w') : bodyPost P fn (fun r w' => LeftR S base M0 E w r w') (.panic [{ v := .iface 29 (.int .i64 E), recovered := false }]) a w' := ⟨ha, h⟩
theorem complete_writ {base M0 S : Nat} {w : World} {s : Sp} {N L : RS} {ps : List NR} {gb : Nat} {gl : Option Nat} (h : Pre base M0 S w s N L ps gb gl) (e : Ed) (ea : Option Addr) (em eq : Nat) (hs : e.p.size ≤ maxLen) (E : Int) (hE : WritE s.ns e.p e.c E) (h0 : E ≠ 0) (hp : 0 < ps.length) :
    Calls Tryz.prog 62 #[.pointer (some ⟨S, 0, none⟩), edV e ea em eq] w fun r w' => LeftR S base M0 E w r w' := by
  have hE2 : WritE (ps.map (·.1)) e.p e.c E := by rw [h.own.map]; exact hE
  have CW : Hid (∀ W, Below w.heap.size w W → Calls Tryz.prog 107 #[.pointer (some ⟨S, 0, none⟩), edV e ea em eq] W fun e w' => e = leftV E ∧ Below W.heap.size W w') := fun W hb => written_no ((h.below hb).lies hp) e ea em eq hs E hE2 h0
  obtain ⟨k, p, t, cl, l, nn, ls⟩ := e
  unfold edV at CW ⊢
  simp only at CW ⊢
  have hst := run_store_str
  clear h hs hE hE2 h0 hp; go_enter Tryz.func62, Tryz.ntmps62; go_wp2_with (go_at_call 107; refine (CW.out _ (bel_tr (bel_al _ _) (bel_al _ _))).mono ?_; rintro e w1 ⟨rfl, c1⟩)
  exact left_post rfl (LeftR.of (bel_tr (bel_tr (bel_al _ _) (bel_al _ _)) c1))
theorem complete_lens {base M0 S : Nat} {w : World} {s : Sp} {N L : RS} {ps : List NR} {gb : Nat} {gl : Option Nat} (h : Pre base M0 S w s N L ps gb gl) (e : Ed) (ea : Option Addr) (em eq : Nat) (hn : Nm w ea em e.ls) (hnb : ∀ ad, ea = some ad → 0 < em → ad.block < base) (hs : e.p.size ≤ maxLen) (i : Nat) (x : Nd) (hw : Wr s e i x) (hl : ¬ LenOk x.bs e.ls) (h8 : x.bs.length ≤ 8) :
    Calls Tryz.prog 62 #[.pointer (some ⟨S, 0, none⟩), edV e ea em eq] w fun r w' => LeftR S base M0 1 w r w' := by
  have hiq : Is (ps.map (·.1)) e.p i x := by rw [h.own.map]; exact hw.is
  obtain ⟨r, hX⟩ := is_at' hiq
  obtain ⟨hF0, hg0, hiN, hpos, _⟩ := h.free' hX
  have hrn : x.bs.length = r.n := hF0.ok.bs.len
  have CW : Hid (∀ W, Below w.heap.size w W → Calls Tryz.prog 107 #[.pointer (some ⟨S, 0, none⟩), edV e ea em eq] W fun e w' => e = .returned (.pointer (some ⟨gb, i * 5, none⟩)) ∧ Below W.heap.size W w') := fun W hb => written_ok ((h.below hb).lies hpos) e ea em eq hs i x hiq hw.dir hw.wr
  have CS : Hid (∀ W, Below w.heap.size w W → Calls Tryz.prog 108 #[.pointer (some ⟨gb, i * 5, none⟩), .slice ea em eq] W fun r' w' => r' = leftV 1 ∧ Stay (fun k => r.blk = some k) W w') := fun W hb => by
    have hP := h.below hb
    obtain ⟨hF, hg, _, _, _⟩ := hP.free' hX
    refine setLengths_no (x := x) (s := r) hF ((hP.lies hpos).at' hX).c3 hg (hn.below hb) (fun ad had hp e => ?_) hl (by omega)
    have := hF.blk_ge _ e
    have := hnb ad had hp
    omega
  have HSB : Hid (S < base) := h.sb
  have HGE : Hid (∀ k, r.blk = some k → base ≤ k ∧ k < M0) := fun k hk => ⟨hF0.blk_ge k hk, h.m3 _ (List.mem_of_getElem? hX) k hk⟩
  obtain ⟨k, p, t, cl, l, nn, ls⟩ := e
  unfold edV at CW ⊢
  simp only at CW CS ⊢
  have hst := run_store_str
  clear h hn hnb hs hw hl h8 hiq hX hF0 hg0 hiN hpos hrn; go_enter Tryz.func62, Tryz.ntmps62; go_wp2_with (first
    | (go_at_call 107; refine (CW.out _ (bel_tr (bel_al _ _) (bel_al _ _))).mono ?_; rintro e w1 ⟨rfl, c1⟩; obtain ⟨q1, q2, q3, q4, q5, q6⟩ := two_boxes c1; have y6 := q1 6 _ rfl; have B1 : Hid (Below w.heap.size w w1) := q5; clear c1 q1 q2 q3 q4 q5 q6)
    | (go_at_call 108; refine (CS.out _ B1.out).mono ?_; rintro e w2 ⟨rfl, hS2⟩))
  exact left_post rfl ⟨rfl, (Stay.of_below B1.out).trans hS2 (fun k _ e => .inr (HGE.out k e)), fun s N L h => ⟨s, N, L, (h.below B1.out).keep hS2 (fun e => by have := HGE.out S e; have := HSB.out; omega)⟩⟩
theorem SpC.set5 {w : World} {S : Nat} {s : Sp} {N L : RS} (h : SpC w S s N L) (L' : RS) (ls : LS) : SpC (w.setCell ⟨S, 5, none⟩ (.slice L'.a L'.n L'.c)) S ⟨s.tx, s.nb, s.ng, s.now, s.ns, ls⟩ N L' ∧ Stay (fun k => k = S) w (w.setCell ⟨S, 5, none⟩ (.slice L'.a L'.n L'.c)) :=
  ⟨⟨(other_cell _ _ _ _ _ (by omega)).trans h.c0, (other_cell _ _ _ _ _ (by omega)).trans h.c1, (other_cell _ _ _ _ _ (by omega)).trans h.c2, (other_cell _ _ _ _ _ (by omega)).trans h.c3, (other_cell _ _ _ _ _ (by omega)).trans h.c4, same_cell h.c5, fun j => by rw [World.frozen?_setCell]; exact h.fr j⟩, Stay.setCell _ _ _ rfl⟩
theorem SpC.set4 {w : World} {S : Nat} {s : Sp} {N L : RS} (h : SpC w S s N L) (N' : RS) (ns : NS) : SpC (w.setCell ⟨S, 4, none⟩ (.slice N'.a N'.n N'.c)) S ⟨s.tx, s.nb, s.ng, s.now, ns, s.ls⟩ N' L ∧ Stay (fun k => k = S) w (w.setCell ⟨S, 4, none⟩ (.slice N'.a N'.n N'.c)) :=
  ⟨⟨(other_cell _ _ _ _ _ (by omega)).trans h.c0, (other_cell _ _ _ _ _ (by omega)).trans h.c1, (other_cell _ _ _ _ _ (by omega)).trans h.c2, (other_cell _ _ _ _ _ (by omega)).trans h.c3, same_cell h.c4, (other_cell _ _ _ _ _ (by omega)).trans h.c5, fun j => by rw [World.frozen?_setCell]; exact h.fr j⟩, Stay.setCell _ _ _ rfl⟩
theorem SpC.set3 {w : World} {S : Nat} {s : Sp} {N L : RS} (h : SpC w S s N L) (v : Int) : SpC (w.setCell ⟨S, 3, none⟩ (.int .i64 v)) S ⟨s.tx, s.nb, s.ng, v, s.ns, s.ls⟩ N L ∧ Stay (fun k => k = S) w (w.setCell ⟨S, 3, none⟩ (.int .i64 v)) :=
  ⟨⟨(other_cell _ _ _ _ _ (by omega)).trans h.c0, (other_cell _ _ _ _ _ (by omega)).trans h.c1, (other_cell _ _ _ _ _ (by omega)).trans h.c2, same_cell h.c3, (other_cell _ _ _ _ _ (by omega)).trans h.c4, (other_cell _ _ _ _ _ (by omega)).trans h.c5, fun j => by rw [World.frozen?_setCell]; exact h.fr j⟩, Stay.setCell _ _ _ rfl⟩
theorem SpC.set2 {w : World} {S : Nat} {s : Sp} {N L : RS} (h : SpC w S s N L) (v : Int) : SpC (w.setCell ⟨S, 2, none⟩ (.int .i64 v)) S ⟨s.tx, s.nb, v, s.now, s.ns, s.ls⟩ N L ∧ Stay (fun k => k = S) w (w.setCell ⟨S, 2, none⟩ (.int .i64 v)) :=
  ⟨⟨(other_cell _ _ _ _ _ (by omega)).trans h.c0, (other_cell _ _ _ _ _ (by omega)).trans h.c1, same_cell h.c2, (other_cell _ _ _ _ _ (by omega)).trans h.c3, (other_cell _ _ _ _ _ (by omega)).trans h.c4, (other_cell _ _ _ _ _ (by omega)).trans h.c5, fun j => by rw [World.frozen?_setCell]; exact h.fr j⟩, Stay.setCell _ _ _ rfl⟩
theorem SpC.set1 {w : World} {S : Nat} {s : Sp} {N L : RS} (h : SpC w S s N L) (v : Int) : SpC (w.setCell ⟨S, 1, none⟩ (.int .i64 v)) S ⟨s.tx, v, s.ng, s.now, s.ns, s.ls⟩ N L ∧ Stay (fun k => k = S) w (w.setCell ⟨S, 1, none⟩ (.int .i64 v)) :=
  ⟨⟨(other_cell _ _ _ _ _ (by omega)).trans h.c0, same_cell h.c1, (other_cell _ _ _ _ _ (by omega)).trans h.c2, (other_cell _ _ _ _ _ (by omega)).trans h.c3, (other_cell _ _ _ _ _ (by omega)).trans h.c4, (other_cell _ _ _ _ _ (by omega)).trans h.c5, fun j => by rw [World.frozen?_setCell]; exact h.fr j⟩, Stay.setCell _ _ _ rfl⟩
theorem SpC.set0 {w : World} {S : Nat} {s : Sp} {N L : RS} (h : SpC w S s N L) (v : Int) : SpC (w.setCell ⟨S, 0, none⟩ (.int .i64 v)) S ⟨v, s.nb, s.ng, s.now, s.ns, s.ls⟩ N L ∧ Stay (fun k => k = S) w (w.setCell ⟨S, 0, none⟩ (.int .i64 v)) :=
  ⟨⟨same_cell h.c0, (other_cell _ _ _ _ _ (by omega)).trans h.c1, (other_cell _ _ _ _ _ (by omega)).trans h.c2, (other_cell _ _ _ _ _ (by omega)).trans h.c3, (other_cell _ _ _ _ _ (by omega)).trans h.c4, (other_cell _ _ _ _ _ (by omega)).trans h.c5, fun j => by rw [World.frozen?_setCell]; exact h.fr j⟩, Stay.setCell _ _ _ rfl⟩
structure RnwR (S : Nat) (s : Sp) (N : RS) (ys : LS) (w : World) (r : Ending) (w' : World) : Prop where
  ex : ∃ L' gl', r = .returned (.tuple #[]) ∧ SpC w' S ⟨s.tx, s.nb, s.ng, s.now, s.ns, ys⟩ N L' ∧ LO w.heap.size w' L'.a L'.n L'.c ys gl'
  st : Stay (fun k => k = S) w w'
theorem renewLease_ok {S : Nat} {w : World} {s : Sp} {N L : RS} (h : SpC w S s N L) (hL : LL w L.a L.n L.c s.ls) (c : Int) (ys : LS) (hr : renX s.ls c s.now = (ys, true)) :
    Calls Tryz.prog 101 #[.pointer (some ⟨S, 0, none⟩), .int .i64 c] w fun r w' => RnwR S s N ys w r w' := by
  obtain ⟨m, hm⟩ : ∃ m, ys.length = m := ⟨_, rfl⟩
  have CR : Hid (∀ W, Below w.heap.size w W → Calls Tryz.prog 140 #[.slice L.a L.n L.c, .int .i64 c, .int .i64 s.now] W fun e w' => LsR W.heap.size ys m (Lea.errV true) e w' ∧ Below W.heap.size W w') := fun W hb => Lea.renew_val (hL.below hb) c s.now ys true m hr hm
  have CT : Hid (∀ W a c, Calls Tryz.prog 139 #[.slice a m c, .int .i64 0] W fun e w' => e = .returned (.slice a m c) ∧ W = w') := fun W a c => (takenL_ok W).mono fun e w' ⟨h1, h2⟩ => ⟨h1, h2.symm⟩
  have HC : Hid (SpC w S s N L) := h
  obtain ⟨k0, k1, k2, k3, k4, k5, kf⟩ := h
  have hst2 := sto2
  have HS : Hid (S < w.heap.size) := World.block_lt_of_cell? _ _ k0
  clear hL hr hm k0 k1 k2 k4; go_enter Tryz.func101, Tryz.ntmps101; refine wp_region_any (by kernel_rfl) ?_
  try (change wpAny _ _ _ _ _ _ _ (World.drew _))
  refine wpAny_take (i := 0) (v := ?_) rfl (by kernel_rfl) (by kernel_rfl) (by kernel_rfl) (fun _ _ _ h => h) (Or.inl ⟨by rfl, ?_⟩) ?_
  rotate_left
  · intro w; go_simp; first | done | with_reducible rfl
  refine wpAny_take (i := 1) (v := ?_) rfl (by kernel_rfl) (by kernel_rfl) (by kernel_rfl) (fun _ _ _ h => h) (Or.inl ⟨by rfl, ?_⟩) ?_
  rotate_left
  · intro w; go_simp; first | done | with_reducible rfl
  refine wpAny_take (i := 2) (v := ?_) rfl (by kernel_rfl) (by kernel_rfl) (by kernel_rfl) (fun _ _ _ h => h) (Or.inl ⟨by rfl, ?_⟩) ?_
  rotate_left
  · intro w; go_simp; first | done | with_reducible rfl
  refine wpAny_take (i := 3) (v := ?_) rfl (by kernel_rfl) (by kernel_rfl) (by kernel_rfl) (fun _ _ _ h => h) (Or.inl ⟨by rfl, ?_⟩) ?_
  rotate_left
  · intro w; go_simp; first | done | with_reducible rfl
  refine wpAny_take (i := 5) (v := ?_) rfl (by kernel_rfl) (by kernel_rfl) (by kernel_rfl) (fun _ _ _ h => h) (Or.inl ⟨by rfl, ?_⟩) ?_
  rotate_left
  · intro w; go_simp; first | done | with_reducible rfl
  refine wpAny_take (i := 6) (v := ?_) rfl (by kernel_rfl) (by kernel_rfl) (by kernel_rfl) (fun _ _ _ h => h) (Or.inl ⟨by rfl, ?_⟩) ?_
  rotate_left
  · intro w; go_simp; first | done | with_reducible rfl
  refine wpAny_take (i := 7) (v := ?_) rfl (by kernel_rfl) (by kernel_rfl) (by kernel_rfl) (fun _ _ _ h => h) (Or.inl ⟨by rfl, ?_⟩) ?_
  rotate_left
  · intro w; go_simp; first | done | with_reducible rfl
  refine wpAny_take (i := 8) (v := ?_) rfl (by kernel_rfl) (by kernel_rfl) (by kernel_rfl) (fun _ _ _ h => h) (Or.inl ⟨by rfl, ?_⟩) ?_
  rotate_left
  · intro w; go_simp; first | done | with_reducible rfl
  refine wpAny_ready (rs := [4, 9]) (by kernel_rfl) (by simp) ?_
  refine AllReady.cons rfl (fun K hK => ?_) ?_
  · go_simp
    refine hK _ _ ?_
    clear hK K; refine wpAny_ready (rs := [9]) (by kernel_rfl) (by simp) ?_
    refine AllReady.cons rfl (fun K hK => ?_) ?_
    · go_simp
      refine hK _ _ ?_
      clear hK K; refine wpAny_ready (rs := [10]) (by kernel_rfl) (by simp) ?_
      refine AllReady.cons rfl (fun K hK => ?_) ?_
      · go_simp
        refine (CR.out _ (bel_drewN _ 1)).mono ?_; rintro e w1 ⟨⟨la2, lc2, g2, rfl, hLO⟩, c1⟩; have B0 : Hid (w.heap.size ≤ (w.drewN 1).heap.size) := Nat.le_refl _; have B1 : Hid (Below w.heap.size w w1) := bel_tr (bel_drewN w 1) c1; have d3 := bel_cell B1.out k3; have d5 := bel_cell B1.out k5; have df : w1.frozen? ⟨S, 5, none⟩ = false := (World.frozen?_of_block (a := ⟨S, 5, none⟩) (B1.out.block S HS.out)).trans (kf 5); have HLO : Hid (LO (w.drewN 1).heap.size w1 la2 m lc2 ys g2) := hLO; clear hLO c1; unfold Lea.errV; simp only [if_true]
        try go_simp
        refine hK _ _ ?_
        clear hK K; refine wpAny_take (i := 11) (v := ?_) rfl (by kernel_rfl) (by kernel_rfl) (by kernel_rfl) (fun _ _ _ h => h) (Or.inl ⟨by rfl, ?_⟩) ?_
        rotate_left
        · intro w; go_simp; first | done | with_reducible rfl
        refine wpAny_take (i := 12) (v := ?_) rfl (by kernel_rfl) (by kernel_rfl) (by kernel_rfl) (fun _ _ _ h => h) (Or.inl ⟨by rfl, ?_⟩) ?_
        rotate_left
        · intro w; go_simp; first | done | with_reducible rfl
        refine wpAny_ready (rs := [13]) (by kernel_rfl) (by simp) ?_
        refine AllReady.cons rfl (fun K hK => ?_) ?_
        · go_simp
          refine (CT.out _ _ _).mono ?_; rintro e w2 ⟨rfl, rfl⟩
          try go_simp
          refine hK _ _ ?_
          clear hK K; refine wpAny_take (i := 14) (v := ?_) rfl (by kernel_rfl) (by kernel_rfl) (by kernel_rfl) (fun _ _ _ h => h) (Or.inl ⟨by rfl, ?_⟩) ?_
          rotate_left
          · intro w; go_simp; first | done | with_reducible rfl
          refine wpAny_take (i := 15) (v := ?_) rfl (by kernel_rfl) (by kernel_rfl) (by kernel_rfl) (fun _ _ _ h => h) (Or.inl ⟨by rfl, ?_⟩) ?_
          rotate_left
          · intro w; go_simp; first | done | with_reducible rfl
          refine wpAny_ready (rs := [16]) (by kernel_rfl) (by simp) ?_
          refine AllReady.cons rfl (fun K hK => ?_) ?_
          · go_simp
            refine hK _ _ ?_
            clear hK K; refine wpAny_done (by kernel_rfl) ?_ _
            go_wp2; have hC1 := HC.out.below B1.out
            obtain ⟨r1, r2⟩ := hC1.set5 ⟨la2, m, lc2⟩ ys
            first | go_end0 | refine bodyPost_ret (results_none rfl _ _ _) rfl ?_
            exact ⟨⟨⟨la2, m, lc2⟩, g2, rfl, r1, (HLO.out.mono B0.out).cel.setOut ⟨S, 5, none⟩ _ (fun e => by have := HLO.out.own S e; have := B0.out; have := HS.out; omega), HLO.out.len⟩, (Stay.of_below B1.out).then_same r2⟩
          exact AllReady.nil
        exact AllReady.nil
      exact AllReady.nil
    exact AllReady.nil
  refine AllReady.cons rfl (fun K hK => ?_) ?_
  · go_simp
    refine hK _ _ ?_
    clear hK K; refine wpAny_ready (rs := [4]) (by kernel_rfl) (by simp) ?_
    refine AllReady.cons rfl (fun K hK => ?_) ?_
    · go_simp
      refine hK _ _ ?_
      clear hK K; refine wpAny_ready (rs := [10]) (by kernel_rfl) (by simp) ?_
      refine AllReady.cons rfl (fun K hK => ?_) ?_
      · go_simp
        refine (CR.out _ (bel_drewN _ 1)).mono ?_; rintro e w1 ⟨⟨la2, lc2, g2, rfl, hLO⟩, c1⟩; have B0 : Hid (w.heap.size ≤ (w.drewN 1).heap.size) := Nat.le_refl _; have B1 : Hid (Below w.heap.size w w1) := bel_tr (bel_drewN w 1) c1; have d3 := bel_cell B1.out k3; have d5 := bel_cell B1.out k5; have df : w1.frozen? ⟨S, 5, none⟩ = false := (World.frozen?_of_block (a := ⟨S, 5, none⟩) (B1.out.block S HS.out)).trans (kf 5); have HLO : Hid (LO (w.drewN 1).heap.size w1 la2 m lc2 ys g2) := hLO; clear hLO c1; unfold Lea.errV; simp only [if_true]
        try go_simp
        refine hK _ _ ?_
        clear hK K; refine wpAny_take (i := 11) (v := ?_) rfl (by kernel_rfl) (by kernel_rfl) (by kernel_rfl) (fun _ _ _ h => h) (Or.inl ⟨by rfl, ?_⟩) ?_
        rotate_left
        · intro w; go_simp; first | done | with_reducible rfl
        refine wpAny_take (i := 12) (v := ?_) rfl (by kernel_rfl) (by kernel_rfl) (by kernel_rfl) (fun _ _ _ h => h) (Or.inl ⟨by rfl, ?_⟩) ?_
        rotate_left
        · intro w; go_simp; first | done | with_reducible rfl
        refine wpAny_ready (rs := [13]) (by kernel_rfl) (by simp) ?_
        refine AllReady.cons rfl (fun K hK => ?_) ?_
        · go_simp
          refine (CT.out _ _ _).mono ?_; rintro e w2 ⟨rfl, rfl⟩
          try go_simp
          refine hK _ _ ?_
          clear hK K; refine wpAny_take (i := 14) (v := ?_) rfl (by kernel_rfl) (by kernel_rfl) (by kernel_rfl) (fun _ _ _ h => h) (Or.inl ⟨by rfl, ?_⟩) ?_
          rotate_left
          · intro w; go_simp; first | done | with_reducible rfl
          refine wpAny_take (i := 15) (v := ?_) rfl (by kernel_rfl) (by kernel_rfl) (by kernel_rfl) (fun _ _ _ h => h) (Or.inl ⟨by rfl, ?_⟩) ?_
          rotate_left
          · intro w; go_simp; first | done | with_reducible rfl
          refine wpAny_ready (rs := [16]) (by kernel_rfl) (by simp) ?_
          refine AllReady.cons rfl (fun K hK => ?_) ?_
          · go_simp
            refine hK _ _ ?_
            clear hK K; refine wpAny_done (by kernel_rfl) ?_ _
            go_wp2; have hC1 := HC.out.below B1.out
            obtain ⟨r1, r2⟩ := hC1.set5 ⟨la2, m, lc2⟩ ys
            first | go_end0 | refine bodyPost_ret (results_none rfl _ _ _) rfl ?_
            exact ⟨⟨⟨la2, m, lc2⟩, g2, rfl, r1, (HLO.out.mono B0.out).cel.setOut ⟨S, 5, none⟩ _ (fun e => by have := HLO.out.own S e; have := B0.out; have := HS.out; omega), HLO.out.len⟩, (Stay.of_below B1.out).then_same r2⟩
          exact AllReady.nil
        exact AllReady.nil
      exact AllReady.nil
    exact AllReady.nil
  exact AllReady.nil
theorem OwnM.renew {base M S : Nat} {w w' : World} {s : Sp} {N L L' : RS} {ps : List NR} {g gl gl' : Option Nat} {ys : LS} (h : OwnM base M w s N L ps g gl) (hM : M ≤ w.heap.size) (hS : S < base) (hb : base ≤ w.heap.size) (hL : LO w.heap.size w' L'.a L'.n L'.c ys gl') (hst : Stay (fun k => k = S) w w') : OwnM base w'.heap.size w' ⟨s.tx, s.nb, s.ng, s.now, s.ns, ys⟩ N L' ps g gl' := by
  have h1 := h.out hst (fun k hk => .inl (by omega))
  have ho := hL.own
  have hs := hst.size
  exact ⟨h1.lot, h1.map, hL.mono hb, fun k hk e => by have := h.lt1 k hk; have := (ho k e).2; omega, fun x hx k hk e => by have := h.lt3 x hx k hk; have := (ho k e).2; omega, fun k hk => by have := h.lt1 k hk; omega, fun k hk => (ho k hk).1, fun x hx k hk => by have := h.lt3 x hx k hk; omega⟩
theorem reopen_ok {base M0 S : Nat} {w : World} {s : Sp} {N L : RS} {ps : List NR} {gb : Nat} {gl : Option Nat} (h : Pre base M0 S w s N L ps gb gl) (e : Ed) (ea : Option Addr) (em eq : Nat) (hs : e.p.size ≤ maxLen) (i : Nat) (x : Nd) (hi : Is s.ns e.p i x) (hd : x.dir = false) (hw : x.wr = -1) (h8 : x.bs.length ≤ 8) (ys : LS) (hr : renX s.ls e.c s.now = (ys, true)) :
    Calls Tryz.prog 66 #[.pointer (some ⟨S, 0, none⟩), edV e ea em eq] w fun r w' => DoneR S base M0 ⟨s.tx, s.nb, s.ng, s.now, s.ns.set i (withWr x e.c), ys⟩ zeroB (withWr x e.c) w r w' := by
  have hiq : Is (ps.map (·.1)) e.p i x := by rw [h.own.map]; exact hi
  obtain ⟨r, hX⟩ := is_at' hiq
  obtain ⟨hF0, hg0, hiN, hpos, _⟩ := h.free' hX
  have hrn : x.bs.length = r.n := hF0.ok.bs.len
  have hxs : x.path.size ≤ maxLen := hF0.ok.small
  have CW : Hid (∀ W, Below w.heap.size w W → Calls Tryz.prog 111 #[.pointer (some ⟨S, 0, none⟩), .string e.p] W fun e w' => e = .returned (.pointer (some ⟨gb, i * 5, none⟩)) ∧ Below W.heap.size W w') := fun W hb => fileAt_ok ((h.below hb).lies hpos) e.p hs i x hiq hd
  have CR : Hid (∀ E W, Calls Tryz.prog 25 #[.bool false, .int .i64 E] W fun e w' => e = .returned (.tuple #[]) ∧ W = w') := fun E W => (refuse_no E W).mono fun e w' ⟨h1, h2⟩ => ⟨h1, h2.symm⟩
  have HX : Hid (ps[i]? = some (x, r)) := hX
  have HPRE : Hid (Pre base M0 S w s N L ps gb gl) := h
  have HRN : Hid (r.n ≤ 8) := by show r.n ≤ 8; omega
  obtain ⟨k, p, t, cl, l, nn, ls⟩ := e
  obtain ⟨xp, xd, xq, xb, xw⟩ := x
  obtain ⟨ra, rn, rc⟩ := r
  simp only at hw HX HRN hxs hr ⊢
  subst hw; have HR : Hid (renX s.ls cl s.now = (ys, true)) := hr
  have HN3 : Hid (∀ w2, Below w.heap.size w w2 → Pre base M0 S (w2.setCell ⟨gb, i * 5 + 4, none⟩ (.int .i64 cl)) ⟨s.tx, s.nb, s.ng, s.now, s.ns.set i ⟨xp, xd, xq, xb, cl⟩, s.ls⟩ N L (ps.set i (⟨xp, xd, xq, xb, cl⟩, ⟨ra, rn, rc⟩)) gb gl ∧ Stay (fun k => k = gb) w2 (w2.setCell ⟨gb, i * 5 + 4, none⟩ (.int .i64 cl))) := fun w2 hb => 
    (HPRE.out.below hb).f' HX.out 4 (by omega) (.int .i64 cl) ⟨xp, xd, xq, xb, cl⟩ (fun j => by
      match j with
      | 0 => rfl
      | 1 => rfl
      | 2 => rfl
      | 3 => rfl
      | 4 => rfl
      | j + 5 => rfl) rfl hxs
  have CL : Hid (∀ W, Pre base M0 S W ⟨s.tx, s.nb, s.ng, s.now, s.ns.set i ⟨xp, xd, xq, xb, cl⟩, s.ls⟩ N L (ps.set i (⟨xp, xd, xq, xb, cl⟩, ⟨ra, rn, rc⟩)) gb gl → Calls Tryz.prog 101 #[.pointer (some ⟨S, 0, none⟩), .int .i64 cl] W fun r w' => RnwR S ⟨s.tx, s.nb, s.ng, s.now, s.ns.set i ⟨xp, xd, xq, xb, cl⟩, s.ls⟩ N ys W r w') := fun W hP => renewLease_ok hP.c hP.own.lo.ll cl ys HR.out
  have CC : Hid (∀ W, Free base W (⟨xp, xd, xq, xb, cl⟩, ⟨ra, rn, rc⟩) → Calls Tryz.prog 44 #[.agg #[.string xp, .bool xd, .int .i64 xq, .slice ra rn rc, .int .i64 cl]] W fun e w' => CopyR W.heap.size ⟨xp, xd, xq, xb, cl⟩ e w' ∧ Below W.heap.size W w') := fun W hF => copiedNode_val (⟨xp, xd, xq, xb, cl⟩, ⟨ra, rn, rc⟩) W hF.ok (by show rn * 24 ≤ _; have := HRN.out; omega)
  have HND : Hid (∀ W W', Pre base M0 S W ⟨s.tx, s.nb, s.ng, s.now, s.ns.set i ⟨xp, xd, xq, xb, cl⟩, s.ls⟩ N L (ps.set i (⟨xp, xd, xq, xb, cl⟩, ⟨ra, rn, rc⟩)) gb gl → Stay (fun k => k = S) W W' → NdAt W' gb i (⟨xp, xd, xq, xb, cl⟩, ⟨ra, rn, rc⟩) ∧ Free base W' (⟨xp, xd, xq, xb, cl⟩, ⟨ra, rn, rc⟩)) := fun W W' hP hS => by
    have hf := hP.free' (set_at' HX.out _)
    have ha := (hP.lies hf.2.2.2.1).at' (set_at' HX.out _)
    have hlt := hP.lt
    have hsb := hP.sb
    refine ⟨?_, Free.out hf.1 hS (fun k hk => by omega)⟩
    have hb : W'.heap[gb]? = W.heap[gb]? := hS.block gb hlt.1 (by omega)
    exact ⟨(World.cell?_of_block (a := ⟨gb, i * 5, none⟩) hb).trans ha.c0, (World.cell?_of_block (a := ⟨gb, i * 5 + 1, none⟩) hb).trans ha.c1, (World.cell?_of_block (a := ⟨gb, i * 5 + 2, none⟩) hb).trans ha.c2, (World.cell?_of_block (a := ⟨gb, i * 5 + 3, none⟩) hb).trans ha.c3, (World.cell?_of_block (a := ⟨gb, i * 5 + 4, none⟩) hb).trans ha.c4⟩
  unfold edV; simp only at CW ⊢
  have hst := run_store_str
  have hst2 := sto2
  clear h hs hi hd h8 hiq hX hF0 hg0 hiN hpos hrn hxs hr; go_enter Tryz.func66, Tryz.ntmps66; go_wp2_with (first
    | (go_at_call 111; refine (CW.out _ (bel_tr (bel_al _ _) (bel_al _ _))).mono ?_; rintro e w1 ⟨rfl, c1⟩; obtain ⟨q1, q2, q3, q4, q5, q6⟩ := two_boxes c1; have y0 := q1 0 _ rfl; have y1 := q1 1 _ rfl; have y2 := q1 2 _ rfl; have y3 := q1 3 _ rfl; have y4 := q1 4 _ rfl; have y5 := q1 5 _ rfl; have y6 := q1 6 _ rfl; have B1 : Hid (Below w.heap.size w w1) := q5; have HAN : Hid (AnC w1 (w.heap.size + 1) 0 zeroB noS zeroX 0) := ⟨q3 0 _ rfl, q3 1 _ rfl, q3 2 _ rfl, q3 3 _ rfl, q3 4 _ rfl, q3 5 _ rfl, q3 6 _ rfl, q3 7 _ rfl, q3 8 _ rfl, q3 9 _ rfl, q3 10 _ rfl, q4⟩; have HSZ : Hid (w.heap.size + 2 ≤ w1.heap.size) := q6; clear c1 q1 q2 q3 q4 q5 q6; have hP1 := HPRE.out.below B1.out; obtain ⟨n0, n1, n2, n3, n4⟩ := (hP1.lies (hP1.free' HX.out).2.2.2.1).at' HX.out; have hfz := (hP1.free' HX.out).2.2.2.2 4 (by omega); have HP3 : Hid _ := HN3.out w1 B1.out; simp only at n0 n1 n2 n3 n4; clear hP1)
    | (go_at_call 25; refine (CR.out _ _).mono ?_; rintro e w2 ⟨rfl, rfl⟩)
    | (go_at_call 101; refine (CL.out _ HP3.out.1).mono ?_; rintro e w5 ⟨⟨L', gl', rfl, hC5, hL5⟩, hS5⟩; have HC5 : Hid _ := hC5; have HL5 : Hid _ := hL5; have HS5 : Hid _ := hS5; clear hC5 hL5 hS5; have HP5 : Hid (NdAt w5 gb i (⟨xp, xd, xq, xb, cl⟩, ⟨ra, rn, rc⟩) ∧ Free base w5 (⟨xp, xd, xq, xb, cl⟩, ⟨ra, rn, rc⟩)) := HND.out _ _ HP3.out.1 HS5.out; obtain ⟨v0, v1, v2, v3, v4⟩ := HP5.out.1; simp only at v0 v1 v2 v3 v4))
  refine (CC.out _ HP5.out.2).mono ?_
  rintro e w4 ⟨⟨sx, rfl, hF4⟩, c4⟩; have HF4 : Hid (Free w5.heap.size w4 (⟨xp, xd, xq, xb, cl⟩, sx)) := hF4
  have B4 : Hid (Below w5.heap.size w5 w4) := c4
  have hgt := HPRE.out.lt
  have hsb := HPRE.out.sb
  have hbw := HPRE.out.bw
  have HAN4 : Hid (AnC w4 (w.heap.size + 1) 0 zeroB noS zeroX 0) := ((HAN.out.keep HP3.out.2 (fun e => by omega)).keep HS5.out (fun e => by omega)).below c4
  obtain ⟨a0, a1, a2, a3, a4, a5, a6, a7, a8, a9, a10, afr⟩ := HAN4.out
  unfold ndV; unfold zeroB at a1 a2 a3; unfold noS at a4; unfold zeroX zeroN noS at a5 a6 a7 a8 a9; simp only at a1 a2 a3 a4 a5 a6 a7 a8 a9 ⊢
  clear hF4 c4; go_wp2; have hsz3 : w.heap.size + 2 ≤ (w1.setCell ⟨gb, i * 5 + 4, none⟩ (.int .i64 cl)).heap.size := by
    have h2 := HP3.out.2.size
    have := HSZ.out
    omega
  have hsz5 := HS5.out.size
  have hO4 := ((HP3.out.1.own.at HPRE.out.m.1 HPRE.out.m.2.1 (set_blk HX.out HPRE.out.m.2.2)).renew (by omega) hsb (by omega) HL5.out HS5.out).below B4.out
  have hlo := HL5.out.own
  have hst4 : Stay (Chg S base M0) w w4 :=
    (((Stay.of_below B1.out).trans HP3.out.2 (fun k _ e => .inr ⟨by omega, by omega⟩)).trans HS5.out (fun k _ e => .inl e)).then_below B4.out
  obtain ⟨hA, hD⟩ := DoneR.mk2 (b := zeroB) (x := ⟨xp, xd, xq, xb, cl⟩) (sx := sx) HAN4.out (HC5.out.below B4.out) hO4 HF4.out (by omega) hst4 (by omega) HPRE.out.bw HPRE.out.lt.2.2.1 (fun k hk => by have := HPRE.out.m1; have := HPRE.out.mw; cases hk; omega) (fun k hk => by have := (hlo k hk).2; omega) (fun z hz k hk => by have := set_blk HX.out HPRE.out.m3 z hz k hk; have := HPRE.out.mw; omega) (fun k hk => by have h1 := HF4.out.blk_ge k hk; omega)
  have k0 := hA.c0
  have k1 := hA.c1
  have k2 := hA.c2
  have k3 := hA.c3
  have k4 := hA.c4
  have k5 := hA.c5
  have k6 := hA.c6
  have k7 := hA.c7
  have k8 := hA.c8
  have k9 := hA.c9
  have k10 := hA.c10
  unfold put11 noS at k0 k1 k2 k3 k4 k5 k6 k7 k8 k9 k10 hD; simp only [zeroB, anV] at k0 k1 k2 k3 k4 k5 k6 k7 k8 k9 k10 hD
  refine bodyPost_ret ?_ rfl hD
  simp only [results, Tryz.results66]
  simp [go_sem, k0, k1, k2, k3, k4, k5, k6, k7, k8, k9, k10]
theorem reopen_file {base M0 S : Nat} {w : World} {s : Sp} {N L : RS} {ps : List NR} {gb : Nat} {gl : Option Nat} (h : Pre base M0 S w s N L ps gb gl) (e : Ed) (ea : Option Addr) (em eq : Nat) (hs : e.p.size ≤ maxLen) (E : Int) (hE : FileE s.ns e.p E) (h0 : E ≠ 0) (hp : 0 < ps.length) :
    Calls Tryz.prog 66 #[.pointer (some ⟨S, 0, none⟩), edV e ea em eq] w fun r w' => LeftR S base M0 E w r w' := by
  have hE2 : FileE (ps.map (·.1)) e.p E := by rw [h.own.map]; exact hE
  have CW : Hid (∀ W, Below w.heap.size w W → Calls Tryz.prog 111 #[.pointer (some ⟨S, 0, none⟩), .string e.p] W fun e w' => e = leftV E ∧ Below W.heap.size W w') := fun W hb => fileAt_no ((h.below hb).lies hp) e.p hs E hE2 h0
  obtain ⟨k, p, t, cl, l, nn, ls⟩ := e
  unfold edV; simp only at CW ⊢
  have hst := run_store_str
  clear h hs hE hE2 h0 hp; go_enter Tryz.func66, Tryz.ntmps66; go_wp2_with (go_at_call 111; refine (CW.out _ (bel_tr (bel_al _ _) (bel_al _ _))).mono ?_; rintro e w1 ⟨rfl, c1⟩)
  exact left_post rfl (LeftR.of (bel_tr (bel_tr (bel_al _ _) (bel_al _ _)) c1))
theorem reopen_lease {base M0 S : Nat} {w : World} {s : Sp} {N L : RS} {ps : List NR} {gb : Nat} {gl : Option Nat} (h : Pre base M0 S w s N L ps gb gl) (e : Ed) (ea : Option Addr) (em eq : Nat) (hs : e.p.size ≤ maxLen) (i : Nat) (x : Nd) (hi : Is s.ns e.p i x) (hd : x.dir = false) (hw : x.wr ≠ -1) :
    Calls Tryz.prog 66 #[.pointer (some ⟨S, 0, none⟩), edV e ea em eq] w fun r w' => LeftR S base M0 9 w r w' := by
  have hiq : Is (ps.map (·.1)) e.p i x := by rw [h.own.map]; exact hi
  obtain ⟨r, hX⟩ := is_at' hiq
  obtain ⟨hF0, hg0, hiN, hpos, _⟩ := h.free' hX
  have CW : Hid (∀ W, Below w.heap.size w W → Calls Tryz.prog 111 #[.pointer (some ⟨S, 0, none⟩), .string e.p] W fun e w' => e = .returned (.pointer (some ⟨gb, i * 5, none⟩)) ∧ Below W.heap.size W w') := fun W hb => fileAt_ok ((h.below hb).lies hpos) e.p hs i x hiq hd
  have HX : Hid (ps[i]? = some (x, r)) := hX
  have HPRE : Hid (Pre base M0 S w s N L ps gb gl) := h
  obtain ⟨k, p, t, cl, l, nn, ls⟩ := e
  obtain ⟨xp, xd, xq, xb, xw⟩ := x
  have hwb : (xw != -1) = true := by simpa using hw
  unfold edV; simp only at CW ⊢
  have hst := run_store_str
  clear h hs hi hd hiq hX hF0 hg0 hiN hpos hw; go_enter Tryz.func66, Tryz.ntmps66; go_wp2_with (first
    | (go_at_call 111; refine (CW.out _ (bel_tr (bel_al _ _) (bel_al _ _))).mono ?_; rintro e w1 ⟨rfl, c1⟩; have B1 : Hid (Below w.heap.size w w1) := bel_tr (bel_tr (bel_al _ _) (bel_al _ _)) c1; have hP1 := HPRE.out.below B1.out; have n4 := ((hP1.lies (hP1.free' HX.out).2.2.2.1).at' HX.out).c4; simp only at n4; clear hP1 c1)
    | (go_at_call 25; refine (refuse_yes _ _).mono ?_; rintro e w2 ⟨rfl, hw2⟩; subst hw2))
  exact left_post rfl (LeftR.of B1.out)
theorem setQuota_ok {base M0 S : Nat} {w : World} {s : Sp} {N L : RS} {ps : List NR} {gb : Nat} {gl : Option Nat} (h : Pre base M0 S w s N L ps gb gl) (e : Ed) (ea : Option Addr) (em eq : Nat) (hs : e.p.size ≤ maxLen) (hR : Right s.ns) (i : Nat) (x : Nd) (hi : Is s.ns e.p i x) (hd : x.dir = true) (hq : e.n ≠ -1 → (cntL s.ns e.p : Int) ≤ e.n) :
    Calls Tryz.prog 63 #[.pointer (some ⟨S, 0, none⟩), edV e ea em eq] w fun r w' => UnitR S base M0 ⟨s.tx, s.nb, s.ng, s.now, s.ns.set i (withQu x e.n), s.ls⟩ w r w' := by
  have hiq : Is (ps.map (·.1)) e.p i x := by rw [h.own.map]; exact hi
  obtain ⟨r, hX⟩ := is_at' hiq
  obtain ⟨hF0, hg0, hiN, hpos, _⟩ := h.free' hX
  have hxs : x.path.size ≤ maxLen := hF0.ok.small
  have CN : Hid (∀ W, Below w.heap.size w W → Calls Tryz.prog 109 #[.pointer (some ⟨S, 0, none⟩), .string e.p] W fun e w' => e = .returned (.pointer (some ⟨gb, i * 5, none⟩)) ∧ Below W.heap.size W w') := fun W hb => nodeAt_ok ((h.below hb).lies hpos).c4 ((h.below hb).lies hpos).nl e.p hs i x hiq
  have HX : Hid (ps[i]? = some (x, r)) := hX
  have HPRE : Hid (Pre base M0 S w s N L ps gb gl) := h
  have HNA : Hid (N.a = some ⟨gb, 0, none⟩) := h.na
  have CQ : Hid (∀ W, Below w.heap.size w W → Calls Tryz.prog 110 #[.slice (some ⟨gb, 0, none⟩) N.n N.c, .string e.p] W fun r' w' => r' = .returned (.int .i64 (cntL s.ns e.p : Int)) ∧ Below W.heap.size W w') := fun W hb => by
    have := ((h.below hb).lies hpos).nl
    rw [h.own.map] at this
    exact count_val this true ⟨fun _ => hR, fun _ => rfl⟩ e.p hs _ rfl
  have CR : Hid (∀ E W, Calls Tryz.prog 25 #[.bool false, .int .i64 E] W fun e w' => e = .returned (.tuple #[]) ∧ W = w') := fun E W => (refuse_no E W).mono fun e w' ⟨h1, h2⟩ => ⟨h1, h2.symm⟩
  have CRB : Hid (∀ E W, Calls Tryz.prog 25 #[.bool false, .int .i64 E] W fun e w' => e = .returned (.tuple #[]) ∧ Below W.heap.size W w') := fun E W => (refuse_no E W).mono fun e w' ⟨h1, h2⟩ => ⟨h1, by rw [h2]; exact Below.refl _ _⟩
  obtain ⟨k, p, t, cl, l, nn, ls⟩ := e
  obtain ⟨xp, xd, xq, xb, xw⟩ := x
  obtain ⟨ra, rn, rc⟩ := r
  simp only at hd HX hxs hq ⊢
  subst hd; have HN3 : Hid (∀ w2, Below w.heap.size w w2 → Pre base M0 S (w2.setCell ⟨gb, i * 5 + 2, none⟩ (.int .i64 nn)) ⟨s.tx, s.nb, s.ng, s.now, s.ns.set i ⟨xp, true, nn, xb, xw⟩, s.ls⟩ N L (ps.set i (⟨xp, true, nn, xb, xw⟩, ⟨ra, rn, rc⟩)) gb gl ∧ Stay (fun k => k = gb) w2 (w2.setCell ⟨gb, i * 5 + 2, none⟩ (.int .i64 nn))) := fun w2 hb => 
    (HPRE.out.below hb).f' HX.out 2 (by omega) (.int .i64 nn) ⟨xp, true, nn, xb, xw⟩ (fun j => by
      match j with
      | 0 => rfl
      | 1 => rfl
      | 2 => rfl
      | 3 => rfl
      | 4 => rfl
      | j + 5 => rfl) rfl hxs
  obtain ⟨C, hC⟩ : ∃ C : Int, (cntL s.ns p : Int) = C := ⟨_, rfl⟩
  unfold edV; simp only at CN CQ ⊢
  rw [hC] at CQ hq
  have hst := run_store_str
  have hst2 := sto2
  clear h hs hi hiq hX hF0 hg0 hiN hpos hxs hR hC; have tail : ∀ w2, Below w.heap.size w w2 → UnitR S base M0 ⟨s.tx, s.nb, s.ng, s.now, s.ns.set i (withQu ⟨xp, true, xq, xb, xw⟩ nn), s.ls⟩ w (.returned (.tuple #[])) (w2.setCell ⟨gb, i * 5 + 2, none⟩ (.int .i64 nn)) := fun w2 hb => by
    obtain ⟨h1, h2⟩ := HN3.out w2 hb
    have hgb := HPRE.out.lt
    exact ⟨⟨N, L, _, some gb, gl, rfl, h1.c, h1.own.m, fun k hk => .inl (by cases hk; exact h1.m1), fun k hk => .inl (h1.m2 k hk), fun x hx k hk => .inl (h1.m3 x hx k hk)⟩, (Stay.of_below hb).trans h2 (fun k _ e => .inr ⟨by omega, by omega⟩)⟩
  have HT : Hid _ := tail
  clear tail; by_cases hn1 : nn = -1
  · have hnb : (nn != -1) = false := by simp [hn1]
    clear hq hn1; go_enter Tryz.func63, Tryz.ntmps63; go_wp2_with (first
      | (go_at_call 109; refine (CN.out _ (bel_al _ _)).mono ?_; rintro e w1 ⟨rfl, c1⟩; have B1 : Hid (Below w.heap.size w w1) := bel_tr (bel_al _ _) c1; have y1 := bel_cell c1 (World.cell?_alloc_new w _ _ 1); have y5 := bel_cell c1 (World.cell?_alloc_new w _ _ 5); have hP1 := HPRE.out.below B1.out; obtain ⟨n0, n1, n2, n3, n4⟩ := (hP1.lies (hP1.free' HX.out).2.2.2.1).at' HX.out; simp only at n0 n1 n2 n3 n4; clear hP1 c1)
      | (go_at_call 25; refine (CR.out _ _).mono ?_; rintro e w2 ⟨rfl, rfl⟩))
    have r5 : ∀ dd os, (Sort.grow (redrawn w1 dd) os).cell? ⟨w.heap.size, 5, none⟩ = some (.int .i64 nn) := fun dd os => cell_regrown y5 dd os
    refine wp_region_quiet_below (by kernel_rfl) (by kernel_rfl) ?_
    repeat (first | go_big_quiet_step (exact Calls.regrown_of (CRB.out _ _)) | quiet_step (exact Calls.regrown_of (CRB.out _ _)))
    refine wpQuiet_nil ?_
    intro _ hw'
    obtain ⟨⟨dq, osq⟩, hw''⟩ := hw'
    subst hw''
    have B5 : Hid (Below w.heap.size w (Sort.grow (redrawn w1 dq) osq)) := bel_tr B1.out (below_regrown w1 dq osq)
    have z5 := r5 dq osq
    have hP5 := HPRE.out.below B5.out
    have v2 := ((hP5.lies (hP5.free' HX.out).2.2.2.1).at' HX.out).c2
    have hfz := (hP5.free' HX.out).2.2.2.2 2 (by omega)
    have HT5 : Hid _ := HT.out _ B5.out
    simp only at v2
    clear r5 hP5; generalize Sort.grow (redrawn w1 dq) osq = w5 at *
    go_wp2
    first | go_end0 | refine bodyPost_ret (results_none rfl _ _ _) rfl ?_
    exact HT5.out
  · have hnb : (nn != -1) = true := by simpa using hn1
    have hlt : decide (nn < C) = false := decide_eq_false (by have := hq hn1; omega)
    clear hq hn1; go_enter Tryz.func63, Tryz.ntmps63; go_wp2_with (first
      | (go_at_call 109; refine (CN.out _ (bel_al _ _)).mono ?_; rintro e w1 ⟨rfl, c1⟩; have B1 : Hid (Below w.heap.size w w1) := bel_tr (bel_al _ _) c1; have y1 := bel_cell c1 (World.cell?_alloc_new w _ _ 1); have y5 := bel_cell c1 (World.cell?_alloc_new w _ _ 5); have hP1 := HPRE.out.below B1.out; obtain ⟨n0, n1, n2, n3, n4⟩ := (hP1.lies (hP1.free' HX.out).2.2.2.1).at' HX.out; have k4 := (hP1.lies (hP1.free' HX.out).2.2.2.1).c4; simp only at n0 n1 n2 n3 n4; clear hP1 c1)
      | (go_at_call 25; refine (CR.out _ _).mono ?_; rintro e w2 ⟨rfl, rfl⟩))
    have r5 : ∀ dd os, (Sort.grow (redrawn w1 dd) os).cell? ⟨w.heap.size, 5, none⟩ = some (.int .i64 nn) := fun dd os => cell_regrown y5 dd os
    have r1 : ∀ dd os, (Sort.grow (redrawn w1 dd) os).cell? ⟨w.heap.size, 1, none⟩ = some (.string p) := fun dd os => cell_regrown y1 dd os
    have r4 : ∀ dd os, (Sort.grow (redrawn w1 dd) os).cell? ⟨S, 4, none⟩ = some (.slice (some ⟨gb, 0, none⟩) N.n N.c) := fun dd os => cell_regrown k4 dd os
    have CQ2 : Hid (∀ dd os, Calls Tryz.prog 110 #[.slice (some ⟨gb, 0, none⟩) N.n N.c, .string p] (Sort.grow (redrawn w1 dd) os) fun r' w' => r' = .returned (.int .i64 C) ∧ Below (Sort.grow (redrawn w1 dd) os).heap.size (Sort.grow (redrawn w1 dd) os) w') := fun dd os => CQ.out _ (bel_tr B1.out (below_regrown w1 dd os))
    refine wp_region_quiet_below (by kernel_rfl) (by kernel_rfl) ?_
    repeat (first | go_big_quiet_step (first | exact Calls.regrown_of (CRB.out _ _) | exact Calls.regrown_of (CQ2.out _ _)) | quiet_step (first | exact Calls.regrown_of (CRB.out _ _) | exact Calls.regrown_of (CQ2.out _ _)))
    refine wpQuiet_nil ?_
    intro _ hw'
    obtain ⟨⟨dq, osq⟩, hw''⟩ := hw'
    subst hw''
    have B5 : Hid (Below w.heap.size w (Sort.grow (redrawn w1 dq) osq)) := bel_tr B1.out (below_regrown w1 dq osq)
    have z5 := r5 dq osq
    have hP5 := HPRE.out.below B5.out
    have v2 := ((hP5.lies (hP5.free' HX.out).2.2.2.1).at' HX.out).c2
    have hfz := (hP5.free' HX.out).2.2.2.2 2 (by omega)
    have HT5 : Hid _ := HT.out _ B5.out
    simp only at v2
    clear r5 r1 r4 CQ2 hP5; generalize Sort.grow (redrawn w1 dq) osq = w5 at *
    go_wp2
    first | go_end0 | refine bodyPost_ret (results_none rfl _ _ _) rfl ?_
    exact HT5.out
theorem catch_panic {R A : Nat} {w : World} {s0 : Sp} {N0 L0 : RS} {E0 : Int} {b0 : Blk} {T0 : RS} {x0 : NR} {n0 : Int} (hR : SpC w R s0 N0 L0) (hA : AnC w A E0 b0 T0 x0 n0) (hne : R ≠ A) (E : Int) (older : List PanicEntry) :
    CallsD Tryz.prog 23 #[.pointer (some ⟨R, 0, none⟩), .pointer (some ⟨A, 0, none⟩)] (.panicking ({ v := .iface 29 (.int .i64 E), recovered := false } :: older)) w fun e u' w' =>
      e = .returned (.tuple #[]) ∧ u' = .panicking ({ v := .iface 29 (.int .i64 E), recovered := true } :: older) ∧ w' = put11 (put6 w R zeroS noS noS) A E zeroB noS zeroX 0 := by
  refine callsD_of_wpS Tryz.func23 rfl fun c₀ cs hu => ?_
  apply wpS_seq
  apply wpS_region
  simp [wpOpsS, go_sem, recoverD, hu, Tryz.ntmps23, Exit.thenS]
  refine wpS_of_wp ?_
  have hst := run_store_str
  have hst2 := sto2
  obtain ⟨p0, p1, p2, p3, p4, p5, pf⟩ := hR
  obtain ⟨a0, a1, a2, a3, a4, a5, a6, a7, a8, a9, a10, af⟩ := hA
  have CR : Hid (∀ W, Calls Tryz.prog 24 #[.iface 29 (.int .i64 E)] W fun e w' => e = .returned (.int .i64 E) ∧ W = w') := fun W => (reason_val E W).mono fun e w' ⟨h1, h2⟩ => ⟨h1, h2.symm⟩
  have hne2 : ¬ A = R := fun e => hne e.symm
  go_wp2_with (go_at_call 24; refine (CR.out _).mono ?_; rintro e w1 ⟨rfl, rfl⟩)
  exact ⟨rfl, _, rfl, .tuple #[], by simp [results, Tryz.results23], rfl, rfl, rfl⟩
theorem catch_idle {R A : Nat} {w : World} :
    CallsD Tryz.prog 23 #[.pointer (some ⟨R, 0, none⟩), .pointer (some ⟨A, 0, none⟩)] .returning w fun e u' w' => e = .returned (.tuple #[]) ∧ u' = .returning ∧ w' = w := by
  refine callsD_of_wpS Tryz.func23 rfl fun c₀ cs hu => ?_
  apply wpS_seq
  apply wpS_region
  simp [wpOpsS, go_sem, recoverD, hu, Tryz.ntmps23, Exit.thenS]
  refine wpS_of_wp ?_
  go_wp2; cases c₀
  simp_all [bodyPostS, results, Tryz.results23]
end Go.Proofs.YtdilfbfkeiaafaaGreat.Spa
