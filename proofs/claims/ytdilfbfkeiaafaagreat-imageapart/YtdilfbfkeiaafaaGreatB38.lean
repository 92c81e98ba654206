/- Part 38 of the proof: SpaceFI. -/
import Derived.Test.YtdilfbfkeiaafaaGreatB34
set_option maxRecDepth 100000
set_option maxHeartbeats 8000000
namespace Go.Proofs.YtdilfbfkeiaafaaGreat.Spa
open Go.RowKit Go.Proofs.YtdilfbfkeiaafaaGreat
open Go.Proofs.YtdilfbfkeiaafaaGreat.Lea (LS Ls findX putL renX LL LO LsR lsC wideL)
open Go.Proofs.YtdilfbfkeiaafaaGreat.Edi (Ed Nm EdAt edV)
theorem stay_cel {O : Nat → Prop} {w w' : World} (hs : Stay O w w') {b j : Nat} {v : Value} (hO : ¬ O b) (hc : w.cell? ⟨b, j, none⟩ = some v) : w'.cell? ⟨b, j, none⟩ = some v :=
  (World.cell?_of_block (a := ⟨b, j, none⟩) (hs.block b (World.block_lt_of_cell? _ _ hc) hO)).trans hc
theorem bump_writ {base M0 S : Nat} {w : World} {s : Sp} {N L : RS} {ps : List NR} {gb : Nat} {gl : Option Nat} (h : Pre base M0 S w s N L ps gb gl) (e : Ed) (ea : Option Addr) (em eq : Nat) (hs : e.p.size ≤ maxLen) (E : Int) (hE : WritE s.ns e.p e.c E) (h0 : E ≠ 0) (hp : 0 < ps.length) :
    Calls Tryz.prog 65 #[.pointer (some ⟨S, 0, none⟩), edV e ea em eq] w fun r w' => LeftR S base M0 E w r w' := by
  have hE2 : WritE (ps.map (·.1)) e.p e.c E := by rw [h.own.map]; exact hE
  have CW : Hid (∀ W, Below w.heap.size w W → Calls Tryz.prog 107 #[.pointer (some ⟨S, 0, none⟩), edV e ea em eq] W fun e w' => e = leftV E ∧ Below W.heap.size W w') := fun W hb => written_no ((h.below hb).lies hp) e ea em eq hs E hE2 h0
  obtain ⟨k, p, t, cl, l, nn, ls⟩ := e
  unfold edV at CW ⊢
  simp only at CW ⊢
  have hst := run_store_str
  clear h hs hE hE2 h0 hp; go_enter Tryz.func65, Tryz.ntmps65; go_wp2_with (go_at_call 107; refine (CW.out _ (bel_tr (bel_al _ _) (bel_al _ _))).mono ?_; rintro e w1 ⟨rfl, c1⟩)
  exact left_post rfl (LeftR.of (bel_tr (bel_tr (bel_al _ _) (bel_al _ _)) c1))
theorem bump_arg {base M0 S : Nat} {w : World} {s : Sp} {N L : RS} {ps : List NR} {gb : Nat} {gl : Option Nat} (h : Pre base M0 S w s N L ps gb gl) (e : Ed) (ea : Option Addr) (em eq : Nat) (hs : e.p.size ≤ maxLen) (i : Nat) (x : Nd) (hw : Wr s e i x) (hl : (x.bs.length : Int) ≤ e.n) :
    Calls Tryz.prog 65 #[.pointer (some ⟨S, 0, none⟩), edV e ea em eq] w fun r w' => LeftR S base M0 1 w r w' := by
  have hiq : Is (ps.map (·.1)) e.p i x := by rw [h.own.map]; exact hw.is
  obtain ⟨r, hX⟩ := is_at' hiq
  obtain ⟨hF0, hg0, hiN, hpos, _⟩ := h.free' hX
  have hrn : x.bs.length = r.n := hF0.ok.bs.len
  have CW : Hid (∀ W, Below w.heap.size w W → Calls Tryz.prog 107 #[.pointer (some ⟨S, 0, none⟩), edV e ea em eq] W fun e w' => e = .returned (.pointer (some ⟨gb, i * 5, none⟩)) ∧ Below W.heap.size W w') := fun W hb => written_ok ((h.below hb).lies hpos) e ea em eq hs i x hiq hw.dir hw.wr
  have HX : Hid (ps[i]? = some (x, r)) := hX
  have HPRE : Hid (Pre base M0 S w s N L ps gb gl) := h
  obtain ⟨k, p, t, cl, l, nn, ls⟩ := e
  obtain ⟨xp, xd, xq, xb, xw⟩ := x
  obtain ⟨ra, rn, rc⟩ := r
  simp only at hrn hl HX
  have hge : decide ((rn : Int) ≤ nn) = true := decide_eq_true (by omega)
  unfold edV at CW ⊢
  simp only at CW ⊢
  have hst := run_store_str
  clear h hs hw hiq hX hF0 hg0 hiN hpos hrn hl; go_enter Tryz.func65, Tryz.ntmps65; go_wp2_with (go_at_call 107; refine (CW.out _ (bel_tr (bel_al _ _) (bel_al _ _))).mono ?_; rintro e w1 ⟨rfl, c1⟩; obtain ⟨q1, q2, q3, q4, q5, q6⟩ := two_boxes c1; have y5 := q1 5 _ rfl; have B1 : Hid (Below w.heap.size w w1) := q5; have hP1 := HPRE.out.below q5; have n3 := ((hP1.lies (hP1.free' HX.out).2.2.2.1).at' HX.out).c3; simp only at n3; clear hP1 c1 q1 q2 q3 q4 q5 q6)
  refine wp_region_any (by kernel_rfl) ?_
  try (change wpAny _ _ _ _ _ _ _ (World.drew _))
  refine wpAny_take (i := 0) (v := ?_) rfl (by kernel_rfl) (by kernel_rfl) (by kernel_rfl) (fun _ _ _ h => h) (Or.inl ⟨by rfl, ?_⟩) ?_
  rotate_left
  · intro w; go_simp; first | done | with_reducible rfl
  refine wpAny_take (i := 2) (v := ?_) rfl (by kernel_rfl) (by kernel_rfl) (by kernel_rfl) (fun _ _ _ h => h) (Or.inl ⟨by rfl, ?_⟩) ?_
  rotate_left
  · intro w; go_simp; first | done | with_reducible rfl
  refine wpAny_take (i := 3) (v := ?_) rfl (by kernel_rfl) (by kernel_rfl) (by kernel_rfl) (fun _ _ _ h => h) (Or.inl ⟨by rfl, ?_⟩) ?_
  rotate_left
  · intro w; go_simp; first | done | with_reducible rfl
  refine wpAny_take (i := 4) (v := ?_) rfl (by kernel_rfl) (by kernel_rfl) (by kernel_rfl) (fun _ _ _ h => h) (Or.inl ⟨by rfl, ?_⟩) ?_
  rotate_left
  · intro w; go_simp; first | done | with_reducible rfl
  refine wpAny_ready (rs := [1, 5]) (by kernel_rfl) (by simp) ?_
  refine AllReady.cons rfl (fun K hK => ?_) ?_
  · go_simp
    refine hK _ _ ?_
    clear hK K; refine wpAny_ready (rs := [5]) (by kernel_rfl) (by simp) ?_
    refine AllReady.cons rfl (fun K hK => ?_) ?_
    · go_simp
      refine hK _ _ ?_
      clear hK K; refine wpAny_ready (rs := [6]) (by kernel_rfl) (by simp) ?_
      refine AllReady.cons rfl (fun K hK => ?_) ?_
      · go_simp
        refine hK _ _ ?_
        clear hK K; refine wpAny_take (i := 7) (v := ?_) rfl (by kernel_rfl) (by kernel_rfl) (by kernel_rfl) (fun _ _ _ h => h) (Or.inl ⟨by rfl, ?_⟩) ?_
        rotate_left
        · intro w; go_simp; first | done | with_reducible rfl
        refine wpAny_ready (rs := [8]) (by kernel_rfl) (by simp) ?_
        refine AllReady.cons rfl (fun K hK => ?_) ?_
        · go_simp
          refine (refuse_yes _ _).mono ?_; rintro e w2 ⟨rfl, hw2⟩; subst hw2; exact left_post rfl (LeftR.of (bel_tr B1.out (bel_drewN _ 1)))
        exact AllReady.nil
      exact AllReady.nil
    exact AllReady.nil
  refine AllReady.cons rfl (fun K hK => ?_) ?_
  · go_simp
    refine hK _ _ ?_
    clear hK K; refine wpAny_ready (rs := [1, 6]) (by kernel_rfl) (by simp) ?_
    refine AllReady.cons rfl (fun K hK => ?_) ?_
    · go_simp
      refine hK _ _ ?_
      clear hK K; refine wpAny_ready (rs := [6]) (by kernel_rfl) (by simp) ?_
      refine AllReady.cons rfl (fun K hK => ?_) ?_
      · go_simp
        refine hK _ _ ?_
        clear hK K; refine wpAny_take (i := 7) (v := ?_) rfl (by kernel_rfl) (by kernel_rfl) (by kernel_rfl) (fun _ _ _ h => h) (Or.inl ⟨by rfl, ?_⟩) ?_
        rotate_left
        · intro w; go_simp; first | done | with_reducible rfl
        refine wpAny_ready (rs := [8]) (by kernel_rfl) (by simp) ?_
        refine AllReady.cons rfl (fun K hK => ?_) ?_
        · go_simp
          refine (refuse_yes _ _).mono ?_; rintro e w2 ⟨rfl, hw2⟩; subst hw2; exact left_post rfl (LeftR.of (bel_tr B1.out (bel_drewN _ 1)))
        exact AllReady.nil
      exact AllReady.nil
    refine AllReady.cons rfl (fun K hK => ?_) ?_
    · go_simp
      refine hK _ _ ?_
      clear hK K; refine wpAny_ready (rs := [1]) (by kernel_rfl) (by simp) ?_
      refine AllReady.cons rfl (fun K hK => ?_) ?_
      · go_simp
        refine hK _ _ ?_
        clear hK K; refine wpAny_take (i := 7) (v := ?_) rfl (by kernel_rfl) (by kernel_rfl) (by kernel_rfl) (fun _ _ _ h => h) (Or.inl ⟨by rfl, ?_⟩) ?_
        rotate_left
        · intro w; go_simp; first | done | with_reducible rfl
        refine wpAny_ready (rs := [8]) (by kernel_rfl) (by simp) ?_
        refine AllReady.cons rfl (fun K hK => ?_) ?_
        · go_simp
          refine (refuse_yes _ _).mono ?_; rintro e w2 ⟨rfl, hw2⟩; subst hw2; exact left_post rfl (LeftR.of (bel_tr B1.out (bel_drewN _ 1)))
        exact AllReady.nil
      exact AllReady.nil
    exact AllReady.nil
  exact AllReady.nil
theorem bump_long {base M0 S : Nat} {w : World} {s : Sp} {N L : RS} {ps : List NR} {gb : Nat} {gl : Option Nat} (h : Pre base M0 S w s N L ps gb gl) (e : Ed) (ea : Option Addr) (em eq : Nat) (hs : e.p.size ≤ maxLen) (i : Nat) (x : Nd) (hw : Wr s e i x) (j : Nat) (hj : e.n = (j : Int)) (hl : j < x.bs.length) (hg : s.ng = 9007199254740991) :
    Calls Tryz.prog 65 #[.pointer (some ⟨S, 0, none⟩), edV e ea em eq] w fun r w' => LeftR S base M0 4 w r w' := by
  have hiq : Is (ps.map (·.1)) e.p i x := by rw [h.own.map]; exact hw.is
  obtain ⟨r, hX⟩ := is_at' hiq
  obtain ⟨hF0, hg0, hiN, hpos, _⟩ := h.free' hX
  have hrn : x.bs.length = r.n := hF0.ok.bs.len
  have CW : Hid (∀ W, Below w.heap.size w W → Calls Tryz.prog 107 #[.pointer (some ⟨S, 0, none⟩), edV e ea em eq] W fun e w' => e = .returned (.pointer (some ⟨gb, i * 5, none⟩)) ∧ Below W.heap.size W w') := fun W hb => written_ok ((h.below hb).lies hpos) e ea em eq hs i x hiq hw.dir hw.wr
  have HX : Hid (ps[i]? = some (x, r)) := hX
  have HPRE : Hid (Pre base M0 S w s N L ps gb gl) := h
  have CRB : Hid (∀ E W, Calls Tryz.prog 25 #[.bool false, .int .i64 E] W fun e w' => e = .returned (.tuple #[]) ∧ Below W.heap.size W w') := fun E W => (refuse_no E W).mono fun e w' ⟨h1, h2⟩ => ⟨h1, by rw [h2]; exact Below.refl _ _⟩
  obtain ⟨k, p, t, cl, l, nn, ls⟩ := e
  obtain ⟨xp, xd, xq, xb, xw⟩ := x
  obtain ⟨ra, rn, rc⟩ := r
  obtain ⟨tx, nb, ng, now, ns, lss⟩ := s
  simp only at hrn hl HX hj hg
  subst hj; have hge : decide ((rn : Int) ≤ (j : Int)) = false := decide_eq_false (by omega)
  have hge2 : decide (rn ≤ j) = false := decide_eq_false (by omega)
  subst hg; unfold edV at CW ⊢
  simp only at CW ⊢
  have hst := run_store_str
  clear h hs hw hiq hX hF0 hg0 hiN hpos hrn hl; go_enter Tryz.func65, Tryz.ntmps65; go_wp2_with (go_at_call 107; refine (CW.out _ (bel_tr (bel_al _ _) (bel_al _ _))).mono ?_; rintro e w1 ⟨rfl, c1⟩; obtain ⟨q1, q2, q3, q4, q5, q6⟩ := two_boxes c1; have y5 := q1 5 _ rfl; have B1 : Hid (Below w.heap.size w w1) := q5; have HAN : Hid (AnC w1 (w.heap.size + 1) 0 zeroB noS zeroX 0) := ⟨q3 0 _ rfl, q3 1 _ rfl, q3 2 _ rfl, q3 3 _ rfl, q3 4 _ rfl, q3 5 _ rfl, q3 6 _ rfl, q3 7 _ rfl, q3 8 _ rfl, q3 9 _ rfl, q3 10 _ rfl, q4⟩; have HSZ : Hid (w.heap.size + 2 ≤ w1.heap.size) := q6; have hP1 := HPRE.out.below q5; have n3 := ((hP1.lies (hP1.free' HX.out).2.2.2.1).at' HX.out).c3; simp only at n3; clear hP1 c1 q1 q2 q3 q4 q5 q6)
  have r5 : ∀ dd os, (Sort.grow (redrawn w1 dd) os).cell? ⟨w.heap.size, 5, none⟩ = some (.int .i64 (j : Int)) := fun dd os => cell_regrown y5 dd os
  have r3 : ∀ dd os, (Sort.grow (redrawn w1 dd) os).cell? ⟨gb, i * 5 + 3, none⟩ = some (.slice ra rn rc) := fun dd os => cell_regrown n3 dd os
  refine wp_region_quiet_below (by kernel_rfl) (by kernel_rfl) ?_
  repeat (first | go_big_quiet_step (exact Calls.regrown_of (CRB.out _ _)) | quiet_step (exact Calls.regrown_of (CRB.out _ _)))
  refine wpQuiet_nil ?_
  intro _ hw'
  obtain ⟨⟨dq, osq⟩, hw''⟩ := hw'
  subst hw''
  have BB2 : Hid (Below w1.heap.size w1 (Sort.grow (redrawn w1 dq) osq)) := below_regrown w1 dq osq
  clear r5 r3; generalize Sort.grow (redrawn w1 dq) osq = w2 at *
  have B2 : Hid (Below w.heap.size w w2) := bel_tr B1.out BB2.out
  have hP2 := HPRE.out.below B2.out
  have g2 := hP2.c.c2
  simp only at g2
  clear hP2; go_wp2_with (go_at_call 25; refine (refuse_yes _ _).mono ?_; rintro e w3 ⟨rfl, hw3⟩; subst hw3)
  exact left_post rfl (LeftR.of B2.out)
theorem bump_ok {base M0 S : Nat} {w : World} {s : Sp} {N L : RS} {ps : List NR} {gb : Nat} {gl : Option Nat} (h : Pre base M0 S w s N L ps gb gl) (e : Ed) (ea : Option Addr) (em eq : Nat) (hs : e.p.size ≤ maxLen) (i : Nat) (x : Nd) (hw : Wr s e i x) (h8 : x.bs.length ≤ 8) (j : Nat) (hj : e.n = (j : Int)) (hl : j < x.bs.length) (hg : s.ng ≠ 9007199254740991) (hng : 1 ≤ s.ng ∧ s.ng ≤ 9007199254740991) :
    Calls Tryz.prog 65 #[.pointer (some ⟨S, 0, none⟩), edV e ea em eq] w fun r w' => DoneR S base M0 ⟨s.tx, s.nb, s.ng + 1, s.now, s.ns.set i (withBs x (setGen x.bs j s.ng)), s.ls⟩ ⟨x.bs[j].id, s.ng, x.bs[j].len⟩ (withBs x (setGen x.bs j s.ng)) w r w' := by
  have hiq : Is (ps.map (·.1)) e.p i x := by rw [h.own.map]; exact hw.is
  obtain ⟨r, hX⟩ := is_at' hiq
  obtain ⟨hF0, hg0, hiN, hpos, _⟩ := h.free' hX
  have hrn : x.bs.length = r.n := hF0.ok.bs.len
  have CW : Hid (∀ W, Below w.heap.size w W → Calls Tryz.prog 107 #[.pointer (some ⟨S, 0, none⟩), edV e ea em eq] W fun e w' => e = .returned (.pointer (some ⟨gb, i * 5, none⟩)) ∧ Below W.heap.size W w') := fun W hb => written_ok ((h.below hb).lies hpos) e ea em eq hs i x hiq hw.dir hw.wr
  have HX : Hid (ps[i]? = some (x, r)) := hX
  have HPRE : Hid (Pre base M0 S w s N L ps gb gl) := h
  have CRB : Hid (∀ E W, Calls Tryz.prog 25 #[.bool false, .int .i64 E] W fun e w' => e = .returned (.tuple #[]) ∧ Below W.heap.size W w') := fun E W => (refuse_no E W).mono fun e w' ⟨h1, h2⟩ => ⟨h1, by rw [h2]; exact Below.refl _ _⟩
  obtain ⟨k, p, t, cl, l, nn, ls⟩ := e
  obtain ⟨xp, xd, xq, xb, xw⟩ := x
  obtain ⟨ra, rn, rc⟩ := r
  obtain ⟨tx, nb, ng, now, ns, lss⟩ := s
  simp only at hrn hl HX hj hg hng h8 ⊢
  subst hj; have hge : decide ((rn : Int) ≤ (j : Int)) = false := decide_eq_false (by omega)
  have hge2 : decide (rn ≤ j) = false := decide_eq_false (by omega)
  have hgb : (ng == 9007199254740991) = false := by simpa using hg
  have hRB : ∃ rb, ra = some ⟨rb, 0, none⟩ := by
    obtain ⟨rb, ha, _⟩ := hF0.own (by show 0 < rn; omega)
    exact ⟨rb, ha⟩
  obtain ⟨rb, rfl⟩ := hRB
  have hrI : (j : Int) < (rn : Int) := by omega
  obtain ⟨b, hb⟩ : ∃ b : Blk, xb[j] = b := ⟨_, rfl⟩
  have hblk : (⟨some ⟨rb, 0, none⟩, rn, rc⟩ : RS).blk = some rb := by unfold RS.blk; rw [if_neg (by show ¬ rn = 0; omega)]; rfl
  have hsg : setGen xb j ng = xb.set j ⟨b.id, ng, b.len⟩ := by rw [setGen_set xb j ng hl, hb]
  have hjs : (setGen xb j ng).length = xb.length := setGen_len _ _ _
  have hat : (setGen xb j ng)[j]'(by omega) = ⟨b.id, ng, b.len⟩ := by simp only [hsg]; rw [List.getElem_set_self]
  have HJ : Hid (j < xb.length ∧ xb[j]? = some b) := ⟨hl, by rw [List.getElem?_eq_getElem hl, hb]⟩
  have HR8 : Hid (rn ≤ 8 ∧ j < rn ∧ xb.length = rn) := ⟨by omega, by omega, hrn⟩
  rw [hb]
  have HGEN : Hid (∀ W, Below w.heap.size w W → Pre base M0 S (W.setCell ⟨rb, j * 3 + 1, none⟩ (.int .i64 ng)) ⟨tx, nb, ng, now, ns.set i ⟨xp, xd, xq, setGen xb j ng, xw⟩, lss⟩ N L (ps.set i (⟨xp, xd, xq, setGen xb j ng, xw⟩, ⟨some ⟨rb, 0, none⟩, rn, rc⟩)) gb gl ∧ Stay (fun k => k = rb) W (W.setCell ⟨rb, j * 3 + 1, none⟩ (.int .i64 ng))) := fun W hB => by
    have hP := HPRE.out.below hB
    have hF := (hP.free' HX.out).1
    obtain ⟨h1, h2⟩ := Free.setBlk (x := ⟨xp, xd, xq, xb, xw⟩) (s := ⟨some ⟨rb, 0, none⟩, rn, rc⟩) hF (b := rb) (j := j) (o := 1) rfl HJ.out.1 (by omega) ng ⟨b.id, ng, b.len⟩ (fun q => by
      have e2 : xb[j]'HJ.out.1 = b := by have := HJ.out.2; rw [List.getElem?_eq_getElem HJ.out.1] at this; exact Option.some.inj this
      show _ = if q = 1 then _ else (blkC (xb[j]'HJ.out.1))[q]?
      rw [e2]
      match q with
      | 0 => rfl
      | 1 => rfl
      | 2 => rfl
      | q + 3 => rfl)
    have h1' : Free base (W.setCell ⟨rb, j * 3 + 1, none⟩ (.int .i64 ng)) (⟨xp, xd, xq, setGen xb j ng, xw⟩, ⟨some ⟨rb, 0, none⟩, rn, rc⟩) := by rw [hsg]; exact h1
    exact ⟨hP.bs' HX.out _ h1' h2, h2.mono (fun k hk => by rw [hblk] at hk; exact (Option.some.inj hk).symm)⟩
  have HNXT : Hid (∀ W, Pre base M0 S W ⟨tx, nb, ng, now, ns.set i ⟨xp, xd, xq, setGen xb j ng, xw⟩, lss⟩ N L (ps.set i (⟨xp, xd, xq, setGen xb j ng, xw⟩, ⟨some ⟨rb, 0, none⟩, rn, rc⟩)) gb gl → Pre base M0 S (W.setCell ⟨S, 2, none⟩ (.int .i64 (ng + 1))) ⟨tx, nb, ng + 1, now, ns.set i ⟨xp, xd, xq, setGen xb j ng, xw⟩, lss⟩ N L (ps.set i (⟨xp, xd, xq, setGen xb j ng, xw⟩, ⟨some ⟨rb, 0, none⟩, rn, rc⟩)) gb gl ∧ Stay (fun k => k = S) W (W.setCell ⟨S, 2, none⟩ (.int .i64 (ng + 1)))) := fun W hP => by
    obtain ⟨a1, a2⟩ := hP.c.set2 (ng + 1)
    have hsb := hP.sb
    have ho := hP.own.out a2 (fun k hk => by omega)
    exact ⟨⟨a1, ⟨ho.lot, ho.map, ho.lo, ho.sep, ho.gl1, ho.gl2⟩, hP.na, hP.sb, Nat.le_trans hP.bw a2.size, hP.m1, hP.m2, hP.m3, Nat.le_trans hP.mw a2.size⟩, a2⟩
  have HBK : Hid (∀ W, Free base W (⟨xp, xd, xq, setGen xb j ng, xw⟩, ⟨some ⟨rb, 0, none⟩, rn, rc⟩) → W.cell? ⟨rb, j * 3, none⟩ = some (.int .i64 b.id) ∧ W.cell? ⟨rb, j * 3 + 1, none⟩ = some (.int .i64 ng) ∧ W.cell? ⟨rb, j * 3 + 2, none⟩ = some (.int .i64 b.len)) := fun W hF => by
    obtain ⟨b2, off2, h1, h2⟩ := hF.ok.bs.cells (by show 0 < rn; have := HR8.out; omega)
    cases h1
    have hj2 : j < (setGen xb j ng).length := by have := HJ.out.1; omega
    have c0 := h2 j hj2 0 (.int .i64 b.id) (by show (blkC ((setGen xb j ng)[j]'hj2))[0]? = _; rw [hat]; rfl)
    have c1 := h2 j hj2 1 (.int .i64 ng) (by show (blkC ((setGen xb j ng)[j]'hj2))[1]? = _; rw [hat]; rfl)
    have c2 := h2 j hj2 2 (.int .i64 b.len) (by show (blkC ((setGen xb j ng)[j]'hj2))[2]? = _; rw [hat]; rfl)
    rw [Nat.zero_add] at c0 c1 c2
    exact ⟨c0, c1, c2⟩
  have HLV : Hid (∀ W, Below w.heap.size w W → (∃ u, W.cell? ⟨rb, j * 3 + 1, none⟩ = some u) ∧ W.frozen? ⟨rb, j * 3 + 1, none⟩ = false) := fun W hB => by
    obtain ⟨b2, h1, _, h2⟩ := ((HPRE.out.below hB).free' HX.out).1.own (by show 0 < rn; have := HR8.out; omega)
    cases h1
    have := h2 (j * 3 + 1) (by show j * 3 + 1 < rn * 3; have := HR8.out; omega)
    exact ⟨Option.isSome_iff_exists.1 this.1, this.2⟩
  have CC : Hid (∀ W, Free base W (⟨xp, xd, xq, setGen xb j ng, xw⟩, ⟨some ⟨rb, 0, none⟩, rn, rc⟩) → Calls Tryz.prog 44 #[.agg #[.string xp, .bool xd, .int .i64 xq, .slice (some ⟨rb, 0, none⟩) rn rc, .int .i64 xw]] W fun e w' => CopyR W.heap.size ⟨xp, xd, xq, setGen xb j ng, xw⟩ e w' ∧ Below W.heap.size W w') := fun W hF => copiedNode_val (⟨xp, xd, xq, setGen xb j ng, xw⟩, ⟨some ⟨rb, 0, none⟩, rn, rc⟩) W hF.ok (by show rn * 24 ≤ _; have := HR8.out; omega)
  have HRB : Hid (base ≤ rb ∧ rb < M0 ∧ rb ≠ gb) := ⟨hF0.blk_ge rb hblk, h.m3 _ (List.mem_of_getElem? hX) rb hblk, fun e => hg0 (by rw [hblk, e])⟩
  unfold withBs; unfold edV at CW ⊢
  simp only at CW ⊢
  have hst := run_store_str
  have hst2 := sto2
  clear h hs hw hiq hX hF0 hg0 hiN hpos hrn hl hg h8 hsg hjs hat hb hblk; generalize setGen xb j ng = xg at *
  go_enter Tryz.func65, Tryz.ntmps65; go_wp2_with (go_at_call 107; refine (CW.out _ (bel_tr (bel_al _ _) (bel_al _ _))).mono ?_; rintro e w1 ⟨rfl, c1⟩; obtain ⟨q1, q2, q3, q4, q5, q6⟩ := two_boxes c1; have y5 := q1 5 _ rfl; have B1 : Hid (Below w.heap.size w w1) := q5; have HAN : Hid (AnC w1 (w.heap.size + 1) 0 zeroB noS zeroX 0) := ⟨q3 0 _ rfl, q3 1 _ rfl, q3 2 _ rfl, q3 3 _ rfl, q3 4 _ rfl, q3 5 _ rfl, q3 6 _ rfl, q3 7 _ rfl, q3 8 _ rfl, q3 9 _ rfl, q3 10 _ rfl, q4⟩; have HSZ : Hid (w.heap.size + 2 ≤ w1.heap.size) := q6; have hP1 := HPRE.out.below q5; have n3 := ((hP1.lies (hP1.free' HX.out).2.2.2.1).at' HX.out).c3; simp only at n3; clear hP1 c1 q1 q2 q3 q4 q5 q6)
  have r5 : ∀ dd os, (Sort.grow (redrawn w1 dd) os).cell? ⟨w.heap.size, 5, none⟩ = some (.int .i64 (j : Int)) := fun dd os => cell_regrown y5 dd os
  have r3 : ∀ dd os, (Sort.grow (redrawn w1 dd) os).cell? ⟨gb, i * 5 + 3, none⟩ = some (.slice (some ⟨rb, 0, none⟩) rn rc) := fun dd os => cell_regrown n3 dd os
  refine wp_region_quiet_below (by kernel_rfl) (by kernel_rfl) ?_
  repeat (first | go_big_quiet_step (exact Calls.regrown_of (CRB.out _ _)) | quiet_step (exact Calls.regrown_of (CRB.out _ _)))
  refine wpQuiet_nil ?_
  intro _ hw'
  obtain ⟨⟨dq, osq⟩, hw''⟩ := hw'
  subst hw''
  have BB2 : Hid (Below w1.heap.size w1 (Sort.grow (redrawn w1 dq) osq)) := below_regrown w1 dq osq
  clear r5 r3; generalize Sort.grow (redrawn w1 dq) osq = w2 at *
  have B2 : Hid (Below w.heap.size w w2) := bel_tr B1.out BB2.out
  have hP2 := HPRE.out.below B2.out
  have g2 := hP2.c.c2
  have z5 := bel_cell BB2.out y5
  have z3 := bel_cell BB2.out n3
  obtain ⟨⟨u, hu⟩, hfz⟩ := HLV.out w2 B2.out
  have HG2 : Hid _ := HGEN.out w2 B2.out
  simp only at g2
  clear hP2; have CR : Hid (∀ E W, Calls Tryz.prog 25 #[.bool false, .int .i64 E] W fun e w' => e = .returned (.tuple #[]) ∧ W = w') := fun E W => (refuse_no E W).mono fun e w' ⟨h1, h2⟩ => ⟨h1, h2.symm⟩
  go_wp2_with (go_at_call 25; refine (CR.out _ _).mono ?_; rintro e w3 ⟨rfl, rfl⟩)
  go_region
  have hP4 : Pre base M0 S ((w2.setCell ⟨rb, j * 3 + 1, none⟩ (.int .i64 ng)).drew) ⟨tx, nb, ng, now, ns.set i ⟨xp, xd, xq, xg, xw⟩, lss⟩ N L (ps.set i (⟨xp, xd, xq, xg, xw⟩, ⟨some ⟨rb, 0, none⟩, rn, rc⟩)) gb gl := HG2.out.1.below (bel_drewN _ 1)
  have hlt := HPRE.out.lt
  have hrb := HRB.out
  have hsz := HSZ.out
  have hsz2 := BB2.out.size
  have BD : Hid (Below (w2.setCell ⟨rb, j * 3 + 1, none⟩ (.int .i64 ng)).heap.size (w2.setCell ⟨rb, j * 3 + 1, none⟩ (.int .i64 ng)) ((w2.setCell ⟨rb, j * 3 + 1, none⟩ (.int .i64 ng)).drew)) := bel_drewN _ 1
  have HST4 : Hid (Stay (Chg S base M0) w ((w2.setCell ⟨rb, j * 3 + 1, none⟩ (.int .i64 ng)).drew)) := ((Stay.of_below B2.out).trans HG2.out.2 (fun k _ e => .inr ⟨by omega, by omega⟩)).then_below BD.out
  have HAN3 : Hid (AnC ((w2.setCell ⟨rb, j * 3 + 1, none⟩ (.int .i64 ng)).drew) (w.heap.size + 1) 0 zeroB noS zeroX 0) := ((HAN.out.below BB2.out).keep HG2.out.2 (by omega)).below BD.out
  have e5 : ((w2.setCell ⟨rb, j * 3 + 1, none⟩ (.int .i64 ng)).drew).cell? ⟨w.heap.size, 5, none⟩ = some (.int .i64 (j : Int)) := bel_cell BD.out ((other_block _ _ _ _ _ _ (by omega)).trans z5)
  have HSZ4 : Hid (w.heap.size + 2 ≤ ((w2.setCell ⟨rb, j * 3 + 1, none⟩ (.int .i64 ng)).drew).heap.size) := by
    have h1 := HG2.out.2.size
    have h2 := BD.out.size
    show _ ≤ _
    omega
  clear hlt hrb hsz hsz2 BD HG2 hu hfz g2 z3 z5; generalize (w2.setCell ⟨rb, j * 3 + 1, none⟩ (.int .i64 ng)).drew = W4 at *
  have g4 := hP4.c.c2
  have gf := hP4.c.fr 2
  have HP5 : Hid _ := HNXT.out W4 hP4
  simp only at g4
  obtain ⟨hng1, hng2⟩ := hng
  clear hP4; go_wp2; have hP5 := HP5.out.1
  have hlt := HPRE.out.lt
  have hsb := HPRE.out.sb
  have f5 := stay_cel HP5.out.2 (b := w.heap.size) (by omega) e5
  have hF5 := (hP5.free' (set_at' HX.out _)).1
  obtain ⟨v0, v1, v2, v3, v4⟩ := (hP5.lies (hP5.free' (set_at' HX.out _)).2.2.2.1).at' (set_at' HX.out _)
  obtain ⟨b0, b1, b2⟩ := HBK.out _ hF5
  have HAN5 : Hid _ := HAN3.out.keep HP5.out.2 (by omega)
  have HST5 : Hid (Stay (Chg S base M0) w (W4.setCell ⟨S, 2, none⟩ (.int .i64 (ng + 1)))) := HST4.out.trans HP5.out.2 (fun k _ e => .inl e)
  have HSZ5 : Hid (w.heap.size + 2 ≤ (W4.setCell ⟨S, 2, none⟩ (.int .i64 (ng + 1))).heap.size) := by have h1 := HP5.out.2.size; have := HSZ4.out; show _ ≤ _; omega
  have HF5 : Hid _ := hF5
  simp only at v0 v1 v2 v3 v4
  clear hP5 hlt hsb hF5 e5 g4 gf; generalize W4.setCell ⟨S, 2, none⟩ (.int .i64 (ng + 1)) = W5 at *
  have HEND : Hid (∀ w4 (sx : RS), Below W5.heap.size W5 w4 → Free W5.heap.size w4 (⟨xp, xd, xq, xg, xw⟩, sx) → AnC (put11 w4 (w.heap.size + 1) 0 ⟨b.id, ng, b.len⟩ noS (⟨xp, xd, xq, xg, xw⟩, sx) 0) (w.heap.size + 1) 0 ⟨b.id, ng, b.len⟩ noS (⟨xp, xd, xq, xg, xw⟩, sx) 0 ∧ DoneR S base M0 ⟨tx, nb, ng + 1, now, ns.set i ⟨xp, xd, xq, xg, xw⟩, lss⟩ ⟨b.id, ng, b.len⟩ ⟨xp, xd, xq, xg, xw⟩ w (.returned (anV 0 ⟨b.id, ng, b.len⟩ noS (⟨xp, xd, xq, xg, xw⟩, sx) 0)) (put11 w4 (w.heap.size + 1) 0 ⟨b.id, ng, b.len⟩ noS (⟨xp, xd, xq, xg, xw⟩, sx) 0)) := fun w4 sx hB hF => by
    have hO4 : OwnM base w.heap.size w4 ⟨tx, nb, ng + 1, now, ns.set i ⟨xp, xd, xq, xg, xw⟩, lss⟩ N L (ps.set i (⟨xp, xd, xq, xg, xw⟩, ⟨some ⟨rb, 0, none⟩, rn, rc⟩)) (some gb) gl := (HP5.out.1.own.at HPRE.out.m.1 HPRE.out.m.2.1 (set_blk HX.out HPRE.out.m.2.2)).below hB
    have hs5 := HSZ5.out
    exact DoneR.mk2 (HAN5.out.below hB) (HP5.out.1.c.below hB) hO4 (hF.mono (by omega)) HPRE.out.bw (HST5.out.then_below hB) (by omega) HPRE.out.bw HPRE.out.lt.2.2.1 (fun k hk => by have := HPRE.out.m1; have := HPRE.out.mw; cases hk; omega) (fun k hk => by have := HPRE.out.m2 k hk; have := HPRE.out.mw; omega) (fun z hz k hk => by have := set_blk HX.out HPRE.out.m3 z hz k hk; have := HPRE.out.mw; omega) (fun k hk => by have h1 := hF.blk_ge k hk; omega)
  refine wp_region_any (by kernel_rfl) ?_
  try (change wpAny _ _ _ _ _ _ _ (World.drew _))
  refine wpAny_take (i := 0) (v := ?_) rfl (by kernel_rfl) (by kernel_rfl) (by kernel_rfl) (fun _ _ _ h => h) (Or.inl ⟨by rfl, ?_⟩) ?_
  rotate_left
  · intro w; go_simp; first | done | with_reducible rfl
  refine wpAny_take (i := 1) (v := ?_) rfl (by kernel_rfl) (by kernel_rfl) (by kernel_rfl) (fun _ _ _ h => h) (Or.inl ⟨by rfl, ?_⟩) ?_
  rotate_left
  · intro w; go_simp; first | done | with_reducible rfl
  refine wpAny_take (i := 2) (v := ?_) rfl (by kernel_rfl) (by kernel_rfl) (by kernel_rfl) (fun _ _ _ h => h) (Or.inl ⟨by rfl, ?_⟩) ?_
  rotate_left
  · intro w; go_simp; first | done | with_reducible rfl
  refine wpAny_take (i := 4) (v := ?_) rfl (by kernel_rfl) (by kernel_rfl) (by kernel_rfl) (fun _ _ _ h => h) (Or.inl ⟨by rfl, ?_⟩) ?_
  rotate_left
  · intro w; go_simp; first | done | with_reducible rfl
  refine wpAny_take (i := 8) (v := ?_) rfl (by kernel_rfl) (by kernel_rfl) (by kernel_rfl) (fun _ _ _ h => h) (Or.inl ⟨by rfl, ?_⟩) ?_
  rotate_left
  · intro w; go_simp; first | done | with_reducible rfl
  refine wpAny_take (i := 9) (v := ?_) rfl (by kernel_rfl) (by kernel_rfl) (by kernel_rfl) (fun _ _ _ h => h) (Or.inl ⟨by rfl, ?_⟩) ?_
  rotate_left
  · intro w; go_simp; first | done | with_reducible rfl
  refine wpAny_ready (rs := [3, 5, 10]) (by kernel_rfl) (by simp) ?_
  refine AllReady.cons rfl (fun K hK => ?_) ?_
  · go_simp
    refine hK _ _ ?_
    clear hK K; refine wpAny_ready (rs := [5, 10]) (by kernel_rfl) (by simp) ?_
    refine AllReady.cons rfl (fun K hK => ?_) ?_
    · go_simp
      refine hK _ _ ?_
      clear hK K; refine wpAny_take (i := 6) (v := ?_) rfl (by kernel_rfl) (by kernel_rfl) (by kernel_rfl) (fun _ _ _ h => h) (Or.inl ⟨by rfl, ?_⟩) ?_
      rotate_left
      · intro w; go_simp; first | done | with_reducible rfl
      refine wpAny_ready (rs := [7, 10]) (by kernel_rfl) (by simp) ?_
      refine AllReady.cons rfl (fun K hK => ?_) ?_
      · go_simp
        refine hK _ _ ?_
        clear hK K; refine wpAny_ready (rs := [10]) (by kernel_rfl) (by simp) ?_
        refine AllReady.cons rfl (fun K hK => ?_) ?_
        · go_simp
          refine hK _ _ ?_
          clear hK K; refine wpAny_ready (rs := [11]) (by kernel_rfl) (by simp) ?_
          refine AllReady.cons rfl (fun K hK => ?_) ?_
          · go_simp
            refine (CC.out _ (HF5.out.below (bel_drewN _ 1))).mono ?_; rintro e w4 ⟨⟨sx, rfl, hF4⟩, c4⟩; have B4 : Hid (Below W5.heap.size W5 w4) := bel_tr (bel_drewN _ 1) c4; have HF4 : Hid (Free W5.heap.size w4 (⟨xp, xd, xq, xg, xw⟩, sx)) := hF4; have p3 := bel_cell B4.out v3; have p5 := bel_cell B4.out f5; have p0 := bel_cell B4.out b0; have p1 := bel_cell B4.out b1; have p2 := bel_cell B4.out b2; obtain ⟨a0, a1, a2, a3, a4, a5, a6, a7, a8, a9, a10, afr⟩ := HAN5.out.below B4.out; unfold ndV; unfold zeroB at a1 a2 a3; unfold noS at a4; unfold zeroX zeroN noS at a5 a6 a7 a8 a9; simp only at a1 a2 a3 a4 a5 a6 a7 a8 a9 ⊢; clear hF4 c4
            try go_simp
            refine hK _ _ ?_
            clear hK K; refine wpAny_take (i := 12) (v := ?_) rfl (by kernel_rfl) (by kernel_rfl) (by kernel_rfl) (fun _ _ _ h => h) (Or.inl ⟨by rfl, ?_⟩) ?_
            rotate_left
            · intro w; go_simp; first | done | with_reducible rfl
            refine wpAny_ready (rs := [13]) (by kernel_rfl) (by simp) ?_
            refine AllReady.cons rfl (fun K hK => ?_) ?_
            · go_simp
              refine hK _ _ ?_
              clear hK K; refine wpAny_done (by kernel_rfl) ?_ _
              go_wp2; obtain ⟨hA, hD⟩ := HEND.out w4 sx B4.out HF4.out
              have k0 := hA.c0
              have k1 := hA.c1
              have k2 := hA.c2
              have k3 := hA.c3
              have k4 := hA.c4
              have k5 := hA.c5
              have k6 := hA.c6
              have k7 := hA.c7
              have k8 := hA.c8
              have k9 := hA.c9
              have k10 := hA.c10
              unfold put11 noS at k0 k1 k2 k3 k4 k5 k6 k7 k8 k9 k10 hD; simp only [anV] at k0 k1 k2 k3 k4 k5 k6 k7 k8 k9 k10 hD
              refine bodyPost_ret ?_ rfl hD
              simp only [results, Tryz.results65]
              simp [go_sem, k0, k1, k2, k3, k4, k5, k6, k7, k8, k9, k10]
            exact AllReady.nil
          exact AllReady.nil
        exact AllReady.nil
      refine AllReady.cons rfl (fun K hK => ?_) ?_
      · go_simp
        refine hK _ _ ?_
        clear hK K; refine wpAny_ready (rs := [7, 11]) (by kernel_rfl) (by simp) ?_
        refine AllReady.cons rfl (fun K hK => ?_) ?_
        · go_simp
          refine hK _ _ ?_
          clear hK K; refine wpAny_ready (rs := [11]) (by kernel_rfl) (by simp) ?_
          refine AllReady.cons rfl (fun K hK => ?_) ?_
          · go_simp
            refine (CC.out _ (HF5.out.below (bel_drewN _ 1))).mono ?_; rintro e w4 ⟨⟨sx, rfl, hF4⟩, c4⟩; have B4 : Hid (Below W5.heap.size W5 w4) := bel_tr (bel_drewN _ 1) c4; have HF4 : Hid (Free W5.heap.size w4 (⟨xp, xd, xq, xg, xw⟩, sx)) := hF4; have p3 := bel_cell B4.out v3; have p5 := bel_cell B4.out f5; have p0 := bel_cell B4.out b0; have p1 := bel_cell B4.out b1; have p2 := bel_cell B4.out b2; obtain ⟨a0, a1, a2, a3, a4, a5, a6, a7, a8, a9, a10, afr⟩ := HAN5.out.below B4.out; unfold ndV; unfold zeroB at a1 a2 a3; unfold noS at a4; unfold zeroX zeroN noS at a5 a6 a7 a8 a9; simp only at a1 a2 a3 a4 a5 a6 a7 a8 a9 ⊢; clear hF4 c4
            try go_simp
            refine hK _ _ ?_
            clear hK K; refine wpAny_take (i := 12) (v := ?_) rfl (by kernel_rfl) (by kernel_rfl) (by kernel_rfl) (fun _ _ _ h => h) (Or.inl ⟨by rfl, ?_⟩) ?_
            rotate_left
            · intro w; go_simp; first | done | with_reducible rfl
            refine wpAny_ready (rs := [13]) (by kernel_rfl) (by simp) ?_
            refine AllReady.cons rfl (fun K hK => ?_) ?_
            · go_simp
              refine hK _ _ ?_
              clear hK K; refine wpAny_done (by kernel_rfl) ?_ _
              go_wp2; obtain ⟨hA, hD⟩ := HEND.out w4 sx B4.out HF4.out
              have k0 := hA.c0
              have k1 := hA.c1
              have k2 := hA.c2
              have k3 := hA.c3
              have k4 := hA.c4
              have k5 := hA.c5
              have k6 := hA.c6
              have k7 := hA.c7
              have k8 := hA.c8
              have k9 := hA.c9
              have k10 := hA.c10
              unfold put11 noS at k0 k1 k2 k3 k4 k5 k6 k7 k8 k9 k10 hD; simp only [anV] at k0 k1 k2 k3 k4 k5 k6 k7 k8 k9 k10 hD
              refine bodyPost_ret ?_ rfl hD
              simp only [results, Tryz.results65]
              simp [go_sem, k0, k1, k2, k3, k4, k5, k6, k7, k8, k9, k10]
            exact AllReady.nil
          exact AllReady.nil
        refine AllReady.cons rfl (fun K hK => ?_) ?_
        · go_simp
          refine (CC.out _ (HF5.out.below (bel_drewN _ 1))).mono ?_; rintro e w4 ⟨⟨sx, rfl, hF4⟩, c4⟩; have B4 : Hid (Below W5.heap.size W5 w4) := bel_tr (bel_drewN _ 1) c4; have HF4 : Hid (Free W5.heap.size w4 (⟨xp, xd, xq, xg, xw⟩, sx)) := hF4; have p3 := bel_cell B4.out v3; have p5 := bel_cell B4.out f5; have p0 := bel_cell B4.out b0; have p1 := bel_cell B4.out b1; have p2 := bel_cell B4.out b2; obtain ⟨a0, a1, a2, a3, a4, a5, a6, a7, a8, a9, a10, afr⟩ := HAN5.out.below B4.out; unfold ndV; unfold zeroB at a1 a2 a3; unfold noS at a4; unfold zeroX zeroN noS at a5 a6 a7 a8 a9; simp only at a1 a2 a3 a4 a5 a6 a7 a8 a9 ⊢; clear hF4 c4
          try go_simp
          refine hK _ _ ?_
          clear hK K; refine wpAny_ready (rs := [7]) (by kernel_rfl) (by simp) ?_
          refine AllReady.cons rfl (fun K hK => ?_) ?_
          · go_simp
            refine hK _ _ ?_
            clear hK K; refine wpAny_take (i := 12) (v := ?_) rfl (by kernel_rfl) (by kernel_rfl) (by kernel_rfl) (fun _ _ _ h => h) (Or.inl ⟨by rfl, ?_⟩) ?_
            rotate_left
            · intro w; go_simp; first | done | with_reducible rfl
            refine wpAny_ready (rs := [13]) (by kernel_rfl) (by simp) ?_
            refine AllReady.cons rfl (fun K hK => ?_) ?_
            · go_simp
              refine hK _ _ ?_
              clear hK K; refine wpAny_done (by kernel_rfl) ?_ _
              go_wp2; obtain ⟨hA, hD⟩ := HEND.out w4 sx B4.out HF4.out
              have k0 := hA.c0
              have k1 := hA.c1
              have k2 := hA.c2
              have k3 := hA.c3
              have k4 := hA.c4
              have k5 := hA.c5
              have k6 := hA.c6
              have k7 := hA.c7
              have k8 := hA.c8
              have k9 := hA.c9
              have k10 := hA.c10
              unfold put11 noS at k0 k1 k2 k3 k4 k5 k6 k7 k8 k9 k10 hD; simp only [anV] at k0 k1 k2 k3 k4 k5 k6 k7 k8 k9 k10 hD
              refine bodyPost_ret ?_ rfl hD
              simp only [results, Tryz.results65]
              simp [go_sem, k0, k1, k2, k3, k4, k5, k6, k7, k8, k9, k10]
            exact AllReady.nil
          exact AllReady.nil
        exact AllReady.nil
      exact AllReady.nil
    refine AllReady.cons rfl (fun K hK => ?_) ?_
    · go_simp
      refine hK _ _ ?_
      clear hK K; refine wpAny_ready (rs := [5, 11]) (by kernel_rfl) (by simp) ?_
      refine AllReady.cons rfl (fun K hK => ?_) ?_
      · go_simp
        refine hK _ _ ?_
        clear hK K; refine wpAny_take (i := 6) (v := ?_) rfl (by kernel_rfl) (by kernel_rfl) (by kernel_rfl) (fun _ _ _ h => h) (Or.inl ⟨by rfl, ?_⟩) ?_
        rotate_left
        · intro w; go_simp; first | done | with_reducible rfl
        refine wpAny_ready (rs := [7, 11]) (by kernel_rfl) (by simp) ?_
        refine AllReady.cons rfl (fun K hK => ?_) ?_
        · go_simp
          refine hK _ _ ?_
          clear hK K; refine wpAny_ready (rs := [11]) (by kernel_rfl) (by simp) ?_
          refine AllReady.cons rfl (fun K hK => ?_) ?_
          · go_simp
            refine (CC.out _ (HF5.out.below (bel_drewN _ 1))).mono ?_; rintro e w4 ⟨⟨sx, rfl, hF4⟩, c4⟩; have B4 : Hid (Below W5.heap.size W5 w4) := bel_tr (bel_drewN _ 1) c4; have HF4 : Hid (Free W5.heap.size w4 (⟨xp, xd, xq, xg, xw⟩, sx)) := hF4; have p3 := bel_cell B4.out v3; have p5 := bel_cell B4.out f5; have p0 := bel_cell B4.out b0; have p1 := bel_cell B4.out b1; have p2 := bel_cell B4.out b2; obtain ⟨a0, a1, a2, a3, a4, a5, a6, a7, a8, a9, a10, afr⟩ := HAN5.out.below B4.out; unfold ndV; unfold zeroB at a1 a2 a3; unfold noS at a4; unfold zeroX zeroN noS at a5 a6 a7 a8 a9; simp only at a1 a2 a3 a4 a5 a6 a7 a8 a9 ⊢; clear hF4 c4
            try go_simp
            refine hK _ _ ?_
            clear hK K; refine wpAny_take (i := 12) (v := ?_) rfl (by kernel_rfl) (by kernel_rfl) (by kernel_rfl) (fun _ _ _ h => h) (Or.inl ⟨by rfl, ?_⟩) ?_
            rotate_left
            · intro w; go_simp; first | done | with_reducible rfl
            refine wpAny_ready (rs := [13]) (by kernel_rfl) (by simp) ?_
            refine AllReady.cons rfl (fun K hK => ?_) ?_
            · go_simp
              refine hK _ _ ?_
              clear hK K; refine wpAny_done (by kernel_rfl) ?_ _
              go_wp2; obtain ⟨hA, hD⟩ := HEND.out w4 sx B4.out HF4.out
              have k0 := hA.c0
              have k1 := hA.c1
              have k2 := hA.c2
              have k3 := hA.c3
              have k4 := hA.c4
              have k5 := hA.c5
              have k6 := hA.c6
              have k7 := hA.c7
              have k8 := hA.c8
              have k9 := hA.c9
              have k10 := hA.c10
              unfold put11 noS at k0 k1 k2 k3 k4 k5 k6 k7 k8 k9 k10 hD; simp only [anV] at k0 k1 k2 k3 k4 k5 k6 k7 k8 k9 k10 hD
              refine bodyPost_ret ?_ rfl hD
              simp only [results, Tryz.results65]
              simp [go_sem, k0, k1, k2, k3, k4, k5, k6, k7, k8, k9, k10]
            exact AllReady.nil
          exact AllReady.nil
        refine AllReady.cons rfl (fun K hK => ?_) ?_
        · go_simp
          refine (CC.out _ (HF5.out.below (bel_drewN _ 1))).mono ?_; rintro e w4 ⟨⟨sx, rfl, hF4⟩, c4⟩; have B4 : Hid (Below W5.heap.size W5 w4) := bel_tr (bel_drewN _ 1) c4; have HF4 : Hid (Free W5.heap.size w4 (⟨xp, xd, xq, xg, xw⟩, sx)) := hF4; have p3 := bel_cell B4.out v3; have p5 := bel_cell B4.out f5; have p0 := bel_cell B4.out b0; have p1 := bel_cell B4.out b1; have p2 := bel_cell B4.out b2; obtain ⟨a0, a1, a2, a3, a4, a5, a6, a7, a8, a9, a10, afr⟩ := HAN5.out.below B4.out; unfold ndV; unfold zeroB at a1 a2 a3; unfold noS at a4; unfold zeroX zeroN noS at a5 a6 a7 a8 a9; simp only at a1 a2 a3 a4 a5 a6 a7 a8 a9 ⊢; clear hF4 c4
          try go_simp
          refine hK _ _ ?_
          clear hK K; refine wpAny_ready (rs := [7]) (by kernel_rfl) (by simp) ?_
          refine AllReady.cons rfl (fun K hK => ?_) ?_
          · go_simp
            refine hK _ _ ?_
            clear hK K; refine wpAny_take (i := 12) (v := ?_) rfl (by kernel_rfl) (by kernel_rfl) (by kernel_rfl) (fun _ _ _ h => h) (Or.inl ⟨by rfl, ?_⟩) ?_
            rotate_left
            · intro w; go_simp; first | done | with_reducible rfl
            refine wpAny_ready (rs := [13]) (by kernel_rfl) (by simp) ?_
            refine AllReady.cons rfl (fun K hK => ?_) ?_
            · go_simp
              refine hK _ _ ?_
              clear hK K; refine wpAny_done (by kernel_rfl) ?_ _
              go_wp2; obtain ⟨hA, hD⟩ := HEND.out w4 sx B4.out HF4.out
              have k0 := hA.c0
              have k1 := hA.c1
              have k2 := hA.c2
              have k3 := hA.c3
              have k4 := hA.c4
              have k5 := hA.c5
              have k6 := hA.c6
              have k7 := hA.c7
              have k8 := hA.c8
              have k9 := hA.c9
              have k10 := hA.c10
              unfold put11 noS at k0 k1 k2 k3 k4 k5 k6 k7 k8 k9 k10 hD; simp only [anV] at k0 k1 k2 k3 k4 k5 k6 k7 k8 k9 k10 hD
              refine bodyPost_ret ?_ rfl hD
              simp only [results, Tryz.results65]
              simp [go_sem, k0, k1, k2, k3, k4, k5, k6, k7, k8, k9, k10]
            exact AllReady.nil
          exact AllReady.nil
        exact AllReady.nil
      refine AllReady.cons rfl (fun K hK => ?_) ?_
      · go_simp
        refine (CC.out _ (HF5.out.below (bel_drewN _ 1))).mono ?_; rintro e w4 ⟨⟨sx, rfl, hF4⟩, c4⟩; have B4 : Hid (Below W5.heap.size W5 w4) := bel_tr (bel_drewN _ 1) c4; have HF4 : Hid (Free W5.heap.size w4 (⟨xp, xd, xq, xg, xw⟩, sx)) := hF4; have p3 := bel_cell B4.out v3; have p5 := bel_cell B4.out f5; have p0 := bel_cell B4.out b0; have p1 := bel_cell B4.out b1; have p2 := bel_cell B4.out b2; obtain ⟨a0, a1, a2, a3, a4, a5, a6, a7, a8, a9, a10, afr⟩ := HAN5.out.below B4.out; unfold ndV; unfold zeroB at a1 a2 a3; unfold noS at a4; unfold zeroX zeroN noS at a5 a6 a7 a8 a9; simp only at a1 a2 a3 a4 a5 a6 a7 a8 a9 ⊢; clear hF4 c4
        try go_simp
        refine hK _ _ ?_
        clear hK K; refine wpAny_ready (rs := [5]) (by kernel_rfl) (by simp) ?_
        refine AllReady.cons rfl (fun K hK => ?_) ?_
        · go_simp
          refine hK _ _ ?_
          clear hK K; refine wpAny_take (i := 6) (v := ?_) rfl (by kernel_rfl) (by kernel_rfl) (by kernel_rfl) (fun _ _ _ h => h) (Or.inl ⟨by rfl, ?_⟩) ?_
          rotate_left
          · intro w; go_simp; first | done | with_reducible rfl
          refine wpAny_ready (rs := [7]) (by kernel_rfl) (by simp) ?_
          refine AllReady.cons rfl (fun K hK => ?_) ?_
          · go_simp
            refine hK _ _ ?_
            clear hK K; refine wpAny_take (i := 12) (v := ?_) rfl (by kernel_rfl) (by kernel_rfl) (by kernel_rfl) (fun _ _ _ h => h) (Or.inl ⟨by rfl, ?_⟩) ?_
            rotate_left
            · intro w; go_simp; first | done | with_reducible rfl
            refine wpAny_ready (rs := [13]) (by kernel_rfl) (by simp) ?_
            refine AllReady.cons rfl (fun K hK => ?_) ?_
            · go_simp
              refine hK _ _ ?_
              clear hK K; refine wpAny_done (by kernel_rfl) ?_ _
              go_wp2; obtain ⟨hA, hD⟩ := HEND.out w4 sx B4.out HF4.out
              have k0 := hA.c0
              have k1 := hA.c1
              have k2 := hA.c2
              have k3 := hA.c3
              have k4 := hA.c4
              have k5 := hA.c5
              have k6 := hA.c6
              have k7 := hA.c7
              have k8 := hA.c8
              have k9 := hA.c9
              have k10 := hA.c10
              unfold put11 noS at k0 k1 k2 k3 k4 k5 k6 k7 k8 k9 k10 hD; simp only [anV] at k0 k1 k2 k3 k4 k5 k6 k7 k8 k9 k10 hD
              refine bodyPost_ret ?_ rfl hD
              simp only [results, Tryz.results65]
              simp [go_sem, k0, k1, k2, k3, k4, k5, k6, k7, k8, k9, k10]
            exact AllReady.nil
          exact AllReady.nil
        exact AllReady.nil
      exact AllReady.nil
    exact AllReady.nil
  refine AllReady.cons rfl (fun K hK => ?_) ?_
  · go_simp
    refine hK _ _ ?_
    clear hK K; refine wpAny_ready (rs := [3, 10]) (by kernel_rfl) (by simp) ?_
    refine AllReady.cons rfl (fun K hK => ?_) ?_
    · go_simp
      refine hK _ _ ?_
      clear hK K; refine wpAny_take (i := 6) (v := ?_) rfl (by kernel_rfl) (by kernel_rfl) (by kernel_rfl) (fun _ _ _ h => h) (Or.inl ⟨by rfl, ?_⟩) ?_
      rotate_left
      · intro w; go_simp; first | done | with_reducible rfl
      refine wpAny_ready (rs := [7, 10]) (by kernel_rfl) (by simp) ?_
      refine AllReady.cons rfl (fun K hK => ?_) ?_
      · go_simp
        refine hK _ _ ?_
        clear hK K; refine wpAny_ready (rs := [10]) (by kernel_rfl) (by simp) ?_
        refine AllReady.cons rfl (fun K hK => ?_) ?_
        · go_simp
          refine hK _ _ ?_
          clear hK K; refine wpAny_ready (rs := [11]) (by kernel_rfl) (by simp) ?_
          refine AllReady.cons rfl (fun K hK => ?_) ?_
          · go_simp
            refine (CC.out _ (HF5.out.below (bel_drewN _ 1))).mono ?_; rintro e w4 ⟨⟨sx, rfl, hF4⟩, c4⟩; have B4 : Hid (Below W5.heap.size W5 w4) := bel_tr (bel_drewN _ 1) c4; have HF4 : Hid (Free W5.heap.size w4 (⟨xp, xd, xq, xg, xw⟩, sx)) := hF4; have p3 := bel_cell B4.out v3; have p5 := bel_cell B4.out f5; have p0 := bel_cell B4.out b0; have p1 := bel_cell B4.out b1; have p2 := bel_cell B4.out b2; obtain ⟨a0, a1, a2, a3, a4, a5, a6, a7, a8, a9, a10, afr⟩ := HAN5.out.below B4.out; unfold ndV; unfold zeroB at a1 a2 a3; unfold noS at a4; unfold zeroX zeroN noS at a5 a6 a7 a8 a9; simp only at a1 a2 a3 a4 a5 a6 a7 a8 a9 ⊢; clear hF4 c4
            try go_simp
            refine hK _ _ ?_
            clear hK K; refine wpAny_take (i := 12) (v := ?_) rfl (by kernel_rfl) (by kernel_rfl) (by kernel_rfl) (fun _ _ _ h => h) (Or.inl ⟨by rfl, ?_⟩) ?_
            rotate_left
            · intro w; go_simp; first | done | with_reducible rfl
            refine wpAny_ready (rs := [13]) (by kernel_rfl) (by simp) ?_
            refine AllReady.cons rfl (fun K hK => ?_) ?_
            · go_simp
              refine hK _ _ ?_
              clear hK K; refine wpAny_done (by kernel_rfl) ?_ _
              go_wp2; obtain ⟨hA, hD⟩ := HEND.out w4 sx B4.out HF4.out
              have k0 := hA.c0
              have k1 := hA.c1
              have k2 := hA.c2
              have k3 := hA.c3
              have k4 := hA.c4
              have k5 := hA.c5
              have k6 := hA.c6
              have k7 := hA.c7
              have k8 := hA.c8
              have k9 := hA.c9
              have k10 := hA.c10
              unfold put11 noS at k0 k1 k2 k3 k4 k5 k6 k7 k8 k9 k10 hD; simp only [anV] at k0 k1 k2 k3 k4 k5 k6 k7 k8 k9 k10 hD
              refine bodyPost_ret ?_ rfl hD
              simp only [results, Tryz.results65]
              simp [go_sem, k0, k1, k2, k3, k4, k5, k6, k7, k8, k9, k10]
            exact AllReady.nil
          exact AllReady.nil
        exact AllReady.nil
      refine AllReady.cons rfl (fun K hK => ?_) ?_
      · go_simp
        refine hK _ _ ?_
        clear hK K; refine wpAny_ready (rs := [7, 11]) (by kernel_rfl) (by simp) ?_
        refine AllReady.cons rfl (fun K hK => ?_) ?_
        · go_simp
          refine hK _ _ ?_
          clear hK K; refine wpAny_ready (rs := [11]) (by kernel_rfl) (by simp) ?_
          refine AllReady.cons rfl (fun K hK => ?_) ?_
          · go_simp
            refine (CC.out _ (HF5.out.below (bel_drewN _ 1))).mono ?_; rintro e w4 ⟨⟨sx, rfl, hF4⟩, c4⟩; have B4 : Hid (Below W5.heap.size W5 w4) := bel_tr (bel_drewN _ 1) c4; have HF4 : Hid (Free W5.heap.size w4 (⟨xp, xd, xq, xg, xw⟩, sx)) := hF4; have p3 := bel_cell B4.out v3; have p5 := bel_cell B4.out f5; have p0 := bel_cell B4.out b0; have p1 := bel_cell B4.out b1; have p2 := bel_cell B4.out b2; obtain ⟨a0, a1, a2, a3, a4, a5, a6, a7, a8, a9, a10, afr⟩ := HAN5.out.below B4.out; unfold ndV; unfold zeroB at a1 a2 a3; unfold noS at a4; unfold zeroX zeroN noS at a5 a6 a7 a8 a9; simp only at a1 a2 a3 a4 a5 a6 a7 a8 a9 ⊢; clear hF4 c4
            try go_simp
            refine hK _ _ ?_
            clear hK K; refine wpAny_take (i := 12) (v := ?_) rfl (by kernel_rfl) (by kernel_rfl) (by kernel_rfl) (fun _ _ _ h => h) (Or.inl ⟨by rfl, ?_⟩) ?_
            rotate_left
            · intro w; go_simp; first | done | with_reducible rfl
            refine wpAny_ready (rs := [13]) (by kernel_rfl) (by simp) ?_
            refine AllReady.cons rfl (fun K hK => ?_) ?_
            · go_simp
              refine hK _ _ ?_
              clear hK K; refine wpAny_done (by kernel_rfl) ?_ _
              go_wp2; obtain ⟨hA, hD⟩ := HEND.out w4 sx B4.out HF4.out
              have k0 := hA.c0
              have k1 := hA.c1
              have k2 := hA.c2
              have k3 := hA.c3
              have k4 := hA.c4
              have k5 := hA.c5
              have k6 := hA.c6
              have k7 := hA.c7
              have k8 := hA.c8
              have k9 := hA.c9
              have k10 := hA.c10
              unfold put11 noS at k0 k1 k2 k3 k4 k5 k6 k7 k8 k9 k10 hD; simp only [anV] at k0 k1 k2 k3 k4 k5 k6 k7 k8 k9 k10 hD
              refine bodyPost_ret ?_ rfl hD
              simp only [results, Tryz.results65]
              simp [go_sem, k0, k1, k2, k3, k4, k5, k6, k7, k8, k9, k10]
            exact AllReady.nil
          exact AllReady.nil
        refine AllReady.cons rfl (fun K hK => ?_) ?_
        · go_simp
          refine (CC.out _ (HF5.out.below (bel_drewN _ 1))).mono ?_; rintro e w4 ⟨⟨sx, rfl, hF4⟩, c4⟩; have B4 : Hid (Below W5.heap.size W5 w4) := bel_tr (bel_drewN _ 1) c4; have HF4 : Hid (Free W5.heap.size w4 (⟨xp, xd, xq, xg, xw⟩, sx)) := hF4; have p3 := bel_cell B4.out v3; have p5 := bel_cell B4.out f5; have p0 := bel_cell B4.out b0; have p1 := bel_cell B4.out b1; have p2 := bel_cell B4.out b2; obtain ⟨a0, a1, a2, a3, a4, a5, a6, a7, a8, a9, a10, afr⟩ := HAN5.out.below B4.out; unfold ndV; unfold zeroB at a1 a2 a3; unfold noS at a4; unfold zeroX zeroN noS at a5 a6 a7 a8 a9; simp only at a1 a2 a3 a4 a5 a6 a7 a8 a9 ⊢; clear hF4 c4
          try go_simp
          refine hK _ _ ?_
          clear hK K; refine wpAny_ready (rs := [7]) (by kernel_rfl) (by simp) ?_
          refine AllReady.cons rfl (fun K hK => ?_) ?_
          · go_simp
            refine hK _ _ ?_
            clear hK K; refine wpAny_take (i := 12) (v := ?_) rfl (by kernel_rfl) (by kernel_rfl) (by kernel_rfl) (fun _ _ _ h => h) (Or.inl ⟨by rfl, ?_⟩) ?_
            rotate_left
            · intro w; go_simp; first | done | with_reducible rfl
            refine wpAny_ready (rs := [13]) (by kernel_rfl) (by simp) ?_
            refine AllReady.cons rfl (fun K hK => ?_) ?_
            · go_simp
              refine hK _ _ ?_
              clear hK K; refine wpAny_done (by kernel_rfl) ?_ _
              go_wp2; obtain ⟨hA, hD⟩ := HEND.out w4 sx B4.out HF4.out
              have k0 := hA.c0
              have k1 := hA.c1
              have k2 := hA.c2
              have k3 := hA.c3
              have k4 := hA.c4
              have k5 := hA.c5
              have k6 := hA.c6
              have k7 := hA.c7
              have k8 := hA.c8
              have k9 := hA.c9
              have k10 := hA.c10
              unfold put11 noS at k0 k1 k2 k3 k4 k5 k6 k7 k8 k9 k10 hD; simp only [anV] at k0 k1 k2 k3 k4 k5 k6 k7 k8 k9 k10 hD
              refine bodyPost_ret ?_ rfl hD
              simp only [results, Tryz.results65]
              simp [go_sem, k0, k1, k2, k3, k4, k5, k6, k7, k8, k9, k10]
            exact AllReady.nil
          exact AllReady.nil
        exact AllReady.nil
      exact AllReady.nil
    refine AllReady.cons rfl (fun K hK => ?_) ?_
    · go_simp
      refine hK _ _ ?_
      clear hK K; refine wpAny_ready (rs := [3, 11]) (by kernel_rfl) (by simp) ?_
      refine AllReady.cons rfl (fun K hK => ?_) ?_
      · go_simp
        refine hK _ _ ?_
        clear hK K; refine wpAny_take (i := 6) (v := ?_) rfl (by kernel_rfl) (by kernel_rfl) (by kernel_rfl) (fun _ _ _ h => h) (Or.inl ⟨by rfl, ?_⟩) ?_
        rotate_left
        · intro w; go_simp; first | done | with_reducible rfl
        refine wpAny_ready (rs := [7, 11]) (by kernel_rfl) (by simp) ?_
        refine AllReady.cons rfl (fun K hK => ?_) ?_
        · go_simp
          refine hK _ _ ?_
          clear hK K; refine wpAny_ready (rs := [11]) (by kernel_rfl) (by simp) ?_
          refine AllReady.cons rfl (fun K hK => ?_) ?_
          · go_simp
            refine (CC.out _ (HF5.out.below (bel_drewN _ 1))).mono ?_; rintro e w4 ⟨⟨sx, rfl, hF4⟩, c4⟩; have B4 : Hid (Below W5.heap.size W5 w4) := bel_tr (bel_drewN _ 1) c4; have HF4 : Hid (Free W5.heap.size w4 (⟨xp, xd, xq, xg, xw⟩, sx)) := hF4; have p3 := bel_cell B4.out v3; have p5 := bel_cell B4.out f5; have p0 := bel_cell B4.out b0; have p1 := bel_cell B4.out b1; have p2 := bel_cell B4.out b2; obtain ⟨a0, a1, a2, a3, a4, a5, a6, a7, a8, a9, a10, afr⟩ := HAN5.out.below B4.out; unfold ndV; unfold zeroB at a1 a2 a3; unfold noS at a4; unfold zeroX zeroN noS at a5 a6 a7 a8 a9; simp only at a1 a2 a3 a4 a5 a6 a7 a8 a9 ⊢; clear hF4 c4
            try go_simp
            refine hK _ _ ?_
            clear hK K; refine wpAny_take (i := 12) (v := ?_) rfl (by kernel_rfl) (by kernel_rfl) (by kernel_rfl) (fun _ _ _ h => h) (Or.inl ⟨by rfl, ?_⟩) ?_
            rotate_left
            · intro w; go_simp; first | done | with_reducible rfl
            refine wpAny_ready (rs := [13]) (by kernel_rfl) (by simp) ?_
            refine AllReady.cons rfl (fun K hK => ?_) ?_
            · go_simp
              refine hK _ _ ?_
              clear hK K; refine wpAny_done (by kernel_rfl) ?_ _
              go_wp2; obtain ⟨hA, hD⟩ := HEND.out w4 sx B4.out HF4.out
              have k0 := hA.c0
              have k1 := hA.c1
              have k2 := hA.c2
              have k3 := hA.c3
              have k4 := hA.c4
              have k5 := hA.c5
              have k6 := hA.c6
              have k7 := hA.c7
              have k8 := hA.c8
              have k9 := hA.c9
              have k10 := hA.c10
              unfold put11 noS at k0 k1 k2 k3 k4 k5 k6 k7 k8 k9 k10 hD; simp only [anV] at k0 k1 k2 k3 k4 k5 k6 k7 k8 k9 k10 hD
              refine bodyPost_ret ?_ rfl hD
              simp only [results, Tryz.results65]
              simp [go_sem, k0, k1, k2, k3, k4, k5, k6, k7, k8, k9, k10]
            exact AllReady.nil
          exact AllReady.nil
        refine AllReady.cons rfl (fun K hK => ?_) ?_
        · go_simp
          refine (CC.out _ (HF5.out.below (bel_drewN _ 1))).mono ?_; rintro e w4 ⟨⟨sx, rfl, hF4⟩, c4⟩; have B4 : Hid (Below W5.heap.size W5 w4) := bel_tr (bel_drewN _ 1) c4; have HF4 : Hid (Free W5.heap.size w4 (⟨xp, xd, xq, xg, xw⟩, sx)) := hF4; have p3 := bel_cell B4.out v3; have p5 := bel_cell B4.out f5; have p0 := bel_cell B4.out b0; have p1 := bel_cell B4.out b1; have p2 := bel_cell B4.out b2; obtain ⟨a0, a1, a2, a3, a4, a5, a6, a7, a8, a9, a10, afr⟩ := HAN5.out.below B4.out; unfold ndV; unfold zeroB at a1 a2 a3; unfold noS at a4; unfold zeroX zeroN noS at a5 a6 a7 a8 a9; simp only at a1 a2 a3 a4 a5 a6 a7 a8 a9 ⊢; clear hF4 c4
          try go_simp
          refine hK _ _ ?_
          clear hK K; refine wpAny_ready (rs := [7]) (by kernel_rfl) (by simp) ?_
          refine AllReady.cons rfl (fun K hK => ?_) ?_
          · go_simp
            refine hK _ _ ?_
            clear hK K; refine wpAny_take (i := 12) (v := ?_) rfl (by kernel_rfl) (by kernel_rfl) (by kernel_rfl) (fun _ _ _ h => h) (Or.inl ⟨by rfl, ?_⟩) ?_
            rotate_left
            · intro w; go_simp; first | done | with_reducible rfl
            refine wpAny_ready (rs := [13]) (by kernel_rfl) (by simp) ?_
            refine AllReady.cons rfl (fun K hK => ?_) ?_
            · go_simp
              refine hK _ _ ?_
              clear hK K; refine wpAny_done (by kernel_rfl) ?_ _
              go_wp2; obtain ⟨hA, hD⟩ := HEND.out w4 sx B4.out HF4.out
              have k0 := hA.c0
              have k1 := hA.c1
              have k2 := hA.c2
              have k3 := hA.c3
              have k4 := hA.c4
              have k5 := hA.c5
              have k6 := hA.c6
              have k7 := hA.c7
              have k8 := hA.c8
              have k9 := hA.c9
              have k10 := hA.c10
              unfold put11 noS at k0 k1 k2 k3 k4 k5 k6 k7 k8 k9 k10 hD; simp only [anV] at k0 k1 k2 k3 k4 k5 k6 k7 k8 k9 k10 hD
              refine bodyPost_ret ?_ rfl hD
              simp only [results, Tryz.results65]
              simp [go_sem, k0, k1, k2, k3, k4, k5, k6, k7, k8, k9, k10]
            exact AllReady.nil
          exact AllReady.nil
        exact AllReady.nil
      refine AllReady.cons rfl (fun K hK => ?_) ?_
      · go_simp
        refine (CC.out _ (HF5.out.below (bel_drewN _ 1))).mono ?_; rintro e w4 ⟨⟨sx, rfl, hF4⟩, c4⟩; have B4 : Hid (Below W5.heap.size W5 w4) := bel_tr (bel_drewN _ 1) c4; have HF4 : Hid (Free W5.heap.size w4 (⟨xp, xd, xq, xg, xw⟩, sx)) := hF4; have p3 := bel_cell B4.out v3; have p5 := bel_cell B4.out f5; have p0 := bel_cell B4.out b0; have p1 := bel_cell B4.out b1; have p2 := bel_cell B4.out b2; obtain ⟨a0, a1, a2, a3, a4, a5, a6, a7, a8, a9, a10, afr⟩ := HAN5.out.below B4.out; unfold ndV; unfold zeroB at a1 a2 a3; unfold noS at a4; unfold zeroX zeroN noS at a5 a6 a7 a8 a9; simp only at a1 a2 a3 a4 a5 a6 a7 a8 a9 ⊢; clear hF4 c4
        try go_simp
        refine hK _ _ ?_
        clear hK K; refine wpAny_ready (rs := [3]) (by kernel_rfl) (by simp) ?_
        refine AllReady.cons rfl (fun K hK => ?_) ?_
        · go_simp
          refine hK _ _ ?_
          clear hK K; refine wpAny_take (i := 6) (v := ?_) rfl (by kernel_rfl) (by kernel_rfl) (by kernel_rfl) (fun _ _ _ h => h) (Or.inl ⟨by rfl, ?_⟩) ?_
          rotate_left
          · intro w; go_simp; first | done | with_reducible rfl
          refine wpAny_ready (rs := [7]) (by kernel_rfl) (by simp) ?_
          refine AllReady.cons rfl (fun K hK => ?_) ?_
          · go_simp
            refine hK _ _ ?_
            clear hK K; refine wpAny_take (i := 12) (v := ?_) rfl (by kernel_rfl) (by kernel_rfl) (by kernel_rfl) (fun _ _ _ h => h) (Or.inl ⟨by rfl, ?_⟩) ?_
            rotate_left
            · intro w; go_simp; first | done | with_reducible rfl
            refine wpAny_ready (rs := [13]) (by kernel_rfl) (by simp) ?_
            refine AllReady.cons rfl (fun K hK => ?_) ?_
            · go_simp
              refine hK _ _ ?_
              clear hK K; refine wpAny_done (by kernel_rfl) ?_ _
              go_wp2; obtain ⟨hA, hD⟩ := HEND.out w4 sx B4.out HF4.out
              have k0 := hA.c0
              have k1 := hA.c1
              have k2 := hA.c2
              have k3 := hA.c3
              have k4 := hA.c4
              have k5 := hA.c5
              have k6 := hA.c6
              have k7 := hA.c7
              have k8 := hA.c8
              have k9 := hA.c9
              have k10 := hA.c10
              unfold put11 noS at k0 k1 k2 k3 k4 k5 k6 k7 k8 k9 k10 hD; simp only [anV] at k0 k1 k2 k3 k4 k5 k6 k7 k8 k9 k10 hD
              refine bodyPost_ret ?_ rfl hD
              simp only [results, Tryz.results65]
              simp [go_sem, k0, k1, k2, k3, k4, k5, k6, k7, k8, k9, k10]
            exact AllReady.nil
          exact AllReady.nil
        exact AllReady.nil
      exact AllReady.nil
    exact AllReady.nil
  refine AllReady.cons rfl (fun K hK => ?_) ?_
  · go_simp
    refine hK _ _ ?_
    clear hK K; refine wpAny_ready (rs := [3, 5, 11]) (by kernel_rfl) (by simp) ?_
    refine AllReady.cons rfl (fun K hK => ?_) ?_
    · go_simp
      refine hK _ _ ?_
      clear hK K; refine wpAny_ready (rs := [5, 11]) (by kernel_rfl) (by simp) ?_
      refine AllReady.cons rfl (fun K hK => ?_) ?_
      · go_simp
        refine hK _ _ ?_
        clear hK K; refine wpAny_take (i := 6) (v := ?_) rfl (by kernel_rfl) (by kernel_rfl) (by kernel_rfl) (fun _ _ _ h => h) (Or.inl ⟨by rfl, ?_⟩) ?_
        rotate_left
        · intro w; go_simp; first | done | with_reducible rfl
        refine wpAny_ready (rs := [7, 11]) (by kernel_rfl) (by simp) ?_
        refine AllReady.cons rfl (fun K hK => ?_) ?_
        · go_simp
          refine hK _ _ ?_
          clear hK K; refine wpAny_ready (rs := [11]) (by kernel_rfl) (by simp) ?_
          refine AllReady.cons rfl (fun K hK => ?_) ?_
          · go_simp
            refine (CC.out _ (HF5.out.below (bel_drewN _ 1))).mono ?_; rintro e w4 ⟨⟨sx, rfl, hF4⟩, c4⟩; have B4 : Hid (Below W5.heap.size W5 w4) := bel_tr (bel_drewN _ 1) c4; have HF4 : Hid (Free W5.heap.size w4 (⟨xp, xd, xq, xg, xw⟩, sx)) := hF4; have p3 := bel_cell B4.out v3; have p5 := bel_cell B4.out f5; have p0 := bel_cell B4.out b0; have p1 := bel_cell B4.out b1; have p2 := bel_cell B4.out b2; obtain ⟨a0, a1, a2, a3, a4, a5, a6, a7, a8, a9, a10, afr⟩ := HAN5.out.below B4.out; unfold ndV; unfold zeroB at a1 a2 a3; unfold noS at a4; unfold zeroX zeroN noS at a5 a6 a7 a8 a9; simp only at a1 a2 a3 a4 a5 a6 a7 a8 a9 ⊢; clear hF4 c4
            try go_simp
            refine hK _ _ ?_
            clear hK K; refine wpAny_take (i := 12) (v := ?_) rfl (by kernel_rfl) (by kernel_rfl) (by kernel_rfl) (fun _ _ _ h => h) (Or.inl ⟨by rfl, ?_⟩) ?_
            rotate_left
            · intro w; go_simp; first | done | with_reducible rfl
            refine wpAny_ready (rs := [13]) (by kernel_rfl) (by simp) ?_
            refine AllReady.cons rfl (fun K hK => ?_) ?_
            · go_simp
              refine hK _ _ ?_
              clear hK K; refine wpAny_done (by kernel_rfl) ?_ _
              go_wp2; obtain ⟨hA, hD⟩ := HEND.out w4 sx B4.out HF4.out
              have k0 := hA.c0
              have k1 := hA.c1
              have k2 := hA.c2
              have k3 := hA.c3
              have k4 := hA.c4
              have k5 := hA.c5
              have k6 := hA.c6
              have k7 := hA.c7
              have k8 := hA.c8
              have k9 := hA.c9
              have k10 := hA.c10
              unfold put11 noS at k0 k1 k2 k3 k4 k5 k6 k7 k8 k9 k10 hD; simp only [anV] at k0 k1 k2 k3 k4 k5 k6 k7 k8 k9 k10 hD
              refine bodyPost_ret ?_ rfl hD
              simp only [results, Tryz.results65]
              simp [go_sem, k0, k1, k2, k3, k4, k5, k6, k7, k8, k9, k10]
            exact AllReady.nil
          exact AllReady.nil
        refine AllReady.cons rfl (fun K hK => ?_) ?_
        · go_simp
          refine (CC.out _ (HF5.out.below (bel_drewN _ 1))).mono ?_; rintro e w4 ⟨⟨sx, rfl, hF4⟩, c4⟩; have B4 : Hid (Below W5.heap.size W5 w4) := bel_tr (bel_drewN _ 1) c4; have HF4 : Hid (Free W5.heap.size w4 (⟨xp, xd, xq, xg, xw⟩, sx)) := hF4; have p3 := bel_cell B4.out v3; have p5 := bel_cell B4.out f5; have p0 := bel_cell B4.out b0; have p1 := bel_cell B4.out b1; have p2 := bel_cell B4.out b2; obtain ⟨a0, a1, a2, a3, a4, a5, a6, a7, a8, a9, a10, afr⟩ := HAN5.out.below B4.out; unfold ndV; unfold zeroB at a1 a2 a3; unfold noS at a4; unfold zeroX zeroN noS at a5 a6 a7 a8 a9; simp only at a1 a2 a3 a4 a5 a6 a7 a8 a9 ⊢; clear hF4 c4
          try go_simp
          refine hK _ _ ?_
          clear hK K; refine wpAny_ready (rs := [7]) (by kernel_rfl) (by simp) ?_
          refine AllReady.cons rfl (fun K hK => ?_) ?_
          · go_simp
            refine hK _ _ ?_
            clear hK K; refine wpAny_take (i := 12) (v := ?_) rfl (by kernel_rfl) (by kernel_rfl) (by kernel_rfl) (fun _ _ _ h => h) (Or.inl ⟨by rfl, ?_⟩) ?_
            rotate_left
            · intro w; go_simp; first | done | with_reducible rfl
            refine wpAny_ready (rs := [13]) (by kernel_rfl) (by simp) ?_
            refine AllReady.cons rfl (fun K hK => ?_) ?_
            · go_simp
              refine hK _ _ ?_
              clear hK K; refine wpAny_done (by kernel_rfl) ?_ _
              go_wp2; obtain ⟨hA, hD⟩ := HEND.out w4 sx B4.out HF4.out
              have k0 := hA.c0
              have k1 := hA.c1
              have k2 := hA.c2
              have k3 := hA.c3
              have k4 := hA.c4
              have k5 := hA.c5
              have k6 := hA.c6
              have k7 := hA.c7
              have k8 := hA.c8
              have k9 := hA.c9
              have k10 := hA.c10
              unfold put11 noS at k0 k1 k2 k3 k4 k5 k6 k7 k8 k9 k10 hD; simp only [anV] at k0 k1 k2 k3 k4 k5 k6 k7 k8 k9 k10 hD
              refine bodyPost_ret ?_ rfl hD
              simp only [results, Tryz.results65]
              simp [go_sem, k0, k1, k2, k3, k4, k5, k6, k7, k8, k9, k10]
            exact AllReady.nil
          exact AllReady.nil
        exact AllReady.nil
      refine AllReady.cons rfl (fun K hK => ?_) ?_
      · go_simp
        refine (CC.out _ (HF5.out.below (bel_drewN _ 1))).mono ?_; rintro e w4 ⟨⟨sx, rfl, hF4⟩, c4⟩; have B4 : Hid (Below W5.heap.size W5 w4) := bel_tr (bel_drewN _ 1) c4; have HF4 : Hid (Free W5.heap.size w4 (⟨xp, xd, xq, xg, xw⟩, sx)) := hF4; have p3 := bel_cell B4.out v3; have p5 := bel_cell B4.out f5; have p0 := bel_cell B4.out b0; have p1 := bel_cell B4.out b1; have p2 := bel_cell B4.out b2; obtain ⟨a0, a1, a2, a3, a4, a5, a6, a7, a8, a9, a10, afr⟩ := HAN5.out.below B4.out; unfold ndV; unfold zeroB at a1 a2 a3; unfold noS at a4; unfold zeroX zeroN noS at a5 a6 a7 a8 a9; simp only at a1 a2 a3 a4 a5 a6 a7 a8 a9 ⊢; clear hF4 c4
        try go_simp
        refine hK _ _ ?_
        clear hK K; refine wpAny_ready (rs := [5]) (by kernel_rfl) (by simp) ?_
        refine AllReady.cons rfl (fun K hK => ?_) ?_
        · go_simp
          refine hK _ _ ?_
          clear hK K; refine wpAny_take (i := 6) (v := ?_) rfl (by kernel_rfl) (by kernel_rfl) (by kernel_rfl) (fun _ _ _ h => h) (Or.inl ⟨by rfl, ?_⟩) ?_
          rotate_left
          · intro w; go_simp; first | done | with_reducible rfl
          refine wpAny_ready (rs := [7]) (by kernel_rfl) (by simp) ?_
          refine AllReady.cons rfl (fun K hK => ?_) ?_
          · go_simp
            refine hK _ _ ?_
            clear hK K; refine wpAny_take (i := 12) (v := ?_) rfl (by kernel_rfl) (by kernel_rfl) (by kernel_rfl) (fun _ _ _ h => h) (Or.inl ⟨by rfl, ?_⟩) ?_
            rotate_left
            · intro w; go_simp; first | done | with_reducible rfl
            refine wpAny_ready (rs := [13]) (by kernel_rfl) (by simp) ?_
            refine AllReady.cons rfl (fun K hK => ?_) ?_
            · go_simp
              refine hK _ _ ?_
              clear hK K; refine wpAny_done (by kernel_rfl) ?_ _
              go_wp2; obtain ⟨hA, hD⟩ := HEND.out w4 sx B4.out HF4.out
              have k0 := hA.c0
              have k1 := hA.c1
              have k2 := hA.c2
              have k3 := hA.c3
              have k4 := hA.c4
              have k5 := hA.c5
              have k6 := hA.c6
              have k7 := hA.c7
              have k8 := hA.c8
              have k9 := hA.c9
              have k10 := hA.c10
              unfold put11 noS at k0 k1 k2 k3 k4 k5 k6 k7 k8 k9 k10 hD; simp only [anV] at k0 k1 k2 k3 k4 k5 k6 k7 k8 k9 k10 hD
              refine bodyPost_ret ?_ rfl hD
              simp only [results, Tryz.results65]
              simp [go_sem, k0, k1, k2, k3, k4, k5, k6, k7, k8, k9, k10]
            exact AllReady.nil
          exact AllReady.nil
        exact AllReady.nil
      exact AllReady.nil
    refine AllReady.cons rfl (fun K hK => ?_) ?_
    · go_simp
      refine hK _ _ ?_
      clear hK K; refine wpAny_ready (rs := [3, 11]) (by kernel_rfl) (by simp) ?_
      refine AllReady.cons rfl (fun K hK => ?_) ?_
      · go_simp
        refine hK _ _ ?_
        clear hK K; refine wpAny_take (i := 6) (v := ?_) rfl (by kernel_rfl) (by kernel_rfl) (by kernel_rfl) (fun _ _ _ h => h) (Or.inl ⟨by rfl, ?_⟩) ?_
        rotate_left
        · intro w; go_simp; first | done | with_reducible rfl
        refine wpAny_ready (rs := [7, 11]) (by kernel_rfl) (by simp) ?_
        refine AllReady.cons rfl (fun K hK => ?_) ?_
        · go_simp
          refine hK _ _ ?_
          clear hK K; refine wpAny_ready (rs := [11]) (by kernel_rfl) (by simp) ?_
          refine AllReady.cons rfl (fun K hK => ?_) ?_
          · go_simp
            refine (CC.out _ (HF5.out.below (bel_drewN _ 1))).mono ?_; rintro e w4 ⟨⟨sx, rfl, hF4⟩, c4⟩; have B4 : Hid (Below W5.heap.size W5 w4) := bel_tr (bel_drewN _ 1) c4; have HF4 : Hid (Free W5.heap.size w4 (⟨xp, xd, xq, xg, xw⟩, sx)) := hF4; have p3 := bel_cell B4.out v3; have p5 := bel_cell B4.out f5; have p0 := bel_cell B4.out b0; have p1 := bel_cell B4.out b1; have p2 := bel_cell B4.out b2; obtain ⟨a0, a1, a2, a3, a4, a5, a6, a7, a8, a9, a10, afr⟩ := HAN5.out.below B4.out; unfold ndV; unfold zeroB at a1 a2 a3; unfold noS at a4; unfold zeroX zeroN noS at a5 a6 a7 a8 a9; simp only at a1 a2 a3 a4 a5 a6 a7 a8 a9 ⊢; clear hF4 c4
            try go_simp
            refine hK _ _ ?_
            clear hK K; refine wpAny_take (i := 12) (v := ?_) rfl (by kernel_rfl) (by kernel_rfl) (by kernel_rfl) (fun _ _ _ h => h) (Or.inl ⟨by rfl, ?_⟩) ?_
            rotate_left
            · intro w; go_simp; first | done | with_reducible rfl
            refine wpAny_ready (rs := [13]) (by kernel_rfl) (by simp) ?_
            refine AllReady.cons rfl (fun K hK => ?_) ?_
            · go_simp
              refine hK _ _ ?_
              clear hK K; refine wpAny_done (by kernel_rfl) ?_ _
              go_wp2; obtain ⟨hA, hD⟩ := HEND.out w4 sx B4.out HF4.out
              have k0 := hA.c0
              have k1 := hA.c1
              have k2 := hA.c2
              have k3 := hA.c3
              have k4 := hA.c4
              have k5 := hA.c5
              have k6 := hA.c6
              have k7 := hA.c7
              have k8 := hA.c8
              have k9 := hA.c9
              have k10 := hA.c10
              unfold put11 noS at k0 k1 k2 k3 k4 k5 k6 k7 k8 k9 k10 hD; simp only [anV] at k0 k1 k2 k3 k4 k5 k6 k7 k8 k9 k10 hD
              refine bodyPost_ret ?_ rfl hD
              simp only [results, Tryz.results65]
              simp [go_sem, k0, k1, k2, k3, k4, k5, k6, k7, k8, k9, k10]
            exact AllReady.nil
          exact AllReady.nil
        refine AllReady.cons rfl (fun K hK => ?_) ?_
        · go_simp
          refine (CC.out _ (HF5.out.below (bel_drewN _ 1))).mono ?_; rintro e w4 ⟨⟨sx, rfl, hF4⟩, c4⟩; have B4 : Hid (Below W5.heap.size W5 w4) := bel_tr (bel_drewN _ 1) c4; have HF4 : Hid (Free W5.heap.size w4 (⟨xp, xd, xq, xg, xw⟩, sx)) := hF4; have p3 := bel_cell B4.out v3; have p5 := bel_cell B4.out f5; have p0 := bel_cell B4.out b0; have p1 := bel_cell B4.out b1; have p2 := bel_cell B4.out b2; obtain ⟨a0, a1, a2, a3, a4, a5, a6, a7, a8, a9, a10, afr⟩ := HAN5.out.below B4.out; unfold ndV; unfold zeroB at a1 a2 a3; unfold noS at a4; unfold zeroX zeroN noS at a5 a6 a7 a8 a9; simp only at a1 a2 a3 a4 a5 a6 a7 a8 a9 ⊢; clear hF4 c4
          try go_simp
          refine hK _ _ ?_
          clear hK K; refine wpAny_ready (rs := [7]) (by kernel_rfl) (by simp) ?_
          refine AllReady.cons rfl (fun K hK => ?_) ?_
          · go_simp
            refine hK _ _ ?_
            clear hK K; refine wpAny_take (i := 12) (v := ?_) rfl (by kernel_rfl) (by kernel_rfl) (by kernel_rfl) (fun _ _ _ h => h) (Or.inl ⟨by rfl, ?_⟩) ?_
            rotate_left
            · intro w; go_simp; first | done | with_reducible rfl
            refine wpAny_ready (rs := [13]) (by kernel_rfl) (by simp) ?_
            refine AllReady.cons rfl (fun K hK => ?_) ?_
            · go_simp
              refine hK _ _ ?_
              clear hK K; refine wpAny_done (by kernel_rfl) ?_ _
              go_wp2; obtain ⟨hA, hD⟩ := HEND.out w4 sx B4.out HF4.out
              have k0 := hA.c0
              have k1 := hA.c1
              have k2 := hA.c2
              have k3 := hA.c3
              have k4 := hA.c4
              have k5 := hA.c5
              have k6 := hA.c6
              have k7 := hA.c7
              have k8 := hA.c8
              have k9 := hA.c9
              have k10 := hA.c10
              unfold put11 noS at k0 k1 k2 k3 k4 k5 k6 k7 k8 k9 k10 hD; simp only [anV] at k0 k1 k2 k3 k4 k5 k6 k7 k8 k9 k10 hD
              refine bodyPost_ret ?_ rfl hD
              simp only [results, Tryz.results65]
              simp [go_sem, k0, k1, k2, k3, k4, k5, k6, k7, k8, k9, k10]
            exact AllReady.nil
          exact AllReady.nil
        exact AllReady.nil
      refine AllReady.cons rfl (fun K hK => ?_) ?_
      · go_simp
        refine (CC.out _ (HF5.out.below (bel_drewN _ 1))).mono ?_; rintro e w4 ⟨⟨sx, rfl, hF4⟩, c4⟩; have B4 : Hid (Below W5.heap.size W5 w4) := bel_tr (bel_drewN _ 1) c4; have HF4 : Hid (Free W5.heap.size w4 (⟨xp, xd, xq, xg, xw⟩, sx)) := hF4; have p3 := bel_cell B4.out v3; have p5 := bel_cell B4.out f5; have p0 := bel_cell B4.out b0; have p1 := bel_cell B4.out b1; have p2 := bel_cell B4.out b2; obtain ⟨a0, a1, a2, a3, a4, a5, a6, a7, a8, a9, a10, afr⟩ := HAN5.out.below B4.out; unfold ndV; unfold zeroB at a1 a2 a3; unfold noS at a4; unfold zeroX zeroN noS at a5 a6 a7 a8 a9; simp only at a1 a2 a3 a4 a5 a6 a7 a8 a9 ⊢; clear hF4 c4
        try go_simp
        refine hK _ _ ?_
        clear hK K; refine wpAny_ready (rs := [3]) (by kernel_rfl) (by simp) ?_
        refine AllReady.cons rfl (fun K hK => ?_) ?_
        · go_simp
          refine hK _ _ ?_
          clear hK K; refine wpAny_take (i := 6) (v := ?_) rfl (by kernel_rfl) (by kernel_rfl) (by kernel_rfl) (fun _ _ _ h => h) (Or.inl ⟨by rfl, ?_⟩) ?_
          rotate_left
          · intro w; go_simp; first | done | with_reducible rfl
          refine wpAny_ready (rs := [7]) (by kernel_rfl) (by simp) ?_
          refine AllReady.cons rfl (fun K hK => ?_) ?_
          · go_simp
            refine hK _ _ ?_
            clear hK K; refine wpAny_take (i := 12) (v := ?_) rfl (by kernel_rfl) (by kernel_rfl) (by kernel_rfl) (fun _ _ _ h => h) (Or.inl ⟨by rfl, ?_⟩) ?_
            rotate_left
            · intro w; go_simp; first | done | with_reducible rfl
            refine wpAny_ready (rs := [13]) (by kernel_rfl) (by simp) ?_
            refine AllReady.cons rfl (fun K hK => ?_) ?_
            · go_simp
              refine hK _ _ ?_
              clear hK K; refine wpAny_done (by kernel_rfl) ?_ _
              go_wp2; obtain ⟨hA, hD⟩ := HEND.out w4 sx B4.out HF4.out
              have k0 := hA.c0
              have k1 := hA.c1
              have k2 := hA.c2
              have k3 := hA.c3
              have k4 := hA.c4
              have k5 := hA.c5
              have k6 := hA.c6
              have k7 := hA.c7
              have k8 := hA.c8
              have k9 := hA.c9
              have k10 := hA.c10
              unfold put11 noS at k0 k1 k2 k3 k4 k5 k6 k7 k8 k9 k10 hD; simp only [anV] at k0 k1 k2 k3 k4 k5 k6 k7 k8 k9 k10 hD
              refine bodyPost_ret ?_ rfl hD
              simp only [results, Tryz.results65]
              simp [go_sem, k0, k1, k2, k3, k4, k5, k6, k7, k8, k9, k10]
            exact AllReady.nil
          exact AllReady.nil
        exact AllReady.nil
      exact AllReady.nil
    refine AllReady.cons rfl (fun K hK => ?_) ?_
    · go_simp
      refine (CC.out _ (HF5.out.below (bel_drewN _ 1))).mono ?_; rintro e w4 ⟨⟨sx, rfl, hF4⟩, c4⟩; have B4 : Hid (Below W5.heap.size W5 w4) := bel_tr (bel_drewN _ 1) c4; have HF4 : Hid (Free W5.heap.size w4 (⟨xp, xd, xq, xg, xw⟩, sx)) := hF4; have p3 := bel_cell B4.out v3; have p5 := bel_cell B4.out f5; have p0 := bel_cell B4.out b0; have p1 := bel_cell B4.out b1; have p2 := bel_cell B4.out b2; obtain ⟨a0, a1, a2, a3, a4, a5, a6, a7, a8, a9, a10, afr⟩ := HAN5.out.below B4.out; unfold ndV; unfold zeroB at a1 a2 a3; unfold noS at a4; unfold zeroX zeroN noS at a5 a6 a7 a8 a9; simp only at a1 a2 a3 a4 a5 a6 a7 a8 a9 ⊢; clear hF4 c4
      try go_simp
      refine hK _ _ ?_
      clear hK K; refine wpAny_ready (rs := [3, 5]) (by kernel_rfl) (by simp) ?_
      refine AllReady.cons rfl (fun K hK => ?_) ?_
      · go_simp
        refine hK _ _ ?_
        clear hK K; refine wpAny_ready (rs := [5]) (by kernel_rfl) (by simp) ?_
        refine AllReady.cons rfl (fun K hK => ?_) ?_
        · go_simp
          refine hK _ _ ?_
          clear hK K; refine wpAny_take (i := 6) (v := ?_) rfl (by kernel_rfl) (by kernel_rfl) (by kernel_rfl) (fun _ _ _ h => h) (Or.inl ⟨by rfl, ?_⟩) ?_
          rotate_left
          · intro w; go_simp; first | done | with_reducible rfl
          refine wpAny_ready (rs := [7]) (by kernel_rfl) (by simp) ?_
          refine AllReady.cons rfl (fun K hK => ?_) ?_
          · go_simp
            refine hK _ _ ?_
            clear hK K; refine wpAny_take (i := 12) (v := ?_) rfl (by kernel_rfl) (by kernel_rfl) (by kernel_rfl) (fun _ _ _ h => h) (Or.inl ⟨by rfl, ?_⟩) ?_
            rotate_left
            · intro w; go_simp; first | done | with_reducible rfl
            refine wpAny_ready (rs := [13]) (by kernel_rfl) (by simp) ?_
            refine AllReady.cons rfl (fun K hK => ?_) ?_
            · go_simp
              refine hK _ _ ?_
              clear hK K; refine wpAny_done (by kernel_rfl) ?_ _
              go_wp2; obtain ⟨hA, hD⟩ := HEND.out w4 sx B4.out HF4.out
              have k0 := hA.c0
              have k1 := hA.c1
              have k2 := hA.c2
              have k3 := hA.c3
              have k4 := hA.c4
              have k5 := hA.c5
              have k6 := hA.c6
              have k7 := hA.c7
              have k8 := hA.c8
              have k9 := hA.c9
              have k10 := hA.c10
              unfold put11 noS at k0 k1 k2 k3 k4 k5 k6 k7 k8 k9 k10 hD; simp only [anV] at k0 k1 k2 k3 k4 k5 k6 k7 k8 k9 k10 hD
              refine bodyPost_ret ?_ rfl hD
              simp only [results, Tryz.results65]
              simp [go_sem, k0, k1, k2, k3, k4, k5, k6, k7, k8, k9, k10]
            exact AllReady.nil
          exact AllReady.nil
        exact AllReady.nil
      refine AllReady.cons rfl (fun K hK => ?_) ?_
      · go_simp
        refine hK _ _ ?_
        clear hK K; refine wpAny_ready (rs := [3]) (by kernel_rfl) (by simp) ?_
        refine AllReady.cons rfl (fun K hK => ?_) ?_
        · go_simp
          refine hK _ _ ?_
          clear hK K; refine wpAny_take (i := 6) (v := ?_) rfl (by kernel_rfl) (by kernel_rfl) (by kernel_rfl) (fun _ _ _ h => h) (Or.inl ⟨by rfl, ?_⟩) ?_
          rotate_left
          · intro w; go_simp; first | done | with_reducible rfl
          refine wpAny_ready (rs := [7]) (by kernel_rfl) (by simp) ?_
          refine AllReady.cons rfl (fun K hK => ?_) ?_
          · go_simp
            refine hK _ _ ?_
            clear hK K; refine wpAny_take (i := 12) (v := ?_) rfl (by kernel_rfl) (by kernel_rfl) (by kernel_rfl) (fun _ _ _ h => h) (Or.inl ⟨by rfl, ?_⟩) ?_
            rotate_left
            · intro w; go_simp; first | done | with_reducible rfl
            refine wpAny_ready (rs := [13]) (by kernel_rfl) (by simp) ?_
            refine AllReady.cons rfl (fun K hK => ?_) ?_
            · go_simp
              refine hK _ _ ?_
              clear hK K; refine wpAny_done (by kernel_rfl) ?_ _
              go_wp2; obtain ⟨hA, hD⟩ := HEND.out w4 sx B4.out HF4.out
              have k0 := hA.c0
              have k1 := hA.c1
              have k2 := hA.c2
              have k3 := hA.c3
              have k4 := hA.c4
              have k5 := hA.c5
              have k6 := hA.c6
              have k7 := hA.c7
              have k8 := hA.c8
              have k9 := hA.c9
              have k10 := hA.c10
              unfold put11 noS at k0 k1 k2 k3 k4 k5 k6 k7 k8 k9 k10 hD; simp only [anV] at k0 k1 k2 k3 k4 k5 k6 k7 k8 k9 k10 hD
              refine bodyPost_ret ?_ rfl hD
              simp only [results, Tryz.results65]
              simp [go_sem, k0, k1, k2, k3, k4, k5, k6, k7, k8, k9, k10]
            exact AllReady.nil
          exact AllReady.nil
        exact AllReady.nil
      exact AllReady.nil
    exact AllReady.nil
  exact AllReady.nil
end Go.Proofs.YtdilfbfkeiaafaaGreat.Spa
