/- Part 32 of the proof: SpaceF7, SpaceF8. -/
import Derived.Test.YtdilfbfkeiaafaaGreatB31
set_option maxRecDepth 100000
set_option maxHeartbeats 8000000
namespace Go.Proofs.YtdilfbfkeiaafaaGreat.Spa
open Go.RowKit Go.Proofs.YtdilfbfkeiaafaaGreat
open Go.Proofs.YtdilfbfkeiaafaaGreat.Lea (LS Ls findX putL renX LL LO LsR lsC wideL)
def ApartB (x y : NR) : Prop := ∀ k, x.2.blk = some k → y.2.blk ≠ some k
structure Own (base : Nat) (w : World) (s : Sp) (N L : RS) (ps : List NR) (g gl : Option Nat) : Prop where
  lot : Lot base w N.a N.n N.c ps g
  map : ps.map (·.1) = s.ns
  lo : LO base w L.a L.n L.c s.ls gl
  sep : ps.Pairwise ApartB
  gl1 : ∀ k, g = some k → gl ≠ some k
  gl2 : ∀ x ∈ ps, ∀ k, x.2.blk = some k → gl ≠ some k
theorem Own.below {base : Nat} {w w' : World} {s : Sp} {N L : RS} {ps : List NR} {g gl : Option Nat} (h : Own base w s N L ps g gl) (hb : Below w.heap.size w w') : Own base w' s N L ps g gl :=
  ⟨h.lot.below hb, h.map, h.lo.below hb, h.sep, h.gl1, h.gl2⟩
theorem Own.mono {b1 b2 : Nat} {w : World} {s : Sp} {N L : RS} {ps : List NR} {g gl : Option Nat} (h : Own b1 w s N L ps g gl) (hb : b2 ≤ b1) : Own b2 w s N L ps g gl :=
  ⟨h.lot.mono hb, h.map, h.lo.mono hb, h.sep, h.gl1, h.gl2⟩
structure Sz (N L : RS) (ps : List NR) : Prop where
  n : N.n * 64 ≤ 140737488355328
  l : L.n * 16 ≤ 140737488355328
  b : ∀ x ∈ ps, x.2.n * 24 ≤ 140737488355328
structure Rm (w : World) (s : RS) : Prop where
  z : s.n = 0 → s.c = 0
  le : s.n ≤ s.c
  lid : s.c ≤ maxLen
  live : 0 < s.n → ∃ b, s.a = some ⟨b, 0, none⟩ ∧ ∀ j, j < s.c * 3 → (w.cell? ⟨b, j, none⟩).isSome = true ∧ w.frozen? ⟨b, j, none⟩ = false
theorem Rm.keep {w w' : World} {s : RS} (h : Rm w s) (hb : ∀ k, s.blk = some k → w'.heap[k]? = w.heap[k]?) : Rm w' s := by
  refine ⟨h.z, h.le, h.lid, fun hp => ?_⟩
  obtain ⟨b, ha, hc⟩ := h.live hp
  have e : w'.heap[b]? = w.heap[b]? := hb b (by unfold RS.blk; rw [if_neg (by omega), ha]; rfl)
  exact ⟨b, ha, fun j hj => ⟨by rw [World.cell?_of_block (a := ⟨b, j, none⟩) e]; exact (hc j hj).1, (World.frozen?_of_block (a := ⟨b, j, none⟩) e).trans (hc j hj).2⟩⟩
theorem Rm.lt {w : World} {s : RS} (h : Rm w s) : ∀ k, s.blk = some k → k < w.heap.size := by
  intro k hk
  unfold RS.blk at hk; split at hk
  · cases hk
  · rename_i hn
    obtain ⟨b, ha, hc⟩ := h.live (by omega)
    rw [ha] at hk
    have e : b = k := by simpa using hk
    subst e; obtain ⟨u, hu⟩ := Option.isSome_iff_exists.1 (hc 0 (by have := h.le; omega)).1
    exact World.block_lt_of_cell? _ _ hu
theorem Rm.below {w w' : World} {s : RS} (h : Rm w s) (hb : Below w.heap.size w w') : Rm w' s := h.keep fun k hk => hb.block k (h.lt k hk)
theorem Rm.set {w : World} {s : RS} (h : Rm w s) (a : Addr) (v : Value) : Rm (w.setCell a v) s := by
  refine ⟨h.z, h.le, h.lid, fun hp => ?_⟩
  obtain ⟨b, ha, hc⟩ := h.live hp
  refine ⟨b, ha, fun j hj => ⟨?_, by rw [World.frozen?_setCell]; exact (hc j hj).2⟩⟩
  obtain ⟨u, hu⟩ := Option.isSome_iff_exists.1 (hc j hj).1
  by_cases e : a = ⟨b, j, none⟩
  · subst e
    rw [World.cell?_setCell_same _ _ _ hu]; rfl
  · rw [World.cell?_setCell_other _ _ _ _ e, hu]; rfl
structure Clone2R (base n : Nat) (bs : List Blk) (e : Ending) (w' : World) : Prop where
  ex : ∃ a c g, e = .returned (.slice a n c) ∧ Cel (fun k => base ≤ k) w' 3 (.slice a n c) n (rowC blkC bs) g ∧ (n = 0 → c = 0)
structure Copy2R (base : Nat) (x : Nd) (e : Ending) (w' : World) : Prop where
  ex : ∃ s, e = .returned (ndV (x, s)) ∧ Free base w' (x, s) ∧ Rm w' s
theorem clone2_val (s : RS) (bs : List Blk) (w : World) (h : Blks w s bs) (hz : s.n * 24 ≤ 140737488355328) :
    Calls Tryz.prog 88 #[.slice s.a s.n s.c] w fun e w' => Clone2R w.heap.size s.n bs e w' ∧ Below w.heap.size w w' := by
  obtain ⟨a, n, c⟩ := s
  rcases Nat.eq_zero_or_pos n with h0 | h0
  · subst h0
    have e : bs = [] := List.length_eq_zero_iff.1 h.len
    subst e; have hnb := nilBlks
    cases a with
    | none =>
      have hc0 : c = 0 := h.nil rfl
      subst hc0; clear h hz; go_enter Tryz.func88, Tryz.ntmps88; go_wp2; go_ret; exact ⟨⟨none, 0, none, rfl, .nil rfl rfl rfl, fun _ => rfl⟩, Below.refl _ _⟩
    | some ad =>
      obtain ⟨ti, hi1, hi2, hi3, hi4⟩ := blkRow
      have hap : ∀ (W : World) (b : Nat), (Builtin.append_ #[33, 33] 33 #[.slice (some ⟨b, 0, none⟩) 0 0, .slice (some ad) 0 c]).run Tryz.prog W = .ok (.slice (some ⟨b, 0, none⟩) 0 0) W := fun W b =>
        run_append_nothing (P := Tryz.prog) W 33 33 33 31 ti Tryz.underlying33 hi1 (some ⟨b, 0, none⟩) 0 0 (Nat.le_refl _) (.slice (some ad) 0 c) (by rw [hi3]; exact Src.ofSlice W Tryz.underlying33 ad 0 c [] (by simp) (fun j u hu => by simp at hu) (fun u hu => by cases hu))
      clear h hz; go_enter Tryz.func88, Tryz.ntmps88; go_wp2; go_ret; exact ⟨⟨some ⟨w.heap.size, 0, none⟩, 0, some w.heap.size, rfl, .row w.heap.size 0 rfl (by simp [rowC]) (Nat.le_refl _) (by simp) (Nat.le_refl _) (Nat.zero_le _) (fun j hj => by simp [rowC] at hj) (fun j hj => by omega), fun _ => rfl⟩, bel_al _ _⟩
  · refine (clone_val ⟨a, n, c⟩ bs w h hz).mono fun e w' ⟨⟨a2, c2, g, h1, h2⟩, h3⟩ => ⟨⟨a2, c2, g, h1, h2, fun e => ?_⟩, h3⟩
    have e' : n = 0 := e
    omega
theorem rm_of_cel {base : Nat} {w : World} {a : Option Addr} {n c : Nat} {bs : List Blk} {g : Option Nat} (h : Cel (fun k => base ≤ k) w 3 (.slice a n c) n (rowC blkC bs) g) (h0 : n = 0 → c = 0) : Rm w ⟨a, n, c⟩ := by
  obtain ⟨hc1, hc2, _⟩ := h.cap2
  refine ⟨h0, hc1, hc2, fun hp => ?_⟩
  obtain ⟨b, h1, h2⟩ := h.at2 hp
  subst h2; exact ⟨b, h1, fun j hj => h.live j hj⟩
theorem copied2_val (x : NR) (w : World) (h : NdOk w x) (hz : x.2.n * 24 ≤ 140737488355328) :
    Calls Tryz.prog 44 #[ndV x] w fun e w' => Copy2R w.heap.size x.1 e w' ∧ Below w.heap.size w w' := by
  have CC : Hid (∀ W, Below w.heap.size w W → Calls Tryz.prog 88 #[.slice x.2.a x.2.n x.2.c] W fun e w' => ∃ a c, e = .returned (.slice a x.2.n c) ∧ (Free W.heap.size w' (x.1, ⟨a, x.2.n, c⟩) ∧ Rm w' ⟨a, x.2.n, c⟩) ∧ Below W.heap.size W w') := fun W hb =>
    (clone2_val x.2 x.1.bs W (h.bs.below hb) hz).mono fun e w' ⟨⟨a, c, g, h1, h2, h4⟩, h3⟩ => ⟨a, c, h1, ⟨free_of_cel h2 h.bs.len rfl h.small, rm_of_cel h2 h4⟩, h3⟩
  obtain ⟨⟨p, d, q, bs, wr⟩, ⟨a, n, c⟩⟩ := x
  have hst := run_store_str
  have hst2 := sto2
  unfold ndV; simp only at CC
  clear h hz; go_enter Tryz.func44, Tryz.ntmps44; go_wp2_with fail
  refine (CC.out _ (bel_tr (bel_al _ _) (bel_al _ _))).mono ?_
  rintro e w2 ⟨a2, c2, rfl, ⟨hF, hRm⟩, hb2⟩; have HRM : Hid (Rm w2 ⟨a2, n, c2⟩) := hRm
  clear hRm; obtain ⟨q1, q2, q3, q4, q5, q6⟩ := two_boxes hb2
  have y0 := q1 0 _ rfl
  have y1 := q1 1 _ rfl
  have y2 := q1 2 _ rfl
  have y3 := q1 3 _ rfl
  have y4 := q1 4 _ rfl
  have z0 := q3 0 _ rfl
  have z1 := q3 1 _ rfl
  have z2 := q3 2 _ rfl
  have z3 := q3 3 _ rfl
  have z4 := q3 4 _ rfl
  have HF : Hid (Free (w.heap.size + 2) w2 (⟨p, d, q, bs, wr⟩, ⟨a2, n, c2⟩)) := by
    have := hF
    simp at this
    exact this
  have hb3 : Hid (Below w.heap.size w w2) := q5
  have HZ : Hid (w.heap.size + 2 ≤ w2.heap.size) := q6
  have yy0 := q2 0
  have yy1 := q2 1
  have yy2 := q2 2
  have yy3 := q2 3
  have yy4 := q2 4
  have zz0 := q4 0
  have zz1 := q4 1
  have zz2 := q4 2
  have zz3 := q4 3
  have zz4 := q4 4
  have o0 : ∀ j v, (w2.setCell ⟨w.heap.size, 3, none⟩ v).cell? ⟨w.heap.size + 1, j, none⟩ = w2.cell? ⟨w.heap.size + 1, j, none⟩ := fun j v => other_block _ _ _ _ _ _ (by omega)
  have HX : Hid (∀ v v0 v1 v2 v3 v4, Free w.heap.size ((((((w2.setCell ⟨w.heap.size, 3, none⟩ v).setCell ⟨w.heap.size + 1, 0, none⟩ v0).setCell ⟨w.heap.size + 1, 1, none⟩ v1).setCell ⟨w.heap.size + 1, 2, none⟩ v2).setCell ⟨w.heap.size + 1, 3, none⟩ v3).setCell ⟨w.heap.size + 1, 4, none⟩ v4) (⟨p, d, q, bs, wr⟩, ⟨a2, n, c2⟩) ∧ Below w.heap.size w ((((((w2.setCell ⟨w.heap.size, 3, none⟩ v).setCell ⟨w.heap.size + 1, 0, none⟩ v0).setCell ⟨w.heap.size + 1, 1, none⟩ v1).setCell ⟨w.heap.size + 1, 2, none⟩ v2).setCell ⟨w.heap.size + 1, 3, none⟩ v3).setCell ⟨w.heap.size + 1, 4, none⟩ v4)) := fun v v0 v1 v2 v3 v4 => by
    have st : Stay (fun k => k = w.heap.size ∨ k = w.heap.size + 1) w2 _ := (Stay.setCell (O := fun k => k = w.heap.size ∨ k = w.heap.size + 1) w2 ⟨w.heap.size, 3, none⟩ v (.inl rfl)).then_same (Stay.five _ (w.heap.size + 1) v0 v1 v2 v3 v4 (.inr rfl))
    refine ⟨(Stay.free HF.out st (fun k hk e => ?_)).mono (by omega), q5.trans (st.below (by omega) (fun k hk => by omega))⟩
    have := HF.out.blk_ge k hk
    omega
  have K0 := (five (X := w2.setCell ⟨w.heap.size, 3, none⟩ (.slice a2 n c2)) (R := w.heap.size + 1) ((o0 0 _).trans z0) ((o0 1 _).trans z1) ((o0 2 _).trans z2) ((o0 3 _).trans z3) ((o0 4 _).trans z4) (.string p) (.bool d) (.int .i64 q) (.slice a2 n c2) (.int .i64 wr))
  have HK : Hid _ := K0
  clear K0 hF hb2 q1 q2 q3 q4 q5 q6 CC o0 HF; generalize hRR : w.heap.size = R at *
  have HRR : Hid (w.heap.size = R) := hRR
  clear hRR; go_wp2; obtain ⟨k0, k1, k2, k3, k4⟩ := HK.out
  exact bodyPost_ret (v := ndV (⟨p, d, q, bs, wr⟩, ⟨a2, n, c2⟩)) (by simp [results, ndV, Tryz.results44, go_sem, k0, k1, k2, k3, k4]) rfl (by rw [HRR.out]; exact ⟨⟨⟨a2, n, c2⟩, rfl, (HX.out _ _ _ _ _ _).1, (((((HRM.out.set _ _).set _ _).set _ _).set _ _).set _ _).set _ _⟩, (HX.out _ _ _ _ _ _).2⟩)
structure CopiedR (base : Nat) (s : Sp) (e : Ending) (w' : World) : Prop where
  ex : ∃ N L ps g gl, e = .returned (spV s N L) ∧ Own base w' s N L ps g gl ∧ (∀ x ∈ ps, Rm w' x.2) ∧ (N.a = none → N.c = 0)
theorem Own.out {base : Nat} {O : Nat → Prop} {w w' : World} {s : Sp} {N L : RS} {ps : List NR} {g gl : Option Nat} (h : Own base w s N L ps g gl) (hs : Stay O w w') (hO : ∀ k, O k → k < base) : Own base w' s N L ps g gl := by
  have hg : ∀ k, g = some k → k < w.heap.size ∧ base ≤ k := fun k hk => by have := h.lot.cel; rw [hk] at this; exact this.lt
  refine ⟨h.lot.stay hs.size (fun k hk => hs.block k (hg k hk).1 (fun e => ?_)) (fun x hx k hk => hs.block k ((h.lot.ok x hx).ok.bs.lt k hk) (fun e => ?_)), h.map, ?_, h.sep, h.gl1, h.gl2⟩
  · have := hO k e; have := (hg k hk).2; omega
  · have := hO k e; have := (h.lot.ok x hx).blk_ge k hk; omega
  · have ho := h.lo.own
    exact ⟨h.lo.cel.stay hs.size (fun k hk => hs.block k (ho k hk).1 (fun e => by have := hO k e; have := (ho k hk).2; omega)) (fun _ e => e), h.lo.len⟩
def put6 (w : World) (b : Nat) (s : Sp) (N L : RS) : World :=
  (((((w.setCell ⟨b, 0, none⟩ (.int .i64 s.tx)).setCell ⟨b, 1, none⟩ (.int .i64 s.nb)).setCell ⟨b, 2, none⟩ (.int .i64 s.ng)).setCell ⟨b, 3, none⟩ (.int .i64 s.now)).setCell ⟨b, 4, none⟩ (.slice N.a N.n N.c)).setCell ⟨b, 5, none⟩ (.slice L.a L.n L.c)
structure SpC (w : World) (b : Nat) (s : Sp) (N L : RS) : Prop where
  c0 : w.cell? ⟨b, 0, none⟩ = some (.int .i64 s.tx)
  c1 : w.cell? ⟨b, 1, none⟩ = some (.int .i64 s.nb)
  c2 : w.cell? ⟨b, 2, none⟩ = some (.int .i64 s.ng)
  c3 : w.cell? ⟨b, 3, none⟩ = some (.int .i64 s.now)
  c4 : w.cell? ⟨b, 4, none⟩ = some (.slice N.a N.n N.c)
  c5 : w.cell? ⟨b, 5, none⟩ = some (.slice L.a L.n L.c)
  fr : ∀ j, w.frozen? ⟨b, j, none⟩ = false
theorem SpC.below {w w' : World} {b : Nat} {s : Sp} {N L : RS} (h : SpC w b s N L) (hb : Below w.heap.size w w') : SpC w' b s N L :=
  ⟨bel_cell hb h.c0, bel_cell hb h.c1, bel_cell hb h.c2, bel_cell hb h.c3, bel_cell hb h.c4, bel_cell hb h.c5, fun j => (World.frozen?_of_block (a := ⟨b, j, none⟩) (hb.block b (World.block_lt_of_cell? _ _ h.c0))).trans (h.fr j)⟩
theorem SpC.keep {O : Nat → Prop} {w w' : World} {b : Nat} {s : Sp} {N L : RS} (h : SpC w b s N L) (hs : Stay O w w') (hO : ¬ O b) : SpC w' b s N L := by
  have hb := hs.block b (World.block_lt_of_cell? _ _ h.c0) hO
  exact ⟨(World.cell?_of_block (a := ⟨b, 0, none⟩) hb).trans h.c0, (World.cell?_of_block (a := ⟨b, 1, none⟩) hb).trans h.c1, (World.cell?_of_block (a := ⟨b, 2, none⟩) hb).trans h.c2, (World.cell?_of_block (a := ⟨b, 3, none⟩) hb).trans h.c3, (World.cell?_of_block (a := ⟨b, 4, none⟩) hb).trans h.c4, (World.cell?_of_block (a := ⟨b, 5, none⟩) hb).trans h.c5, fun j => (World.frozen?_of_block (a := ⟨b, j, none⟩) hb).trans (h.fr j)⟩
theorem SpC.new (w : World) (t : TypeId) (s : Sp) (N L : RS) : SpC (w.alloc (.cells #[.int .i64 s.tx, .int .i64 s.nb, .int .i64 s.ng, .int .i64 s.now, .slice N.a N.n N.c, .slice L.a L.n L.c] t)) w.heap.size s N L :=
  ⟨World.cell?_alloc_new w _ t 0, World.cell?_alloc_new w _ t 1, World.cell?_alloc_new w _ t 2, World.cell?_alloc_new w _ t 3, World.cell?_alloc_new w _ t 4, World.cell?_alloc_new w _ t 5, fun j => World.frozen?_alloc_new w _ t j⟩
theorem same_cell {w : World} {a : Addr} {v u : Value} (h : w.cell? a = some u) : (w.setCell a v).cell? a = some v := World.cell?_setCell_same _ _ _ h
theorem put6_at {w : World} {b : Nat} {s0 : Sp} {N0 L0 : RS} (h : SpC w b s0 N0 L0) (s : Sp) (N L : RS) : SpC (put6 w b s N L) b s N L ∧ Stay (fun k => k = b) w (put6 w b s N L) := by
  constructor
  · unfold put6
    refine ⟨?_, ?_, ?_, ?_, ?_, ?_, fun j => by simp only [World.frozen?_setCell]; exact h.fr j⟩
    · rw [other_cell _ _ _ _ _ (by omega), other_cell _ _ _ _ _ (by omega), other_cell _ _ _ _ _ (by omega), other_cell _ _ _ _ _ (by omega), other_cell _ _ _ _ _ (by omega)]
      exact same_cell h.c0
    · rw [other_cell _ _ _ _ _ (by omega), other_cell _ _ _ _ _ (by omega), other_cell _ _ _ _ _ (by omega), other_cell _ _ _ _ _ (by omega)]
      refine same_cell (u := .int .i64 s0.nb) ?_
      rw [other_cell _ _ _ _ _ (by omega)]
      exact h.c1
    · rw [other_cell _ _ _ _ _ (by omega), other_cell _ _ _ _ _ (by omega), other_cell _ _ _ _ _ (by omega)]
      refine same_cell (u := .int .i64 s0.ng) ?_
      rw [other_cell _ _ _ _ _ (by omega), other_cell _ _ _ _ _ (by omega)]
      exact h.c2
    · rw [other_cell _ _ _ _ _ (by omega), other_cell _ _ _ _ _ (by omega)]
      refine same_cell (u := .int .i64 s0.now) ?_
      rw [other_cell _ _ _ _ _ (by omega), other_cell _ _ _ _ _ (by omega), other_cell _ _ _ _ _ (by omega)]
      exact h.c3
    · rw [other_cell _ _ _ _ _ (by omega)]
      refine same_cell (u := .slice N0.a N0.n N0.c) ?_
      rw [other_cell _ _ _ _ _ (by omega), other_cell _ _ _ _ _ (by omega), other_cell _ _ _ _ _ (by omega), other_cell _ _ _ _ _ (by omega)]
      exact h.c4
    · refine same_cell (u := .slice L0.a L0.n L0.c) ?_
      rw [other_cell _ _ _ _ _ (by omega), other_cell _ _ _ _ _ (by omega), other_cell _ _ _ _ _ (by omega), other_cell _ _ _ _ _ (by omega), other_cell _ _ _ _ _ (by omega)]
      exact h.c5
  · unfold put6
    exact (((((Stay.setCell (O := fun k => k = b) w _ _ rfl).then_same (Stay.setCell _ _ _ rfl)).then_same (Stay.setCell _ _ _ rfl)).then_same (Stay.setCell _ _ _ rfl)).then_same (Stay.setCell _ _ _ rfl)).then_same (Stay.setCell _ _ _ rfl)
structure Half (base : Nat) (w : World) (a : Option Addr) (n c : Nat) (ps qs : List NR) (g : Option Nat) (i : Nat) : Prop where
  cel : Cel (fun k => base ≤ k) w 5 (.slice a n c) n (rowC ndC (qs ++ ps.drop i)) g
  len : qs.length = i
  map : qs.map (·.1) = (ps.take i).map (·.1)
  free : ∀ x ∈ qs, Free base w x
  ap : ∀ x ∈ qs, ∀ k, g = some k → x.2.blk ≠ some k
  sep : qs.Pairwise ApartB
  rm : ∀ x ∈ qs, Rm w x.2
theorem Half.next {base : Nat} {wr w1 : World} {gb n c : Nat} {ps qs : List NR} {i : Nat} (h : Half base wr (some ⟨gb, 0, none⟩) n c ps qs (some gb) i) (hp : ps.length = n) (hi : i < n) (hB : base ≤ wr.heap.size) (b1 : Below wr.heap.size wr w1) {s : RS} (hF : Free wr.heap.size w1 ((ps[i]'(by omega)).1, s)) (hRm : Rm w1 s) :
    Half base (w1.setCells gb (i * 5) (ndC ((ps[i]'(by omega)).1, s))) (some ⟨gb, 0, none⟩) n c ps (qs ++ [((ps[i]'(by omega)).1, s)]) (some gb) (i + 1) ∧ Below base wr (w1.setCells gb (i * 5) (ndC ((ps[i]'(by omega)).1, s))) := by
  have hgb := h.cel.lt
  have hst : Stay (fun k => k = gb) w1 (w1.setCells gb (i * 5) (ndC ((ps[i]'(by omega)).1, s))) := Stay.setCells gb _ _ w1 rfl
  have hlt : ∀ k, s.blk = some k → wr.heap.size ≤ k := fun k hk => hF.blk_ge k hk
  refine ⟨⟨?_, by rw [List.length_append, h.len]; rfl, ?_, fun x hx => ?_, fun x hx k hk => ?_, ?_, fun x hx => ?_⟩, ?_⟩
  · have hc := Cel.setNd (h.cel.below b1) (by rw [List.length_append, h.len, List.length_drop]; omega) i hi ((ps[i]'(by omega)).1, s)
    have e : (qs ++ ps.drop i).set i ((ps[i]'(by omega)).1, s) = qs ++ [((ps[i]'(by omega)).1, s)] ++ ps.drop (i + 1) := by
      rw [List.set_append_right _ _ (by rw [h.len]; omega), h.len, Nat.sub_self, List.drop_eq_getElem_cons (by omega), List.set_cons_zero]
      simp
    rw [e] at hc
    exact hc
  · rw [List.map_append, h.map, List.take_succ_eq_append_getElem (by omega), List.map_append]; rfl
  · rcases List.mem_append.1 hx with hx | hx
    · have hx1 := (h.free x hx).below b1
      refine Stay.free hx1 hst (fun k hk e => ?_)
      subst e; exact h.ap x hx k rfl hk
    · rw [List.mem_singleton.1 hx]
      refine Stay.free (hF.mono hB) hst (fun k hk e => ?_)
      have := hlt k hk
      have := hgb.1
      omega
  · cases hk
    rcases List.mem_append.1 hx with hx | hx
    · exact h.ap x hx gb rfl
    · rw [List.mem_singleton.1 hx]
      intro e
      have := hlt gb e
      have := hgb.1
      omega
  · rw [List.pairwise_append]
    refine ⟨h.sep, List.pairwise_singleton _ _, fun x hx y hy k hk e => ?_⟩
    rw [List.mem_singleton.1 hy] at e
    have := hlt k e
    have := (h.free x hx).ok.bs.lt k hk
    omega
  · rcases List.mem_append.1 hx with hx | hx
    · refine ((h.rm x hx).below b1).keep fun k hk => hst.block k (((h.rm x hx).below b1).lt k hk) (fun e => ?_)
      subst e; exact h.ap x hx k rfl hk
    · rw [List.mem_singleton.1 hx]
      refine hRm.keep fun k hk => hst.block k (hRm.lt k hk) (fun e => ?_)
      have := hlt k hk
      have := hgb.1
      omega
  · exact (b1.mono hB).trans (hst.below (Nat.le_trans hB b1.size) (fun k hk => by subst hk; exact hgb.2))
theorem copied_space {s : Sp} {N L : RS} {w : World} {b off : Nat} {ps : List NR} (hn : Nds w N.a b off ps) (hm : ps.map (·.1) = s.ns) (hl : ps.length = N.n) (hc : N.a = none → N.c = 0) (hL : LL w L.a L.n L.c s.ls) (hz : Sz N L ps) :
    Calls Tryz.prog 28 #[spV s N L] w fun e w' => CopiedR w.heap.size s e w' ∧ Below w.heap.size w w' := by
  have CN : Hid (∀ W, Below w.heap.size w W → Calls Tryz.prog 54 #[.slice N.a N.n N.c] W fun e w' => CloneN W.heap.size N.n ps e w' ∧ Below W.heap.size W w') := fun W hb => cloneN_val (hn.below hb) hl hc hz.n
  have CL : Hid (∀ W, Below w.heap.size w W → Calls Tryz.prog 55 #[.slice L.a L.n L.c] W fun e w' => CloneL W.heap.size L.n s.ls e w' ∧ Below W.heap.size W w') := fun W hb => cloneL_val (hL.below hb) hz.l
  have CC : Hid (∀ W i (hi : i < ps.length), Below w.heap.size w W → Calls Tryz.prog 44 #[ndV ps[i]] W fun e w' => Copy2R W.heap.size ps[i].1 e w' ∧ Below W.heap.size W w') := fun W i hi hb => copied2_val ps[i] W ((hn.below hb).ok _ (List.getElem_mem hi)) (hz.b _ (List.getElem_mem hi))
  have HM : Hid (ps.map (·.1) = s.ns) := hm
  have HP : Hid (ps.length = N.n) := hl
  have hN := hz.n
  clear hn hm hl hc hL hz; obtain ⟨tx, nb, ng, now, ns, ls⟩ := s
  obtain ⟨na, nn, nc⟩ := N
  obtain ⟨la, ln, lc⟩ := L
  unfold spV; simp only at CN CL HM HP hN ⊢
  have hst := run_store_str
  have hst2 := sto2
  go_enter Tryz.func28, Tryz.ntmps28; go_wp2_with (go_at_call 54; refine (CN.out _ (bel_tr (bel_al _ _) (bel_al _ _))).mono ?_; rintro e w1 ⟨⟨ca, cc, g, rfl, hC⟩, c1⟩; obtain ⟨q1, q2, q3, q4, q5, q6⟩ := two_boxes c1; have y0 := q1 0 _ rfl; have y1 := q1 1 _ rfl; have y2 := q1 2 _ rfl; have y3 := q1 3 _ rfl; have y4 := q1 4 _ rfl; have y5 := q1 5 _ rfl; have z0 := q3 0 _ rfl; have z1 := q3 1 _ rfl; have z2 := q3 2 _ rfl; have z3 := q3 3 _ rfl; have z4 := q3 4 _ rfl; have z5 := q3 5 _ rfl)
  have hW2 : ∀ k, ((w.alloc (.cells #[.int .i64 tx, .int .i64 nb, .int .i64 ng, .int .i64 now, .slice na nn nc, .slice la ln lc] 27)).alloc (.cells #[.int .i64 0, .int .i64 0, .int .i64 0, .int .i64 0, .slice none 0 0, .slice none 0 0] 27)).heap.size ≤ k → w.heap.size + 2 ≤ k := fun k hk => by simpa using hk
  have hC2 : Cel (fun k => w.heap.size + 2 ≤ k) w1 5 (.slice ca nn cc) nn (rowC ndC ps) g := hC.stay (Nat.le_refl _) (fun _ _ => rfl) hW2
  have hgB : g ≠ some w.heap.size := fun e => by
    rw [e] at hC2
    have := hC2.lt.2
    omega
  have H0 : Hid (Half (w.heap.size + 2) (w1.setCell ⟨w.heap.size, 4, none⟩ (.slice ca nn cc)) ca nn cc ps [] g 0) := ⟨by rw [List.nil_append, List.drop_zero]; exact hC2.setOut ⟨w.heap.size, 4, none⟩ _ hgB, rfl, rfl, fun x hx => (by cases hx), fun x hx => (by cases hx), List.Pairwise.nil, fun x hx => (by cases hx)⟩
  have k0 : (w1.setCell ⟨w.heap.size, 4, none⟩ (.slice ca nn cc)).cell? ⟨w.heap.size, 0, none⟩ = some (.int .i64 tx) := (other_cell _ _ _ _ _ (by omega)).trans y0
  have k1 : (w1.setCell ⟨w.heap.size, 4, none⟩ (.slice ca nn cc)).cell? ⟨w.heap.size, 1, none⟩ = some (.int .i64 nb) := (other_cell _ _ _ _ _ (by omega)).trans y1
  have k2 : (w1.setCell ⟨w.heap.size, 4, none⟩ (.slice ca nn cc)).cell? ⟨w.heap.size, 2, none⟩ = some (.int .i64 ng) := (other_cell _ _ _ _ _ (by omega)).trans y2
  have k3 : (w1.setCell ⟨w.heap.size, 4, none⟩ (.slice ca nn cc)).cell? ⟨w.heap.size, 3, none⟩ = some (.int .i64 now) := (other_cell _ _ _ _ _ (by omega)).trans y3
  have k4 : (w1.setCell ⟨w.heap.size, 4, none⟩ (.slice ca nn cc)).cell? ⟨w.heap.size, 4, none⟩ = some (.slice ca nn cc) := World.cell?_setCell_same _ _ _ y4
  have k5 : (w1.setCell ⟨w.heap.size, 4, none⟩ (.slice ca nn cc)).cell? ⟨w.heap.size, 5, none⟩ = some (.slice la ln lc) := (other_cell _ _ _ _ _ (by omega)).trans y5
  have m0 : (w1.setCell ⟨w.heap.size, 4, none⟩ (.slice ca nn cc)).cell? ⟨w.heap.size + 1, 0, none⟩ = some (.int .i64 0) := (other_block _ _ _ _ _ _ (by omega)).trans z0
  have m1 : (w1.setCell ⟨w.heap.size, 4, none⟩ (.slice ca nn cc)).cell? ⟨w.heap.size + 1, 1, none⟩ = some (.int .i64 0) := (other_block _ _ _ _ _ _ (by omega)).trans z1
  have m2 : (w1.setCell ⟨w.heap.size, 4, none⟩ (.slice ca nn cc)).cell? ⟨w.heap.size + 1, 2, none⟩ = some (.int .i64 0) := (other_block _ _ _ _ _ _ (by omega)).trans z2
  have m3 : (w1.setCell ⟨w.heap.size, 4, none⟩ (.slice ca nn cc)).cell? ⟨w.heap.size + 1, 3, none⟩ = some (.int .i64 0) := (other_block _ _ _ _ _ _ (by omega)).trans z3
  have m4 : (w1.setCell ⟨w.heap.size, 4, none⟩ (.slice ca nn cc)).cell? ⟨w.heap.size + 1, 4, none⟩ = some (.slice none 0 0) := (other_block _ _ _ _ _ _ (by omega)).trans z4
  have m5 : (w1.setCell ⟨w.heap.size, 4, none⟩ (.slice ca nn cc)).cell? ⟨w.heap.size + 1, 5, none⟩ = some (.slice none 0 0) := (other_block _ _ _ _ _ _ (by omega)).trans z5
  have hf0 : ∀ j, (w1.setCell ⟨w.heap.size, 4, none⟩ (.slice ca nn cc)).frozen? ⟨w.heap.size, j, none⟩ = false := fun j => by rw [World.frozen?_setCell]; exact q2 j
  have hf1 : ∀ j, (w1.setCell ⟨w.heap.size, 4, none⟩ (.slice ca nn cc)).frozen? ⟨w.heap.size + 1, j, none⟩ = false := fun j => by rw [World.frozen?_setCell]; exact q4 j
  have BW1 : Hid (Below w.heap.size w (w1.setCell ⟨w.heap.size, 4, none⟩ (.slice ca nn cc))) := q5.setCell (Nat.le_refl _) _
  have hs1 : w.heap.size + 2 ≤ (w1.setCell ⟨w.heap.size, 4, none⟩ (.slice ca nn cc)).heap.size := by simpa [World.setCell] using q6
  clear hW2 hC2 hgB hC c1 q1 q2 q3 q4 q5 q6 y0 y1 y2 y3 y4 y5 z0 z1 z2 z3 z4 z5 CN; generalize w1.setCell ⟨w.heap.size, 4, none⟩ (.slice ca nn cc) = W1 at *
  have HK : Hid (W1.cell? ⟨w.heap.size, 0, none⟩ = some (.int .i64 tx) ∧ W1.cell? ⟨w.heap.size, 1, none⟩ = some (.int .i64 nb) ∧ W1.cell? ⟨w.heap.size, 2, none⟩ = some (.int .i64 ng) ∧ W1.cell? ⟨w.heap.size, 3, none⟩ = some (.int .i64 now) ∧ W1.cell? ⟨w.heap.size, 4, none⟩ = some (.slice ca nn cc) ∧ W1.cell? ⟨w.heap.size, 5, none⟩ = some (.slice la ln lc)) := ⟨k0, k1, k2, k3, k4, k5⟩
  have HMM : Hid (W1.cell? ⟨w.heap.size + 1, 0, none⟩ = some (.int .i64 0) ∧ W1.cell? ⟨w.heap.size + 1, 1, none⟩ = some (.int .i64 0) ∧ W1.cell? ⟨w.heap.size + 1, 2, none⟩ = some (.int .i64 0) ∧ W1.cell? ⟨w.heap.size + 1, 3, none⟩ = some (.int .i64 0) ∧ W1.cell? ⟨w.heap.size + 1, 4, none⟩ = some (.slice none 0 0) ∧ W1.cell? ⟨w.heap.size + 1, 5, none⟩ = some (.slice none 0 0)) := ⟨m0, m1, m2, m3, m4, m5⟩
  have HFZ : Hid ((∀ j, W1.frozen? ⟨w.heap.size, j, none⟩ = false) ∧ (∀ j, W1.frozen? ⟨w.heap.size + 1, j, none⟩ = false)) := ⟨hf0, hf1⟩
  have HS1 : Hid (w.heap.size + 2 ≤ W1.heap.size) := hs1
  have hnn : nn ≤ 2199023255552 := by omega
  clear k0 k1 k2 k3 k4 k5 m0 m1 m2 m3 m4 m5 hf0 hf1 hs1; go_loopw [3, 4, 12] (fun _ _ v12 wr => ∃ (i : Nat) (qs : List NR), i ≤ nn ∧ v12 = .int .i64 i ∧ Half (w.heap.size + 2) wr ca nn cc ps qs g i ∧ Below (w.heap.size + 2) W1 wr) (fun _ _ v12 _ => nn - (intOf v12).toNat)
  case atStart => exact ⟨0, [], by omega, rfl, H0.out, Below.refl _ _⟩
  case round =>
    obtain ⟨i, qs, hi, rfl, hH, hb⟩ := hrel
    have HH : Hid (Half (w.heap.size + 2) wr ca nn cc ps qs g i) := hH
    have HB : Hid (Below (w.heap.size + 2) W1 wr) := hb
    have BR : Hid (Below w.heap.size w wr) := BW1.out.trans (hb.mono (by omega))
    by_cases hlt : i < nn
    · have hip : i < ps.length := by rw [HP.out]; exact hlt
      obtain ⟨gb, rfl, rfl⟩ := hH.cel.at2 (by omega)
      have hle : (qs ++ ps.drop i).length = nn := by rw [List.length_append, hH.len, List.length_drop, HP.out]; omega
      have hcap := hH.cel.cap2.1
      obtain ⟨b', e1, e2, e3⟩ := hH.cel.elem wideX (i := i) (by rw [hle]; exact hlt) hle
      cases e1
      have egt : (qs ++ ps.drop i)[i]'(by rw [hle]; exact hlt) = ps[i] := by
        rw [List.getElem_append_right (by rw [hH.len]; omega)]
        simp [hH.len]
      rw [egt] at e3
      have r0 : wr.cell? ⟨gb, i * 5, none⟩ = some (.string ps[i].1.path) := e3 0 _ rfl
      have r1 : wr.cell? ⟨gb, i * 5 + 1, none⟩ = some (.bool ps[i].1.dir) := e3 1 _ rfl
      have r2 : wr.cell? ⟨gb, i * 5 + 2, none⟩ = some (.int .i64 ps[i].1.quota) := e3 2 _ rfl
      have r3 : wr.cell? ⟨gb, i * 5 + 3, none⟩ = some (.slice ps[i].2.a ps[i].2.n ps[i].2.c) := e3 3 _ rfl
      have r4 : wr.cell? ⟨gb, i * 5 + 4, none⟩ = some (.int .i64 ps[i].1.wr) := e3 4 _ rfl
      have h5 : (i + 1) * 5 ≤ cc * 5 := Nat.mul_le_mul_right _ (by omega)
      have HCE : Hid (∀ w5, Below wr.heap.size wr w5 → w5.cell? ⟨gb, i * 5, none⟩ = some (.string ps[i].1.path) ∧ w5.cell? ⟨gb, i * 5 + 1, none⟩ = some (.bool ps[i].1.dir) ∧ w5.cell? ⟨gb, i * 5 + 2, none⟩ = some (.int .i64 ps[i].1.quota) ∧ w5.cell? ⟨gb, i * 5 + 3, none⟩ = some (.slice ps[i].2.a ps[i].2.n ps[i].2.c) ∧ w5.cell? ⟨gb, i * 5 + 4, none⟩ = some (.int .i64 ps[i].1.wr) ∧ w5.frozen? ⟨gb, i * 5, none⟩ = false ∧ w5.frozen? ⟨gb, i * 5 + 1, none⟩ = false ∧ w5.frozen? ⟨gb, i * 5 + 2, none⟩ = false ∧ w5.frozen? ⟨gb, i * 5 + 3, none⟩ = false ∧ w5.frozen? ⟨gb, i * 5 + 4, none⟩ = false) := fun w5 B => by
        have hC5 := HH.out.cel.below B
        exact ⟨bel_cell B r0, bel_cell B r1, bel_cell B r2, bel_cell B r3, bel_cell B r4, (hC5.live _ (by omega)).2, (hC5.live _ (by omega)).2, (hC5.live _ (by omega)).2, (hC5.live _ (by omega)).2, (hC5.live _ (by omega)).2⟩
      have hs2 : w.heap.size + 2 ≤ wr.heap.size := Nat.le_trans HS1.out hb.size
      have HNX : Hid (∀ w5 (sx : RS) (w6 : World), Below wr.heap.size wr w5 → Free wr.heap.size w5 (ps[i].1, sx) → Rm w5 sx → w6 = w5.setCells gb (i * 5) (ndC (ps[i].1, sx)) → Half (w.heap.size + 2) w6 (some ⟨gb, 0, none⟩) nn cc ps (qs ++ [(ps[i].1, sx)]) (some gb) (i + 1) ∧ Below (w.heap.size + 2) W1 w6) := fun w5 sx w6 B F RM e => by
        subst e; obtain ⟨h1, h2⟩ := HH.out.next HP.out hlt hs2 B F RM
        exact ⟨h1, HB.out.trans h2⟩
      have CI : Hid (∀ W, Below wr.heap.size wr W → Calls Tryz.prog 44 #[ndV ps[i]] W fun e w' => Copy2R W.heap.size ps[i].1 e w' ∧ Below W.heap.size W w') := fun W B => CC.out W i hip (bel_tr BR.out B)
      have e4 : wr.cell? ⟨w.heap.size, 4, none⟩ = some (.slice (some ⟨gb, 0, none⟩) nn cc) := (hb.cell (p := ⟨w.heap.size, 4, none⟩) (by show w.heap.size < w.heap.size + 2; omega)).trans HK.out.2.2.2.2.1
      have a4 := cell_al e4
      clear hH hb egt e2 e3 hcap h5 hs2 hle; obtain ⟨X, hX⟩ : ∃ X, ps[i] = X := ⟨_, rfl⟩
      simp only [hX] at r0 r1 r2 r3 r4 HCE HNX CI
      have HXX : Hid (ps[i] = X) := hX
      clear hX; obtain ⟨⟨xp, xd, xq, xbs, xw⟩, ⟨xa, xn, xc⟩⟩ := X
      unfold ndV at CI; simp only at r0 r1 r2 r3 r4 HCE HNX CI
      go_wp2; refine wp_region_any (by kernel_rfl) ?_
      try (change wpAny _ _ _ _ _ _ _ (World.drew _))
      refine wpAny_take (i := 0) (v := ?_) rfl (by kernel_rfl) (by kernel_rfl) (by kernel_rfl) (fun _ _ _ h => h) (Or.inl ⟨by rfl, ?_⟩) ?_
      rotate_left
      · intro w; go_simp; first | done | with_reducible rfl
      refine wpAny_take (i := 2) (v := ?_) rfl (by kernel_rfl) (by kernel_rfl) (by kernel_rfl) (fun _ _ _ h => h) (Or.inl ⟨by rfl, ?_⟩) ?_
      rotate_left
      · intro w; go_simp; first | done | with_reducible rfl
      refine wpAny_ready (rs := [1, 3]) (by kernel_rfl) (by simp) ?_
      refine AllReady.cons rfl (fun K hK => ?_) ?_
      · go_simp
        refine hK _ _ ?_
        clear hK K; refine wpAny_ready (rs := [3]) (by kernel_rfl) (by simp) ?_
        refine AllReady.cons rfl (fun K hK => ?_) ?_
        · go_simp
          refine hK _ _ ?_
          clear hK K; refine wpAny_ready (rs := [4]) (by kernel_rfl) (by simp) ?_
          refine AllReady.cons rfl (fun K hK => ?_) ?_
          · go_simp
            refine (CI.out _ (bel_tr (bel_al _ _) (bel_drewN _ 1))).mono ?_; rintro e w2 ⟨⟨sx, rfl, hF, hRm⟩, c2⟩; have HRM : Hid (Rm w2 sx) := hRm; clear hRm; have BW : Hid (Below wr.heap.size wr w2) := bel_tr (bel_tr (bel_al _ _) (bel_drewN _ 1)) c2; have d4 := bel_cell BW.out e4; obtain ⟨x0, x1, x2, x3, x4, f0, f1, f2, f3, f4⟩ := HCE.out w2 BW.out; have HF : Hid (Free wr.heap.size w2 (⟨xp, xd, xq, xbs, xw⟩, sx)) := hF.mono (by simp); clear hF c2; unfold ndV; simp only
            try go_simp
            refine hK _ _ ?_
            clear hK K; refine wpAny_take (i := 5) (v := ?_) rfl (by kernel_rfl) (by kernel_rfl) (by kernel_rfl) (fun _ _ _ h => h) (Or.inl ⟨by rfl, ?_⟩) ?_
            rotate_left
            · intro w; go_simp; first | done | with_reducible rfl
            refine wpAny_ready (rs := [6]) (by kernel_rfl) (by simp) ?_
            refine AllReady.cons rfl (fun K hK => ?_) ?_
            · go_simp
              refine hK _ _ ?_
              clear hK K; refine wpAny_done (by kernel_rfl) ?_ _
              go_wp2; have HX : Hid _ := HNX.out _ _ _ BW.out HF.out HRM.out rfl
              go_roundw
              case rel => exact ⟨i + 1, qs ++ [((⟨xp, xd, xq, xbs, xw⟩ : Nd), sx)], by omega, by go_num, HX.out.1, HX.out.2⟩
              case measure => simp [intOf]; omega
            exact AllReady.nil
          exact AllReady.nil
        exact AllReady.nil
      refine AllReady.cons rfl (fun K hK => ?_) ?_
      · go_simp
        refine hK _ _ ?_
        clear hK K; refine wpAny_ready (rs := [1, 4]) (by kernel_rfl) (by simp) ?_
        refine AllReady.cons rfl (fun K hK => ?_) ?_
        · go_simp
          refine hK _ _ ?_
          clear hK K; refine wpAny_ready (rs := [4]) (by kernel_rfl) (by simp) ?_
          refine AllReady.cons rfl (fun K hK => ?_) ?_
          · go_simp
            refine (CI.out _ (bel_tr (bel_al _ _) (bel_drewN _ 1))).mono ?_; rintro e w2 ⟨⟨sx, rfl, hF, hRm⟩, c2⟩; have HRM : Hid (Rm w2 sx) := hRm; clear hRm; have BW : Hid (Below wr.heap.size wr w2) := bel_tr (bel_tr (bel_al _ _) (bel_drewN _ 1)) c2; have d4 := bel_cell BW.out e4; obtain ⟨x0, x1, x2, x3, x4, f0, f1, f2, f3, f4⟩ := HCE.out w2 BW.out; have HF : Hid (Free wr.heap.size w2 (⟨xp, xd, xq, xbs, xw⟩, sx)) := hF.mono (by simp); clear hF c2; unfold ndV; simp only
            try go_simp
            refine hK _ _ ?_
            clear hK K; refine wpAny_take (i := 5) (v := ?_) rfl (by kernel_rfl) (by kernel_rfl) (by kernel_rfl) (fun _ _ _ h => h) (Or.inl ⟨by rfl, ?_⟩) ?_
            rotate_left
            · intro w; go_simp; first | done | with_reducible rfl
            refine wpAny_ready (rs := [6]) (by kernel_rfl) (by simp) ?_
            refine AllReady.cons rfl (fun K hK => ?_) ?_
            · go_simp
              refine hK _ _ ?_
              clear hK K; refine wpAny_done (by kernel_rfl) ?_ _
              go_wp2; have HX : Hid _ := HNX.out _ _ _ BW.out HF.out HRM.out rfl
              go_roundw
              case rel => exact ⟨i + 1, qs ++ [((⟨xp, xd, xq, xbs, xw⟩ : Nd), sx)], by omega, by go_num, HX.out.1, HX.out.2⟩
              case measure => simp [intOf]; omega
            exact AllReady.nil
          exact AllReady.nil
        refine AllReady.cons rfl (fun K hK => ?_) ?_
        · go_simp
          refine (CI.out _ (bel_tr (bel_al _ _) (bel_drewN _ 1))).mono ?_; rintro e w2 ⟨⟨sx, rfl, hF, hRm⟩, c2⟩; have HRM : Hid (Rm w2 sx) := hRm; clear hRm; have BW : Hid (Below wr.heap.size wr w2) := bel_tr (bel_tr (bel_al _ _) (bel_drewN _ 1)) c2; have d4 := bel_cell BW.out e4; obtain ⟨x0, x1, x2, x3, x4, f0, f1, f2, f3, f4⟩ := HCE.out w2 BW.out; have HF : Hid (Free wr.heap.size w2 (⟨xp, xd, xq, xbs, xw⟩, sx)) := hF.mono (by simp); clear hF c2; unfold ndV; simp only
          try go_simp
          refine hK _ _ ?_
          clear hK K; refine wpAny_ready (rs := [1]) (by kernel_rfl) (by simp) ?_
          refine AllReady.cons rfl (fun K hK => ?_) ?_
          · go_simp
            refine hK _ _ ?_
            clear hK K; refine wpAny_take (i := 5) (v := ?_) rfl (by kernel_rfl) (by kernel_rfl) (by kernel_rfl) (fun _ _ _ h => h) (Or.inl ⟨by rfl, ?_⟩) ?_
            rotate_left
            · intro w; go_simp; first | done | with_reducible rfl
            refine wpAny_ready (rs := [6]) (by kernel_rfl) (by simp) ?_
            refine AllReady.cons rfl (fun K hK => ?_) ?_
            · go_simp
              refine hK _ _ ?_
              clear hK K; refine wpAny_done (by kernel_rfl) ?_ _
              go_wp2; have HX : Hid _ := HNX.out _ _ _ BW.out HF.out HRM.out rfl
              go_roundw
              case rel => exact ⟨i + 1, qs ++ [((⟨xp, xd, xq, xbs, xw⟩ : Nd), sx)], by omega, by go_num, HX.out.1, HX.out.2⟩
              case measure => simp [intOf]; omega
            exact AllReady.nil
          exact AllReady.nil
        exact AllReady.nil
      exact AllReady.nil
    · obtain rfl : i = nn := by omega
      have hgd : decide ((i : Int) < (i : Int)) = false := decide_eq_false (by omega)
      have hle : ps.drop i = [] := List.drop_of_length_le (by rw [HP.out]; omega)
      have HLOT : Hid (Lot (w.heap.size + 2) wr ca i cc qs g) := by
        have hc := hH.cel
        rw [hle, List.append_nil] at hc
        exact ⟨hc, hH.len, hH.free, hH.ap⟩
      have HMQ : Hid (qs.map (·.1) = ns) := by
        show _ = _
        rw [hH.map, List.take_of_length_le (by rw [HP.out]; omega)]; exact HM.out
      have HSEP : Hid (qs.Pairwise ApartB) := hH.sep
      have HRMS : Hid (∀ x ∈ qs, Rm wr x.2) := hH.rm
      have HNIL : Hid (ca = none → cc = 0) := fun e => by
        have hc := hH.cel
        subst e; cases hc with
        | nil h1 h2 h3 => cases h1; rfl
        | row g cap h1 hl h2 h3 h4 h5 h6 h7 => cases h1
      have cel : ∀ (j : Nat) (b : Nat) (v : Value), b < w.heap.size + 2 → W1.cell? ⟨b, j, none⟩ = some v → wr.cell? ⟨b, j, none⟩ = some v := fun j b v hlt hc => (hb.cell (p := ⟨b, j, none⟩) hlt).trans hc
      have k0 := cel 0 _ _ (by omega) HK.out.1
      have k1 := cel 1 _ _ (by omega) HK.out.2.1
      have k2 := cel 2 _ _ (by omega) HK.out.2.2.1
      have k3 := cel 3 _ _ (by omega) HK.out.2.2.2.1
      have k4 := cel 4 _ _ (by omega) HK.out.2.2.2.2.1
      have k5 := cel 5 _ _ (by omega) HK.out.2.2.2.2.2
      have m0 := cel 0 _ _ (by omega) HMM.out.1
      have m1 := cel 1 _ _ (by omega) HMM.out.2.1
      have m2 := cel 2 _ _ (by omega) HMM.out.2.2.1
      have m3 := cel 3 _ _ (by omega) HMM.out.2.2.2.1
      have m4 := cel 4 _ _ (by omega) HMM.out.2.2.2.2.1
      have m5 := cel 5 _ _ (by omega) HMM.out.2.2.2.2.2
      have hf0 : ∀ j, wr.frozen? ⟨w.heap.size, j, none⟩ = false := fun j => (World.frozen?_of_block (a := ⟨w.heap.size, j, none⟩) (hb.block w.heap.size (by omega))).trans (HFZ.out.1 j)
      have hf1 : ∀ j, wr.frozen? ⟨w.heap.size + 1, j, none⟩ = false := fun j => (World.frozen?_of_block (a := ⟨w.heap.size + 1, j, none⟩) (hb.block (w.heap.size + 1) (by omega))).trans (HFZ.out.2 j)
      have HF0 : Hid _ := hf0
      have HF1 : Hid _ := hf1
      have hs2 : w.heap.size + 2 ≤ wr.heap.size := Nat.le_trans HS1.out hb.size
      have HS2 : Hid (w.heap.size + 2 ≤ wr.heap.size) := hs2
      clear hH hb hle cel hlt hf0 hf1 hs2; go_wp2_with (go_at_call 55; refine (CL.out _ BR.out).mono ?_; rintro e w2 ⟨⟨l2, lc2, gl, rfl, hLO⟩, c2⟩; have p0 := bel_cell c2 k0; have p1 := bel_cell c2 k1; have p2 := bel_cell c2 k2; have p3 := bel_cell c2 k3; have p4 := bel_cell c2 k4; have p5 := bel_cell c2 k5; have o0 := bel_cell c2 m0; have o1 := bel_cell c2 m1; have o2 := bel_cell c2 m2; have o3 := bel_cell c2 m3; have o4 := bel_cell c2 m4; have o5 := bel_cell c2 m5; have fz0 : ∀ j, w2.frozen? ⟨w.heap.size, j, none⟩ = false := fun j => (World.frozen?_of_block (a := ⟨w.heap.size, j, none⟩) (c2.block w.heap.size (World.block_lt_of_cell? _ _ k0))).trans (HF0.out j); have fz1 : ∀ j, w2.frozen? ⟨w.heap.size + 1, j, none⟩ = false := fun j => (World.frozen?_of_block (a := ⟨w.heap.size + 1, j, none⟩) (c2.block (w.heap.size + 1) (World.block_lt_of_cell? _ _ m0))).trans (HF1.out j); have HLO : Hid (LO wr.heap.size w2 l2 ln lc2 ls gl) := hLO; have B2 : Hid (Below wr.heap.size wr w2) := c2; clear hLO c2)
      have HC1 : SpC (w2.setCell ⟨w.heap.size, 5, none⟩ (.slice l2 ln lc2)) (w.heap.size + 1) zeroS ⟨none, 0, 0⟩ ⟨none, 0, 0⟩ :=
        ⟨(other_block _ _ _ _ _ _ (by omega)).trans o0, (other_block _ _ _ _ _ _ (by omega)).trans o1, (other_block _ _ _ _ _ _ (by omega)).trans o2, (other_block _ _ _ _ _ _ (by omega)).trans o3, (other_block _ _ _ _ _ _ (by omega)).trans o4, (other_block _ _ _ _ _ _ (by omega)).trans o5, fun j => by rw [World.frozen?_setCell]; exact fz1 j⟩
      obtain ⟨hE, hS⟩ := put6_at HC1 ⟨tx, nb, ng, now, ns, ls⟩ ⟨ca, i, cc⟩ ⟨l2, ln, lc2⟩
      have hS2 : Stay (fun k => k = w.heap.size ∨ k = w.heap.size + 1) w2 (put6 (w2.setCell ⟨w.heap.size, 5, none⟩ (.slice l2 ln lc2)) (w.heap.size + 1) ⟨tx, nb, ng, now, ns, ls⟩ ⟨ca, i, cc⟩ ⟨l2, ln, lc2⟩) :=
        (Stay.setCell (O := fun k => k = w.heap.size ∨ k = w.heap.size + 1) w2 ⟨w.heap.size, 5, none⟩ _ (.inl rfl)).then_same (hS.mono (fun k hk => .inr hk))
      have hO : Own (w.heap.size + 2) w2 ⟨tx, nb, ng, now, ns, ls⟩ ⟨ca, i, cc⟩ ⟨l2, ln, lc2⟩ qs g gl := by
        have hlt := HLO.out.own
        refine ⟨HLOT.out.below B2.out, HMQ.out, HLO.out.mono HS2.out, HSEP.out, fun k hk e => ?_, fun x hx k hk e => ?_⟩
        · have h1 := HLOT.out.cel
          rw [hk] at h1
          have := h1.lt.1
          have := (hlt k e).2
          omega
        · have := (HLOT.out.ok x hx).ok.bs.lt k hk
          have := (hlt k e).2
          omega
      have hO2 := hO.out hS2 (fun k hk => by omega)
      have hRM2 : ∀ x ∈ qs, Rm (put6 (w2.setCell ⟨w.heap.size, 5, none⟩ (.slice l2 ln lc2)) (w.heap.size + 1) ⟨tx, nb, ng, now, ns, ls⟩ ⟨ca, i, cc⟩ ⟨l2, ln, lc2⟩) x.2 := fun x hx => ((HRMS.out x hx).below B2.out).keep fun k hk => hS2.block k (((HRMS.out x hx).below B2.out).lt k hk) (fun e => by have := (HLOT.out.ok x hx).blk_ge k hk; omega)
      have hB : Below w.heap.size w (put6 (w2.setCell ⟨w.heap.size, 5, none⟩ (.slice l2 ln lc2)) (w.heap.size + 1) ⟨tx, nb, ng, now, ns, ls⟩ ⟨ca, i, cc⟩ ⟨l2, ln, lc2⟩) := (bel_tr BR.out B2.out).trans (hS2.below (bel_tr BR.out B2.out).size (fun k hk => by omega))
      unfold put6 at hE hO2 hB hRM2; simp only at hE hO2 hB hRM2
      have t0 := hE.c0
      have t1 := hE.c1
      have t2 := hE.c2
      have t3 := hE.c3
      have t4 := hE.c4
      have t5 := hE.c5
      simp only at t0 t1 t2 t3 t4 t5
      refine bodyPost_ret (v := spV ⟨tx, nb, ng, now, ns, ls⟩ ⟨ca, i, cc⟩ ⟨l2, ln, lc2⟩) ?_ rfl ⟨⟨_, _, _, _, _, rfl, hO2.mono (by omega), hRM2, HNIL.out⟩, hB⟩
      simp only [results, Tryz.results28]
      simp [go_sem, spV, t0, t1, t2, t3, t4, t5]
open Go.Proofs.YtdilfbfkeiaafaaGreat.Edi (Ed Nm EdAt edV)
def setTo (bs : List Blk) (ls : List Int) (k : Nat) : List Blk := setLens (bs.take k) (ls.take k) ++ bs.drop k
theorem setTo_zero (bs : List Blk) (ls : List Int) : setTo bs ls 0 = bs := by unfold setTo; simp [setLens]
theorem setTo_all {bs : List Blk} {ls : List Int} {k : Nat} (h : ls.length = bs.length) (hk : bs.length ≤ k) : setTo bs ls k = setLens bs ls := by
  unfold setTo; rw [List.take_of_length_le hk, List.take_of_length_le (by omega), List.drop_of_length_le hk, List.append_nil]
theorem setLens_snoc : ∀ (bs : List Blk) (ls : List Int) (b : Blk) (l : Int), ls.length = bs.length → setLens (bs ++ [b]) (ls ++ [l]) = setLens bs ls ++ [⟨b.id, b.gen, l⟩]
  | [], [], b, l, _ => rfl
  | c :: bs, m :: ls, b, l, h => by
    simp only [List.cons_append, setLens]
    rw [setLens_snoc bs ls b l (by simpa using h)]
  | [], m :: ls, _, _, h => by simp at h
  | c :: bs, [], _, _, h => by simp at h
theorem setTo_len {bs : List Blk} {ls : List Int} {k : Nat} (h : ls.length = bs.length) : (setTo bs ls k).length = bs.length := by
  unfold setTo; rw [List.length_append, setLens_len _ _ (by rw [List.length_take, List.length_take]; omega), List.length_take, List.length_drop]; omega
theorem setTo_at {bs : List Blk} {ls : List Int} {k : Nat} (h : ls.length = bs.length) (hk : k < bs.length) : (setTo bs ls k)[k]'(by rw [setTo_len h]; exact hk) = bs[k] := by
  unfold setTo; have hl : (setLens (bs.take k) (ls.take k)).length = k := by rw [setLens_len _ _ (by rw [List.length_take, List.length_take]; omega), List.length_take]; omega
  rw [List.getElem_append_right (by omega)]
  simp [hl]
theorem setTo_next {bs : List Blk} {ls : List Int} {k : Nat} (h : ls.length = bs.length) (hk : k < bs.length) : setTo bs ls (k + 1) = (setTo bs ls k).set k ⟨bs[k].id, bs[k].gen, ls[k]'(by omega)⟩ := by
  unfold setTo; have hl : (setLens (bs.take k) (ls.take k)).length = k := by rw [setLens_len _ _ (by rw [List.length_take, List.length_take]; omega), List.length_take]; omega
  rw [List.take_succ_eq_append_getElem hk, List.take_succ_eq_append_getElem (show k < ls.length by omega), setLens_snoc _ _ _ _ (by rw [List.length_take, List.length_take]; omega), List.set_append_right _ _ (by omega), hl, Nat.sub_self, List.drop_eq_getElem_cons hk, List.set_cons_zero]
  simp
theorem Free.setBlk {base : Nat} {w : World} {x : Nd} {s : RS} (h : Free base w (x, s)) {b j o : Nat} (hb : s.a = some ⟨b, 0, none⟩) (hj : j < x.bs.length) (ho : o < 3) (v : Int) (y : Blk) (hy : ∀ i, (blkC y)[i]? = if i = o then some (.int .i64 v) else (blkC x.bs[j])[i]?) :
    Free base (w.setCell ⟨b, j * 3 + o, none⟩ (.int .i64 v)) (withBs x (x.bs.set j y), s) ∧ Stay (fun k => s.blk = some k) w (w.setCell ⟨b, j * 3 + o, none⟩ (.int .i64 v)) := by
  have hl : x.bs.length = s.n := h.ok.bs.len
  obtain ⟨b', ha, hle, hc⟩ := h.own (by show 0 < s.n; omega)
  have ha' : s.a = some ⟨b', 0, none⟩ := ha
  rw [hb] at ha'
  cases ha'
  have hblk : s.blk = some b := by unfold RS.blk; rw [if_neg (by omega), hb]; rfl
  have hlen : ∀ y : Blk, (blkC y).length = 3 := fun _ => rfl
  have hcell : ∀ t, (w.setCell ⟨b, j * 3 + o, none⟩ (.int .i64 v)).cell? ⟨b, t, none⟩ = if t = j * 3 + o then some (.int .i64 v) else w.cell? ⟨b, t, none⟩ := fun t => by
    by_cases e : t = j * 3 + o
    · subst e
      rw [if_pos rfl]
      have h1 := (hc (j * 3 + o) (by show j * 3 + o < s.n * 3; omega)).1
      obtain ⟨u, hu⟩ := Option.isSome_iff_exists.1 h1
      exact same_cell hu
    · rw [if_neg e]
      exact other_cell _ _ _ _ _ (fun e2 => e e2.symm)
  refine ⟨⟨⟨h.ok.small, ?_, h.ok.bs.lid, h.ok.bs.nil, fun hp => ?_⟩, fun hp => ⟨b, hb, hle, fun t ht => ⟨?_, ?_⟩⟩⟩, Stay.setCell _ _ _ hblk⟩
  · show (x.bs.set j y).length = s.n
    rw [List.length_set]; exact hl
  · refine ⟨b, 0, hb, fun q hq i u hu => ?_⟩
    have hq' : q < x.bs.length := by
      have : q < (x.bs.set j y).length := hq
      rwa [List.length_set] at this
    obtain ⟨b2, off2, h1, h2⟩ := h.ok.bs.cells hp
    have h1' : s.a = some ⟨b2, off2, none⟩ := h1
    rw [hb] at h1'
    cases h1'
    have hu' : (blkC ((x.bs.set j y)[q]'(by rw [List.length_set]; exact hq')))[i]? = some u := hu
    have hi : i < 3 := by
      have := (List.getElem?_eq_some_iff.1 hu').1
      rwa [hlen] at this
    rw [Nat.zero_add, hcell]
    by_cases e : q = j
    · subst e
      rw [List.getElem_set_self, hy i] at hu'
      by_cases e2 : i = o
      · subst e2
        rw [if_pos rfl] at hu'
        rw [if_pos rfl]; exact hu'
      · rw [if_neg e2] at hu'
        rw [if_neg (by omega)]
        have := h2 q hq' i u hu'
        rw [Nat.zero_add] at this; exact this
    · rw [List.getElem_set_ne (fun e2 => e e2.symm)] at hu'
      rw [if_neg (by omega)]
      have := h2 q hq' i u hu'
      rw [Nat.zero_add] at this; exact this
  · rw [hcell]
    split
    · rfl
    · exact (hc t ht).1
  · rw [World.frozen?_setCell]; exact (hc t ht).2
theorem setLengths_ok2 {base gb i : Nat} {w : World} {x : Nd} {s : RS} {la : Option Addr} {lm lq : Nat} {ls : List Int} (hF : Free base w (x, s)) (h3 : w.cell? ⟨gb, i * 5 + 3, none⟩ = some (.slice s.a s.n s.c)) (hg : s.blk ≠ some gb) (hl : Nm w la lm ls) (hlb : ∀ ad, la = some ad → 0 < lm → s.blk ≠ some ad.block) (hok : LenOk x.bs ls) (h8 : s.n ≤ 8) :
    Calls Tryz.prog 108 #[.pointer (some ⟨gb, i * 5, none⟩), .slice la lm lq] w fun e w' => e = .returned (.tuple #[]) ∧ Free base w' (withBs x (setLens x.bs ls), s) ∧ Stay (fun k => s.blk = some k) w w' ∧ (Rm w s → Rm w' s) := by
  have hlen : ls.length = x.bs.length := hok.len
  have hsn : x.bs.length = s.n := hF.ok.bs.len
  have hlm : ls.length = lm := hl.len
  have hmn : lm = s.n := by omega
  subst hmn; have CR : Hid (∀ E W, Calls Tryz.prog 25 #[.bool false, .int .i64 E] W fun e w' => e = .returned (.tuple #[]) ∧ W = w') := fun E W => (refuse_no E W).mono fun e w' ⟨h1, h2⟩ => ⟨h1, h2.symm⟩
  have HF : Hid (Free base w (x, s)) := hF
  have H3 : Hid (w.cell? ⟨gb, i * 5 + 3, none⟩ = some (.slice s.a s.n s.c)) := h3
  have HL : Hid (Nm w la s.n ls) := hl
  have HLB : Hid (∀ ad, la = some ad → 0 < s.n → s.blk ≠ some ad.block) := hlb
  have HE : Hid (∀ l ∈ ls, l ≤ 64) := hok.each
  have HLEN : Hid (ls.length = x.bs.length) := hlen
  have HG : Hid (s.blk ≠ some gb) := hg
  have HSN : Hid (x.bs.length = s.n) := hsn
  have hne : ((s.n : Int) != (s.n : Int)) = false := by simp
  clear hF hl hlb hok hlen hlm hg hsn; go_enter Tryz.func108, Tryz.ntmps108; go_wp2_with (go_at_call 25; refine (CR.out _ _).mono ?_; rintro e w1 ⟨rfl, rfl⟩)
  go_loopw [4, 5, 17] (fun _ _ v17 wr => ∃ k : Nat, k ≤ s.n ∧ v17 = .int .i64 k ∧ Free base wr (withBs x (setTo x.bs ls k), s) ∧ Stay (fun k => s.blk = some k) w wr ∧ (Rm w s → Rm wr s)) (fun _ _ v17 _ => s.n - (intOf v17).toNat)
  case atStart => exact ⟨0, by omega, rfl, by rw [setTo_zero]; exact HF.out, Stay.refl _ _, fun e => e⟩
  case round =>
    obtain ⟨k, hk, rfl, hFr, hSt, hRm⟩ := hrel
    have HRM : Hid (Rm w s → Rm wr s) := hRm
    clear hRm; have HFR : Hid (Free base wr (withBs x (setTo x.bs ls k), s)) := hFr
    have HST : Hid (Stay (fun k => s.blk = some k) w wr) := hSt
    by_cases hlt : k < s.n
    · have hkb : k < x.bs.length := by rw [HSN.out]; exact hlt
      have hkl : k < ls.length := by rw [HLEN.out]; exact hkb
      obtain ⟨lb, loff, rfl, hlc⟩ := HL.out.cells (by omega)
      have l0 : wr.cell? ⟨lb, loff + k, none⟩ = some (.int .i64 ls[k]) := (World.cell?_of_block (a := ⟨lb, loff + k, none⟩) (hSt.block lb (World.block_lt_of_cell? _ _ (hlc k hkl)) (fun e => HLB.out _ rfl (by omega) e))).trans (hlc k hkl)
      have g3 : wr.cell? ⟨gb, i * 5 + 3, none⟩ = some (.slice s.a s.n s.c) := (World.cell?_of_block (a := ⟨gb, i * 5 + 3, none⟩) (hSt.block gb (World.block_lt_of_cell? _ _ H3.out) (fun e => HG.out e))).trans H3.out
      obtain ⟨b, ha, hle, hcl⟩ := hFr.own (by show 0 < s.n; omega)
      have ha' : s.a = some ⟨b, 0, none⟩ := ha
      have hcl' : ∀ j, j < s.n * 3 → (wr.cell? ⟨b, j, none⟩).isSome = true ∧ wr.frozen? ⟨b, j, none⟩ = false := hcl
      obtain ⟨hc1, hf2⟩ := hcl' (k * 3 + 2) (by omega)
      obtain ⟨u, hu⟩ := Option.isSome_iff_exists.1 hc1
      have h64 : ls[k] ≤ 64 := HE.out _ (List.getElem_mem hkl)
      have hgt : decide ((64 : Int) < ls[k]) = false := decide_eq_false (by omega)
      have HNX : Hid (∀ W, W = wr.setCell ⟨b, k * 3 + 2, none⟩ (.int .i64 ls[k]) → Free base W (withBs x (setTo x.bs ls (k + 1)), s) ∧ Stay (fun k => s.blk = some k) w W) := fun W e => by
        subst e; have hj : k < (withBs x (setTo x.bs ls k)).bs.length := by show k < (setTo x.bs ls k).length; rw [setTo_len HLEN.out]; exact hkb
        obtain ⟨h1, h2⟩ := Free.setBlk HFR.out ha' hj (o := 2) (by omega) ls[k] ⟨x.bs[k].id, x.bs[k].gen, ls[k]⟩ (fun i => by
          have e2 : (withBs x (setTo x.bs ls k)).bs[k] = x.bs[k] := setTo_at HLEN.out hkb
          rw [e2]
          match i with
          | 0 => rfl
          | 1 => rfl
          | 2 => rfl
          | i + 3 => rfl)
        refine ⟨?_, HST.out.then_same h2⟩
        rw [setTo_next HLEN.out hkb]
        exact h1
      rw [ha'] at g3
      clear hFr hSt hlc ha ha' hcl hcl' hc1 h64 hle; obtain ⟨L, hL⟩ : ∃ L, ls[k] = L := ⟨_, rfl⟩
      rw [hL] at l0 hgt HNX
      have hkI : (k : Int) < (s.n : Int) := by omega
      clear hL hkb hkl; go_wp2_with (go_at_call 25; refine (CR.out _ _).mono ?_; rintro e w1 ⟨rfl, rfl⟩)
      have HX : Hid _ := HNX.out _ rfl
      go_roundw
      case rel => exact ⟨k + 1, by omega, by go_num, HX.out.1, HX.out.2, fun e => (HRM.out e).set _ _⟩
      case measure => simp [intOf]; omega
    · obtain rfl : k = s.n := by omega
      have hgd : decide ((s.n : Int) < (s.n : Int)) = false := decide_eq_false (by omega)
      rw [setTo_all HLEN.out (by rw [HSN.out]; omega)] at hFr
      have HX : Hid _ := hFr
      clear hFr hSt hlt; go_wp2
      first | go_end0 | refine bodyPost_ret (results_none rfl _ _ _) rfl ?_
      exact ⟨rfl, HX.out, HST.out, HRM.out⟩
theorem setLengths_ok {base gb i : Nat} {w : World} {x : Nd} {s : RS} {la : Option Addr} {lm lq : Nat} {ls : List Int} (hF : Free base w (x, s)) (h3 : w.cell? ⟨gb, i * 5 + 3, none⟩ = some (.slice s.a s.n s.c)) (hg : s.blk ≠ some gb) (hl : Nm w la lm ls) (hlb : ∀ ad, la = some ad → 0 < lm → s.blk ≠ some ad.block) (hok : LenOk x.bs ls) (h8 : s.n ≤ 8) :
    Calls Tryz.prog 108 #[.pointer (some ⟨gb, i * 5, none⟩), .slice la lm lq] w fun e w' => e = .returned (.tuple #[]) ∧ Free base w' (withBs x (setLens x.bs ls), s) ∧ Stay (fun k => s.blk = some k) w w' :=
  (setLengths_ok2 hF h3 hg hl hlb hok h8).mono fun _ _ ⟨h1, h2, h3, _⟩ => ⟨h1, h2, h3⟩
theorem lens_first {bs : List Blk} {ls : List Int} (hl : ls.length = bs.length) (h : ¬ LenOk bs ls) : ∃ k, ∃ hk : k < ls.length, 64 < ls[k] ∧ ∀ j (hj : j < ls.length), j < k → ls[j] ≤ 64 := by
  have h1 : ¬ ∀ l ∈ ls, l ≤ 64 := fun e => h ⟨hl, e⟩
  clear h hl; induction ls with
  | nil => exact absurd (fun l hl => by cases hl) h1
  | cons l ls ih =>
    by_cases h2 : l ≤ 64
    · have h3 : ¬ ∀ l ∈ ls, l ≤ 64 := fun e => h1 (fun m hm => by
        rcases List.mem_cons.1 hm with rfl | hm
        · exact h2
        · exact e m hm)
      obtain ⟨k, hk, h4, h5⟩ := ih h3
      refine ⟨k + 1, by simpa using hk, by simpa using h4, fun j hj hjk => ?_⟩
      cases j with
      | zero => exact h2
      | succ j => simpa using h5 j (by simpa using hj) (by omega)
    · exact ⟨0, by simp, by simpa using h2, fun j hj hjk => by omega⟩
theorem setLengths_no {base gb i : Nat} {w : World} {x : Nd} {s : RS} {la : Option Addr} {lm lq : Nat} {ls : List Int} (hF : Free base w (x, s)) (h3 : w.cell? ⟨gb, i * 5 + 3, none⟩ = some (.slice s.a s.n s.c)) (hg : s.blk ≠ some gb) (hl : Nm w la lm ls) (hlb : ∀ ad, la = some ad → 0 < lm → s.blk ≠ some ad.block) (hok : ¬ LenOk x.bs ls) (h8 : s.n ≤ 8) :
    Calls Tryz.prog 108 #[.pointer (some ⟨gb, i * 5, none⟩), .slice la lm lq] w fun e w' => e = leftV 1 ∧ Stay (fun k => s.blk = some k) w w' := by
  have hsn : x.bs.length = s.n := hF.ok.bs.len
  have hlm : ls.length = lm := hl.len
  have hlid := hl.lid
  unfold maxLen at hlid; by_cases hmn : lm = s.n
  · subst hmn
    have hlen : ls.length = x.bs.length := by omega
    obtain ⟨K, hK, hK1, hK2⟩ := lens_first hlen hok
    have CR : Hid (∀ E W, Calls Tryz.prog 25 #[.bool false, .int .i64 E] W fun e w' => e = .returned (.tuple #[]) ∧ W = w') := fun E W => (refuse_no E W).mono fun e w' ⟨h1, h2⟩ => ⟨h1, h2.symm⟩
    have HF : Hid (Free base w (x, s)) := hF
    have H3 : Hid (w.cell? ⟨gb, i * 5 + 3, none⟩ = some (.slice s.a s.n s.c)) := h3
    have HL : Hid (Nm w la s.n ls) := hl
    have HLB : Hid (∀ ad, la = some ad → 0 < s.n → s.blk ≠ some ad.block) := hlb
    have HE : Hid (∀ j (hj : j < ls.length), j < K → ls[j] ≤ 64) := hK2
    have HK : Hid (64 < ls[K]) := hK1
    have HLEN : Hid (ls.length = x.bs.length) := hlen
    have HG : Hid (s.blk ≠ some gb) := hg
    have HSN : Hid (x.bs.length = s.n) := hsn
    have hKn : K < s.n := by omega
    have hne : ((s.n : Int) != (s.n : Int)) = false := by simp
    clear hF hl hlb hok hlen hlm hg hsn hK1 hK2; go_enter Tryz.func108, Tryz.ntmps108; go_wp2_with (go_at_call 25; refine (CR.out _ _).mono ?_; rintro e w1 ⟨rfl, rfl⟩)
    go_loopw [4, 5, 17] (fun _ _ v17 wr => ∃ k : Nat, k ≤ K ∧ v17 = .int .i64 k ∧ Free base wr (withBs x (setTo x.bs ls k), s) ∧ Stay (fun k => s.blk = some k) w wr) (fun _ _ v17 _ => s.n - (intOf v17).toNat)
    case atStart => exact ⟨0, by omega, rfl, by rw [setTo_zero]; exact HF.out, Stay.refl _ _⟩
    case round =>
      obtain ⟨k, hk, rfl, hFr, hSt⟩ := hrel
      have HFR : Hid (Free base wr (withBs x (setTo x.bs ls k), s)) := hFr
      have HST : Hid (Stay (fun k => s.blk = some k) w wr) := hSt
      have hlt : k < s.n := by omega
      have hkb : k < x.bs.length := by rw [HSN.out]; exact hlt
      have hkl : k < ls.length := by rw [HLEN.out]; exact hkb
      obtain ⟨lb, loff, rfl, hlc⟩ := HL.out.cells (by omega)
      have l0 : wr.cell? ⟨lb, loff + k, none⟩ = some (.int .i64 ls[k]) := (World.cell?_of_block (a := ⟨lb, loff + k, none⟩) (hSt.block lb (World.block_lt_of_cell? _ _ (hlc k hkl)) (fun e => HLB.out _ rfl (by omega) e))).trans (hlc k hkl)
      have g3 : wr.cell? ⟨gb, i * 5 + 3, none⟩ = some (.slice s.a s.n s.c) := (World.cell?_of_block (a := ⟨gb, i * 5 + 3, none⟩) (hSt.block gb (World.block_lt_of_cell? _ _ H3.out) (fun e => HG.out e))).trans H3.out
      have hkI : (k : Int) < (s.n : Int) := by omega
      by_cases hkK : k < K
      · obtain ⟨b, ha, hle, hcl⟩ := hFr.own (by show 0 < s.n; omega)
        have ha' : s.a = some ⟨b, 0, none⟩ := ha
        have hcl' : ∀ j, j < s.n * 3 → (wr.cell? ⟨b, j, none⟩).isSome = true ∧ wr.frozen? ⟨b, j, none⟩ = false := hcl
        obtain ⟨hc1, hf2⟩ := hcl' (k * 3 + 2) (by omega)
        obtain ⟨u, hu⟩ := Option.isSome_iff_exists.1 hc1
        have h64 : ls[k] ≤ 64 := HE.out _ hkl hkK
        have hgt : decide ((64 : Int) < ls[k]) = false := decide_eq_false (by omega)
        have HNX : Hid (∀ W, W = wr.setCell ⟨b, k * 3 + 2, none⟩ (.int .i64 ls[k]) → Free base W (withBs x (setTo x.bs ls (k + 1)), s) ∧ Stay (fun k => s.blk = some k) w W) := fun W e => by
          subst e; have hj : k < (withBs x (setTo x.bs ls k)).bs.length := by show k < (setTo x.bs ls k).length; rw [setTo_len HLEN.out]; exact hkb
          obtain ⟨h1, h2⟩ := Free.setBlk HFR.out ha' hj (o := 2) (by omega) ls[k] ⟨x.bs[k].id, x.bs[k].gen, ls[k]⟩ (fun i => by
            have e2 : (withBs x (setTo x.bs ls k)).bs[k] = x.bs[k] := setTo_at HLEN.out hkb
            rw [e2]
            match i with
            | 0 => rfl
            | 1 => rfl
            | 2 => rfl
            | i + 3 => rfl)
          refine ⟨?_, HST.out.then_same h2⟩
          rw [setTo_next HLEN.out hkb]
          exact h1
        rw [ha'] at g3
        clear hFr hSt hlc ha ha' hcl hcl' hc1 h64 hle; obtain ⟨L, hL⟩ : ∃ L, ls[k] = L := ⟨_, rfl⟩
        rw [hL] at l0 hgt HNX
        clear hL hkb hkl; go_wp2_with (go_at_call 25; refine (CR.out _ _).mono ?_; rintro e w1 ⟨rfl, rfl⟩)
        have HX : Hid _ := HNX.out _ rfl
        go_roundw
        case rel => exact ⟨k + 1, by omega, by go_num, HX.out.1, HX.out.2⟩
        case measure => simp [intOf]; omega
      · obtain rfl : k = K := by omega
        have hgt : decide ((64 : Int) < ls[k]) = true := decide_eq_true HK.out
        clear hFr hSt hlc hkK; obtain ⟨L, hL⟩ : ∃ L, ls[k] = L := ⟨_, rfl⟩
        rw [hL] at l0 hgt
        clear hL hkb HE HK; go_wp2_with (go_at_call 25; refine (refuse_yes _ _).mono ?_; rintro e w1 ⟨rfl, hw1⟩)
        subst hw1; exact ⟨rfl, rfl, HST.out⟩
  · have hne : ((lm : Int) != (s.n : Int)) = true := by simp; omega
    clear hF hl hlb hok hg hsn hmn hlm; go_enter Tryz.func108, Tryz.ntmps108; go_wp2_with (go_at_call 25; refine (refuse_yes _ _).mono ?_; rintro e w1 ⟨rfl, hw1⟩)
    subst hw1; exact ⟨rfl, rfl, Stay.refl _ _⟩
end Go.Proofs.YtdilfbfkeiaafaaGreat.Spa
