/- Part 28 of the proof: SpaceF7, SpaceF8, SpaceF9, ImageF4, ImageG1, SpaceFA, SpaceFB, SpaceFC, SpaceFD, SpaceFE, SpaceFF, SpaceFG, SpaceFH, SpaceFI, SpaceFJ, SpaceFL, SpaceFM, SpaceFN, SpaceFO, SpaceFK, SpaceFP, SpaceFQ, SpaceFR, SpaceFV, SpaceFU. -/
import Derived.Test.YtcnflkjkgomnoaaGreatB03
import Derived.Test.YtcnflkjkgomnoaaGreatB05
import Derived.Test.YtcnflkjkgomnoaaGreatB16
import Derived.Test.YtcnflkjkgomnoaaGreatB17
import Derived.Test.YtcnflkjkgomnoaaGreatB18
import Derived.Test.YtcnflkjkgomnoaaGreatB27
import Derived.Deep.LoopGhost
set_option maxRecDepth 100000
set_option maxHeartbeats 8000000
namespace Go.Proofs.YtcnflkjkgomnoaaGreat.Spa
open Go.RowKit Go.Proofs.YtcnflkjkgomnoaaGreat
open Go.Proofs.YtcnflkjkgomnoaaGreat.Lea (LS Ls findX putL renX LL LO LsR lsC wideL)
structure Rm (w : World) (s : RS) : Prop where
  z : s.n = 0 → s.c = 0
  le : s.n ≤ s.c
  lid : s.c ≤ maxLen
  live : 0 < s.n → ∃ b, s.a = some ⟨b, 0, none⟩ ∧ ∀ j, j < s.c * 3 → (w.cell? ⟨b, j, none⟩).isSome = true ∧ w.frozen? ⟨b, j, none⟩ = false
theorem Rm.set {w : World} {s : RS} (h : Rm w s) (a : Addr) (v : Value) : Rm (w.setCell a v) s := by
  refine ⟨h.z, h.le, h.lid, fun hp => ?_⟩
  obtain ⟨b, ha, hc⟩ := h.live hp
  refine ⟨b, ha, fun j hj => ⟨?_, by rw [World.frozen?_setCell]; exact (hc j hj).2⟩⟩
  obtain ⟨u, hu⟩ := Option.isSome_iff_exists.1 (hc j hj).1
  by_cases e : a = ⟨b, j, none⟩
  · subst e
    rw [World.cell?_setCell_same _ _ _ hu]; rfl
  · rw [World.cell?_setCell_other _ _ _ _ e, hu]; rfl
structure Clone2R (base n : Nat) (bs : List Blk) (e : Ending) (w' : World) : Prop where
  ex : ∃ a c g, e = .returned (.slice a n c) ∧ Cel (fun k => base ≤ k) w' 3 (.slice a n c) n (rowC blkC bs) g ∧ (n = 0 → c = 0)
structure Copy2R (base : Nat) (x : Nd) (e : Ending) (w' : World) : Prop where
  ex : ∃ s, e = .returned (ndV (x, s)) ∧ Free base w' (x, s) ∧ Rm w' s
theorem clone2_val (s : RS) (bs : List Blk) (w : World) (h : Blks w s bs) (hz : s.n * 24 ≤ 140737488355328) :
    Calls Tryz.prog 84 #[.slice s.a s.n s.c] w fun e w' => Clone2R w.heap.size s.n bs e w' ∧ Below w.heap.size w w' := by
  obtain ⟨a, n, c⟩ := s
  rcases Nat.eq_zero_or_pos n with h0 | h0
  · subst h0
    have e : bs = [] := List.length_eq_zero_iff.1 h.len
    subst e; have hnb := nilBlks
    cases a with
    | none =>
      have hc0 : c = 0 := h.nil rfl
      subst hc0; clear h hz; go_enter Tryz.func84, Tryz.ntmps84; go_wp2; go_ret; exact ⟨⟨none, 0, none, rfl, .nil rfl rfl rfl, fun _ => rfl⟩, Below.refl _ _⟩
    | some ad =>
      obtain ⟨ti, hi1, hi2, hi3, hi4⟩ := blkRow
      have hap : ∀ (W : World) (b : Nat), (Builtin.append_ #[33, 33] 33 #[.slice (some ⟨b, 0, none⟩) 0 0, .slice (some ad) 0 c]).run Tryz.prog W = .ok (.slice (some ⟨b, 0, none⟩) 0 0) W := fun W b =>
        run_append_nothing (P := Tryz.prog) W 33 33 33 31 ti Tryz.underlying33 hi1 (some ⟨b, 0, none⟩) 0 0 (Nat.le_refl _) (.slice (some ad) 0 c) (by rw [hi3]; exact Src.ofSlice W Tryz.underlying33 ad 0 c [] (by simp) (fun j u hu => by simp at hu) (fun u hu => by cases hu))
      clear h hz; go_enter Tryz.func84, Tryz.ntmps84; go_wp2; go_ret; exact ⟨⟨some ⟨w.heap.size, 0, none⟩, 0, some w.heap.size, rfl, .row w.heap.size 0 rfl (by simp [rowC]) (Nat.le_refl _) (by simp) (Nat.le_refl _) (Nat.zero_le _) (fun j hj => by simp [rowC] at hj) (fun j hj => by omega), fun _ => rfl⟩, bel_al _ _⟩
  · refine (clone_val ⟨a, n, c⟩ bs w h hz).mono fun e w' ⟨⟨a2, c2, g, h1, h2⟩, h3⟩ => ⟨⟨a2, c2, g, h1, h2, fun e => ?_⟩, h3⟩
    have e' : n = 0 := e
    omega
theorem rm_of_cel {base : Nat} {w : World} {a : Option Addr} {n c : Nat} {bs : List Blk} {g : Option Nat} (h : Cel (fun k => base ≤ k) w 3 (.slice a n c) n (rowC blkC bs) g) (h0 : n = 0 → c = 0) : Rm w ⟨a, n, c⟩ := by
  obtain ⟨hc1, hc2, _⟩ := h.cap2
  refine ⟨h0, hc1, hc2, fun hp => ?_⟩
  obtain ⟨b, h1, h2⟩ := h.at2 hp
  subst h2; exact ⟨b, h1, fun j hj => h.live j hj⟩
theorem copied2_val (x : NR) (w : World) (h : NdOk w x) (hz : x.2.n * 24 ≤ 140737488355328) :
    Calls Tryz.prog 40 #[ndV x] w fun e w' => Copy2R w.heap.size x.1 e w' ∧ Below w.heap.size w w' := by
  have CC : Hid (∀ W, Below w.heap.size w W → Calls Tryz.prog 84 #[.slice x.2.a x.2.n x.2.c] W fun e w' => ∃ a c, e = .returned (.slice a x.2.n c) ∧ (Free W.heap.size w' (x.1, ⟨a, x.2.n, c⟩) ∧ Rm w' ⟨a, x.2.n, c⟩) ∧ Below W.heap.size W w') := fun W hb =>
    (clone2_val x.2 x.1.bs W (h.bs.below hb) hz).mono fun e w' ⟨⟨a, c, g, h1, h2, h4⟩, h3⟩ => ⟨a, c, h1, ⟨free_of_cel h2 h.bs.len rfl h.small, rm_of_cel h2 h4⟩, h3⟩
  obtain ⟨⟨p, d, q, bs, wr⟩, ⟨a, n, c⟩⟩ := x
  have hst := run_store_str
  have hst2 := sto2
  unfold ndV; simp only at CC
  clear h hz; go_enter Tryz.func40, Tryz.ntmps40; go_wp2_with fail
  refine (CC.out _ (bel_tr (bel_al _ _) (bel_al _ _))).mono ?_
  rintro e w2 ⟨a2, c2, rfl, ⟨hF, hRm⟩, hb2⟩; have HRM : Hid (Rm w2 ⟨a2, n, c2⟩) := hRm
  clear hRm; obtain ⟨q1, q2, q3, q4, q5, q6⟩ := two_boxes hb2
  have y0 := q1 0 _ rfl
  have y1 := q1 1 _ rfl
  have y2 := q1 2 _ rfl
  have y3 := q1 3 _ rfl
  have y4 := q1 4 _ rfl
  have z0 := q3 0 _ rfl
  have z1 := q3 1 _ rfl
  have z2 := q3 2 _ rfl
  have z3 := q3 3 _ rfl
  have z4 := q3 4 _ rfl
  have HF : Hid (Free (w.heap.size + 2) w2 (⟨p, d, q, bs, wr⟩, ⟨a2, n, c2⟩)) := by
    have := hF
    simp at this
    exact this
  have hb3 : Hid (Below w.heap.size w w2) := q5
  have HZ : Hid (w.heap.size + 2 ≤ w2.heap.size) := q6
  have yy0 := q2 0
  have yy1 := q2 1
  have yy2 := q2 2
  have yy3 := q2 3
  have yy4 := q2 4
  have zz0 := q4 0
  have zz1 := q4 1
  have zz2 := q4 2
  have zz3 := q4 3
  have zz4 := q4 4
  have o0 : ∀ j v, (w2.setCell ⟨w.heap.size, 3, none⟩ v).cell? ⟨w.heap.size + 1, j, none⟩ = w2.cell? ⟨w.heap.size + 1, j, none⟩ := fun j v => other_block _ _ _ _ _ _ (by omega)
  have HX : Hid (∀ v v0 v1 v2 v3 v4, Free w.heap.size ((((((w2.setCell ⟨w.heap.size, 3, none⟩ v).setCell ⟨w.heap.size + 1, 0, none⟩ v0).setCell ⟨w.heap.size + 1, 1, none⟩ v1).setCell ⟨w.heap.size + 1, 2, none⟩ v2).setCell ⟨w.heap.size + 1, 3, none⟩ v3).setCell ⟨w.heap.size + 1, 4, none⟩ v4) (⟨p, d, q, bs, wr⟩, ⟨a2, n, c2⟩) ∧ Below w.heap.size w ((((((w2.setCell ⟨w.heap.size, 3, none⟩ v).setCell ⟨w.heap.size + 1, 0, none⟩ v0).setCell ⟨w.heap.size + 1, 1, none⟩ v1).setCell ⟨w.heap.size + 1, 2, none⟩ v2).setCell ⟨w.heap.size + 1, 3, none⟩ v3).setCell ⟨w.heap.size + 1, 4, none⟩ v4)) := fun v v0 v1 v2 v3 v4 => by
    have st : Stay (fun k => k = w.heap.size ∨ k = w.heap.size + 1) w2 _ := (Stay.setCell (O := fun k => k = w.heap.size ∨ k = w.heap.size + 1) w2 ⟨w.heap.size, 3, none⟩ v (.inl rfl)).then_same (Stay.five _ (w.heap.size + 1) v0 v1 v2 v3 v4 (.inr rfl))
    refine ⟨(Stay.free HF.out st (fun k hk e => ?_)).mono (by omega), q5.trans (st.below (by omega) (fun k hk => by omega))⟩
    have := HF.out.blk_ge k hk
    omega
  have K0 := (five (X := w2.setCell ⟨w.heap.size, 3, none⟩ (.slice a2 n c2)) (R := w.heap.size + 1) ((o0 0 _).trans z0) ((o0 1 _).trans z1) ((o0 2 _).trans z2) ((o0 3 _).trans z3) ((o0 4 _).trans z4) (.string p) (.bool d) (.int .i64 q) (.slice a2 n c2) (.int .i64 wr))
  have HK : Hid _ := K0
  clear K0 hF hb2 q1 q2 q3 q4 q5 q6 CC o0 HF; generalize hRR : w.heap.size = R at *
  have HRR : Hid (w.heap.size = R) := hRR
  clear hRR; go_wp2; obtain ⟨k0, k1, k2, k3, k4⟩ := HK.out
  exact bodyPost_ret (v := ndV (⟨p, d, q, bs, wr⟩, ⟨a2, n, c2⟩)) (by simp [results, ndV, Tryz.results40, go_sem, k0, k1, k2, k3, k4]) rfl (by rw [HRR.out]; exact ⟨⟨⟨a2, n, c2⟩, rfl, (HX.out _ _ _ _ _ _).1, (((((HRM.out.set _ _).set _ _).set _ _).set _ _).set _ _).set _ _⟩, (HX.out _ _ _ _ _ _).2⟩)
def put6 (w : World) (b : Nat) (s : Sp) (N L : RS) : World :=
  (((((w.setCell ⟨b, 0, none⟩ (.int .i64 s.tx)).setCell ⟨b, 1, none⟩ (.int .i64 s.nb)).setCell ⟨b, 2, none⟩ (.int .i64 s.ng)).setCell ⟨b, 3, none⟩ (.int .i64 s.now)).setCell ⟨b, 4, none⟩ (.slice N.a N.n N.c)).setCell ⟨b, 5, none⟩ (.slice L.a L.n L.c)
structure SpC (w : World) (b : Nat) (s : Sp) (N L : RS) : Prop where
  c0 : w.cell? ⟨b, 0, none⟩ = some (.int .i64 s.tx)
  c1 : w.cell? ⟨b, 1, none⟩ = some (.int .i64 s.nb)
  c2 : w.cell? ⟨b, 2, none⟩ = some (.int .i64 s.ng)
  c3 : w.cell? ⟨b, 3, none⟩ = some (.int .i64 s.now)
  c4 : w.cell? ⟨b, 4, none⟩ = some (.slice N.a N.n N.c)
  c5 : w.cell? ⟨b, 5, none⟩ = some (.slice L.a L.n L.c)
  fr : ∀ j, w.frozen? ⟨b, j, none⟩ = false
theorem SpC.below {w w' : World} {b : Nat} {s : Sp} {N L : RS} (h : SpC w b s N L) (hb : Below w.heap.size w w') : SpC w' b s N L :=
  ⟨bel_cell hb h.c0, bel_cell hb h.c1, bel_cell hb h.c2, bel_cell hb h.c3, bel_cell hb h.c4, bel_cell hb h.c5, fun j => (World.frozen?_of_block (a := ⟨b, j, none⟩) (hb.block b (World.block_lt_of_cell? _ _ h.c0))).trans (h.fr j)⟩
theorem SpC.keep {O : Nat → Prop} {w w' : World} {b : Nat} {s : Sp} {N L : RS} (h : SpC w b s N L) (hs : Stay O w w') (hO : ¬ O b) : SpC w' b s N L := by
  have hb := hs.block b (World.block_lt_of_cell? _ _ h.c0) hO
  exact ⟨(World.cell?_of_block (a := ⟨b, 0, none⟩) hb).trans h.c0, (World.cell?_of_block (a := ⟨b, 1, none⟩) hb).trans h.c1, (World.cell?_of_block (a := ⟨b, 2, none⟩) hb).trans h.c2, (World.cell?_of_block (a := ⟨b, 3, none⟩) hb).trans h.c3, (World.cell?_of_block (a := ⟨b, 4, none⟩) hb).trans h.c4, (World.cell?_of_block (a := ⟨b, 5, none⟩) hb).trans h.c5, fun j => (World.frozen?_of_block (a := ⟨b, j, none⟩) hb).trans (h.fr j)⟩
theorem SpC.new (w : World) (t : TypeId) (s : Sp) (N L : RS) : SpC (w.alloc (.cells #[.int .i64 s.tx, .int .i64 s.nb, .int .i64 s.ng, .int .i64 s.now, .slice N.a N.n N.c, .slice L.a L.n L.c] t)) w.heap.size s N L :=
  ⟨World.cell?_alloc_new w _ t 0, World.cell?_alloc_new w _ t 1, World.cell?_alloc_new w _ t 2, World.cell?_alloc_new w _ t 3, World.cell?_alloc_new w _ t 4, World.cell?_alloc_new w _ t 5, fun j => World.frozen?_alloc_new w _ t j⟩
theorem same_cell {w : World} {a : Addr} {v u : Value} (h : w.cell? a = some u) : (w.setCell a v).cell? a = some v := World.cell?_setCell_same _ _ _ h
theorem put6_at {w : World} {b : Nat} {s0 : Sp} {N0 L0 : RS} (h : SpC w b s0 N0 L0) (s : Sp) (N L : RS) : SpC (put6 w b s N L) b s N L ∧ Stay (fun k => k = b) w (put6 w b s N L) := by
  constructor
  · unfold put6
    refine ⟨?_, ?_, ?_, ?_, ?_, ?_, fun j => by simp only [World.frozen?_setCell]; exact h.fr j⟩
    · rw [other_cell _ _ _ _ _ (by omega), other_cell _ _ _ _ _ (by omega), other_cell _ _ _ _ _ (by omega), other_cell _ _ _ _ _ (by omega), other_cell _ _ _ _ _ (by omega)]
      exact same_cell h.c0
    · rw [other_cell _ _ _ _ _ (by omega), other_cell _ _ _ _ _ (by omega), other_cell _ _ _ _ _ (by omega), other_cell _ _ _ _ _ (by omega)]
      refine same_cell (u := .int .i64 s0.nb) ?_
      rw [other_cell _ _ _ _ _ (by omega)]
      exact h.c1
    · rw [other_cell _ _ _ _ _ (by omega), other_cell _ _ _ _ _ (by omega), other_cell _ _ _ _ _ (by omega)]
      refine same_cell (u := .int .i64 s0.ng) ?_
      rw [other_cell _ _ _ _ _ (by omega), other_cell _ _ _ _ _ (by omega)]
      exact h.c2
    · rw [other_cell _ _ _ _ _ (by omega), other_cell _ _ _ _ _ (by omega)]
      refine same_cell (u := .int .i64 s0.now) ?_
      rw [other_cell _ _ _ _ _ (by omega), other_cell _ _ _ _ _ (by omega), other_cell _ _ _ _ _ (by omega)]
      exact h.c3
    · rw [other_cell _ _ _ _ _ (by omega)]
      refine same_cell (u := .slice N0.a N0.n N0.c) ?_
      rw [other_cell _ _ _ _ _ (by omega), other_cell _ _ _ _ _ (by omega), other_cell _ _ _ _ _ (by omega), other_cell _ _ _ _ _ (by omega)]
      exact h.c4
    · refine same_cell (u := .slice L0.a L0.n L0.c) ?_
      rw [other_cell _ _ _ _ _ (by omega), other_cell _ _ _ _ _ (by omega), other_cell _ _ _ _ _ (by omega), other_cell _ _ _ _ _ (by omega), other_cell _ _ _ _ _ (by omega)]
      exact h.c5
  · unfold put6
    exact (((((Stay.setCell (O := fun k => k = b) w _ _ rfl).then_same (Stay.setCell _ _ _ rfl)).then_same (Stay.setCell _ _ _ rfl)).then_same (Stay.setCell _ _ _ rfl)).then_same (Stay.setCell _ _ _ rfl)).then_same (Stay.setCell _ _ _ rfl)
open Go.Proofs.YtcnflkjkgomnoaaGreat.Edi (Ed Nm EdAt edV)
def noS : RS := ⟨none, 0, 0⟩
structure OwnM (base M : Nat) (w : World) (s : Sp) (N L : RS) (ps : List NR) (g gl : Option Nat) : Prop where
  lot : Lot base w N.a N.n N.c ps g
  map : ps.map (·.1) = s.ns
  lo : LO base w L.a L.n L.c s.ls gl
  gl1 : ∀ k, g = some k → gl ≠ some k
  gl2 : ∀ x ∈ ps, ∀ k, x.2.blk = some k → gl ≠ some k
  lt1 : ∀ k, g = some k → k < M
  lt2 : ∀ k, gl = some k → k < M
  lt3 : ∀ x ∈ ps, ∀ k, x.2.blk = some k → k < M
theorem OwnM.mono {b1 b2 M : Nat} {w : World} {s : Sp} {N L : RS} {ps : List NR} {g gl : Option Nat} (h : OwnM b1 M w s N L ps g gl) (hb : b2 ≤ b1) : OwnM b2 M w s N L ps g gl :=
  ⟨h.lot.mono hb, h.map, h.lo.mono hb, h.gl1, h.gl2, h.lt1, h.lt2, h.lt3⟩
theorem OwnM.up {base M M2 : Nat} {w : World} {s : Sp} {N L : RS} {ps : List NR} {g gl : Option Nat} (h : OwnM base M w s N L ps g gl) (hM : M ≤ M2) : OwnM base M2 w s N L ps g gl :=
  ⟨h.lot, h.map, h.lo, h.gl1, h.gl2, fun k hk => Nat.lt_of_lt_of_le (h.lt1 k hk) hM, fun k hk => Nat.lt_of_lt_of_le (h.lt2 k hk) hM, fun x hx k hk => Nat.lt_of_lt_of_le (h.lt3 x hx k hk) hM⟩
theorem OwnM.out {base M : Nat} {O : Nat → Prop} {w w' : World} {s : Sp} {N L : RS} {ps : List NR} {g gl : Option Nat} (h : OwnM base M w s N L ps g gl) (hs : Stay O w w') (hO : ∀ k, O k → k < base ∨ M ≤ k) : OwnM base M w' s N L ps g gl := by
  have hg : ∀ k, g = some k → k < w.heap.size ∧ base ≤ k := fun k hk => by have := h.lot.cel; rw [hk] at this; exact this.lt
  refine ⟨h.lot.stay hs.size (fun k hk => hs.block k (hg k hk).1 (fun e => ?_)) (fun x hx k hk => hs.block k ((h.lot.ok x hx).ok.bs.lt k hk) (fun e => ?_)), h.map, ?_, h.gl1, h.gl2, h.lt1, h.lt2, h.lt3⟩
  · have := hO k e; have := (hg k hk).2; have := h.lt1 k hk; omega
  · have := hO k e; have := (h.lot.ok x hx).blk_ge k hk; have := h.lt3 x hx k hk; omega
  · have ho := h.lo.own
    exact ⟨h.lo.cel.stay hs.size (fun k hk => hs.block k (ho k hk).1 (fun e => by have := hO k e; have := (ho k hk).2; have := h.lt2 k hk; omega)) (fun _ e => e), h.lo.len⟩
end Go.Proofs.YtcnflkjkgomnoaaGreat.Spa
namespace Go.Proofs.YtcnflkjkgomnoaaGreat.Img
open Go.RowKit Go.Proofs.YtcnflkjkgomnoaaGreat Go.Proofs.YtcnflkjkgomnoaaGreat.Smm
open Go.Proofs.YtcnflkjkgomnoaaGreat.Edi (numsB takeN takeN_yes takeN_no takeN_size bel_tr bel_al bel_cell)
open Go.Proofs.YtcnflkjkgomnoaaGreat.Wir (takeT takeNum_val takeNumV_no takeNumV_yes takeText_yes takeText_no)
structure Bx (w : World) (bl bs : Nat) (s : St) : Prop where
  l : w.cell? ⟨bl, 0, none⟩ = some (.string s.1)
  o : w.cell? ⟨bs, 0, none⟩ = some (.bool s.2)
  fl : w.frozen? ⟨bl, 0, none⟩ = false
  fo : w.frozen? ⟨bs, 0, none⟩ = false
  ne : bl ≠ bs
  sz : s.1.size ≤ maxLen
abbrev Two (bl bs : Nat) : Nat → Prop := fun k => k = bl ∨ k = bs
theorem Stay.cell {O : Nat → Prop} {w w' : World} (h : Stay O w w') {a : Addr} {v : Value} (hc : w.cell? a = some v) (hO : ¬ O a.block) : w'.cell? a = some v :=
  (World.cell?_of_block (a := a) (h.block a.block (World.block_lt_of_cell? _ _ hc) hO)).trans hc
theorem Stay.frozen {O : Nat → Prop} {w w' : World} (h : Stay O w w') {a : Addr} {v : Value} (hc : w.cell? a = some v) (hf : w.frozen? a = false) (hO : ¬ O a.block) : w'.frozen? a = false :=
  (World.frozen?_of_block (a := a) (h.block a.block (World.block_lt_of_cell? _ _ hc) hO)).trans hf
theorem Bx.keep {O : Nat → Prop} {w w' : World} {bl bs : Nat} {s : St} (h : Bx w bl bs s) (hs : Stay O w w') (h1 : ¬ O bl) (h2 : ¬ O bs) : Bx w' bl bs s :=
  ⟨Stay.cell hs h.l h1, Stay.cell hs h.o h2, Stay.frozen hs h.l h.fl h1, Stay.frozen hs h.o h.fo h2, h.ne, h.sz⟩
theorem Bx.below {w w' : World} {bl bs : Nat} {s : St} (h : Bx w bl bs s) (hb : Below w.heap.size w w') : Bx w' bl bs s := h.keep (Stay.of_below (O := fun _ => False) hb) id id
theorem Bx.lt {w : World} {bl bs : Nat} {s : St} (h : Bx w bl bs s) : bl < w.heap.size ∧ bs < w.heap.size := ⟨World.block_lt_of_cell? _ _ h.l, World.block_lt_of_cell? _ _ h.o⟩
theorem Bx.put {w : World} {bl bs : Nat} {s : St} (h : Bx w bl bs s) (r : ByteArray) (v : Bool) (hr : r.size ≤ maxLen) :
    Bx ((w.setCell ⟨bl, 0, none⟩ (.string r)).setCell ⟨bs, 0, none⟩ (.bool v)) bl bs (r, v) ∧ Stay (Two bl bs) w ((w.setCell ⟨bl, 0, none⟩ (.string r)).setCell ⟨bs, 0, none⟩ (.bool v)) := by
  have s1 : Stay (fun k => k = bl) w (w.setCell ⟨bl, 0, none⟩ (.string r)) := Stay.setCell _ _ _ rfl
  have s2 : Stay (fun k => k = bs) (w.setCell ⟨bl, 0, none⟩ (.string r)) ((w.setCell ⟨bl, 0, none⟩ (.string r)).setCell ⟨bs, 0, none⟩ (.bool v)) := Stay.setCell _ _ _ rfl
  have o1 := Stay.cell s1 h.o (fun e => h.ne e.symm)
  have l1 : (w.setCell ⟨bl, 0, none⟩ (.string r)).cell? ⟨bl, 0, none⟩ = some (.string r) := World.cell?_setCell_same _ _ _ h.l
  refine ⟨⟨Stay.cell s2 l1 h.ne, World.cell?_setCell_same _ _ _ o1, ?_, ?_, h.ne, hr⟩, (s1.mono fun i e => .inl e).then_same (s2.mono fun i e => .inr e)⟩
  · rw [World.frozen?_setCell, World.frozen?_setCell]; exact h.fl
  · rw [World.frozen?_setCell, World.frozen?_setCell]; exact h.fo
theorem bel_stay {O : Nat → Prop} {w0 w w' : World} (hb : Below w0.heap.size w0 w) (hs : Stay O w w') (hO : ∀ k, O k → w0.heap.size ≤ k) : Below w0.heap.size w0 w' :=
  ((Stay.of_below (O := fun k => w0.heap.size ≤ k) hb).then_same (hs.mono hO)).below (Nat.le_refl _) (fun _ hk => hk)
theorem num_cl {w : World} {bl bs : Nat} {s : St} (h : Bx w bl bs s) (n : Int) (s' : St) (hs : numS s = (n, s')) :
    Calls Tryz.prog 150 #[.pointer (some ⟨bl, 0, none⟩), .pointer (some ⟨bs, 0, none⟩)] w fun e w' => e = .returned (.int .i64 n) ∧ Bx w' bl bs s' ∧ Stay (Two bl bs) w w' := by
  have H : Hid (Bx w bl bs s) := h
  obtain ⟨b, v⟩ := s
  have x0 := h.l
  have hz := h.sz
  simp only at x0 hz
  have hne : bl ≠ bs := h.ne
  cases hT : takeN b with
  | none =>
    rw [numS_no hT] at hs
    simp only [Prod.mk.injEq] at hs
    obtain ⟨rfl, rfl⟩ := hs
    have CT : Hid (∀ W, Calls Tryz.prog 151 #[.string b] W fun e w' => e = .returned (.tuple #[.int .i64 0, .string ⟨#[]⟩, .int .i64 2]) ∧ Below W.heap.size W w') := fun W => takeNum_val b _ W hz (takeNumV_no (takeN_no hT))
    clear h hT hz; have hst := run_store_str
    go_enter Tryz.func150, Tryz.ntmps150; go_wp2_with fail
    refine (CT.out _).mono ?_
    rintro e w1 ⟨rfl, b1⟩; have hB := H.out.below b1
    have B1 : Hid (Below w.heap.size w w1) := b1
    have HP : Hid _ := hB.put ⟨#[]⟩ false (by unfold maxLen; exact Nat.zero_le _)
    obtain ⟨y0, y1, f0, f1, _, _⟩ := hB
    simp only at y0 y1
    clear b1 x0 CT; cases v
    all_goals
      go_wp2; go_ret; exact ⟨rfl, HP.out.1, (Stay.of_below B1.out).then_same HP.out.2⟩
  | some p =>
    obtain ⟨m, r⟩ := p
    rw [numS_yes hT] at hs
    simp only [Prod.mk.injEq] at hs
    obtain ⟨rfl, rfl⟩ := hs
    have hr := takeN_size hT
    have CT : Hid (∀ W, Calls Tryz.prog 151 #[.string b] W fun e w' => e = .returned (.tuple #[.int .i64 m, .string r, .int .i64 0]) ∧ Below W.heap.size W w') := fun W => by
      obtain ⟨z, k, h1, h2, h3⟩ := takeN_yes hT
      have := takeNum_val b _ W hz (takeNumV_yes h1)
      rw [h2, h3] at this
      exact this
    have hrm : r.size ≤ maxLen := by omega
    clear h hT hz hr; have hst := run_store_str
    go_enter Tryz.func150, Tryz.ntmps150; go_wp2_with fail
    refine (CT.out _).mono ?_
    rintro e w1 ⟨rfl, b1⟩; have hB := H.out.below b1
    have B1 : Hid (Below w.heap.size w w1) := b1
    have HP : Hid _ := hB.put r v hrm
    obtain ⟨y0, y1, f0, f1, _, _⟩ := hB
    simp only at y0 y1
    clear b1 x0 CT; cases v
    all_goals
      go_wp2; go_ret; exact ⟨rfl, HP.out.1, (Stay.of_below B1.out).then_same HP.out.2⟩
theorem txt_cl {w : World} {bl bs : Nat} {s : St} (h : Bx w bl bs s) (t : ByteArray) (s' : St) (hs : txtS s = (t, s')) :
    Calls Tryz.prog 152 #[.pointer (some ⟨bl, 0, none⟩), .pointer (some ⟨bs, 0, none⟩)] w fun e w' => e = .returned (.string t) ∧ Bx w' bl bs s' ∧ Stay (Two bl bs) w w' := by
  have H : Hid (Bx w bl bs s) := h
  obtain ⟨b, v⟩ := s
  have x0 := h.l
  have hz := h.sz
  simp only at x0 hz
  have hne : bl ≠ bs := h.ne
  cases hT : takeT b with
  | none =>
    rw [txtS_no hT] at hs
    simp only [Prod.mk.injEq] at hs
    obtain ⟨rfl, rfl⟩ := hs
    have CT : Hid (∀ W, Calls Tryz.prog 116 #[.string b] W fun e w' => e = .returned (.tuple #[.string ⟨#[]⟩, .string ⟨#[]⟩, .int .i64 2]) ∧ Below W.heap.size W w') := fun W => takeText_no b W hz hT
    clear h hT hz; have hst := run_store_str
    go_enter Tryz.func152, Tryz.ntmps152; go_wp2_with fail
    refine (CT.out _).mono ?_
    rintro e w1 ⟨rfl, b1⟩; have hB := H.out.below b1
    have B1 : Hid (Below w.heap.size w w1) := b1
    have HP : Hid _ := hB.put ⟨#[]⟩ false (by unfold maxLen; exact Nat.zero_le _)
    obtain ⟨y0, y1, f0, f1, _, _⟩ := hB
    simp only at y0 y1
    clear b1 x0 CT; cases v
    all_goals
      go_wp2; go_ret; exact ⟨rfl, HP.out.1, (Stay.of_below B1.out).then_same HP.out.2⟩
  | some p =>
    obtain ⟨m, r⟩ := p
    rw [txtS_yes hT] at hs
    simp only [Prod.mk.injEq] at hs
    obtain ⟨rfl, rfl⟩ := hs
    have hr := Edi.takeT_less hT
    have CT : Hid (∀ W, Calls Tryz.prog 116 #[.string b] W fun e w' => e = .returned (.tuple #[.string m, .string r, .int .i64 0]) ∧ Below W.heap.size W w') := fun W => takeText_yes b m r W hz hT
    have hrm : r.size ≤ maxLen := by omega
    clear h hT hz hr; have hst := run_store_str
    go_enter Tryz.func152, Tryz.ntmps152; go_wp2_with fail
    refine (CT.out _).mono ?_
    rintro e w1 ⟨rfl, b1⟩; have hB := H.out.below b1
    have B1 : Hid (Below w.heap.size w w1) := b1
    have HP : Hid _ := hB.put r v hrm
    obtain ⟨y0, y1, f0, f1, _, _⟩ := hB
    simp only at y0 y1
    clear b1 x0 CT; cases v
    all_goals
      go_wp2; go_ret; exact ⟨rfl, HP.out.1, (Stay.of_below B1.out).then_same HP.out.2⟩
theorem end_cl {w : World} {bl bs : Nat} {s : St} (h : Bx w bl bs s) (u : Bool) (hu : endB s = u) :
    Calls Tryz.prog 153 #[.pointer (some ⟨bs, 0, none⟩), .pointer (some ⟨bl, 0, none⟩)] w fun e w' => e = .returned (.bool u) ∧ w' = w := by
  obtain ⟨b, v⟩ := s
  have x0 := h.l
  have x1 := h.o
  simp only at x0 x1
  unfold endB at hu; simp only at hu
  clear h; go_enter Tryz.func153, Tryz.ntmps153; cases v with
  | false =>
    have : u = false := by rw [← hu]; rfl
    subst this; go_wp2; go_ret; exact ⟨rfl, rfl⟩
  | true =>
    have hu2 : b.toList.isEmpty = u := by rw [← hu]; rfl
    clear hu; go_wp2; go_ret; exact ⟨rfl, rfl⟩
theorem over_val (part : ByteArray) (w : World) (hp : part.size ≤ maxLen) :
    Calls Tryz.prog 118 #[.string part] w fun e w' => ∃ bl bs, e = .returned (.tuple #[.func (.func 150) #[] #[.pointer (some ⟨bl, 0, none⟩), .pointer (some ⟨bs, 0, none⟩)], .func (.func 152) #[] #[.pointer (some ⟨bl, 0, none⟩), .pointer (some ⟨bs, 0, none⟩)], .func (.func 153) #[] #[.pointer (some ⟨bs, 0, none⟩), .pointer (some ⟨bl, 0, none⟩)]]) ∧ Bx w' bl bs (part, true) ∧ w.heap.size ≤ bl ∧ w.heap.size ≤ bs ∧ Below w.heap.size w w' := by
  have hst := run_store_str
  have HB : Hid (∀ t1 t2 : TypeId, Bx ((w.alloc (.cells #[.string part] t1)).alloc (.cells #[.bool true] t2)) w.heap.size (w.heap.size + 1) (part, true)) := fun t1 t2 => by
    have e : (w.alloc (.cells #[.string part] t1)).heap.size = w.heap.size + 1 := by simp
    have c0 : (w.alloc (.cells #[.string part] t1)).cell? ⟨w.heap.size, 0, none⟩ = some (.string part) := World.cell?_alloc_new w _ _ 0
    have f0 : (w.alloc (.cells #[.string part] t1)).frozen? ⟨w.heap.size, 0, none⟩ = false := World.frozen?_alloc_new w _ _ 0
    have c1 : ((w.alloc (.cells #[.string part] t1)).alloc (.cells #[.bool true] t2)).cell? ⟨w.heap.size + 1, 0, none⟩ = some (.bool true) := by
      have h := World.cell?_alloc_new (w.alloc (.cells #[.string part] t1)) #[.bool true] t2 0
      rwa [e] at h
    have f1 : ((w.alloc (.cells #[.string part] t1)).alloc (.cells #[.bool true] t2)).frozen? ⟨w.heap.size + 1, 0, none⟩ = false := by
      have h := World.frozen?_alloc_new (w.alloc (.cells #[.string part] t1)) #[.bool true] t2 0
      rwa [e] at h
    exact ⟨bel_cell (bel_al _ _) c0, c1, Stay.frozen (Stay.of_below (O := fun _ => False) (bel_al _ _)) c0 f0 id, f1, by omega, hp⟩
  go_enter Tryz.func118, Tryz.ntmps118; go_wp2; refine bodyPost_ret (v := .tuple #[.func (.func 150) #[] #[.pointer (some ⟨w.heap.size, 0, none⟩), .pointer (some ⟨w.heap.size + 1, 0, none⟩)], .func (.func 152) #[] #[.pointer (some ⟨w.heap.size, 0, none⟩), .pointer (some ⟨w.heap.size + 1, 0, none⟩)], .func (.func 153) #[] #[.pointer (some ⟨w.heap.size + 1, 0, none⟩), .pointer (some ⟨w.heap.size, 0, none⟩)]]) ?_ rfl ⟨_, _, rfl, HB.out _ _, Nat.le_refl _, by omega, bel_tr (bel_al _ _) (bel_al _ _)⟩
  simp only [results, Tryz.results118]
  simp [go_sem]
open Go.Proofs.YtcnflkjkgomnoaaGreat.Edi (bel_tr bel_al bel_cell bel_drew)
open Go.Proofs.YtcnflkjkgomnoaaGreat.Wir (app_assoc app_size app_list size_list)
open Go.WideShapes (bytes_inj)
structure OpenedR (ps : List ByteArray) (E : Nat) (e : Ending) (w' : World) : Prop where
  ex : ∃ a b n c, e = .returned (.tuple #[.slice a n c, .int .i64 (E : Int)]) ∧ ps.length = n ∧ n ≤ c ∧ c ≤ maxLen ∧ Strs w' a b 0 ps
def restP (ps : List ByteArray) (r : ByteArray) (i : Nat) : ByteArray := joinP (ps.drop i) ++ r
theorem restP_next (ps : List ByteArray) (r : ByteArray) (i : Nat) (hi : i < ps.length) : restP ps r i = sealB ps[i] ++ restP ps r (i + 1) := by
  unfold restP; rw [List.drop_eq_getElem_cons hi, joinP_cons, app_assoc]
theorem restP_end (ps : List ByteArray) (r : ByteArray) : restP ps r ps.length = r := by
  unfold restP; rw [List.drop_length]
  exact bytes_inj (by rw [app_list]; rfl)
theorem cel_room {O : Nat → Prop} {w : World} {size : Nat} {a : Option Addr} {n c : Nat} {cs : List Value} {g : Option Nat} (h : Cel O w size (.slice a n c) n cs g) : n ≤ c ∧ c ≤ maxLen := by
  cases h with
  | nil h1 h2 h3 => cases h1; exact ⟨Nat.le_refl _, Nat.zero_le _⟩
  | row g cap h1 hl h2 h3 h4 h5 h6 h7 => cases h1; exact ⟨h4, h5⟩
theorem grow_own {base : Nat} {w w' : World} {size : Nat} {sl : Value} {n : Nat} {cs : List Value} {g : Option Nat} (h : Cel (Grow (fun k => base ≤ k) w w') w' size sl n cs g) (hb : base ≤ w.heap.size) : Cel (fun k => base ≤ k) w' size sl n cs g :=
  h.stay (Nat.le_refl _) (fun _ _ => rfl) (fun _ hk => hk.elim id (fun e => Nat.le_trans hb e.1))
theorem cel_below {base : Nat} {w w' w0 : World} {size : Nat} {sl : Value} {n : Nat} {cs : List Value} {g : Option Nat} (h : Cel (fun k => base ≤ k) w size sl n cs g) (hS : Stay (fun k => g = some k) w w') (hb : base ≤ w.heap.size) (h0 : Below base w0 w) : Below base w0 w' :=
  h0.trans (hS.below hb (fun k hk => by rw [hk] at h; exact h.lt.2))
theorem opened_val {ps : List ByteArray} {r : ByteArray} (hS : Small ps) (b : ByteArray) (hb : b = restP ps r 0) (w : World) (hsz : b.size ≤ maxLen) (hn : ps.length ≤ 1000000000) (E : Nat) (hE : (r.size = 0 ∧ E = 0) ∨ BadAt r E) :
    Calls Tryz.prog 34 #[.string b] w fun e w' => OpenedR (if E = 0 then ps else []) E e w' ∧ Below w.heap.size w w' := by
  obtain ⟨ti, hi1, hi2, hi3, hi4⟩ := strRow
  have HS : Hid (Small ps) := hS
  have HBM : Hid (∀ i, i ≤ ps.length → (restP ps r i).size ≤ maxLen) := by
    intro i
    induction i with
    | zero => intro _; rw [← hb]; exact hsz
    | succ i ih =>
      intro hi
      have h1 := ih (by omega)
      rw [restP_next ps r i (by omega), app_size] at h1
      omega
  have HE : Hid ((r.size = 0 ∧ E = 0) ∨ BadAt r E) := hE
  subst hb; clear hS hE hsz; go_enter Tryz.func34, Tryz.ntmps34; go_wp2; go_loopg [0, 4] ps.length (fun gh v0 v4 wr => ∃ (i : Nat) (fa : Option Addr) (fc : Nat) (g : Option Nat), i + gh = ps.length ∧ v0 = .string (restP ps r i) ∧ v4 = .slice fa i fc ∧ Cel (fun k => w.heap.size ≤ k) wr 1 (.slice fa i fc) i (rowC strC (ps.take i)) g ∧ Below w.heap.size w wr)
  case atStart => exact ⟨0, none, 0, none, by omega, rfl, rfl, .nil rfl rfl rfl, Below.refl _ _⟩
  case round =>
    obtain ⟨i, fa, fc, g, hig, rfl, rfl, hC, hbl⟩ := hrel
    have HC : Hid (Cel (fun k => w.heap.size ≤ k) wr 1 (.slice fa i fc) i (rowC strC (ps.take i)) g) := hC
    have HB : Hid (Below w.heap.size w wr) := hbl
    clear hC hbl; by_cases hlt : i < ps.length
    · have hnx := restP_next ps r i hlt
      have hm := HBM.out i (by omega)
      have hop : openT (restP ps r i) = (ps[i], restP ps r (i + 1), 0) := by rw [hnx]; exact open_back _ _ (HS.out _ (List.getElem_mem hlt))
      have hpos : (restP ps r i).toList.isEmpty = false := by
        rw [Bool.eq_false_iff]
        intro e
        have h2 := congrArg ByteArray.size ((empty_iff _).1 e)
        rw [hnx, app_size] at h2
        have h3 := sealB_pos ps[i]
        have h4 : (⟨#[]⟩ : ByteArray).size = 0 := rfl
        omega
      have HT : Hid (rowC strC (ps.take (i + 1)) = rowC strC (ps.take i) ++ rowC strC [ps[i]]) := by
        show rowC strC (ps.take (i + 1)) = _
        rw [List.take_succ_eq_append_getElem hlt, rowC_app]
      have CO : Hid (∀ W, Calls Tryz.prog 72 #[.string (restP ps r i)] W fun e w' => e = .returned (.tuple #[.string ps[i], .string (restP ps r (i + 1)), .int .i64 ((0 : Nat) : Int)]) ∧ Below W.heap.size W w') := fun W => open_any _ _ _ 0 W hm hop
      generalize restP ps r i = cur at *
      generalize hnb : restP ps r (i + 1) = nxt at *
      have HNB : Hid (restP ps r (i + 1) = nxt) := hnb
      generalize ps[i] = p at *
      clear hnx hm hop hnb; go_wp2_with fail
      refine (CO.out _).mono ?_
      rintro e w1 ⟨rfl, b1⟩; have B1 : Hid (Below wr.heap.size wr w1) := b1
      clear b1 CO; go_wp2_with (at_builtin; refine wpList_append_cel _ rfl _ _ 32 32 rfl 9 ti _ 1 16 Tryz.underlying32 hi1 hi2 hi3 hi4 rfl (O := fun k => w.heap.size ≤ k) _ i _ g rfl ((HC.out.below B1.out).below (bel_al _ _)) _ 1 (rowC strC [p]) rfl (src_new1 w1 p) (by unfold maxLen; omega) (by omega) ?_; intro a2 c2 w2 g2 hC2 hS2 hg2; have A2 : Hid _ := grow_own hC2 (by have := HB.out.size; have := B1.out.size; simp; omega); have B2 : Hid _ := cel_below ((HC.out.below B1.out).below (bel_al _ _)) hS2 (by have := HB.out.size; have := B1.out.size; simp; omega) (bel_tr HB.out (bel_tr B1.out (bel_al _ _))); clear hC2 hS2 hg2)
      go_roundg (ps.length - (i + 1))
      case measure => omega
      case rel => exact ⟨i + 1, a2, c2, g2, by omega, by rw [HNB.out], rfl, by rw [HT.out]; exact A2.out, B2.out⟩
    · obtain rfl : i = ps.length := by omega
      have hend := restP_end ps r
      have hm := HBM.out _ (Nat.le_refl ps.length)
      rw [hend] at hm ⊢
      rcases HE.out with ⟨hr0, rfl⟩ | hbad
      · have hr1 : r.data.toList.length = 0 := by rw [size_list]; exact hr0
        have hr2 : r = ⟨#[]⟩ := bytes_inj (by rw [List.length_eq_zero_iff.1 hr1])
        have hpos : r.toList.isEmpty = true := (empty_iff r).2 hr2
        clear hr1 hr2; obtain ⟨hc1, hc2⟩ := cel_room HC.out
        have hst : ∃ b, Strs wr fa b 0 ps := by
          have h1 := HC.out
          rw [List.take_length] at h1
          exact h1.strs rfl (fun s hs => by have := HS.out s hs; unfold maxLen; omega)
        obtain ⟨b0, hst⟩ := hst
        have HST : Hid (Strs wr fa b0 0 ps) := hst
        have HC1 : Hid (ps.length ≤ fc) := hc1
        have HC2 : Hid (fc ≤ maxLen) := hc2
        clear hst hc1 hc2 hm hend hlt hr0 HC; go_wp2; go_ret2; exact ⟨⟨fa, b0, ps.length, fc, rfl, rfl, HC1.out, HC2.out, HST.out⟩, HB.out⟩
      · have hpos : r.toList.isEmpty = false := by
          rw [Bool.eq_false_iff]
          intro e
          exact hbad.pos (congrArg ByteArray.size ((empty_iff _).1 e))
        have hop := hbad.empty
        have hne := hbad.ne
        have hneI : ((E : Int) != 0) = true := by simp; omega
        have CO : Hid (∀ W, Calls Tryz.prog 72 #[.string r] W fun e w' => e = .returned (.tuple #[.string ⟨#[]⟩, .string ⟨#[]⟩, .int .i64 (E : Int)]) ∧ Below W.heap.size W w') := fun W => open_any _ _ _ E W hm hop
        have HIF : Hid ((if E = 0 then ps else []) = []) := if_neg hne
        have hneB : (E == 0) = false := by simpa using hne
        clear hm hend hlt hop hbad HC; go_wp2_with fail
        refine (CO.out _).mono ?_
        rintro e w1 ⟨rfl, b1⟩; have B1 : Hid (Below wr.heap.size wr w1) := b1
        clear b1 CO; go_wp2; go_ret2; try rw [HIF.out]
        exact ⟨⟨none, 0, 0, 0, rfl, rfl, Nat.le_refl _, Nat.zero_le _, fun hp => by simp at hp, fun j hj => by simp at hj, by simp, by simp⟩, bel_tr HB.out B1.out⟩
end Go.Proofs.YtcnflkjkgomnoaaGreat.Img
namespace Go.Proofs.YtcnflkjkgomnoaaGreat.Spa
open Go.RowKit Go.Proofs.YtcnflkjkgomnoaaGreat
open Go.Proofs.YtcnflkjkgomnoaaGreat.Lea (LS Ls findX putL renX LL LO LsR lsC wideL)
open Go.Proofs.YtcnflkjkgomnoaaGreat.Edi (Ed Nm EdAt edV)
section
variable {base M0 S : Nat} {w w' : World} {s : Sp} {N L : RS} {ps : List NR} {gb : Nat} {gl : Option Nat}
theorem SpC.ns {w : World} {b : Nat} {s : Sp} {N L : RS} (h : SpC w b s N L) (ns : NS) (ls : LS) : SpC w b ⟨s.tx, s.nb, s.ng, s.now, ns, ls⟩ N L := ⟨h.c0, h.c1, h.c2, h.c3, h.c4, h.c5, h.fr⟩
end
theorem noS_ok (w : World) (x : Nd) (hb : x.bs = []) (hs : x.path.size ≤ maxLen) : NdOk w (x, noS) := ⟨hs, by rw [hb]; rfl, Nat.zero_le _, fun _ => rfl, fun hp => absurd hp (Nat.lt_irrefl 0)⟩
theorem free_no (base : Nat) (w : World) (x : Nd) (hb : x.bs = []) (hs : x.path.size ≤ maxLen) : Free base w (x, noS) := ⟨noS_ok w x hb hs, fun hp => absurd hp (Nat.lt_irrefl 0)⟩
theorem src_blk (w : World) (b : Blk) (B : Nat) (hB : B = w.heap.size) : Src Tryz.prog 3 33 (.slice (some ⟨B, 0, none⟩) 1 1) 1 (blkC b) (w.alloc (.cells #[.int .i64 b.id, .int .i64 b.gen, .int .i64 b.len] 31)) := by
  subst hB; refine Src.ofSlice _ Tryz.underlying33 ⟨w.heap.size, 0, none⟩ 1 1 _ rfl (fun j u hu => ?_) (fun u hu => wideB.one b u hu)
  rw [Addr.add_lit, Nat.zero_add]
  have := World.cell?_alloc_new w #[.int .i64 b.id, .int .i64 b.gen, .int .i64 b.len] 31 j
  rw [this, ← hu]
  unfold blkC; simp
theorem OwnM.spIn {base M : Nat} {w : World} {s : Sp} {N L : RS} {ps : List NR} {g gl : Option Nat} (h : OwnM base M w s N L ps g gl) : SpIn w s N L := by
  obtain ⟨b, hb⟩ := h.lot.nds
  refine ⟨⟨b, 0, ps, h.map, ?_, hb⟩, h.lo.ll, fun hn => ?_⟩
  · rw [← h.map, List.length_map]; exact h.lot.len
  · have hc := h.lot.cel
    cases hc with
    | nil e _ _ => injection e
    | row k cap e _ _ _ _ _ _ _ => injection e with e1 _ _; rw [hn] at e1; cases e1
theorem OwnM.zero (B M : Nat) (w : World) : OwnM B M w zeroS noS noS [] none none :=
  ⟨⟨.nil rfl rfl rfl, rfl, fun x hx => (by cases hx), fun x hx => (by cases hx)⟩, rfl, Lea.LO.none _ _, fun k hk => (by cases hk), fun x hx => (by cases hx), fun k hk => (by cases hk), fun k hk => (by cases hk), fun x hx => (by cases hx)⟩
theorem lot_root (base : Nat) (w : World) (hb : base ≤ w.heap.size) : OwnM base (w.heap.size + 1) (w.alloc (.cells #[.string rootP, .bool true, .int .i64 (-1), .slice none 0 0, .int .i64 (-1)] 35)) newS ⟨some ⟨w.heap.size, 0, none⟩, 1, 1⟩ noS [(rootN, noS)] (some w.heap.size) none := by
  have hc := World.cell?_alloc_new w #[.string rootP, .bool true, .int .i64 (-1), .slice none 0 0, .int .i64 (-1)] 35
  have hz : (w.alloc (.cells #[.string rootP, .bool true, .int .i64 (-1), .slice none 0 0, .int .i64 (-1)] 35)).heap.size = w.heap.size + 1 := by simp
  refine ⟨⟨.row w.heap.size 1 rfl rfl hb (by omega) (Nat.le_refl _) (by decide) (fun j hj => ?_) (fun j hj => ?_), rfl, fun x hx => ?_, fun x hx k hk => ?_⟩, rfl, Lea.LO.none _ _, fun k hk => (by simp), fun x hx k hk => (by simp), fun k hk => (by cases hk; omega), fun k hk => (by cases hk), fun x hx k hk => ?_⟩
  · have hj5 : j < 5 := hj
    rw [hc j]
    match j, hj5 with
    | 0, _ => rfl
    | 1, _ => rfl
    | 2, _ => rfl
    | 3, _ => rfl
    | 4, _ => rfl
  · have hj5 : j < 5 := hj
    refine ⟨?_, World.frozen?_alloc_new w _ _ j⟩
    rw [hc j]
    match j, hj5 with
    | 0, _ => rfl
    | 1, _ => rfl
    | 2, _ => rfl
    | 3, _ => rfl
    | 4, _ => rfl
  · cases List.mem_singleton.1 hx
    exact free_no _ _ rootN rfl (by decide)
  · cases List.mem_singleton.1 hx
    unfold noS RS.blk; simp
  · cases List.mem_singleton.1 hx
    unfold noS RS.blk at hk; simp at hk
theorem new_val (w : World) :
    Calls Tryz.prog 7 #[] w fun r w' => (∃ N L ps g gl base M, w.heap.size ≤ base ∧ r = .returned (spV newS N L) ∧ OwnM base M w' newS N L ps g gl) ∧ Below w.heap.size w w' := by
  have hst := run_store_str
  have hst2 := sto2
  go_enter Tryz.func7, Tryz.ntmps7; go_wp2_with (go_at_call 18; refine (newDir_val _ _).mono ?_; rintro e w1 ⟨rfl, c1⟩; have B1 : Hid (Below w.heap.size w w1) := bel_tr (bel_al _ _) c1; have HS1 : Hid (SpC w1 w.heap.size zeroS noS noS) := (SpC.new w 27 zeroS noS noS).below c1; have p := fun o => HS1.out.below (bel_al w1 o); have p0 := fun o => (p o).c0; have p1 := fun o => (p o).c1; have p2 := fun o => (p o).c2; have p3 := fun o => (p o).c3; have p4 := fun o => (p o).c4; have p5 := fun o => (p o).c5; have pf := fun o => (p o).fr; simp only [zeroS, noS] at p0 p1 p2 p3 p4 p5; unfold ndV; simp only; clear c1 p)
  have hl := World.block_lt_of_cell? _ _ HS1.out.c0
  simp only at hl
  obtain ⟨q1, q2⟩ := put6_at (HS1.out.below (bel_al w1 (.cells #[.string rootP, .bool true, .int .i64 (-1), .slice none 0 0, .int .i64 (-1)] 35))) newS ⟨some ⟨w1.heap.size, 0, none⟩, 1, 1⟩ noS
  have hO := (lot_root (w.heap.size + 1) w1 hl).out q2 (fun k hk => .inl (by omega))
  have hB : Below w.heap.size w (put6 (w1.alloc (.cells #[.string rootP, .bool true, .int .i64 (-1), .slice none 0 0, .int .i64 (-1)] 35)) w.heap.size newS ⟨some ⟨w1.heap.size, 0, none⟩, 1, 1⟩ noS) := ((Stay.of_below (O := fun k => w.heap.size ≤ k) (bel_tr B1.out (bel_al _ _))).then_same (q2.mono (fun k hk => by omega))).below (Nat.le_refl _) (fun k hk => hk)
  change bodyPost _ _ _ _ _ (put6 (w1.alloc (.cells #[.string rootP, .bool true, .int .i64 (-1), .slice none 0 0, .int .i64 (-1)] 35)) w.heap.size newS ⟨some ⟨w1.heap.size, 0, none⟩, 1, 1⟩ noS)
  clear p0 p1 p2 p3 p4 p5 pf q2; generalize put6 (w1.alloc (.cells #[.string rootP, .bool true, .int .i64 (-1), .slice none 0 0, .int .i64 (-1)] 35)) w.heap.size newS ⟨some ⟨w1.heap.size, 0, none⟩, 1, 1⟩ noS = W at *
  refine bodyPost_ret (v := spV newS ⟨some ⟨w1.heap.size, 0, none⟩, 1, 1⟩ noS) ?_ rfl ⟨⟨_, _, _, _, _, w.heap.size + 1, _, by omega, rfl, hO⟩, hB⟩
  obtain ⟨j0, j1, j2, j3, j4, j5, _⟩ := q1
  unfold spV; simp only [results, Tryz.results7]
  simp [go_sem, j0, j1, j2, j3, j4, j5]
end Go.Proofs.YtcnflkjkgomnoaaGreat.Spa
