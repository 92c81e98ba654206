/- Part 33 of the proof: SpaceF9, ImageF4, ImageG1, SpaceFA. -/
import Derived.Test.YtdilfbfkeiaafaaGreatB03
import Derived.Test.YtdilfbfkeiaafaaGreatB05
import Derived.Test.YtdilfbfkeiaafaaGreatB17
import Derived.Test.YtdilfbfkeiaafaaGreatB18
import Derived.Test.YtdilfbfkeiaafaaGreatB20
import Derived.Test.YtdilfbfkeiaafaaGreatB32
import Derived.Deep.LoopGhost
set_option maxRecDepth 100000
set_option maxHeartbeats 8000000
namespace Go.Proofs.YtdilfbfkeiaafaaGreat.Spa
open Go.RowKit Go.Proofs.YtdilfbfkeiaafaaGreat
open Go.Proofs.YtdilfbfkeiaafaaGreat.Lea (LS Ls findX putL renX LL LO LsR lsC wideL)
open Go.Proofs.YtdilfbfkeiaafaaGreat.Edi (Ed Nm EdAt edV)
def anV (E : Int) (b : Blk) (T : RS) (x : NR) (n : Int) : Value := .agg #[.int .i64 E, .int .i64 b.id, .int .i64 b.gen, .int .i64 b.len, .slice T.a T.n T.c, .string x.1.path, .bool x.1.dir, .int .i64 x.1.quota, .slice x.2.a x.2.n x.2.c, .int .i64 x.1.wr, .int .i64 n]
structure AnC (w : World) (B : Nat) (E : Int) (b : Blk) (T : RS) (x : NR) (n : Int) : Prop where
  c0 : w.cell? ⟨B, 0, none⟩ = some (.int .i64 E)
  c1 : w.cell? ⟨B, 1, none⟩ = some (.int .i64 b.id)
  c2 : w.cell? ⟨B, 2, none⟩ = some (.int .i64 b.gen)
  c3 : w.cell? ⟨B, 3, none⟩ = some (.int .i64 b.len)
  c4 : w.cell? ⟨B, 4, none⟩ = some (.slice T.a T.n T.c)
  c5 : w.cell? ⟨B, 5, none⟩ = some (.string x.1.path)
  c6 : w.cell? ⟨B, 6, none⟩ = some (.bool x.1.dir)
  c7 : w.cell? ⟨B, 7, none⟩ = some (.int .i64 x.1.quota)
  c8 : w.cell? ⟨B, 8, none⟩ = some (.slice x.2.a x.2.n x.2.c)
  c9 : w.cell? ⟨B, 9, none⟩ = some (.int .i64 x.1.wr)
  c10 : w.cell? ⟨B, 10, none⟩ = some (.int .i64 n)
  fr : ∀ j, w.frozen? ⟨B, j, none⟩ = false
theorem AnC.keep {O : Nat → Prop} {w w' : World} {B : Nat} {E : Int} {b : Blk} {T : RS} {x : NR} {n : Int} (h : AnC w B E b T x n) (hs : Stay O w w') (hO : ¬ O B) : AnC w' B E b T x n := by
  have hb := hs.block B (World.block_lt_of_cell? _ _ h.c0) hO
  exact ⟨(World.cell?_of_block (a := ⟨B, 0, none⟩) hb).trans h.c0, (World.cell?_of_block (a := ⟨B, 1, none⟩) hb).trans h.c1, (World.cell?_of_block (a := ⟨B, 2, none⟩) hb).trans h.c2, (World.cell?_of_block (a := ⟨B, 3, none⟩) hb).trans h.c3, (World.cell?_of_block (a := ⟨B, 4, none⟩) hb).trans h.c4, (World.cell?_of_block (a := ⟨B, 5, none⟩) hb).trans h.c5, (World.cell?_of_block (a := ⟨B, 6, none⟩) hb).trans h.c6, (World.cell?_of_block (a := ⟨B, 7, none⟩) hb).trans h.c7, (World.cell?_of_block (a := ⟨B, 8, none⟩) hb).trans h.c8, (World.cell?_of_block (a := ⟨B, 9, none⟩) hb).trans h.c9, (World.cell?_of_block (a := ⟨B, 10, none⟩) hb).trans h.c10, fun j => (World.frozen?_of_block (a := ⟨B, j, none⟩) hb).trans (h.fr j)⟩
theorem AnC.below {w w' : World} {B : Nat} {E : Int} {b : Blk} {T : RS} {x : NR} {n : Int} (h : AnC w B E b T x n) (hb : Below w.heap.size w w') : AnC w' B E b T x n :=
  h.keep (O := fun _ => False) (Stay.of_below hb) (fun e => e)
def noS : RS := ⟨none, 0, 0⟩
def zeroX : NR := (zeroN, noS)
theorem AnC.new (w : World) (t : TypeId) : AnC (w.alloc (.cells #[.int .i64 0, .int .i64 0, .int .i64 0, .int .i64 0, .slice none 0 0, .string ⟨#[]⟩, .bool false, .int .i64 0, .slice none 0 0, .int .i64 0, .int .i64 0] t)) w.heap.size 0 zeroB noS zeroX 0 :=
  ⟨World.cell?_alloc_new w _ t 0, World.cell?_alloc_new w _ t 1, World.cell?_alloc_new w _ t 2, World.cell?_alloc_new w _ t 3, World.cell?_alloc_new w _ t 4, World.cell?_alloc_new w _ t 5, World.cell?_alloc_new w _ t 6, World.cell?_alloc_new w _ t 7, World.cell?_alloc_new w _ t 8, World.cell?_alloc_new w _ t 9, World.cell?_alloc_new w _ t 10, fun j => World.frozen?_alloc_new w _ t j⟩
def put11 (w : World) (B : Nat) (E : Int) (b : Blk) (T : RS) (x : NR) (n : Int) : World :=
  (((((((((((w.setCell ⟨B, 0, none⟩ (.int .i64 E)).setCell ⟨B, 1, none⟩ (.int .i64 b.id)).setCell ⟨B, 2, none⟩ (.int .i64 b.gen)).setCell ⟨B, 3, none⟩ (.int .i64 b.len)).setCell ⟨B, 4, none⟩ (.slice T.a T.n T.c)).setCell ⟨B, 5, none⟩ (.string x.1.path)).setCell ⟨B, 6, none⟩ (.bool x.1.dir)).setCell ⟨B, 7, none⟩ (.int .i64 x.1.quota)).setCell ⟨B, 8, none⟩ (.slice x.2.a x.2.n x.2.c)).setCell ⟨B, 9, none⟩ (.int .i64 x.1.wr)).setCell ⟨B, 10, none⟩ (.int .i64 n))
theorem put11_at {w : World} {B : Nat} {E0 : Int} {b0 : Blk} {T0 : RS} {x0 : NR} {n0 : Int} (h : AnC w B E0 b0 T0 x0 n0) (E : Int) (b : Blk) (T : RS) (x : NR) (n : Int) : AnC (put11 w B E b T x n) B E b T x n ∧ Stay (fun k => k = B) w (put11 w B E b T x n) := by
  constructor
  · unfold put11
    refine ⟨?_, ?_, ?_, ?_, ?_, ?_, ?_, ?_, ?_, ?_, ?_, fun j => by simp only [World.frozen?_setCell]; exact h.fr j⟩
    · rw [other_cell _ _ _ _ _ (by omega), other_cell _ _ _ _ _ (by omega), other_cell _ _ _ _ _ (by omega), other_cell _ _ _ _ _ (by omega), other_cell _ _ _ _ _ (by omega), other_cell _ _ _ _ _ (by omega), other_cell _ _ _ _ _ (by omega), other_cell _ _ _ _ _ (by omega), other_cell _ _ _ _ _ (by omega), other_cell _ _ _ _ _ (by omega)]
      refine same_cell (u := .int .i64 E0) ?_
      exact h.c0
    · rw [other_cell _ _ _ _ _ (by omega), other_cell _ _ _ _ _ (by omega), other_cell _ _ _ _ _ (by omega), other_cell _ _ _ _ _ (by omega), other_cell _ _ _ _ _ (by omega), other_cell _ _ _ _ _ (by omega), other_cell _ _ _ _ _ (by omega), other_cell _ _ _ _ _ (by omega), other_cell _ _ _ _ _ (by omega)]
      refine same_cell (u := .int .i64 b0.id) ?_
      rw [other_cell _ _ _ _ _ (by omega)]
      exact h.c1
    · rw [other_cell _ _ _ _ _ (by omega), other_cell _ _ _ _ _ (by omega), other_cell _ _ _ _ _ (by omega), other_cell _ _ _ _ _ (by omega), other_cell _ _ _ _ _ (by omega), other_cell _ _ _ _ _ (by omega), other_cell _ _ _ _ _ (by omega), other_cell _ _ _ _ _ (by omega)]
      refine same_cell (u := .int .i64 b0.gen) ?_
      rw [other_cell _ _ _ _ _ (by omega), other_cell _ _ _ _ _ (by omega)]
      exact h.c2
    · rw [other_cell _ _ _ _ _ (by omega), other_cell _ _ _ _ _ (by omega), other_cell _ _ _ _ _ (by omega), other_cell _ _ _ _ _ (by omega), other_cell _ _ _ _ _ (by omega), other_cell _ _ _ _ _ (by omega), other_cell _ _ _ _ _ (by omega)]
      refine same_cell (u := .int .i64 b0.len) ?_
      rw [other_cell _ _ _ _ _ (by omega), other_cell _ _ _ _ _ (by omega), other_cell _ _ _ _ _ (by omega)]
      exact h.c3
    · rw [other_cell _ _ _ _ _ (by omega), other_cell _ _ _ _ _ (by omega), other_cell _ _ _ _ _ (by omega), other_cell _ _ _ _ _ (by omega), other_cell _ _ _ _ _ (by omega), other_cell _ _ _ _ _ (by omega)]
      refine same_cell (u := .slice T0.a T0.n T0.c) ?_
      rw [other_cell _ _ _ _ _ (by omega), other_cell _ _ _ _ _ (by omega), other_cell _ _ _ _ _ (by omega), other_cell _ _ _ _ _ (by omega)]
      exact h.c4
    · rw [other_cell _ _ _ _ _ (by omega), other_cell _ _ _ _ _ (by omega), other_cell _ _ _ _ _ (by omega), other_cell _ _ _ _ _ (by omega), other_cell _ _ _ _ _ (by omega)]
      refine same_cell (u := .string x0.1.path) ?_
      rw [other_cell _ _ _ _ _ (by omega), other_cell _ _ _ _ _ (by omega), other_cell _ _ _ _ _ (by omega), other_cell _ _ _ _ _ (by omega), other_cell _ _ _ _ _ (by omega)]
      exact h.c5
    · rw [other_cell _ _ _ _ _ (by omega), other_cell _ _ _ _ _ (by omega), other_cell _ _ _ _ _ (by omega), other_cell _ _ _ _ _ (by omega)]
      refine same_cell (u := .bool x0.1.dir) ?_
      rw [other_cell _ _ _ _ _ (by omega), other_cell _ _ _ _ _ (by omega), other_cell _ _ _ _ _ (by omega), other_cell _ _ _ _ _ (by omega), other_cell _ _ _ _ _ (by omega), other_cell _ _ _ _ _ (by omega)]
      exact h.c6
    · rw [other_cell _ _ _ _ _ (by omega), other_cell _ _ _ _ _ (by omega), other_cell _ _ _ _ _ (by omega)]
      refine same_cell (u := .int .i64 x0.1.quota) ?_
      rw [other_cell _ _ _ _ _ (by omega), other_cell _ _ _ _ _ (by omega), other_cell _ _ _ _ _ (by omega), other_cell _ _ _ _ _ (by omega), other_cell _ _ _ _ _ (by omega), other_cell _ _ _ _ _ (by omega), other_cell _ _ _ _ _ (by omega)]
      exact h.c7
    · rw [other_cell _ _ _ _ _ (by omega), other_cell _ _ _ _ _ (by omega)]
      refine same_cell (u := .slice x0.2.a x0.2.n x0.2.c) ?_
      rw [other_cell _ _ _ _ _ (by omega), other_cell _ _ _ _ _ (by omega), other_cell _ _ _ _ _ (by omega), other_cell _ _ _ _ _ (by omega), other_cell _ _ _ _ _ (by omega), other_cell _ _ _ _ _ (by omega), other_cell _ _ _ _ _ (by omega), other_cell _ _ _ _ _ (by omega)]
      exact h.c8
    · rw [other_cell _ _ _ _ _ (by omega)]
      refine same_cell (u := .int .i64 x0.1.wr) ?_
      rw [other_cell _ _ _ _ _ (by omega), other_cell _ _ _ _ _ (by omega), other_cell _ _ _ _ _ (by omega), other_cell _ _ _ _ _ (by omega), other_cell _ _ _ _ _ (by omega), other_cell _ _ _ _ _ (by omega), other_cell _ _ _ _ _ (by omega), other_cell _ _ _ _ _ (by omega), other_cell _ _ _ _ _ (by omega)]
      exact h.c9
    · refine same_cell (u := .int .i64 n0) ?_
      rw [other_cell _ _ _ _ _ (by omega), other_cell _ _ _ _ _ (by omega), other_cell _ _ _ _ _ (by omega), other_cell _ _ _ _ _ (by omega), other_cell _ _ _ _ _ (by omega), other_cell _ _ _ _ _ (by omega), other_cell _ _ _ _ _ (by omega), other_cell _ _ _ _ _ (by omega), other_cell _ _ _ _ _ (by omega), other_cell _ _ _ _ _ (by omega)]
      exact h.c10
  · unfold put11
    exact ((((((((((Stay.setCell (O := fun k => k = B) w _ _ rfl).then_same (Stay.setCell _ _ _ rfl)).then_same (Stay.setCell _ _ _ rfl)).then_same (Stay.setCell _ _ _ rfl)).then_same (Stay.setCell _ _ _ rfl)).then_same (Stay.setCell _ _ _ rfl)).then_same (Stay.setCell _ _ _ rfl)).then_same (Stay.setCell _ _ _ rfl)).then_same (Stay.setCell _ _ _ rfl)).then_same (Stay.setCell _ _ _ rfl)).then_same (Stay.setCell _ _ _ rfl)
structure OwnM (base M : Nat) (w : World) (s : Sp) (N L : RS) (ps : List NR) (g gl : Option Nat) : Prop where
  lot : Lot base w N.a N.n N.c ps g
  map : ps.map (·.1) = s.ns
  lo : LO base w L.a L.n L.c s.ls gl
  gl1 : ∀ k, g = some k → gl ≠ some k
  gl2 : ∀ x ∈ ps, ∀ k, x.2.blk = some k → gl ≠ some k
  lt1 : ∀ k, g = some k → k < M
  lt2 : ∀ k, gl = some k → k < M
  lt3 : ∀ x ∈ ps, ∀ k, x.2.blk = some k → k < M
theorem OwnM.below {base M : Nat} {w w' : World} {s : Sp} {N L : RS} {ps : List NR} {g gl : Option Nat} (h : OwnM base M w s N L ps g gl) (hb : Below w.heap.size w w') : OwnM base M w' s N L ps g gl :=
  ⟨h.lot.below hb, h.map, h.lo.below hb, h.gl1, h.gl2, h.lt1, h.lt2, h.lt3⟩
theorem OwnM.up {base M M2 : Nat} {w : World} {s : Sp} {N L : RS} {ps : List NR} {g gl : Option Nat} (h : OwnM base M w s N L ps g gl) (hM : M ≤ M2) : OwnM base M2 w s N L ps g gl :=
  ⟨h.lot, h.map, h.lo, h.gl1, h.gl2, fun k hk => Nat.lt_of_lt_of_le (h.lt1 k hk) hM, fun k hk => Nat.lt_of_lt_of_le (h.lt2 k hk) hM, fun x hx k hk => Nat.lt_of_lt_of_le (h.lt3 x hx k hk) hM⟩
theorem Own.m {base : Nat} {w : World} {s : Sp} {N L : RS} {ps : List NR} {g gl : Option Nat} (h : Own base w s N L ps g gl) : OwnM base w.heap.size w s N L ps g gl :=
  ⟨h.lot, h.map, h.lo, h.gl1, h.gl2, fun k hk => by have := h.lot.cel; rw [hk] at this; exact this.lt.1, fun k hk => (h.lo.own k hk).1, fun x hx k hk => (h.lot.ok x hx).ok.bs.lt k hk⟩
theorem OwnM.out {base M : Nat} {O : Nat → Prop} {w w' : World} {s : Sp} {N L : RS} {ps : List NR} {g gl : Option Nat} (h : OwnM base M w s N L ps g gl) (hs : Stay O w w') (hO : ∀ k, O k → k < base ∨ M ≤ k) : OwnM base M w' s N L ps g gl := by
  have hg : ∀ k, g = some k → k < w.heap.size ∧ base ≤ k := fun k hk => by have := h.lot.cel; rw [hk] at this; exact this.lt
  refine ⟨h.lot.stay hs.size (fun k hk => hs.block k (hg k hk).1 (fun e => ?_)) (fun x hx k hk => hs.block k ((h.lot.ok x hx).ok.bs.lt k hk) (fun e => ?_)), h.map, ?_, h.gl1, h.gl2, h.lt1, h.lt2, h.lt3⟩
  · have := hO k e; have := (hg k hk).2; have := h.lt1 k hk; omega
  · have := hO k e; have := (h.lot.ok x hx).blk_ge k hk; have := h.lt3 x hx k hk; omega
  · have ho := h.lo.own
    exact ⟨h.lo.cel.stay hs.size (fun k hk => hs.block k (ho k hk).1 (fun e => by have := hO k e; have := (ho k hk).2; have := h.lt2 k hk; omega)) (fun _ e => e), h.lo.len⟩
theorem Free.out {base : Nat} {O : Nat → Prop} {w w' : World} {x : NR} (h : Free base w x) (hs : Stay O w w') (hO : ∀ k, O k → k < base) : Free base w' x :=
  Stay.free h hs (fun k hk e => by have := hO k e; have := h.blk_ge k hk; omega)
theorem Own.upd {base : Nat} {O : Nat → Prop} {w w' : World} {s : Sp} {N L : RS} {ps : List NR} {gb : Nat} {gl : Option Nat} (h : Own base w s N L ps (some gb) gl) {i : Nat} (hi : i < ps.length) (y : NR)
    (hC : Cel (fun k => base ≤ k) w' 5 (.slice N.a N.n N.c) N.n (rowC ndC (ps.set i y)) (some gb)) (hF : Free base w' y) (hS : Stay O w w') (hO : ∀ k, k < w.heap.size → O k → k = gb ∨ ps[i].2.blk = some k)
    (hb : ∀ k, y.2.blk = some k → ps[i].2.blk = some k ∨ w.heap.size ≤ k) : Own base w' ⟨s.tx, s.nb, s.ng, s.now, s.ns.set i y.1, s.ls⟩ N L (ps.set i y) (some gb) gl := by
  have hgb := h.lot.cel.lt
  have hlt : ∀ x ∈ ps, ∀ k, x.2.blk = some k → k < w.heap.size := fun x hx k hk => (h.lot.ok x hx).ok.bs.lt k hk
  have hmi : ps[i] ∈ ps := List.getElem_mem hi
  have hsep : ∀ j (hj : j < ps.length), j ≠ i → ∀ k, ps[j].2.blk = some k → ps[i].2.blk ≠ some k := fun j hj hne k hk e => by
    have hp := List.pairwise_iff_getElem.1 h.sep
    rcases Nat.lt_or_gt_of_ne hne with hl | hl
    · exact hp j i hj hi hl k hk e
    · exact hp i j hi hj hl k e hk
  have hyn : ∀ j (hj : j < ps.length), j ≠ i → ∀ k, ps[j].2.blk = some k → y.2.blk ≠ some k := fun j hj hne k hk e => by
    rcases hb k e with e2 | e2
    · exact hsep j hj hne k hk e2
    · have := hlt _ (List.getElem_mem hj) k hk; omega
  have hmem : ∀ z ∈ ps.set i y, z = y ∨ ∃ j, ∃ hj : j < ps.length, j ≠ i ∧ z = ps[j] := fun z hz => by
    obtain ⟨j, hj, rfl⟩ := List.getElem_of_mem hz
    rw [List.length_set] at hj
    by_cases e : j = i
    · subst e; exact .inl (List.getElem_set_self _)
    · exact .inr ⟨j, hj, e, List.getElem_set_ne (fun e2 => e e2.symm) _⟩
  refine ⟨⟨hC, by rw [List.length_set]; exact h.lot.len, fun z hz => ?_, fun z hz k hk => ?_⟩, by rw [List.map_set, h.map], ?_, ?_, h.gl1, fun z hz k hk => ?_⟩
  · rcases hmem z hz with rfl | ⟨j, hj, hne, rfl⟩
    · exact hF
    · refine Stay.free (h.lot.ok _ (List.getElem_mem hj)) hS (fun k hk e => ?_)
      rcases hO k (hlt _ (List.getElem_mem hj) k hk) e with rfl | e2
      · exact h.lot.ap _ (List.getElem_mem hj) k rfl hk
      · exact hsep j hj hne k hk e2
  · cases hk
    rcases hmem z hz with rfl | ⟨j, hj, hne, rfl⟩
    · intro e
      rcases hb gb e with e2 | e2
      · exact h.lot.ap _ hmi gb rfl e2
      · have := hgb.1; omega
    · exact h.lot.ap _ (List.getElem_mem hj) gb rfl
  · have ho := h.lo.own
    refine ⟨h.lo.cel.stay hS.size (fun k hk => hS.block k (ho k hk).1 (fun e => ?_)) (fun _ e => e), h.lo.len⟩
    rcases hO k (ho k hk).1 e with rfl | e2
    · exact h.gl1 k rfl hk
    · exact h.gl2 _ hmi k e2 hk
  · rw [List.pairwise_iff_getElem]
    intro a b ha0 hb0 hab
    have ha : a < ps.length := by simpa using ha0
    have hb2 : b < ps.length := by simpa using hb0
    have hp := List.pairwise_iff_getElem.1 h.sep
    by_cases e1 : a = i
    · subst e1
      rw [List.getElem_set_self, List.getElem_set_ne (by omega)]
      intro k hk e
      exact hyn b hb2 (by omega) k e hk
    · rw [List.getElem_set_ne (fun e => e1 e.symm)]
      by_cases e2 : b = i
      · subst e2
        rw [List.getElem_set_self]
        intro k hk e
        exact hyn a ha (by omega) k hk e
      · rw [List.getElem_set_ne (fun e => e2 e.symm)]
        exact hp a b ha hb2 hab
  · rcases hmem z hz with rfl | ⟨j, hj, hne, rfl⟩
    · rcases hb k hk with e2 | e2
      · exact h.gl2 _ hmi k e2
      · intro e
        have := (h.lo.own k e).1
        omega
    · exact h.gl2 _ (List.getElem_mem hj) k hk
theorem Cel.setF {O : Nat → Prop} {w : World} {g n c : Nat} {a : Option Addr} {ps : List NR} (h : Cel O w 5 (.slice a n c) n (rowC ndC ps) (some g)) (hn : ps.length = n) {i : Nat} (hi : i < ps.length) (o : Nat) (ho : o < 5) (v : Value) (y : NR) (hy : ∀ j, (ndC y)[j]? = if j = o then some v else (ndC ps[i])[j]?) :
    Cel O (w.setCell ⟨g, i * 5 + o, none⟩ v) 5 (.slice a n c) n (rowC ndC (ps.set i y)) (some g) := by
  have hc := h.cap2.1
  have h1 : (i + 1) * 5 ≤ c * 5 := Nat.mul_le_mul_right _ (by omega)
  have hl : (rowC ndC (ps.set i y)).length = n * 5 := by rw [rowC_len wideX, List.length_set, hn]
  refine h.setCells (i * 5 + o) [v] (by simp; omega) n _ hc hl (fun q hq => ?_)
  rw [← List.getElem?_eq_getElem hq]
  rw [hl] at hq
  have e := rowC_at wideX (ps.set i y) (q / 5) (by rw [List.length_set]; omega) (q % 5) (by omega)
  have e' := rowC_at wideX ps (q / 5) (by omega) (q % 5) (by omega)
  have e2 : q / 5 * 5 + q % 5 = q := by omega
  rw [e2] at e e'
  rw [e, e', List.length_singleton]
  by_cases hqi : q / 5 = i
  · subst hqi
    rw [List.getElem_set_self, hy]
    by_cases h0 : q % 5 = o
    · rw [if_pos (by omega), if_pos h0, show q - (q / 5 * 5 + o) = 0 by omega]; rfl
    · rw [if_neg (by omega), if_neg h0]
  · rw [if_neg (by omega), List.getElem_set_ne (fun e => hqi e.symm)]
structure Pre (base M0 S : Nat) (w : World) (s : Sp) (N L : RS) (ps : List NR) (gb : Nat) (gl : Option Nat) : Prop where
  c : SpC w S s N L
  own : Own base w s N L ps (some gb) gl
  na : N.a = some ⟨gb, 0, none⟩
  sb : S < base
  bw : base ≤ w.heap.size
  m1 : gb < M0
  m2 : ∀ k, gl = some k → k < M0
  m3 : ∀ x ∈ ps, ∀ k, x.2.blk = some k → k < M0
  mw : M0 ≤ w.heap.size
theorem Pre.below {base M0 S : Nat} {w w' : World} {s : Sp} {N L : RS} {ps : List NR} {gb : Nat} {gl : Option Nat} (h : Pre base M0 S w s N L ps gb gl) (hb : Below w.heap.size w w') : Pre base M0 S w' s N L ps gb gl :=
  ⟨h.c.below hb, h.own.below hb, h.na, h.sb, Nat.le_trans h.bw hb.size, h.m1, h.m2, h.m3, Nat.le_trans h.mw hb.size⟩
theorem Pre.lies {base M0 S : Nat} {w : World} {s : Sp} {N L : RS} {ps : List NR} {gb : Nat} {gl : Option Nat} (h : Pre base M0 S w s N L ps gb gl) (hp : 0 < ps.length) : Lies w S gb N.n N.c ps := by
  obtain ⟨b, hb⟩ := h.own.lot.nds
  have h4 := h.c.c4
  rw [h.na] at h4
  have ha := hb.addr hp
  rw [h.na] at ha hb
  cases ha
  exact ⟨h4, hb, h.own.lot.len⟩
def Chg (S base M0 : Nat) : Nat → Prop := fun k => k = S ∨ (base ≤ k ∧ k < M0)
def NewB (M0 n : Nat) (g gl : Option Nat) (ps : List NR) : Prop := (∀ k, g = some k → k < M0 ∨ n ≤ k) ∧ (∀ k, gl = some k → k < M0 ∨ n ≤ k) ∧ (∀ x ∈ ps, ∀ k, x.2.blk = some k → k < M0 ∨ n ≤ k)
structure DoneR (S base M0 : Nat) (t : Sp) (b : Blk) (x : Nd) (w : World) (r : Ending) (w' : World) : Prop where
  ex : ∃ N L ps g gl M sx, r = .returned (anV 0 b noS (x, sx) 0) ∧ SpC w' S t N L ∧ OwnM base M w' t N L ps g gl ∧ Free M w' (x, sx) ∧ base ≤ M ∧ NewB M0 w.heap.size g gl ps ∧ (∀ k, sx.blk = some k → w.heap.size ≤ k)
  st : Stay (Chg S base M0) w w'
structure UnitR (S base M0 : Nat) (t : Sp) (w : World) (r : Ending) (w' : World) : Prop where
  ex : ∃ N L ps g gl, r = .returned (.tuple #[]) ∧ SpC w' S t N L ∧ OwnM base w'.heap.size w' t N L ps g gl ∧ NewB M0 w.heap.size g gl ps
  st : Stay (Chg S base M0) w w'
end Go.Proofs.YtdilfbfkeiaafaaGreat.Spa
namespace Go.Proofs.YtdilfbfkeiaafaaGreat.Img
open Go.RowKit Go.Proofs.YtdilfbfkeiaafaaGreat Go.Proofs.YtdilfbfkeiaafaaGreat.Smm
open Go.Proofs.YtdilfbfkeiaafaaGreat.Edi (numsB takeN takeN_yes takeN_no takeN_size bel_tr bel_al bel_cell)
open Go.Proofs.YtdilfbfkeiaafaaGreat.Wir (takeT takeNum_val takeNumV_no takeNumV_yes takeText_yes takeText_no)
structure Bx (w : World) (bl bs : Nat) (s : St) : Prop where
  l : w.cell? ⟨bl, 0, none⟩ = some (.string s.1)
  o : w.cell? ⟨bs, 0, none⟩ = some (.bool s.2)
  fl : w.frozen? ⟨bl, 0, none⟩ = false
  fo : w.frozen? ⟨bs, 0, none⟩ = false
  ne : bl ≠ bs
  sz : s.1.size ≤ maxLen
abbrev Two (bl bs : Nat) : Nat → Prop := fun k => k = bl ∨ k = bs
theorem Stay.cell {O : Nat → Prop} {w w' : World} (h : Stay O w w') {a : Addr} {v : Value} (hc : w.cell? a = some v) (hO : ¬ O a.block) : w'.cell? a = some v :=
  (World.cell?_of_block (a := a) (h.block a.block (World.block_lt_of_cell? _ _ hc) hO)).trans hc
theorem Stay.frozen {O : Nat → Prop} {w w' : World} (h : Stay O w w') {a : Addr} {v : Value} (hc : w.cell? a = some v) (hf : w.frozen? a = false) (hO : ¬ O a.block) : w'.frozen? a = false :=
  (World.frozen?_of_block (a := a) (h.block a.block (World.block_lt_of_cell? _ _ hc) hO)).trans hf
theorem Bx.keep {O : Nat → Prop} {w w' : World} {bl bs : Nat} {s : St} (h : Bx w bl bs s) (hs : Stay O w w') (h1 : ¬ O bl) (h2 : ¬ O bs) : Bx w' bl bs s :=
  ⟨Stay.cell hs h.l h1, Stay.cell hs h.o h2, Stay.frozen hs h.l h.fl h1, Stay.frozen hs h.o h.fo h2, h.ne, h.sz⟩
theorem Bx.below {w w' : World} {bl bs : Nat} {s : St} (h : Bx w bl bs s) (hb : Below w.heap.size w w') : Bx w' bl bs s := h.keep (Stay.of_below (O := fun _ => False) hb) id id
theorem Bx.lt {w : World} {bl bs : Nat} {s : St} (h : Bx w bl bs s) : bl < w.heap.size ∧ bs < w.heap.size := ⟨World.block_lt_of_cell? _ _ h.l, World.block_lt_of_cell? _ _ h.o⟩
theorem Bx.put {w : World} {bl bs : Nat} {s : St} (h : Bx w bl bs s) (r : ByteArray) (v : Bool) (hr : r.size ≤ maxLen) :
    Bx ((w.setCell ⟨bl, 0, none⟩ (.string r)).setCell ⟨bs, 0, none⟩ (.bool v)) bl bs (r, v) ∧ Stay (Two bl bs) w ((w.setCell ⟨bl, 0, none⟩ (.string r)).setCell ⟨bs, 0, none⟩ (.bool v)) := by
  have s1 : Stay (fun k => k = bl) w (w.setCell ⟨bl, 0, none⟩ (.string r)) := Stay.setCell _ _ _ rfl
  have s2 : Stay (fun k => k = bs) (w.setCell ⟨bl, 0, none⟩ (.string r)) ((w.setCell ⟨bl, 0, none⟩ (.string r)).setCell ⟨bs, 0, none⟩ (.bool v)) := Stay.setCell _ _ _ rfl
  have o1 := Stay.cell s1 h.o (fun e => h.ne e.symm)
  have l1 : (w.setCell ⟨bl, 0, none⟩ (.string r)).cell? ⟨bl, 0, none⟩ = some (.string r) := World.cell?_setCell_same _ _ _ h.l
  refine ⟨⟨Stay.cell s2 l1 h.ne, World.cell?_setCell_same _ _ _ o1, ?_, ?_, h.ne, hr⟩, (s1.mono fun i e => .inl e).then_same (s2.mono fun i e => .inr e)⟩
  · rw [World.frozen?_setCell, World.frozen?_setCell]; exact h.fl
  · rw [World.frozen?_setCell, World.frozen?_setCell]; exact h.fo
theorem bel_stay {O : Nat → Prop} {w0 w w' : World} (hb : Below w0.heap.size w0 w) (hs : Stay O w w') (hO : ∀ k, O k → w0.heap.size ≤ k) : Below w0.heap.size w0 w' :=
  ((Stay.of_below (O := fun k => w0.heap.size ≤ k) hb).then_same (hs.mono hO)).below (Nat.le_refl _) (fun _ hk => hk)
theorem num_cl {w : World} {bl bs : Nat} {s : St} (h : Bx w bl bs s) (n : Int) (s' : St) (hs : numS s = (n, s')) :
    Calls Tryz.prog 154 #[.pointer (some ⟨bl, 0, none⟩), .pointer (some ⟨bs, 0, none⟩)] w fun e w' => e = .returned (.int .i64 n) ∧ Bx w' bl bs s' ∧ Stay (Two bl bs) w w' := by
  have H : Hid (Bx w bl bs s) := h
  obtain ⟨b, v⟩ := s
  have x0 := h.l
  have hz := h.sz
  simp only at x0 hz
  have hne : bl ≠ bs := h.ne
  cases hT : takeN b with
  | none =>
    rw [numS_no hT] at hs
    simp only [Prod.mk.injEq] at hs
    obtain ⟨rfl, rfl⟩ := hs
    have CT : Hid (∀ W, Calls Tryz.prog 155 #[.string b] W fun e w' => e = .returned (.tuple #[.int .i64 0, .string ⟨#[]⟩, .int .i64 2]) ∧ Below W.heap.size W w') := fun W => takeNum_val b _ W hz (takeNumV_no (takeN_no hT))
    clear h hT hz; have hst := run_store_str
    go_enter Tryz.func154, Tryz.ntmps154; go_wp2_with fail
    refine (CT.out _).mono ?_
    rintro e w1 ⟨rfl, b1⟩; have hB := H.out.below b1
    have B1 : Hid (Below w.heap.size w w1) := b1
    have HP : Hid _ := hB.put ⟨#[]⟩ false (by unfold maxLen; exact Nat.zero_le _)
    obtain ⟨y0, y1, f0, f1, _, _⟩ := hB
    simp only at y0 y1
    clear b1 x0 CT; cases v
    all_goals
      go_wp2; go_ret; exact ⟨rfl, HP.out.1, (Stay.of_below B1.out).then_same HP.out.2⟩
  | some p =>
    obtain ⟨m, r⟩ := p
    rw [numS_yes hT] at hs
    simp only [Prod.mk.injEq] at hs
    obtain ⟨rfl, rfl⟩ := hs
    have hr := takeN_size hT
    have CT : Hid (∀ W, Calls Tryz.prog 155 #[.string b] W fun e w' => e = .returned (.tuple #[.int .i64 m, .string r, .int .i64 0]) ∧ Below W.heap.size W w') := fun W => by
      obtain ⟨z, k, h1, h2, h3⟩ := takeN_yes hT
      have := takeNum_val b _ W hz (takeNumV_yes h1)
      rw [h2, h3] at this
      exact this
    have hrm : r.size ≤ maxLen := by omega
    clear h hT hz hr; have hst := run_store_str
    go_enter Tryz.func154, Tryz.ntmps154; go_wp2_with fail
    refine (CT.out _).mono ?_
    rintro e w1 ⟨rfl, b1⟩; have hB := H.out.below b1
    have B1 : Hid (Below w.heap.size w w1) := b1
    have HP : Hid _ := hB.put r v hrm
    obtain ⟨y0, y1, f0, f1, _, _⟩ := hB
    simp only at y0 y1
    clear b1 x0 CT; cases v
    all_goals
      go_wp2; go_ret; exact ⟨rfl, HP.out.1, (Stay.of_below B1.out).then_same HP.out.2⟩
theorem txt_cl {w : World} {bl bs : Nat} {s : St} (h : Bx w bl bs s) (t : ByteArray) (s' : St) (hs : txtS s = (t, s')) :
    Calls Tryz.prog 156 #[.pointer (some ⟨bl, 0, none⟩), .pointer (some ⟨bs, 0, none⟩)] w fun e w' => e = .returned (.string t) ∧ Bx w' bl bs s' ∧ Stay (Two bl bs) w w' := by
  have H : Hid (Bx w bl bs s) := h
  obtain ⟨b, v⟩ := s
  have x0 := h.l
  have hz := h.sz
  simp only at x0 hz
  have hne : bl ≠ bs := h.ne
  cases hT : takeT b with
  | none =>
    rw [txtS_no hT] at hs
    simp only [Prod.mk.injEq] at hs
    obtain ⟨rfl, rfl⟩ := hs
    have CT : Hid (∀ W, Calls Tryz.prog 120 #[.string b] W fun e w' => e = .returned (.tuple #[.string ⟨#[]⟩, .string ⟨#[]⟩, .int .i64 2]) ∧ Below W.heap.size W w') := fun W => takeText_no b W hz hT
    clear h hT hz; have hst := run_store_str
    go_enter Tryz.func156, Tryz.ntmps156; go_wp2_with fail
    refine (CT.out _).mono ?_
    rintro e w1 ⟨rfl, b1⟩; have hB := H.out.below b1
    have B1 : Hid (Below w.heap.size w w1) := b1
    have HP : Hid _ := hB.put ⟨#[]⟩ false (by unfold maxLen; exact Nat.zero_le _)
    obtain ⟨y0, y1, f0, f1, _, _⟩ := hB
    simp only at y0 y1
    clear b1 x0 CT; cases v
    all_goals
      go_wp2; go_ret; exact ⟨rfl, HP.out.1, (Stay.of_below B1.out).then_same HP.out.2⟩
  | some p =>
    obtain ⟨m, r⟩ := p
    rw [txtS_yes hT] at hs
    simp only [Prod.mk.injEq] at hs
    obtain ⟨rfl, rfl⟩ := hs
    have hr := Edi.takeT_less hT
    have CT : Hid (∀ W, Calls Tryz.prog 120 #[.string b] W fun e w' => e = .returned (.tuple #[.string m, .string r, .int .i64 0]) ∧ Below W.heap.size W w') := fun W => takeText_yes b m r W hz hT
    have hrm : r.size ≤ maxLen := by omega
    clear h hT hz hr; have hst := run_store_str
    go_enter Tryz.func156, Tryz.ntmps156; go_wp2_with fail
    refine (CT.out _).mono ?_
    rintro e w1 ⟨rfl, b1⟩; have hB := H.out.below b1
    have B1 : Hid (Below w.heap.size w w1) := b1
    have HP : Hid _ := hB.put r v hrm
    obtain ⟨y0, y1, f0, f1, _, _⟩ := hB
    simp only at y0 y1
    clear b1 x0 CT; cases v
    all_goals
      go_wp2; go_ret; exact ⟨rfl, HP.out.1, (Stay.of_below B1.out).then_same HP.out.2⟩
theorem end_cl {w : World} {bl bs : Nat} {s : St} (h : Bx w bl bs s) (u : Bool) (hu : endB s = u) :
    Calls Tryz.prog 157 #[.pointer (some ⟨bs, 0, none⟩), .pointer (some ⟨bl, 0, none⟩)] w fun e w' => e = .returned (.bool u) ∧ w' = w := by
  obtain ⟨b, v⟩ := s
  have x0 := h.l
  have x1 := h.o
  simp only at x0 x1
  unfold endB at hu; simp only at hu
  clear h; go_enter Tryz.func157, Tryz.ntmps157; cases v with
  | false =>
    have : u = false := by rw [← hu]; rfl
    subst this; go_wp2; go_ret; exact ⟨rfl, rfl⟩
  | true =>
    have hu2 : b.toList.isEmpty = u := by rw [← hu]; rfl
    clear hu; go_wp2; go_ret; exact ⟨rfl, rfl⟩
theorem over_val (part : ByteArray) (w : World) (hp : part.size ≤ maxLen) :
    Calls Tryz.prog 122 #[.string part] w fun e w' => ∃ bl bs, e = .returned (.tuple #[.func (.func 154) #[] #[.pointer (some ⟨bl, 0, none⟩), .pointer (some ⟨bs, 0, none⟩)], .func (.func 156) #[] #[.pointer (some ⟨bl, 0, none⟩), .pointer (some ⟨bs, 0, none⟩)], .func (.func 157) #[] #[.pointer (some ⟨bs, 0, none⟩), .pointer (some ⟨bl, 0, none⟩)]]) ∧ Bx w' bl bs (part, true) ∧ w.heap.size ≤ bl ∧ w.heap.size ≤ bs ∧ Below w.heap.size w w' := by
  have hst := run_store_str
  have HB : Hid (∀ t1 t2 : TypeId, Bx ((w.alloc (.cells #[.string part] t1)).alloc (.cells #[.bool true] t2)) w.heap.size (w.heap.size + 1) (part, true)) := fun t1 t2 => by
    have e : (w.alloc (.cells #[.string part] t1)).heap.size = w.heap.size + 1 := by simp
    have c0 : (w.alloc (.cells #[.string part] t1)).cell? ⟨w.heap.size, 0, none⟩ = some (.string part) := World.cell?_alloc_new w _ _ 0
    have f0 : (w.alloc (.cells #[.string part] t1)).frozen? ⟨w.heap.size, 0, none⟩ = false := World.frozen?_alloc_new w _ _ 0
    have c1 : ((w.alloc (.cells #[.string part] t1)).alloc (.cells #[.bool true] t2)).cell? ⟨w.heap.size + 1, 0, none⟩ = some (.bool true) := by
      have h := World.cell?_alloc_new (w.alloc (.cells #[.string part] t1)) #[.bool true] t2 0
      rwa [e] at h
    have f1 : ((w.alloc (.cells #[.string part] t1)).alloc (.cells #[.bool true] t2)).frozen? ⟨w.heap.size + 1, 0, none⟩ = false := by
      have h := World.frozen?_alloc_new (w.alloc (.cells #[.string part] t1)) #[.bool true] t2 0
      rwa [e] at h
    exact ⟨bel_cell (bel_al _ _) c0, c1, Stay.frozen (Stay.of_below (O := fun _ => False) (bel_al _ _)) c0 f0 id, f1, by omega, hp⟩
  go_enter Tryz.func122, Tryz.ntmps122; go_wp2; refine bodyPost_ret (v := .tuple #[.func (.func 154) #[] #[.pointer (some ⟨w.heap.size, 0, none⟩), .pointer (some ⟨w.heap.size + 1, 0, none⟩)], .func (.func 156) #[] #[.pointer (some ⟨w.heap.size, 0, none⟩), .pointer (some ⟨w.heap.size + 1, 0, none⟩)], .func (.func 157) #[] #[.pointer (some ⟨w.heap.size + 1, 0, none⟩), .pointer (some ⟨w.heap.size, 0, none⟩)]]) ?_ rfl ⟨_, _, rfl, HB.out _ _, Nat.le_refl _, by omega, bel_tr (bel_al _ _) (bel_al _ _)⟩
  simp only [results, Tryz.results122]
  simp [go_sem]
open Go.Proofs.YtdilfbfkeiaafaaGreat.Edi (bel_tr bel_al bel_cell bel_drew)
open Go.Proofs.YtdilfbfkeiaafaaGreat.Wir (app_assoc app_size app_list size_list)
open Go.WideShapes (bytes_inj)
structure OpenedR (ps : List ByteArray) (E : Nat) (e : Ending) (w' : World) : Prop where
  ex : ∃ a b n c, e = .returned (.tuple #[.slice a n c, .int .i64 (E : Int)]) ∧ ps.length = n ∧ n ≤ c ∧ c ≤ maxLen ∧ Strs w' a b 0 ps
def restP (ps : List ByteArray) (r : ByteArray) (i : Nat) : ByteArray := joinP (ps.drop i) ++ r
theorem restP_next (ps : List ByteArray) (r : ByteArray) (i : Nat) (hi : i < ps.length) : restP ps r i = sealB ps[i] ++ restP ps r (i + 1) := by
  unfold restP; rw [List.drop_eq_getElem_cons hi, joinP_cons, app_assoc]
theorem restP_end (ps : List ByteArray) (r : ByteArray) : restP ps r ps.length = r := by
  unfold restP; rw [List.drop_length]
  exact bytes_inj (by rw [app_list]; rfl)
theorem cel_room {O : Nat → Prop} {w : World} {size : Nat} {a : Option Addr} {n c : Nat} {cs : List Value} {g : Option Nat} (h : Cel O w size (.slice a n c) n cs g) : n ≤ c ∧ c ≤ maxLen := by
  cases h with
  | nil h1 h2 h3 => cases h1; exact ⟨Nat.le_refl _, Nat.zero_le _⟩
  | row g cap h1 hl h2 h3 h4 h5 h6 h7 => cases h1; exact ⟨h4, h5⟩
theorem grow_own {base : Nat} {w w' : World} {size : Nat} {sl : Value} {n : Nat} {cs : List Value} {g : Option Nat} (h : Cel (Grow (fun k => base ≤ k) w w') w' size sl n cs g) (hb : base ≤ w.heap.size) : Cel (fun k => base ≤ k) w' size sl n cs g :=
  h.stay (Nat.le_refl _) (fun _ _ => rfl) (fun _ hk => hk.elim id (fun e => Nat.le_trans hb e.1))
theorem cel_below {base : Nat} {w w' w0 : World} {size : Nat} {sl : Value} {n : Nat} {cs : List Value} {g : Option Nat} (h : Cel (fun k => base ≤ k) w size sl n cs g) (hS : Stay (fun k => g = some k) w w') (hb : base ≤ w.heap.size) (h0 : Below base w0 w) : Below base w0 w' :=
  h0.trans (hS.below hb (fun k hk => by rw [hk] at h; exact h.lt.2))
theorem opened_val {ps : List ByteArray} {r : ByteArray} (hS : Small ps) (b : ByteArray) (hb : b = restP ps r 0) (w : World) (hsz : b.size ≤ maxLen) (hn : ps.length ≤ 1000000000) (E : Nat) (hE : (r.size = 0 ∧ E = 0) ∨ BadAt r E) :
    Calls Tryz.prog 38 #[.string b] w fun e w' => OpenedR (if E = 0 then ps else []) E e w' ∧ Below w.heap.size w w' := by
  obtain ⟨ti, hi1, hi2, hi3, hi4⟩ := strRow
  have HS : Hid (Small ps) := hS
  have HBM : Hid (∀ i, i ≤ ps.length → (restP ps r i).size ≤ maxLen) := by
    intro i
    induction i with
    | zero => intro _; rw [← hb]; exact hsz
    | succ i ih =>
      intro hi
      have h1 := ih (by omega)
      rw [restP_next ps r i (by omega), app_size] at h1
      omega
  have HE : Hid ((r.size = 0 ∧ E = 0) ∨ BadAt r E) := hE
  subst hb; clear hS hE hsz; go_enter Tryz.func38, Tryz.ntmps38; go_wp2; go_loopg [0, 4] ps.length (fun gh v0 v4 wr => ∃ (i : Nat) (fa : Option Addr) (fc : Nat) (g : Option Nat), i + gh = ps.length ∧ v0 = .string (restP ps r i) ∧ v4 = .slice fa i fc ∧ Cel (fun k => w.heap.size ≤ k) wr 1 (.slice fa i fc) i (rowC strC (ps.take i)) g ∧ Below w.heap.size w wr)
  case atStart => exact ⟨0, none, 0, none, by omega, rfl, rfl, .nil rfl rfl rfl, Below.refl _ _⟩
  case round =>
    obtain ⟨i, fa, fc, g, hig, rfl, rfl, hC, hbl⟩ := hrel
    have HC : Hid (Cel (fun k => w.heap.size ≤ k) wr 1 (.slice fa i fc) i (rowC strC (ps.take i)) g) := hC
    have HB : Hid (Below w.heap.size w wr) := hbl
    clear hC hbl; by_cases hlt : i < ps.length
    · have hnx := restP_next ps r i hlt
      have hm := HBM.out i (by omega)
      have hop : openT (restP ps r i) = (ps[i], restP ps r (i + 1), 0) := by rw [hnx]; exact open_back _ _ (HS.out _ (List.getElem_mem hlt))
      have hpos : (restP ps r i).toList.isEmpty = false := by
        rw [Bool.eq_false_iff]
        intro e
        have h2 := congrArg ByteArray.size ((empty_iff _).1 e)
        rw [hnx, app_size] at h2
        have h3 := sealB_pos ps[i]
        have h4 : (⟨#[]⟩ : ByteArray).size = 0 := rfl
        omega
      have HT : Hid (rowC strC (ps.take (i + 1)) = rowC strC (ps.take i) ++ rowC strC [ps[i]]) := by
        show rowC strC (ps.take (i + 1)) = _
        rw [List.take_succ_eq_append_getElem hlt, rowC_app]
      have CO : Hid (∀ W, Calls Tryz.prog 76 #[.string (restP ps r i)] W fun e w' => e = .returned (.tuple #[.string ps[i], .string (restP ps r (i + 1)), .int .i64 ((0 : Nat) : Int)]) ∧ Below W.heap.size W w') := fun W => open_any _ _ _ 0 W hm hop
      generalize restP ps r i = cur at *
      generalize hnb : restP ps r (i + 1) = nxt at *
      have HNB : Hid (restP ps r (i + 1) = nxt) := hnb
      generalize ps[i] = p at *
      clear hnx hm hop hnb; go_wp2_with fail
      refine (CO.out _).mono ?_
      rintro e w1 ⟨rfl, b1⟩; have B1 : Hid (Below wr.heap.size wr w1) := b1
      clear b1 CO; go_wp2_with (at_builtin; refine wpList_append_cel _ rfl _ _ 32 32 rfl 9 ti _ 1 16 Tryz.underlying32 hi1 hi2 hi3 hi4 rfl (O := fun k => w.heap.size ≤ k) _ i _ g rfl ((HC.out.below B1.out).below (bel_al _ _)) _ 1 (rowC strC [p]) rfl (src_new1 w1 p) (by unfold maxLen; omega) (by omega) ?_; intro a2 c2 w2 g2 hC2 hS2 hg2; have A2 : Hid _ := grow_own hC2 (by have := HB.out.size; have := B1.out.size; simp; omega); have B2 : Hid _ := cel_below ((HC.out.below B1.out).below (bel_al _ _)) hS2 (by have := HB.out.size; have := B1.out.size; simp; omega) (bel_tr HB.out (bel_tr B1.out (bel_al _ _))); clear hC2 hS2 hg2)
      go_roundg (ps.length - (i + 1))
      case measure => omega
      case rel => exact ⟨i + 1, a2, c2, g2, by omega, by rw [HNB.out], rfl, by rw [HT.out]; exact A2.out, B2.out⟩
    · obtain rfl : i = ps.length := by omega
      have hend := restP_end ps r
      have hm := HBM.out _ (Nat.le_refl ps.length)
      rw [hend] at hm ⊢
      rcases HE.out with ⟨hr0, rfl⟩ | hbad
      · have hr1 : r.data.toList.length = 0 := by rw [size_list]; exact hr0
        have hr2 : r = ⟨#[]⟩ := bytes_inj (by rw [List.length_eq_zero_iff.1 hr1])
        have hpos : r.toList.isEmpty = true := (empty_iff r).2 hr2
        clear hr1 hr2; obtain ⟨hc1, hc2⟩ := cel_room HC.out
        have hst : ∃ b, Strs wr fa b 0 ps := by
          have h1 := HC.out
          rw [List.take_length] at h1
          exact h1.strs rfl (fun s hs => by have := HS.out s hs; unfold maxLen; omega)
        obtain ⟨b0, hst⟩ := hst
        have HST : Hid (Strs wr fa b0 0 ps) := hst
        have HC1 : Hid (ps.length ≤ fc) := hc1
        have HC2 : Hid (fc ≤ maxLen) := hc2
        clear hst hc1 hc2 hm hend hlt hr0 HC; go_wp2; go_ret2; exact ⟨⟨fa, b0, ps.length, fc, rfl, rfl, HC1.out, HC2.out, HST.out⟩, HB.out⟩
      · have hpos : r.toList.isEmpty = false := by
          rw [Bool.eq_false_iff]
          intro e
          exact hbad.pos (congrArg ByteArray.size ((empty_iff _).1 e))
        have hop := hbad.empty
        have hne := hbad.ne
        have hneI : ((E : Int) != 0) = true := by simp; omega
        have CO : Hid (∀ W, Calls Tryz.prog 76 #[.string r] W fun e w' => e = .returned (.tuple #[.string ⟨#[]⟩, .string ⟨#[]⟩, .int .i64 (E : Int)]) ∧ Below W.heap.size W w') := fun W => open_any _ _ _ E W hm hop
        have HIF : Hid ((if E = 0 then ps else []) = []) := if_neg hne
        have hneB : (E == 0) = false := by simpa using hne
        clear hm hend hlt hop hbad HC; go_wp2_with fail
        refine (CO.out _).mono ?_
        rintro e w1 ⟨rfl, b1⟩; have B1 : Hid (Below wr.heap.size wr w1) := b1
        clear b1 CO; go_wp2; go_ret2; try rw [HIF.out]
        exact ⟨⟨none, 0, 0, 0, rfl, rfl, Nat.le_refl _, Nat.zero_le _, fun hp => by simp at hp, fun j hj => by simp at hj, by simp, by simp⟩, bel_tr HB.out B1.out⟩
end Go.Proofs.YtdilfbfkeiaafaaGreat.Img
namespace Go.Proofs.YtdilfbfkeiaafaaGreat.Spa
open Go.RowKit Go.Proofs.YtdilfbfkeiaafaaGreat
open Go.Proofs.YtdilfbfkeiaafaaGreat.Lea (LS Ls findX putL renX LL LO LsR lsC wideL)
open Go.Proofs.YtdilfbfkeiaafaaGreat.Edi (Ed Nm EdAt edV)
section
variable {base M0 S : Nat} {w w' : World} {s : Sp} {N L : RS} {ps : List NR} {gb : Nat} {gl : Option Nat}
theorem rowC_same {ps : List NR} {i : Nat} (hi : i < ps.length) (y : NR) (hy : ndC y = ndC ps[i]) : rowC ndC (ps.set i y) = rowC ndC ps := by
  have e : ps.set i y = ps.take i ++ y :: ps.drop (i + 1) := by rw [List.set_eq_take_append_cons_drop, if_pos hi]
  have e2 : ps = ps.take i ++ ps[i] :: ps.drop (i + 1) := by rw [← List.drop_eq_getElem_cons hi, List.take_append_drop]
  rw [e]
  conv => rhs; rw [e2]
  rw [rowC_app, rowC_app, rowC_cons, rowC_cons, hy]
theorem SpC.ns {w : World} {b : Nat} {s : Sp} {N L : RS} (h : SpC w b s N L) (ns : NS) (ls : LS) : SpC w b ⟨s.tx, s.nb, s.ng, s.now, ns, ls⟩ N L := ⟨h.c0, h.c1, h.c2, h.c3, h.c4, h.c5, h.fr⟩
theorem set_snd {ps : List NR} {i : Nat} (hi : i < ps.length) {y : Nd} {x : NR} (hx : x ∈ ps.set i (y, ps[i].2)) : ∃ z ∈ ps, x.2 = z.2 := by
  rcases List.mem_or_eq_of_mem_set hx with h | rfl
  · exact ⟨x, h, rfl⟩
  · exact ⟨ps[i], List.getElem_mem hi, rfl⟩
theorem Pre.setBs (h : Pre base M0 S w s N L ps gb gl) {i : Nat} (hi : i < ps.length) (bs : List Blk) (hF : Free base w' (withBs ps[i].1 bs, ps[i].2)) (hS : Stay (fun k => ps[i].2.blk = some k) w w') :
    Pre base M0 S w' ⟨s.tx, s.nb, s.ng, s.now, s.ns.set i (withBs ps[i].1 bs), s.ls⟩ N L (ps.set i (withBs ps[i].1 bs, ps[i].2)) gb gl := by
  have hmi : ps[i] ∈ ps := List.getElem_mem hi
  have hC : Cel (fun k => base ≤ k) w' 5 (.slice N.a N.n N.c) N.n (rowC ndC (ps.set i (withBs ps[i].1 bs, ps[i].2))) (some gb) := by
    rw [rowC_same hi (withBs ps[i].1 bs, ps[i].2) rfl]
    exact h.own.lot.cel.stay hS.size (fun k hk => hS.block k (by cases hk; exact h.own.lot.cel.lt.1) (fun e => h.own.lot.ap _ hmi k hk e)) (fun _ e => e)
  refine ⟨(h.c.keep hS (fun e => ?_)).ns _ _, h.own.upd hi _ hC hF hS (fun k _ e => .inr e) (fun k hk => .inl hk), h.na, h.sb, Nat.le_trans h.bw hS.size, h.m1, h.m2, fun z hz k hk => (by obtain ⟨u, hu, e⟩ := set_snd hi hz; exact h.m3 u hu k (by rw [← e]; exact hk)), Nat.le_trans h.mw hS.size⟩
  have := (h.own.lot.ok _ hmi).blk_ge S e
  have := h.sb
  omega
theorem Pre.setF (h : Pre base M0 S w s N L ps gb gl) {i : Nat} (hi : i < ps.length) (o : Nat) (ho : o < 5) (v : Value) (y : Nd) (hy : ∀ j, (ndC (y, ps[i].2))[j]? = if j = o then some v else (ndC ps[i])[j]?) (hb : y.bs = ps[i].1.bs) (hp : y.path.size ≤ maxLen) :
    Pre base M0 S (w.setCell ⟨gb, i * 5 + o, none⟩ v) ⟨s.tx, s.nb, s.ng, s.now, s.ns.set i y, s.ls⟩ N L (ps.set i (y, ps[i].2)) gb gl ∧ Stay (fun k => k = gb) w (w.setCell ⟨gb, i * 5 + o, none⟩ v) := by
  have hmi : ps[i] ∈ ps := List.getElem_mem hi
  have hS : Stay (fun k => k = gb) w (w.setCell ⟨gb, i * 5 + o, none⟩ v) := Stay.setCell _ _ _ rfl
  have hF0 := Stay.free (h.own.lot.ok _ hmi) hS (fun k hk e => by subst e; exact h.own.lot.ap _ hmi k rfl hk)
  have hF : Free base (w.setCell ⟨gb, i * 5 + o, none⟩ v) (y, ps[i].2) := by
    refine ⟨⟨hp, ?_⟩, hF0.own⟩
    show Blks _ ps[i].2 y.bs
    rw [hb]; exact hF0.ok.bs
  refine ⟨⟨(h.c.keep hS (fun e => ?_)).ns _ _, h.own.upd hi _ (Cel.setF h.own.lot.cel h.own.lot.len hi o ho v _ hy) hF hS (fun k _ e => .inl e) (fun k hk => .inl hk), h.na, h.sb, Nat.le_trans h.bw hS.size, h.m1, h.m2, fun z hz k hk => (by obtain ⟨u, hu, e⟩ := set_snd hi hz; exact h.m3 u hu k (by rw [← e]; exact hk)), Nat.le_trans h.mw hS.size⟩, hS⟩
  have := h.own.lot.cel.lt.2
  have := h.sb
  omega
theorem Pre.lt (h : Pre base M0 S w s N L ps gb gl) : gb < w.heap.size ∧ base ≤ gb ∧ S < w.heap.size ∧ gb < M0 ∧ M0 ≤ w.heap.size := ⟨h.own.lot.cel.lt.1, h.own.lot.cel.lt.2, World.block_lt_of_cell? _ _ h.c.c0, h.m1, h.mw⟩
theorem Pre.bs' (h : Pre base M0 S w s N L ps gb gl) {i : Nat} {x : Nd} {r : RS} (hX : ps[i]? = some (x, r)) (bs : List Blk) (hF : Free base w' (withBs x bs, r)) (hS : Stay (fun k => r.blk = some k) w w') :
    Pre base M0 S w' ⟨s.tx, s.nb, s.ng, s.now, s.ns.set i (withBs x bs), s.ls⟩ N L (ps.set i (withBs x bs, r)) gb gl := by
  obtain ⟨hi, e⟩ := List.getElem?_eq_some_iff.1 hX
  have e1 : ps[i].1 = x := by rw [e]
  have e2 : ps[i].2 = r := by rw [e]
  have := h.setBs (w' := w') hi bs (by rw [e1, e2]; exact hF) (by rw [e2]; exact hS)
  rw [e1, e2] at this
  exact this
theorem Pre.f' (h : Pre base M0 S w s N L ps gb gl) {i : Nat} {x : Nd} {r : RS} (hX : ps[i]? = some (x, r)) (o : Nat) (ho : o < 5) (v : Value) (y : Nd) (hy : ∀ j, (ndC (y, r))[j]? = if j = o then some v else (ndC (x, r))[j]?) (hb : y.bs = x.bs) (hp : y.path.size ≤ maxLen) :
    Pre base M0 S (w.setCell ⟨gb, i * 5 + o, none⟩ v) ⟨s.tx, s.nb, s.ng, s.now, s.ns.set i y, s.ls⟩ N L (ps.set i (y, r)) gb gl ∧ Stay (fun k => k = gb) w (w.setCell ⟨gb, i * 5 + o, none⟩ v) := by
  obtain ⟨hi, e⟩ := List.getElem?_eq_some_iff.1 hX
  have e1 : ps[i].1 = x := by rw [e]
  have e2 : ps[i].2 = r := by rw [e]
  have := h.setF hi o ho v y (by rw [e2, e]; exact hy) (by rw [e1]; exact hb) hp
  rw [e2] at this
  exact this
theorem Lies.at' {w : World} {S gb n c : Nat} {ps : List NR} (h : Lies w S gb n c ps) {i : Nat} {X : NR} (hX : ps[i]? = some X) : NdAt w gb i X := by
  obtain ⟨hi, rfl⟩ := List.getElem?_eq_some_iff.1 hX
  exact h.at hi
theorem is_at' {ps : List NR} {p : ByteArray} {i : Nat} {x : Nd} (hi : Is (ps.map (·.1)) p i x) : ∃ r, ps[i]? = some (x, r) := by
  obtain ⟨h1, h2⟩ := is_at hi
  exact ⟨ps[i].2, by rw [List.getElem?_eq_getElem h1, ← h2]⟩
theorem set_at' {ps : List NR} {i : Nat} {X : NR} (hX : ps[i]? = some X) (Y : NR) : (ps.set i Y)[i]? = some Y := by
  obtain ⟨hi, _⟩ := List.getElem?_eq_some_iff.1 hX
  rw [List.getElem?_set_self hi]
theorem Pre.free' (h : Pre base M0 S w s N L ps gb gl) {i : Nat} {X : NR} (hX : ps[i]? = some X) : Free base w X ∧ X.2.blk ≠ some gb ∧ i < N.n ∧ 0 < ps.length ∧ ∀ o, o < 5 → w.frozen? ⟨gb, i * 5 + o, none⟩ = false := by
  have hm := List.mem_of_getElem? hX
  obtain ⟨hi, _⟩ := List.getElem?_eq_some_iff.1 hX
  have hl := h.own.lot.len
  have hcap := h.own.lot.cel.cap2.1
  refine ⟨h.own.lot.ok _ hm, fun e => h.own.lot.ap _ hm gb rfl e, by omega, by omega, fun o ho => ?_⟩
  have h5 : (i + 1) * 5 ≤ N.c * 5 := Nat.mul_le_mul_right _ (by omega)
  exact (h.own.lot.cel.live (i * 5 + o) (by omega)).2
theorem Pre.m (h : Pre base M0 S w s N L ps gb gl) : (∀ k, some gb = some k → k < w.heap.size) ∧ (∀ k, gl = some k → k < w.heap.size) ∧ (∀ x ∈ ps, ∀ k, x.2.blk = some k → k < w.heap.size) := ⟨h.own.m.lt1, h.own.m.lt2, h.own.m.lt3⟩
theorem set_blk {ps : List NR} {i : Nat} {x y : Nd} {r : RS} (hX : ps[i]? = some (x, r)) {M : Nat} (h : ∀ x ∈ ps, ∀ k, x.2.blk = some k → k < M) : ∀ z ∈ ps.set i (y, r), ∀ k, z.2.blk = some k → k < M := fun z hz k hk => by
  rcases List.mem_or_eq_of_mem_set hz with hz | rfl
  · exact h z hz k hk
  · exact h (x, r) (List.mem_of_getElem? hX) k hk
theorem OwnM.out2 {base M : Nat} {O : Nat → Prop} {w w' : World} {s : Sp} {N L : RS} {ps : List NR} {g gl : Option Nat} (h : OwnM base M w s N L ps g gl) (hs : Stay O w w') (h1 : ∀ k, g = some k → ¬ O k) (h2 : ∀ k, gl = some k → ¬ O k) (h3 : ∀ x ∈ ps, ∀ k, x.2.blk = some k → ¬ O k) : OwnM base M w' s N L ps g gl := by
  have hg : ∀ k, g = some k → k < w.heap.size ∧ base ≤ k := fun k hk => by have := h.lot.cel; rw [hk] at this; exact this.lt
  have ho := h.lo.own
  exact ⟨h.lot.stay hs.size (fun k hk => hs.block k (hg k hk).1 (h1 k hk)) (fun x hx k hk => hs.block k ((h.lot.ok x hx).ok.bs.lt k hk) (h3 x hx k hk)), h.map, ⟨h.lo.cel.stay hs.size (fun k hk => hs.block k (ho k hk).1 (h2 k hk)) (fun _ e => e), h.lo.len⟩, h.gl1, h.gl2, h.lt1, h.lt2, h.lt3⟩
theorem Own.at {base M : Nat} {w : World} {s : Sp} {N L : RS} {ps : List NR} {g gl : Option Nat} (h : Own base w s N L ps g gl) (h1 : ∀ k, g = some k → k < M) (h2 : ∀ k, gl = some k → k < M) (h3 : ∀ x ∈ ps, ∀ k, x.2.blk = some k → k < M) : OwnM base M w s N L ps g gl :=
  ⟨h.lot, h.map, h.lo, h.gl1, h.gl2, h1, h2, h3⟩
end
theorem DoneR.mk2 {S base M0 M : Nat} {w w4 : World} {t : Sp} {N L : RS} {ps : List NR} {g gl : Option Nat} {b : Blk} {x : Nd} {sx : RS} {B : Nat} {E0 : Int} {b0 : Blk} {T0 : RS} {x0 : NR} {n0 : Int} (hA : AnC w4 B E0 b0 T0 x0 n0) (hC : SpC w4 S t N L) (hO : OwnM base M w4 t N L ps g gl) (hF : Free M w4 (x, sx)) (hM : base ≤ M) (hst : Stay (Chg S base M0) w w4) (hB : w.heap.size ≤ B) (_hbw : base ≤ w.heap.size) (hS : S < w.heap.size)
    (h1 : ∀ k, g = some k → k ≠ B ∧ (k < M0 ∨ w.heap.size ≤ k)) (h2 : ∀ k, gl = some k → k ≠ B ∧ (k < M0 ∨ w.heap.size ≤ k)) (h3 : ∀ x ∈ ps, ∀ k, x.2.blk = some k → k ≠ B ∧ (k < M0 ∨ w.heap.size ≤ k)) (h4 : ∀ k, sx.blk = some k → k ≠ B ∧ w.heap.size ≤ k) :
    AnC (put11 w4 B 0 b noS (x, sx) 0) B 0 b noS (x, sx) 0 ∧ DoneR S base M0 t b x w (.returned (anV 0 b noS (x, sx) 0)) (put11 w4 B 0 b noS (x, sx) 0) := by
  obtain ⟨a1, a2⟩ := put11_at hA 0 b noS (x, sx) 0
  refine ⟨a1, ⟨N, L, ps, g, gl, M, sx, rfl, hC.keep a2 (by omega), hO.out2 a2 (fun k hk => (h1 k hk).1) (fun k hk => (h2 k hk).1) (fun x hx k hk => (h3 x hx k hk).1), Stay.free hF a2 (fun k hk => (h4 k hk).1), hM, ⟨fun k hk => (h1 k hk).2, fun k hk => (h2 k hk).2, fun x hx k hk => (h3 x hx k hk).2⟩, fun k hk => (h4 k hk).2⟩, hst.trans a2 (fun k hk e => ?_)⟩
  omega
theorem complete_ok {base M0 S : Nat} {w : World} {s : Sp} {N L : RS} {ps : List NR} {gb : Nat} {gl : Option Nat} (h : Pre base M0 S w s N L ps gb gl) (e : Ed) (ea : Option Addr) (em eq : Nat) (hn : Nm w ea em e.ls) (hnb : ∀ ad, ea = some ad → 0 < em → ad.block < base) (hs : e.p.size ≤ maxLen) (i : Nat) (x : Nd) (hw : Wr s e i x) (hl : LenOk x.bs e.ls) (h8 : x.bs.length ≤ 8) :
    Calls Tryz.prog 62 #[.pointer (some ⟨S, 0, none⟩), edV e ea em eq] w fun r w' => DoneR S base M0 ⟨s.tx, s.nb, s.ng, s.now, s.ns.set i (withWr (withBs x (setLens x.bs e.ls)) (-1)), s.ls⟩ zeroB (withWr (withBs x (setLens x.bs e.ls)) (-1)) w r w' := by
  have hiq : Is (ps.map (·.1)) e.p i x := by rw [h.own.map]; exact hw.is
  obtain ⟨r, hX⟩ := is_at' hiq
  obtain ⟨hF0, hg0, hiN, hpos, _⟩ := h.free' hX
  have hrn : x.bs.length = r.n := hF0.ok.bs.len
  have hxs : x.path.size ≤ maxLen := hF0.ok.small
  have CW : Hid (∀ W, Below w.heap.size w W → Calls Tryz.prog 107 #[.pointer (some ⟨S, 0, none⟩), edV e ea em eq] W fun e w' => e = .returned (.pointer (some ⟨gb, i * 5, none⟩)) ∧ Below W.heap.size W w') := fun W hb => written_ok ((h.below hb).lies hpos) e ea em eq hs i x hiq hw.dir hw.wr
  have CS : Hid (∀ W, Below w.heap.size w W → Calls Tryz.prog 108 #[.pointer (some ⟨gb, i * 5, none⟩), .slice ea em eq] W fun r' w' => r' = .returned (.tuple #[]) ∧ Free base w' (withBs x (setLens x.bs e.ls), r) ∧ Stay (fun k => r.blk = some k) W w') := fun W hb => by
    have hP := h.below hb
    obtain ⟨hF, hg, _, _, _⟩ := hP.free' hX
    refine setLengths_ok (x := x) (s := r) hF ((hP.lies hpos).at' hX).c3 hg (hn.below hb) (fun ad had hp e => ?_) hl (by omega)
    have := hF.blk_ge _ e
    have := hnb ad had hp
    omega
  have HX : Hid (ps[i]? = some (x, r)) := hX
  have HPRE : Hid (Pre base M0 S w s N L ps gb gl) := h
  have HRN : Hid (x.bs.length = r.n ∧ r.n ≤ 8) := ⟨hrn, by omega⟩
  have HLEN : Hid ((setLens x.bs e.ls).length = r.n) := by show _ = _; rw [setLens_len _ _ hl.len]; exact hrn
  obtain ⟨k, p, t, cl, l, nn, ls⟩ := e
  obtain ⟨xp, xd, xq, xb, xw⟩ := x
  obtain ⟨ra, rn, rc⟩ := r
  simp only at CS HX HRN HLEN hxs ⊢
  have HN2 : Hid (∀ w1 w2, Below w.heap.size w w1 → Free base w2 (⟨xp, xd, xq, setLens xb ls, xw⟩, ⟨ra, rn, rc⟩) → Stay (fun k => (⟨ra, rn, rc⟩ : RS).blk = some k) w1 w2 → Pre base M0 S w2 ⟨s.tx, s.nb, s.ng, s.now, s.ns.set i ⟨xp, xd, xq, setLens xb ls, xw⟩, s.ls⟩ N L (ps.set i (⟨xp, xd, xq, setLens xb ls, xw⟩, ⟨ra, rn, rc⟩)) gb gl) := fun w1 w2 hb hF hS => (HPRE.out.below hb).bs' HX.out _ hF hS
  have HN3 : Hid (∀ w2, Pre base M0 S w2 ⟨s.tx, s.nb, s.ng, s.now, s.ns.set i ⟨xp, xd, xq, setLens xb ls, xw⟩, s.ls⟩ N L (ps.set i (⟨xp, xd, xq, setLens xb ls, xw⟩, ⟨ra, rn, rc⟩)) gb gl → Pre base M0 S (w2.setCell ⟨gb, i * 5 + 4, none⟩ (.int .i64 (-1))) ⟨s.tx, s.nb, s.ng, s.now, s.ns.set i ⟨xp, xd, xq, setLens xb ls, -1⟩, s.ls⟩ N L (ps.set i (⟨xp, xd, xq, setLens xb ls, -1⟩, ⟨ra, rn, rc⟩)) gb gl ∧ Stay (fun k => k = gb) w2 (w2.setCell ⟨gb, i * 5 + 4, none⟩ (.int .i64 (-1)))) := fun w2 hP => by
    have := hP.f' (set_at' HX.out _) 4 (by omega) (.int .i64 (-1)) ⟨xp, xd, xq, setLens xb ls, -1⟩ (fun j => by
      match j with
      | 0 => rfl
      | 1 => rfl
      | 2 => rfl
      | 3 => rfl
      | 4 => rfl
      | j + 5 => rfl) rfl hxs
    rw [List.set_set, List.set_set] at this
    exact this
  have CC : Hid (∀ W, Free base W (⟨xp, xd, xq, setLens xb ls, -1⟩, ⟨ra, rn, rc⟩) → Calls Tryz.prog 44 #[.agg #[.string xp, .bool xd, .int .i64 xq, .slice ra rn rc, .int .i64 (-1)]] W fun e w' => CopyR W.heap.size ⟨xp, xd, xq, setLens xb ls, -1⟩ e w' ∧ Below W.heap.size W w') := fun W hF => copiedNode_val (⟨xp, xd, xq, setLens xb ls, -1⟩, ⟨ra, rn, rc⟩) W hF.ok (by show rn * 24 ≤ _; have := HRN.out.2; omega)
  unfold edV at CW ⊢
  simp only at CW ⊢
  have hst := run_store_str
  have hst2 := sto2
  clear h hn hnb hs hw hl h8 hiq hX hF0 hg0 hiN hpos hrn hxs; unfold withBs at CS; simp only at CS
  go_enter Tryz.func62, Tryz.ntmps62; go_wp2_with (first
    | (go_at_call 107; refine (CW.out _ (bel_tr (bel_al _ _) (bel_al _ _))).mono ?_; rintro e w1 ⟨rfl, c1⟩; obtain ⟨q1, q2, q3, q4, q5, q6⟩ := two_boxes c1; have y6 := q1 6 _ rfl; have B1 : Hid (Below w.heap.size w w1) := q5; have HAN : Hid (AnC w1 (w.heap.size + 1) 0 zeroB noS zeroX 0) := ⟨q3 0 _ rfl, q3 1 _ rfl, q3 2 _ rfl, q3 3 _ rfl, q3 4 _ rfl, q3 5 _ rfl, q3 6 _ rfl, q3 7 _ rfl, q3 8 _ rfl, q3 9 _ rfl, q3 10 _ rfl, q4⟩; have HSZ : Hid (w.heap.size + 2 ≤ w1.heap.size) := q6; clear c1 q1 q2 q3 q4 q5 q6)
    | (go_at_call 108; refine (CS.out _ B1.out).mono ?_; rintro e w2 ⟨rfl, hF2, hS2⟩; have hP2 := HN2.out w1 w2 B1.out hF2 hS2; obtain ⟨n0, n1, n2, n3, n4⟩ := (hP2.lies (hP2.free' (set_at' HX.out _)).2.2.2.1).at' (set_at' HX.out _); have hfz := (hP2.free' (set_at' HX.out _)).2.2.2.2 4 (by omega); have HP2 : Hid _ := hP2; have HS2 : Hid _ := hS2; have HP3 : Hid _ := HN3.out w2 hP2; simp only at n0 n1 n2 n3 n4; clear hF2 hS2 hP2))
  refine (CC.out _ (HP3.out.1.free' (set_at' HX.out _)).1).mono ?_
  rintro e w4 ⟨⟨sx, rfl, hF4⟩, c4⟩; have HF4 : Hid (Free (w2.setCell ⟨gb, i * 5 + 4, none⟩ (.int .i64 (-1))).heap.size w4 (⟨xp, xd, xq, setLens xb ls, -1⟩, sx)) := hF4
  have B4 : Hid (Below (w2.setCell ⟨gb, i * 5 + 4, none⟩ (.int .i64 (-1))).heap.size (w2.setCell ⟨gb, i * 5 + 4, none⟩ (.int .i64 (-1))) w4) := c4
  have hrb := (HPRE.out.free' HX.out).1.ok.bs.lt
  have hgt := HPRE.out.lt
  have HAN4 : Hid (AnC w4 (w.heap.size + 1) 0 zeroB noS zeroX 0) := ((HAN.out.keep HS2.out (fun e => by have := hrb _ e; omega)).keep HP3.out.2 (fun e => by omega)).below c4
  obtain ⟨a0, a1, a2, a3, a4, a5, a6, a7, a8, a9, a10, afr⟩ := HAN4.out
  unfold ndV; unfold zeroB at a1 a2 a3; unfold noS at a4; unfold zeroX zeroN noS at a5 a6 a7 a8 a9; simp only at a1 a2 a3 a4 a5 a6 a7 a8 a9 ⊢
  clear hF4 c4 hrb hgt; go_wp2; have hsz3 : w.heap.size + 2 ≤ (w2.setCell ⟨gb, i * 5 + 4, none⟩ (.int .i64 (-1))).heap.size := by
    have h1 := HS2.out.size
    have h2 := HP3.out.2.size
    have := HSZ.out
    omega
  have hO4 : OwnM base w.heap.size w4 ⟨s.tx, s.nb, s.ng, s.now, s.ns.set i ⟨xp, xd, xq, setLens xb ls, -1⟩, s.ls⟩ N L (ps.set i (⟨xp, xd, xq, setLens xb ls, -1⟩, ⟨ra, rn, rc⟩)) (some gb) gl := (HP3.out.1.own.at HPRE.out.m.1 HPRE.out.m.2.1 (set_blk HX.out HPRE.out.m.2.2)).below B4.out
  have hF4 : Free w.heap.size w4 (⟨xp, xd, xq, setLens xb ls, -1⟩, sx) := HF4.out.mono (by omega)
  have hst4 : Stay (Chg S base M0) w w4 := by
    have hge := (HPRE.out.free' HX.out).1.blk_ge
    have hgb := HPRE.out.lt
    refine (((Stay.of_below B1.out).trans HS2.out (fun k _ e => .inr ⟨hge k e, HPRE.out.m3 _ (List.mem_of_getElem? HX.out) k e⟩)).trans HP3.out.2 (fun k _ e => .inr ⟨by omega, by omega⟩)).then_below B4.out
  obtain ⟨hA, hD⟩ := DoneR.mk2 (b := zeroB) (x := ⟨xp, xd, xq, setLens xb ls, -1⟩) (sx := sx) HAN4.out (HP3.out.1.c.below B4.out) hO4 hF4 HPRE.out.bw hst4 (by omega) HPRE.out.bw HPRE.out.lt.2.2.1 (fun k hk => by have := HPRE.out.m1; have := HPRE.out.mw; cases hk; omega) (fun k hk => by have := HPRE.out.m2 k hk; have := HPRE.out.mw; omega) (fun z hz k hk => by have := set_blk HX.out HPRE.out.m3 z hz k hk; have := HPRE.out.mw; omega) (fun k hk => by have h1 := HF4.out.blk_ge k hk; have := hsz3; omega)
  have k0 := hA.c0
  have k1 := hA.c1
  have k2 := hA.c2
  have k3 := hA.c3
  have k4 := hA.c4
  have k5 := hA.c5
  have k6 := hA.c6
  have k7 := hA.c7
  have k8 := hA.c8
  have k9 := hA.c9
  have k10 := hA.c10
  unfold put11 noS at k0 k1 k2 k3 k4 k5 k6 k7 k8 k9 k10 hD; simp only [zeroB, anV] at k0 k1 k2 k3 k4 k5 k6 k7 k8 k9 k10 hD
  refine bodyPost_ret ?_ rfl hD
  simp only [results, Tryz.results62]
  simp [go_sem, k0, k1, k2, k3, k4, k5, k6, k7, k8, k9, k10]
end Go.Proofs.YtdilfbfkeiaafaaGreat.Spa
