/- Part 35 of the proof: SpaceL2, ImageF5, ImageF8, ImageF9, ImageG2, ImageF6, ImageF7, ImageG3, ImageR5, ImageR7, ImageG4. -/
import Derived.Test.YtigomhilcnnjdaaGreatB03
import Derived.Test.YtigomhilcnnjdaaGreatB16
import Derived.Test.YtigomhilcnnjdaaGreatB23
import Derived.Test.YtigomhilcnnjdaaGreatB28
import Derived.Test.YtigomhilcnnjdaaGreatB31
import Derived.Test.YtigomhilcnnjdaaGreatB34
import Derived.Deep.LoopGhost
import Derived.Deep.RegionLaw

/- A space in a box of the caller's own, edit by edit. No program in it. -/
namespace Go.Proofs.YtigomhilcnnjdaaGreat.Spa
open Go.RowKit Go.Proofs.YtigomhilcnnjdaaGreat
open Go.Proofs.YtigomhilcnnjdaaGreat.Lea (LS Ls findX putL renX LL LO LsR lsC wideL)
open Go.Proofs.YtigomhilcnnjdaaGreat.Edi (Ed Nm EdAt edV)

theorem OwnM.top {base M : Nat} {w : World} {s : Sp} {N L : RS} {ps : List NR} {g gl : Option Nat} (h : OwnM base M w s N L ps g gl) : OwnM base w.heap.size w s N L ps g gl :=
  ⟨h.lot, h.map, h.lo, h.gl1, h.gl2, fun k hk => by have := h.lot.cel; rw [hk] at this; exact this.lt.1, fun k hk => (h.lo.own k hk).1, fun x hx k hk => (h.lot.ok x hx).ok.bs.lt k hk⟩
theorem doS_is (s : Sp) (e : Ed) : appS s e 0 = doS s e := rfl

/-- In the block q lies the space s; its nodes and leases lie elsewhere, in memory of its own. -/
structure Now (w0 : World) (q : Nat) (w : World) (s : Sp) (N L : RS) : Prop where
  bel : Below w0.heap.size w0 w
  box : SpC w q s N L
  own : ∃ ps g gl base M, OwnM base M w s N L ps g gl ∧ (q < base ∨ M ≤ q)
  q0 : w0.heap.size ≤ q
theorem Now.below {w0 w w' : World} {q : Nat} {s : Sp} {N L : RS} (h : Now w0 q w s N L) (hb : Below w.heap.size w w') : Now w0 q w' s N L := by
  obtain ⟨ps, g, gl, base, M, h1, h2⟩ := h.own
  exact ⟨bel_tr h.bel hb, h.box.below hb, ⟨ps, g, gl, base, M, h1.below hb, h2⟩, h.q0⟩
theorem Now.spIn {w0 w : World} {q : Nat} {s : Sp} {N L : RS} (h : Now w0 q w s N L) : SpIn w s N L := by
  obtain ⟨ps, g, gl, base, M, h1, h2⟩ := h.own
  exact h1.spIn
theorem Now.lt {w0 w : World} {q : Nat} {s : Sp} {N L : RS} (h : Now w0 q w s N L) : q < w.heap.size := World.block_lt_of_cell? _ _ h.box.c0
theorem Now.put {w0 w : World} {q : Nat} {s t : Sp} {N L N' L' : RS} {ps : List NR} {g gl : Option Nat} {base M : Nat} (h : Now w0 q w s N L) (hO : OwnM base M w t N' L' ps g gl) (hq : q < base ∨ M ≤ q) : Now w0 q (put6 w q t N' L') t N' L' := by
  obtain ⟨p1, p2⟩ := put6_at h.box t N' L'
  exact ⟨((Stay.of_below (O := fun k => w0.heap.size ≤ k) h.bel).then_same (p2.mono (fun k hk => by rw [hk]; exact h.q0))).below (Nat.le_refl _) (fun k hk => hk), p1, ⟨ps, g, gl, base, M, hO.out p2 (fun k hk => by rw [hk]; exact hq), hq⟩, h.q0⟩
theorem Now.start {w0 w : World} {s : Sp} {N L : RS} {ps : List NR} {g gl : Option Nat} {base M : Nat} (hb : Below w0.heap.size w0 w) (hO : OwnM base M w s N L ps g gl) (t : TypeId) :
    Now w0 w.heap.size (w.alloc (.cells #[.int .i64 s.tx, .int .i64 s.nb, .int .i64 s.ng, .int .i64 s.now, .slice N.a N.n N.c, .slice L.a L.n L.c] t)) s N L :=
  ⟨bel_tr hb (bel_al _ _), SpC.new w t s N L, ⟨ps, g, gl, base, w.heap.size, hO.top.below (bel_al _ _), .inr (Nat.le_refl _)⟩, hb.size⟩

section
variable {w w2 : World} {t1 t2 : TypeId}
theorem sp_one (c : Below (World.drew (w.alloc (.cells #[.int .i64 0, .int .i64 0, .int .i64 0, .int .i64 0, .slice none 0 0, .slice none 0 0] t1))).heap.size (World.drew (w.alloc (.cells #[.int .i64 0, .int .i64 0, .int .i64 0, .int .i64 0, .slice none 0 0, .slice none 0 0] t1))) w2) : SpC w2 w.heap.size zeroS noS noS := (SpC.new w t1 zeroS noS noS).below (bel_tr (Edi.bel_drew _) c)
theorem an_one (c : Below (World.drew (w.alloc (.cells #[.int .i64 0, .int .i64 0, .int .i64 0, .int .i64 0, .slice none 0 0, .string ⟨#[]⟩, .bool false, .int .i64 0, .slice none 0 0, .int .i64 0, .int .i64 0] t2))).heap.size (World.drew (w.alloc (.cells #[.int .i64 0, .int .i64 0, .int .i64 0, .int .i64 0, .slice none 0 0, .string ⟨#[]⟩, .bool false, .int .i64 0, .slice none 0 0, .int .i64 0, .int .i64 0] t2))) w2) : AnC w2 w.heap.size 0 zeroB noS zeroX 0 := (AnC.new w t2).below (bel_tr (Edi.bel_drew _) c)
theorem sp_first (c : Below (World.drew ((w.alloc (.cells #[.int .i64 0, .int .i64 0, .int .i64 0, .int .i64 0, .slice none 0 0, .slice none 0 0] t1)).alloc (.cells #[.int .i64 0, .int .i64 0, .int .i64 0, .int .i64 0, .slice none 0 0, .string ⟨#[]⟩, .bool false, .int .i64 0, .slice none 0 0, .int .i64 0, .int .i64 0] t2))).heap.size (World.drew ((w.alloc (.cells #[.int .i64 0, .int .i64 0, .int .i64 0, .int .i64 0, .slice none 0 0, .slice none 0 0] t1)).alloc (.cells #[.int .i64 0, .int .i64 0, .int .i64 0, .int .i64 0, .slice none 0 0, .string ⟨#[]⟩, .bool false, .int .i64 0, .slice none 0 0, .int .i64 0, .int .i64 0] t2))) w2) : SpC w2 w.heap.size zeroS noS noS := ((SpC.new w t1 zeroS noS noS).below (bel_al _ _)).below (bel_tr (Edi.bel_drew _) c)
theorem an_second (c : Below (World.drew ((w.alloc (.cells #[.int .i64 0, .int .i64 0, .int .i64 0, .int .i64 0, .slice none 0 0, .slice none 0 0] t1)).alloc (.cells #[.int .i64 0, .int .i64 0, .int .i64 0, .int .i64 0, .slice none 0 0, .string ⟨#[]⟩, .bool false, .int .i64 0, .slice none 0 0, .int .i64 0, .int .i64 0] t2))).heap.size (World.drew ((w.alloc (.cells #[.int .i64 0, .int .i64 0, .int .i64 0, .int .i64 0, .slice none 0 0, .slice none 0 0] t1)).alloc (.cells #[.int .i64 0, .int .i64 0, .int .i64 0, .int .i64 0, .slice none 0 0, .string ⟨#[]⟩, .bool false, .int .i64 0, .slice none 0 0, .int .i64 0, .int .i64 0] t2))) w2) : AnC w2 (w.heap.size + 1) 0 zeroB noS zeroX 0 := by
  have h := (AnC.new (w.alloc (.cells #[.int .i64 0, .int .i64 0, .int .i64 0, .int .i64 0, .slice none 0 0, .slice none 0 0] t1)) t2).below (bel_tr (Edi.bel_drew _) c)
  rwa [show (w.alloc (.cells #[.int .i64 0, .int .i64 0, .int .i64 0, .int .i64 0, .slice none 0 0, .slice none 0 0] t1)).heap.size = w.heap.size + 1 by simp] at h
theorem an_first (c : Below (World.drew ((w.alloc (.cells #[.int .i64 0, .int .i64 0, .int .i64 0, .int .i64 0, .slice none 0 0, .string ⟨#[]⟩, .bool false, .int .i64 0, .slice none 0 0, .int .i64 0, .int .i64 0] t2)).alloc (.cells #[.int .i64 0, .int .i64 0, .int .i64 0, .int .i64 0, .slice none 0 0, .slice none 0 0] t1))).heap.size (World.drew ((w.alloc (.cells #[.int .i64 0, .int .i64 0, .int .i64 0, .int .i64 0, .slice none 0 0, .string ⟨#[]⟩, .bool false, .int .i64 0, .slice none 0 0, .int .i64 0, .int .i64 0] t2)).alloc (.cells #[.int .i64 0, .int .i64 0, .int .i64 0, .int .i64 0, .slice none 0 0, .slice none 0 0] t1))) w2) : AnC w2 w.heap.size 0 zeroB noS zeroX 0 := ((AnC.new w t2).below (bel_al _ _)).below (bel_tr (Edi.bel_drew _) c)
theorem sp_second (c : Below (World.drew ((w.alloc (.cells #[.int .i64 0, .int .i64 0, .int .i64 0, .int .i64 0, .slice none 0 0, .string ⟨#[]⟩, .bool false, .int .i64 0, .slice none 0 0, .int .i64 0, .int .i64 0] t2)).alloc (.cells #[.int .i64 0, .int .i64 0, .int .i64 0, .int .i64 0, .slice none 0 0, .slice none 0 0] t1))).heap.size (World.drew ((w.alloc (.cells #[.int .i64 0, .int .i64 0, .int .i64 0, .int .i64 0, .slice none 0 0, .string ⟨#[]⟩, .bool false, .int .i64 0, .slice none 0 0, .int .i64 0, .int .i64 0] t2)).alloc (.cells #[.int .i64 0, .int .i64 0, .int .i64 0, .int .i64 0, .slice none 0 0, .slice none 0 0] t1))) w2) : SpC w2 (w.heap.size + 1) zeroS noS noS := by
  have h := (SpC.new (w.alloc (.cells #[.int .i64 0, .int .i64 0, .int .i64 0, .int .i64 0, .slice none 0 0, .string ⟨#[]⟩, .bool false, .int .i64 0, .slice none 0 0, .int .i64 0, .int .i64 0] t2)) t1 zeroS noS noS).below (bel_tr (Edi.bel_drew _) c)
  rwa [show (w.alloc (.cells #[.int .i64 0, .int .i64 0, .int .i64 0, .int .i64 0, .slice none 0 0, .string ⟨#[]⟩, .bool false, .int .i64 0, .slice none 0 0, .int .i64 0, .int .i64 0] t2)).heap.size = w.heap.size + 1 by simp] at h
end
/-- What Apply tells, by names. -/
structure ApR (B : Nat) (t : Sp) (E : Int) (b : Blk) (x : Nd) (r : Ending) (w' : World) : Prop where
  ex : ∃ N L ps g gl base M sx, r = .returned (.tuple #[spV t N L, anV E b noS (x, sx) 0]) ∧ OwnM base M w' t N L ps g gl ∧ Free M w' (x, sx) ∧ B ≤ base ∧ base ≤ M
theorem bel_dal (w : World) (o : Obj) : Below w.drew.heap.size w.drew (w.alloc o).drew := (bel_al w.drew o)
theorem bel_daal (w : World) (o p : Obj) : Below (w.alloc o).drew.heap.size (w.alloc o).drew ((w.alloc o).alloc p).drew := (bel_al (w.alloc o).drew p)
theorem an_sec (w : World) {t1 t2 : TypeId} : AnC ((w.alloc (.cells #[.int .i64 0, .int .i64 0, .int .i64 0, .int .i64 0, .slice none 0 0, .slice none 0 0] t1)).alloc (.cells #[.int .i64 0, .int .i64 0, .int .i64 0, .int .i64 0, .slice none 0 0, .string ⟨#[]⟩, .bool false, .int .i64 0, .slice none 0 0, .int .i64 0, .int .i64 0] t2)) (w.heap.size + 1) 0 zeroB noS zeroX 0 := by
  have h := AnC.new (w.alloc (.cells #[.int .i64 0, .int .i64 0, .int .i64 0, .int .i64 0, .slice none 0 0, .slice none 0 0] t1)) t2
  rwa [show (w.alloc (.cells #[.int .i64 0, .int .i64 0, .int .i64 0, .int .i64 0, .slice none 0 0, .slice none 0 0] t1)).heap.size = w.heap.size + 1 by simp] at h
theorem sp_sec (w : World) {t1 t2 : TypeId} : SpC ((w.alloc (.cells #[.int .i64 0, .int .i64 0, .int .i64 0, .int .i64 0, .slice none 0 0, .string ⟨#[]⟩, .bool false, .int .i64 0, .slice none 0 0, .int .i64 0, .int .i64 0] t2)).alloc (.cells #[.int .i64 0, .int .i64 0, .int .i64 0, .int .i64 0, .slice none 0 0, .slice none 0 0] t1)) (w.heap.size + 1) zeroS noS noS := by
  have h := SpC.new (w.alloc (.cells #[.int .i64 0, .int .i64 0, .int .i64 0, .int .i64 0, .slice none 0 0, .string ⟨#[]⟩, .bool false, .int .i64 0, .slice none 0 0, .int .i64 0, .int .i64 0] t2)) t1 zeroS noS noS
  rwa [show (w.alloc (.cells #[.int .i64 0, .int .i64 0, .int .i64 0, .int .i64 0, .slice none 0 0, .string ⟨#[]⟩, .bool false, .int .i64 0, .slice none 0 0, .int .i64 0, .int .i64 0] t2)).heap.size = w.heap.size + 1 by simp] at h
/-- Behind an edit: in tq lies the space that came, in aq the answer. -/
structure Land (wr : World) (W : World) (tq aq : Nat) (t : Sp) (N L : RS) (E : Int) (b : Blk) (x : Nd) (sx : RS) : Prop where
  bel : Below wr.heap.size wr W
  box : SpC W tq t N L
  an : AnC W aq E b noS (x, sx) 0
  own : ∃ ps g gl base M, OwnM base M W t N L ps g gl ∧ wr.heap.size ≤ base ∧ Free base W (x, sx)
theorem Land.below {wr W W' : World} {tq aq : Nat} {t : Sp} {N L : RS} {E : Int} {b : Blk} {x : Nd} {sx : RS} (h : Land wr W tq aq t N L E b x sx) (hb : Below W.heap.size W W') : Land wr W' tq aq t N L E b x sx := by
  obtain ⟨ps, g, gl, base, M, h1, h2, h3⟩ := h.own
  exact ⟨bel_tr h.bel hb, h.box.below hb, h.an.below hb, ps, g, gl, base, M, h1.below hb, h2, h3.below hb⟩
/-- What came is put in the place of what was there. -/
theorem Land.put {w0 wr W : World} {q tq aq : Nat} {s t : Sp} {N L N1 L1 : RS} {E : Int} {b : Blk} {x : Nd} {sx : RS} (h : Land wr W tq aq t N1 L1 E b x sx) (hN : Now w0 q W s N L) (hq : q < wr.heap.size) : Now w0 q (put6 W q t N1 L1) t N1 L1 := by
  obtain ⟨ps, g, gl, base, M, h1, h2, h3⟩ := h.own
  exact hN.put h1 (.inl (by omega))
theorem Land.parts {wr W : World} {tq aq : Nat} {t : Sp} {N L : RS} {E : Int} {b : Blk} {x : Nd} {sx : RS} (h : Land wr W tq aq t N L E b x sx) : ∃ nb off ps, Nds W N.a nb off ps ∧ ps.length = N.n ∧ ps.map (·.1) = t.ns ∧ LL W L.a L.n L.c t.ls := by
  obtain ⟨ps, g, gl, base, M, h1, h2, h3⟩ := h.own
  obtain ⟨nb, hb⟩ := h1.lot.nds
  exact ⟨nb, 0, ps, hb, h1.lot.len, h1.map, h1.lo.ll⟩
theorem put6_def (w : World) (b : Nat) (s : Sp) (N L : RS) : put6 w b s N L = (((((w.setCell ⟨b, 0, none⟩ (.int .i64 s.tx)).setCell ⟨b, 1, none⟩ (.int .i64 s.nb)).setCell ⟨b, 2, none⟩ (.int .i64 s.ng)).setCell ⟨b, 3, none⟩ (.int .i64 s.now)).setCell ⟨b, 4, none⟩ (.slice N.a N.n N.c)).setCell ⟨b, 5, none⟩ (.slice L.a L.n L.c) := rfl
theorem put11_def (w : World) (B : Nat) (E : Int) (b : Blk) (T : RS) (x : NR) (n : Int) : put11 w B E b T x n = (((((((((((w.setCell ⟨B, 0, none⟩ (.int .i64 E)).setCell ⟨B, 1, none⟩ (.int .i64 b.id)).setCell ⟨B, 2, none⟩ (.int .i64 b.gen)).setCell ⟨B, 3, none⟩ (.int .i64 b.len)).setCell ⟨B, 4, none⟩ (.slice T.a T.n T.c)).setCell ⟨B, 5, none⟩ (.string x.1.path)).setCell ⟨B, 6, none⟩ (.bool x.1.dir)).setCell ⟨B, 7, none⟩ (.int .i64 x.1.quota)).setCell ⟨B, 8, none⟩ (.slice x.2.a x.2.n x.2.c)).setCell ⟨B, 9, none⟩ (.int .i64 x.1.wr)).setCell ⟨B, 10, none⟩ (.int .i64 n)) := rfl
theorem bel_put6 {w0 w : World} {b : Nat} {s0 : Sp} {N0 L0 : RS} (hb : Below w0.heap.size w0 w) (hS : SpC w b s0 N0 L0) (h : w0.heap.size ≤ b) (s : Sp) (N L : RS) : Below w0.heap.size w0 (put6 w b s N L) :=
  ((Stay.of_below (O := fun k => w0.heap.size ≤ k) hb).then_same ((put6_at hS s N L).2.mono (fun k hk => by rw [hk]; exact h))).below (Nat.le_refl _) (fun k hk => hk)
theorem bel_put11 {w0 w : World} {B : Nat} {E0 : Int} {b0 : Blk} {T0 : RS} {x0 : NR} {n0 : Int} (hb : Below w0.heap.size w0 w) (hA : AnC w B E0 b0 T0 x0 n0) (h : w0.heap.size ≤ B) (E : Int) (b : Blk) (T : RS) (x : NR) (n : Int) : Below w0.heap.size w0 (put11 w B E b T x n) :=
  ((Stay.of_below (O := fun k => w0.heap.size ≤ k) hb).then_same ((put11_at hA E b T x n).2.mono (fun k hk => by rw [hk]; exact h))).below (Nat.le_refl _) (fun k hk => hk)
theorem an_put6 {w7 : World} {tq aq : Nat} {t : Sp} {N1 L1 : RS} (FS : SpC w7 tq zeroS noS noS) (FA : AnC w7 aq 0 zeroB noS zeroX 0) (hne : tq ≠ aq) : AnC (put6 w7 tq t N1 L1) aq 0 zeroB noS zeroX 0 :=
  FA.keep (put6_at FS t N1 L1).2 (fun e => hne e.symm)
theorem land_of {wr w5 w7 : World} {tq aq : Nat} {t : Sp} {N1 L1 : RS} {ps : List NR} {g gl : Option Nat} {base1 M1 : Nat} {E : Int} {bk : Blk} {x : Nd} {sx1 : RS} (hO : OwnM base1 w5.heap.size w5 t N1 L1 ps g gl) (hF : Free M1 w5 (x, sx1)) (hbM : base1 ≤ M1) (hwb : wr.heap.size ≤ base1) (hb : Below wr.heap.size wr w7) (bl : Below w5.heap.size w5 w7) (FS : SpC w7 tq zeroS noS noS) (FA : AnC w7 aq 0 zeroB noS zeroX 0) (hne : tq ≠ aq) (h1 : tq < base1 ∨ w5.heap.size ≤ tq) (h2 : aq < base1 ∨ w5.heap.size ≤ aq) (q1 : wr.heap.size ≤ tq) (q2 : wr.heap.size ≤ aq) :
    Land wr (put11 (put6 w7 tq t N1 L1) aq E bk noS (x, sx1) 0) tq aq t N1 L1 E bk x sx1 := by
  obtain ⟨p1, p2⟩ := put6_at FS t N1 L1
  have FA2 := an_put6 (t := t) (N1 := N1) (L1 := L1) FS FA hne
  obtain ⟨r1, r2⟩ := put11_at FA2 E bk noS (x, sx1) 0
  refine ⟨bel_put11 (bel_put6 hb FS q1 _ _ _) FA2 q2 _ _ _ _ _, p1.keep r2 hne, r1, ps, g, gl, base1, w5.heap.size, ((hO.below bl).out p2 (fun k hk => by rw [hk]; exact h1)).out r2 (fun k hk => by rw [hk]; exact h2), hwb, ?_⟩
  have hk1 : ∀ k, (x, sx1).2.blk = some k → M1 ≤ k ∧ k < w5.heap.size := fun k hk => ⟨hF.blk_ge k hk, hF.ok.bs.lt k hk⟩
  exact (Stay.free (Stay.free (hF.below bl) p2 (fun k hk e => by have := hk1 k hk; omega)) r2 (fun k hk e => by have := hk1 k hk; omega)).mono hbM

theorem OwnM.nodes {base M : Nat} {w : World} {s : Sp} {N L : RS} {ps : List NR} {g gl : Option Nat} (h : OwnM base M w s N L ps g gl) : ∃ b off, Nds w N.a b off ps ∧ ps.length = N.n ∧ ps.map (·.1) = s.ns := by
  obtain ⟨b, hb⟩ := h.lot.nds
  exact ⟨b, 0, hb, h.lot.len, h.map⟩

end Go.Proofs.YtigomhilcnnjdaaGreat.Spa

/- The contracts of image.within, readLease and readHead. -/
namespace Go.Proofs.YtigomhilcnnjdaaGreat.Img
open Go.RowKit Go.Proofs.YtigomhilcnnjdaaGreat Go.Proofs.YtigomhilcnnjdaaGreat.Smm
open Go.Proofs.YtigomhilcnnjdaaGreat.Spa (Sp RtS zeroS newS spV SpIn SpC put6 put6_at put6_def noS bel_put6)
open Go.Proofs.YtigomhilcnnjdaaGreat.Lea (LS Ls LL)
open Go.Proofs.YtigomhilcnnjdaaGreat.Edi (numsB takeN bel_tr bel_al bel_cell)

set_option maxRecDepth 100000 in
theorem within_i (n lo hi : Int) (v : Bool) (w : World) (hv : (decide (lo ≤ n) && decide (n ≤ hi)) = v) :
    Calls Tryz.prog 24 #[.int .i64 n, .int .i64 lo, .int .i64 hi] w fun e w' => e = .returned (.bool v) ∧ w' = w := by
  go_enter Tryz.func24, Tryz.ntmps24
  by_cases h1 : lo ≤ n
  · by_cases h2 : n ≤ hi
    · obtain rfl : v = true := by rw [← hv]; simp [h1, h2]
      clear hv
      go_wp2
      go_ret
      exact ⟨rfl, rfl⟩
    · obtain rfl : v = false := by rw [← hv]; simp [h2]
      clear hv
      go_wp2
      go_ret
      exact ⟨rfl, rfl⟩
  · obtain rfl : v = false := by rw [← hv]; simp [h1]
    clear hv
    go_wp2
    go_ret
    exact ⟨rfl, rfl⟩

structure LeaseR (part : ByteArray) (e : Ending) : Prop where
  ex : ∃ (c u : Int) (v : Bool), e = .returned (.tuple #[.agg #[.int .i64 c, .int .i64 u], .bool v]) ∧ (v = true → part = leaseP ⟨c, u⟩ ∧ FitL ⟨c, u⟩) ∧ (v = false → ∀ l, FitL l → part ≠ leaseP l)

set_option maxRecDepth 100000 in
set_option maxHeartbeats 2000000 in
theorem readLease_val (part : ByteArray) (w : World) (hp : part.size ≤ maxLen) :
    Calls Tryz.prog 28 #[.string part] w fun e w' => LeaseR part e ∧ Below w.heap.size w w' := by
  obtain ⟨⟨z0, s1⟩, h0⟩ : ∃ x, numS (part, true) = x := ⟨_, rfl⟩
  obtain ⟨⟨z1, s2⟩, h1⟩ : ∃ x, numS s1 = x := ⟨_, rfl⟩
  obtain ⟨u, hu⟩ : ∃ x, endB s2 = x := ⟨_, rfl⟩
  have HI : Hid (LeaseR part (.returned (.tuple #[.agg #[.int .i64 z0, .int .i64 z1], .bool u]))) := ⟨z0, z1, u, rfl, fun e => (lease_iff h0 h1).1 (hu.trans e), fun e => (lease_iff h0 h1).2 (hu.trans e)⟩
  have HP : Hid (part.size ≤ maxLen) := hp
  have H0 : Hid (numS (part, true) = (z0, s1)) := h0
  have H1 : Hid (numS s1 = (z1, s2)) := h1
  have HE : Hid (endB s2 = u) := hu
  clear h0 h1 hu hp
  go_enter Tryz.func28, Tryz.ntmps28
  go_wp2_with fail
  refine (over_val part _ HP.out).mono ?_
  rintro e w1 ⟨bl, bs, rfl, hB, hl, hs, b1⟩
  have hsz : ∀ o : Obj, (w.alloc o).heap.size = w.heap.size + 1 := fun o => by simp
  rw [hsz] at hl hs
  have r0 := bel_cell b1 (World.cell?_alloc_new w _ _ 0)
  have r1 := bel_cell b1 (World.cell?_alloc_new w _ _ 1)
  have f0 := Stay.frozen (Stay.of_below (O := fun _ => False) b1) (World.cell?_alloc_new w _ _ 0) (World.frozen?_alloc_new w _ _ 0) id
  have f1 := Stay.frozen (Stay.of_below (O := fun _ => False) b1) (World.cell?_alloc_new w _ _ 1) (World.frozen?_alloc_new w _ _ 1) id
  have B1 : Hid (Below w.heap.size w w1) := bel_tr (bel_al _ _) b1
  have HB1 : Hid (Bx w1 bl bs (part, true)) := hB
  have HR : Hid ((w1.cell? ⟨w.heap.size, 0, none⟩ = some (.int .i64 0) ∧ w1.cell? ⟨w.heap.size, 1, none⟩ = some (.int .i64 0)) ∧ w1.frozen? ⟨w.heap.size, 0, none⟩ = false ∧ w1.frozen? ⟨w.heap.size, 1, none⟩ = false) := ⟨⟨r0, r1⟩, f0, f1⟩
  clear b1 hB hsz r0 r1 f0 f1
  go_wp2_with fail
  refine (num_cl HB1.out z0 s1 H0.out).mono ?_
  rintro e w2 ⟨rfl, hB2, st2⟩
  have HB2 : Hid (Bx w2 bl bs s1) := hB2
  have S2 : Hid (Stay (Two bl bs) w1 w2) := st2
  clear hB2 st2
  go_wp2_with fail
  refine (num_cl HB2.out z1 s2 H1.out).mono ?_
  rintro e w3 ⟨rfl, hB3, st3⟩
  have HB3 : Hid (Bx w3 bl bs s2) := hB3
  have S3 : Hid (Stay (Two bl bs) w1 w3) := S2.out.then_same st3
  clear hB3 st3
  go_wp2_with fail
  refine (end_cl HB3.out u HE.out).mono ?_
  rintro e w4 ⟨rfl, rfl⟩
  have hn : ¬ Two bl bs w.heap.size := fun e => by rcases e with e | e <;> omega
  have x0 := Stay.cell S3.out HR.out.1.1 hn
  have x1 := Stay.cell S3.out HR.out.1.2 hn
  have f0 := Stay.frozen S3.out HR.out.1.1 HR.out.2.1 hn
  have f1 := Stay.frozen S3.out HR.out.1.2 HR.out.2.2 hn
  have B3 : Hid (Below w.heap.size w w4) := bel_stay B1.out S3.out (fun k hk => by rcases hk with rfl | rfl <;> omega)
  go_wp2
  have hb5 := (B3.out.setCell (p := ⟨w.heap.size, 0, none⟩) (Nat.le_refl _) (.int .i64 z0)).setCell (p := ⟨w.heap.size, 1, none⟩) (Nat.le_refl _) (.int .i64 z1)
  have y1 : (w4.setCell ⟨w.heap.size, 0, none⟩ (.int .i64 z0)).cell? ⟨w.heap.size, 1, none⟩ = some (.int .i64 0) := by rw [World.cell?_setCell_other _ _ _ _ (by simp)]; exact x1
  have y0 : (w4.setCell ⟨w.heap.size, 0, none⟩ (.int .i64 z0)).cell? ⟨w.heap.size, 0, none⟩ = some (.int .i64 z0) := World.cell?_setCell_same _ _ _ x0
  have q1 : ((w4.setCell ⟨w.heap.size, 0, none⟩ (.int .i64 z0)).setCell ⟨w.heap.size, 1, none⟩ (.int .i64 z1)).cell? ⟨w.heap.size, 1, none⟩ = some (.int .i64 z1) := World.cell?_setCell_same _ _ _ y1
  have q0 : ((w4.setCell ⟨w.heap.size, 0, none⟩ (.int .i64 z0)).setCell ⟨w.heap.size, 1, none⟩ (.int .i64 z1)).cell? ⟨w.heap.size, 0, none⟩ = some (.int .i64 z0) := by rw [World.cell?_setCell_other _ _ _ _ (by simp)]; exact y0
  refine bodyPost_ret (v := .tuple #[.agg #[.int .i64 z0, .int .i64 z1], .bool u]) ?_ rfl ⟨HI.out, hb5⟩
  generalize (w4.setCell ⟨w.heap.size, 0, none⟩ (.int .i64 z0)).setCell ⟨w.heap.size, 1, none⟩ (.int .i64 z1) = W9 at *
  simp only [results, Tryz.results28]
  simp [go_sem, q0, q1]

end Go.Proofs.YtigomhilcnnjdaaGreat.Img

/- A node that is read, in memory. No program in it but the step of a call. -/
namespace Go.Proofs.YtigomhilcnnjdaaGreat.Img
open Go.RowKit Go.Proofs.YtigomhilcnnjdaaGreat Go.Proofs.YtigomhilcnnjdaaGreat.Smm
open Go.Proofs.YtigomhilcnnjdaaGreat.Spa (noS zeroN)
open Go.Proofs.YtigomhilcnnjdaaGreat.Edi (bel_tr bel_al bel_cell bel_drew)

/-- In the block b lies a node. -/
structure NdC (w : World) (b : Nat) (x : NR) : Prop where
  c0 : w.cell? ⟨b, 0, none⟩ = some (.string x.1.path)
  c1 : w.cell? ⟨b, 1, none⟩ = some (.bool x.1.dir)
  c2 : w.cell? ⟨b, 2, none⟩ = some (.int .i64 x.1.quota)
  c3 : w.cell? ⟨b, 3, none⟩ = some (.slice x.2.a x.2.n x.2.c)
  c4 : w.cell? ⟨b, 4, none⟩ = some (.int .i64 x.1.wr)
  fr : ∀ j, w.frozen? ⟨b, j, none⟩ = false
theorem NdC.keep {O : Nat → Prop} {w w' : World} {b : Nat} {x : NR} (h : NdC w b x) (hs : Stay O w w') (hO : ¬ O b) : NdC w' b x :=
  ⟨Stay.cell hs h.c0 hO, Stay.cell hs h.c1 hO, Stay.cell hs h.c2 hO, Stay.cell hs h.c3 hO, Stay.cell hs h.c4 hO, fun j =>
    (World.frozen?_of_block (a := ⟨b, j, none⟩) (hs.block b (World.block_lt_of_cell? _ _ h.c0) hO)).trans (h.fr j)⟩
theorem NdC.below {w w' : World} {b : Nat} {x : NR} (h : NdC w b x) (hb : Below w.heap.size w w') : NdC w' b x := h.keep (Stay.of_below (O := fun _ => False) hb) id
theorem NdC.lt {w : World} {b : Nat} {x : NR} (h : NdC w b x) : b < w.heap.size := World.block_lt_of_cell? _ _ h.c0
theorem NdC.new (w : World) (t : TypeId) (x : NR) : NdC (w.alloc (.cells #[.string x.1.path, .bool x.1.dir, .int .i64 x.1.quota, .slice x.2.a x.2.n x.2.c, .int .i64 x.1.wr] t)) w.heap.size x :=
  ⟨World.cell?_alloc_new w _ _ 0, World.cell?_alloc_new w _ _ 1, World.cell?_alloc_new w _ _ 2, World.cell?_alloc_new w _ _ 3, World.cell?_alloc_new w _ _ 4, fun j => World.frozen?_alloc_new w _ _ j⟩
theorem frz {w : World} {a b : Addr} {v : Value} : (w.setCell a v).frozen? b = w.frozen? b := World.frozen?_setCell ..
theorem oth {w : World} {b i j : Nat} {v : Value} (h : i ≠ j) : (w.setCell ⟨b, i, none⟩ v).cell? ⟨b, j, none⟩ = w.cell? ⟨b, j, none⟩ := World.cell?_setCell_other _ _ _ _ (by simp <;> omega)
theorem NdC.dir {w : World} {b : Nat} {x : NR} (h : NdC w b x) (d : Bool) : NdC (w.setCell ⟨b, 1, none⟩ (.bool d)) b (⟨x.1.path, d, x.1.quota, x.1.bs, x.1.wr⟩, x.2) :=
  ⟨(oth (by omega)).trans h.c0, World.cell?_setCell_same _ _ _ h.c1, (oth (by omega)).trans h.c2, (oth (by omega)).trans h.c3, (oth (by omega)).trans h.c4, fun j => frz.trans (h.fr j)⟩
theorem NdC.quota {w : World} {b : Nat} {x : NR} (h : NdC w b x) (q : Int) : NdC (w.setCell ⟨b, 2, none⟩ (.int .i64 q)) b (⟨x.1.path, x.1.dir, q, x.1.bs, x.1.wr⟩, x.2) :=
  ⟨(oth (by omega)).trans h.c0, (oth (by omega)).trans h.c1, World.cell?_setCell_same _ _ _ h.c2, (oth (by omega)).trans h.c3, (oth (by omega)).trans h.c4, fun j => frz.trans (h.fr j)⟩
theorem NdC.blocks {w : World} {b : Nat} {x : NR} (h : NdC w b x) (bs : List Blk) (a : Option Addr) (n c : Nat) : NdC (w.setCell ⟨b, 3, none⟩ (.slice a n c)) b (⟨x.1.path, x.1.dir, x.1.quota, bs, x.1.wr⟩, ⟨a, n, c⟩) :=
  ⟨(oth (by omega)).trans h.c0, (oth (by omega)).trans h.c1, (oth (by omega)).trans h.c2, World.cell?_setCell_same _ _ _ h.c3, (oth (by omega)).trans h.c4, fun j => frz.trans (h.fr j)⟩
theorem NdC.writer {w : World} {b : Nat} {x : NR} (h : NdC w b x) (q : Int) : NdC (w.setCell ⟨b, 4, none⟩ (.int .i64 q)) b (⟨x.1.path, x.1.dir, x.1.quota, x.1.bs, q⟩, x.2) :=
  ⟨(oth (by omega)).trans h.c0, (oth (by omega)).trans h.c1, (oth (by omega)).trans h.c2, (oth (by omega)).trans h.c3, World.cell?_setCell_same _ _ _ h.c4, fun j => frz.trans (h.fr j)⟩
/-- A whole node is put into a box. -/
def putN (w : World) (b : Nat) (x : NR) : World := ((((w.setCell ⟨b, 0, none⟩ (.string x.1.path)).setCell ⟨b, 1, none⟩ (.bool x.1.dir)).setCell ⟨b, 2, none⟩ (.int .i64 x.1.quota)).setCell ⟨b, 3, none⟩ (.slice x.2.a x.2.n x.2.c)).setCell ⟨b, 4, none⟩ (.int .i64 x.1.wr)
theorem NdC.path {w : World} {b : Nat} {x : NR} (h : NdC w b x) (p : ByteArray) : NdC (w.setCell ⟨b, 0, none⟩ (.string p)) b (⟨p, x.1.dir, x.1.quota, x.1.bs, x.1.wr⟩, x.2) :=
  ⟨World.cell?_setCell_same _ _ _ h.c0, (oth (by omega)).trans h.c1, (oth (by omega)).trans h.c2, (oth (by omega)).trans h.c3, (oth (by omega)).trans h.c4, fun j => frz.trans (h.fr j)⟩
theorem putN_at {w : World} {b : Nat} {x0 : NR} (h : NdC w b x0) (x : NR) : NdC (putN w b x) b x ∧ Stay (fun k => k = b) w (putN w b x) := by
  refine ⟨((((h.path x.1.path).dir x.1.dir).quota x.1.quota).blocks x.1.bs x.2.a x.2.n x.2.c).writer x.1.wr, ?_⟩
  have k : ∀ (W : World) (i : Nat) (v : Value), Stay (fun k => k = b) W (W.setCell ⟨b, i, none⟩ v) := fun W i v => Stay.setCell W ⟨b, i, none⟩ v rfl
  exact ((((k w 0 _).then_same (k _ 1 _)).then_same (k _ 2 _)).then_same (k _ 3 _)).then_same (k _ 4 _)

/-- Four blocks of the call's own, each another one. -/
structure Dis (B bl bs Q R : Nat) : Prop where
  l : B ≤ bl
  s : B ≤ bs
  q : B ≤ Q
  r : B ≤ R
  ls : bl ≠ bs
  ql : Q ≠ bl
  qs : Q ≠ bs
  rl : R ≠ bl
  rs : R ≠ bs
  rq : R ≠ Q
abbrev Ob (B bl bs Q R : Nat) : Nat → Prop := fun k => B ≤ k ∧ k ≠ bl ∧ k ≠ bs ∧ k ≠ Q ∧ k ≠ R
/-- A node is being read: it lies in the box Q, its blocks in memory of the call's own. -/
structure InN (w0 : World) (bl bs Q R : Nat) (w : World) (s : St) (x : Nd) (rs : RS) (g : Option Nat) : Prop where
  bel : Below w0.heap.size w0 w
  bx : Bx w bl bs s
  n : NdC w Q (x, rs)
  r : NdC w R (zeroN, noS)
  cel : Cel (Ob w0.heap.size bl bs Q R) w 3 (.slice rs.a rs.n rs.c) rs.n (rowC blkC x.bs) g
  len : x.bs.length = rs.n
theorem Dis.nq {B bl bs Q R : Nat} (d : Dis B bl bs Q R) : ¬ Two bl bs Q := fun e => e.elim d.ql d.qs
theorem Dis.nr {B bl bs Q R : Nat} (d : Dis B bl bs Q R) : ¬ Two bl bs R := fun e => e.elim d.rl d.rs
theorem InN.num {w0 w w' : World} {bl bs Q R : Nat} {s s' : St} {x : Nd} {rs : RS} {g : Option Nat} (d : Dis w0.heap.size bl bs Q R) (h : InN w0 bl bs Q R w s x rs g) (hs : Stay (Two bl bs) w w') (hb : Bx w' bl bs s') : InN w0 bl bs Q R w' s' x rs g := by
  refine ⟨bel_stay h.bel hs (fun k hk => hk.elim (fun e => e ▸ d.l) (fun e => e ▸ d.s)), hb, h.n.keep hs d.nq, h.r.keep hs d.nr, h.cel.stay hs.size (fun k hk => ?_) (fun _ e => e), h.len⟩
  have hc := h.cel
  rw [hk] at hc
  obtain ⟨h1, h2⟩ := hc.lt
  exact hs.block k h1 (fun e => e.elim h2.2.1 h2.2.2.1)
theorem InN.below {w0 w w' : World} {bl bs Q R : Nat} {s : St} {x : Nd} {rs : RS} {g : Option Nat} (h : InN w0 bl bs Q R w s x rs g) (hb : Below w.heap.size w w') : InN w0 bl bs Q R w' s x rs g :=
  ⟨bel_tr h.bel hb, h.bx.below hb, h.n.below hb, h.r.below hb, h.cel.below hb, h.len⟩
/-- One cell of the box is written. -/
theorem InN.set {w0 w : World} {bl bs Q R : Nat} {s : St} {x y : Nd} {rs : RS} {g : Option Nat} (d : Dis w0.heap.size bl bs Q R) (h : InN w0 bl bs Q R w s x rs g) (k : Nat) (v : Value) (hy : NdC (w.setCell ⟨Q, k, none⟩ v) Q (y, rs)) (hbs : y.bs = x.bs) : InN w0 bl bs Q R (w.setCell ⟨Q, k, none⟩ v) s y rs g := by
  have hs : Stay (fun i => i = Q) w (w.setCell ⟨Q, k, none⟩ v) := Stay.setCell _ _ _ rfl
  refine ⟨bel_stay h.bel hs (fun i hi => hi ▸ d.q), h.bx.keep hs (fun e => d.ql e.symm) (fun e => d.qs e.symm), hy, h.r.keep hs d.rq, ?_, by rw [hbs]; exact h.len⟩
  rw [hbs]
  refine h.cel.stay hs.size (fun i hi => ?_) (fun _ e => e)
  have hc := h.cel
  rw [hi] at hc
  exact hs.block i hc.lt.1 hc.lt.2.2.2.2.1
/-- A block more. -/
theorem InN.push {w0 w w5 : World} {bl bs Q R : Nat} {s : St} {x : Nd} {rs : RS} {g g5 : Option Nat} {a5 : Option Addr} {c5 : Nat} {b : Blk} (d : Dis w0.heap.size bl bs Q R) (h : InN w0 bl bs Q R w s x rs g) (hsz : w0.heap.size ≤ w.heap.size) (hQ : Q < w.heap.size) (hR : R < w.heap.size)
    (hC : Cel (Grow (Ob w0.heap.size bl bs Q R) w w5) w5 3 (.slice a5 (rs.n + 1) c5) (rs.n + 1) (rowC blkC x.bs ++ blkC b) g5) (hS : Stay (fun k => g = some k) w w5) :
    InN w0 bl bs Q R (w5.setCell ⟨Q, 3, none⟩ (.slice a5 (rs.n + 1) c5)) s ⟨x.path, x.dir, x.quota, x.bs ++ [b], x.wr⟩ ⟨a5, rs.n + 1, c5⟩ g5 ∧ w5.cell? ⟨Q, 3, none⟩ = some (.slice rs.a rs.n rs.c) ∧ w5.frozen? ⟨Q, 3, none⟩ = false := by
  have hg : ∀ k, g = some k → Ob w0.heap.size bl bs Q R k := fun k hk => by have hc := h.cel; rw [hk] at hc; exact hc.lt.2
  have n5 := h.n.keep hS (fun e => (hg Q e).2.2.2.1 rfl)
  have hs2 : Stay (fun i => i = Q) w5 (w5.setCell ⟨Q, 3, none⟩ (.slice a5 (rs.n + 1) c5)) := Stay.setCell _ _ _ rfl
  have hbl := h.bx.lt
  refine ⟨⟨?_, ?_, n5.blocks _ _ _ _, ?_, ?_, by simp [h.len]⟩, n5.c3, n5.fr 3⟩
  · exact bel_stay (bel_stay h.bel hS (fun k hk => (hg k hk).1)) hs2 (fun i hi => hi ▸ d.q)
  · exact (h.bx.keep hS (fun e => (hg bl e).2.1 rfl) (fun e => (hg bs e).2.2.1 rfl)).keep hs2 (fun e => d.ql e.symm) (fun e => d.qs e.symm)
  · exact (h.r.keep hS (fun e => (hg R e).2.2.2.2 rfl)).keep hs2 d.rq
  · have e1 : rowC blkC x.bs ++ blkC b = rowC blkC (x.bs ++ [b]) := by simp [rowC]
    rw [e1] at hC
    have hO : ∀ k, Grow (Ob w0.heap.size bl bs Q R) w w5 k → Ob w0.heap.size bl bs Q R k := fun k hk => hk.elim id (fun e => ⟨by omega, by omega, by omega, by omega, by omega⟩)
    refine hC.stay hs2.size (fun k hk => ?_) hO
    have hc := hC
    rw [hk] at hc
    exact hs2.block k hc.lt.1 (hO k hc.lt.2).2.2.2.1

/-- A call of a function's value without arguments, as one step of a region that draws. -/
theorem step_fn {P : Program} {ops : Array Oper} {o : Oper} {a : Act} {w : World} {K : Act → World → Prop} {Q : Exit → Act → World → Prop} {E : Prop}
    (hgd : o.guard = none) (s : Operand) (ho : o.op = .call { callee := .value s, args := #[], argTypes := #[] }) (F : FuncId) (cap : Array Value) (hv : a.eval s = .func (.func F) #[] cap) (eg : ∀ w, (callFunc F cap).run P w = .ok (.enter F cap) w)
    {R : Ending → World → Prop} (hc : Calls P F cap w R) (v : Value) (hK : ∀ w', R (.returned v) w' → K (a.put o.dst v) w') (hno : ∀ e w', R e w' → e = .returned v) :
    if Region.wanted o (yielded ops a.tmps) = true then Oper.wp P o a w K Q else E := by
  have hw : Region.wanted o (yielded ops a.tmps) = true := by simp [Region.wanted, hgd]
  rw [if_pos hw]
  unfold Oper.wp
  simp [execOp, ho, resolve, invoke, hv, Deferred.ofValue, eg, Oper.upon_enter]
  refine hc.mono fun e w' h => ?_
  have := hno e w' h
  subst this
  exact hK w' h

end Go.Proofs.YtigomhilcnnjdaaGreat.Img

/- The contract of image.readNode. -/
namespace Go.Proofs.YtigomhilcnnjdaaGreat.Img
open Go.RowKit Go.Proofs.YtigomhilcnnjdaaGreat Go.Proofs.YtigomhilcnnjdaaGreat.Smm
open Go.Proofs.YtigomhilcnnjdaaGreat.Spa (noS zeroN)
open Go.Proofs.YtigomhilcnnjdaaGreat.Edi (bel_tr bel_al bel_cell bel_drew)

structure NodeR (base : Nat) (part : ByteArray) (e : Ending) (w' : World) : Prop where
  ex : ∃ (x : Nd) (rs : RS) (v : Bool), e = .returned (.tuple #[ndV (x, rs), .bool v]) ∧ Free base w' (x, rs) ∧ (v = true → part = nodeP x ∧ FitX x) ∧ (v = false → ∀ y, FitX y → part ≠ nodeP y)

theorem src_blk3 (w : World) (b : Blk) : Src Tryz.prog 3 53 (.slice (some ⟨w.heap.size, 0, none⟩) 1 1) 1 (blkC b) (w.alloc (.cells #[.int .i64 b.id, .int .i64 b.gen, .int .i64 b.len] 81)) := Spa.src_blk w b _ rfl
theorem InN.free {w0 w : World} {bl bs Q R : Nat} {s : St} {x : Nd} {rs : RS} {g : Option Nat} (h : InN w0 bl bs Q R w s x rs g) (hp : x.path.size ≤ maxLen) : Free w0.heap.size w (x, rs) :=
  free_of_cel (h.cel.stay (Nat.le_refl _) (fun _ _ => rfl) (fun _ e => e.1)) h.len rfl hp
/-- The node is put into the result's box. -/
theorem InN.ret {w0 w : World} {bl bs Q R : Nat} {s : St} {x : Nd} {rs : RS} {g : Option Nat} (d : Dis w0.heap.size bl bs Q R) (h : InN w0 bl bs Q R w s x rs g) (hp : x.path.size ≤ maxLen) : NdC (putN w R (x, rs)) R (x, rs) ∧ Free w0.heap.size (putN w R (x, rs)) (x, rs) ∧ Below w0.heap.size w0 (putN w R (x, rs)) := by
  obtain ⟨p1, p2⟩ := putN_at h.r (x, rs)
  refine ⟨p1, Stay.free (h.free hp) p2 (fun k hk e => ?_), bel_stay h.bel p2 (fun k hk => hk ▸ d.r)⟩
  subst e
  unfold RS.blk at hk
  split at hk
  · cases hk
  · rename_i hn
    obtain ⟨b, hb1, hb2⟩ := h.cel.at2 (by simp only at hn ⊢; omega)
    simp only at hk hb1
    rw [hb1] at hk
    have : b = k := by simpa using hk
    subst this
    have hc := h.cel
    rw [hb2] at hc
    exact hc.lt.2.2.2.2.2 rfl

set_option maxRecDepth 100000 in
set_option maxHeartbeats 8000000 in
theorem readNode_val (part : ByteArray) (w : World) (hp : part.size ≤ maxLen) :
    Calls Tryz.prog 26 #[.string part] w fun e w' => NodeR w.heap.size part e w' ∧ Below w.heap.size w w' := by
  obtain ⟨ti, hi1, hi2, hi3, hi4⟩ := blkRow
  obtain ⟨⟨p, s1⟩, h0⟩ : ∃ x, txtS (part, true) = x := ⟨_, rfl⟩
  obtain ⟨⟨z0, s2⟩, h1⟩ : ∃ x, numS s1 = x := ⟨_, rfl⟩
  obtain ⟨⟨z1, s3⟩, h2⟩ : ∃ x, numS s2 = x := ⟨_, rfl⟩
  obtain ⟨⟨z2, s4⟩, h3⟩ : ∃ x, numS s3 = x := ⟨_, rfl⟩
  obtain ⟨⟨z3, s5⟩, h4⟩ : ∃ x, numS s4 = x := ⟨_, rfl⟩
  have HPM : Hid (part.size ≤ maxLen) := hp
  have HPS : Hid (p.size ≤ maxLen) := by
    have h := txtS_small (part, true)
    rw [h0] at h
    show p.size ≤ maxLen
    unfold maxLen
    simp only at h
    omega
  have H0 : Hid (txtS (part, true) = (p, s1)) := h0
  have H1 : Hid (numS s1 = (z0, s2)) := h1
  have H2 : Hid (numS s2 = (z1, s3)) := h2
  have H3 : Hid (numS s3 = (z2, s4)) := h3
  have H4 : Hid (numS s4 = (z3, s5)) := h4
  clear h0 h1 h2 h3 h4 hp
  have hst := run_store_str
  have hst2 : ∀ (w : World) (a : Addr) (x : Option Addr) (n c : Nat) (m : Mode), (store a (.slice x n c) m).run Tryz.prog w = stored Tryz.prog w a (.slice x n c) m := fun w a x n c m => run_store_any w a _ m rfl
  go_enter Tryz.func26, Tryz.ntmps26
  go_wp2_with fail
  refine (over_val part _ HPM.out).mono ?_
  rintro e w1 ⟨bl, bs, rfl, hB, hl, hs, b1⟩
  have hsz : ∀ o : Obj, (w.alloc o).heap.size = w.heap.size + 1 := fun o => by simp
  have hw1 := b1.size
  rw [hsz] at hl hs hw1
  have R1 : Hid (NdC w1 w.heap.size (zeroN, noS)) := (NdC.new w 55 (zeroN, noS)).below b1
  have B1 : Hid (Below w.heap.size w w1) := bel_tr (bel_al _ _) b1
  have X1 : Hid (Bx w1 bl bs (part, true)) := hB
  clear b1 hB hsz
  go_wp2_with fail
  refine (txt_cl X1.out p s1 H0.out).mono ?_
  rintro e w2 ⟨rfl, hB2, st2⟩
  have R2 : Hid (NdC w2 w.heap.size (zeroN, noS)) := R1.out.keep st2 (fun e => by rcases e with e | e <;> omega)
  have B2 : Hid (Below w.heap.size w w2) := bel_stay B1.out st2 (fun k hk => by rcases hk with rfl | rfl <;> omega)
  have X2 : Hid (Bx w2 bl bs s1) := hB2
  have hq := hB2.lt
  have HRL : w.heap.size < w2.heap.size := by have := st2.size; omega
  have hne := hB2.ne
  clear hB2 st2 X1 R1 B1
  have HD : Hid (Dis w.heap.size bl bs w2.heap.size w.heap.size) := ⟨by omega, by omega, by omega, by omega, hne, by omega, by omega, by omega, by omega, by omega⟩
  have HIN : Hid (∀ t : TypeId, InN w bl bs w2.heap.size w.heap.size (w2.alloc (.cells #[.string p, .bool false, .int .i64 0, .slice none 0 0, .int .i64 0] t)) s1 ⟨p, false, 0, [], 0⟩ noS none) := fun t => ⟨bel_tr B2.out (bel_al _ _), X2.out.below (bel_al _ _), NdC.new w2 t (⟨p, false, 0, [], 0⟩, noS), R2.out.below (bel_al _ _), .nil rfl rfl rfl, rfl⟩
  go_wp2_with fail
  have I3 : Hid _ := HIN.out 55
  generalize w2.alloc (.cells #[.string p, .bool false, .int .i64 0, .slice none 0 0, .int .i64 0] 55) = W3 at *
  generalize w2.heap.size = Q at *
  refine (num_cl I3.out.bx z0 s2 H1.out).mono ?_
  rintro e w4 ⟨rfl, hB4, st4⟩
  have I4 : Hid (InN w bl bs Q w.heap.size w4 s2 ⟨p, false, 0, [], 0⟩ noS none) := I3.out.num HD.out st4 hB4
  clear hB4 st4 I3 HIN
  have I5 : Hid (InN w bl bs Q w.heap.size (w4.setCell ⟨Q, 1, none⟩ (.bool (z0 == 1))) s2 ⟨p, z0 == 1, 0, [], 0⟩ noS none) := I4.out.set HD.out 1 _ (I4.out.n.dir (z0 == 1)) rfl
  have y1 := I4.out.n.c1
  have f1 := I4.out.n.fr 1
  simp only at y1
  go_wp2_with fail
  clear y1 f1
  generalize w4.setCell ⟨Q, 1, none⟩ (.bool (z0 == 1)) = W5 at *
  refine (num_cl I5.out.bx z1 s3 H2.out).mono ?_
  rintro e w6 ⟨rfl, hB6, st6⟩
  have I6 : Hid (InN w bl bs Q w.heap.size w6 s3 ⟨p, z0 == 1, 0, [], 0⟩ noS none) := I5.out.num HD.out st6 hB6
  clear hB6 st6 I4 I5
  go_wp2_with fail
  refine (num_cl I6.out.bx z2 s4 H3.out).mono ?_
  rintro e w7 ⟨rfl, hB7, st7⟩
  have I7 : Hid (InN w bl bs Q w.heap.size w7 s4 ⟨p, z0 == 1, 0, [], 0⟩ noS none) := I6.out.num HD.out st7 hB7
  clear hB7 st7 I6
  have I8 : Hid (InN w bl bs Q w.heap.size (w7.setCell ⟨Q, 2, none⟩ (.int .i64 z1)) s4 ⟨p, z0 == 1, z1, [], 0⟩ noS none) := I7.out.set HD.out 2 _ (I7.out.n.quota z1) rfl
  have I9 : Hid (InN w bl bs Q w.heap.size ((w7.setCell ⟨Q, 2, none⟩ (.int .i64 z1)).setCell ⟨Q, 4, none⟩ (.int .i64 z2)) s4 ⟨p, z0 == 1, z1, [], z2⟩ noS none) := I8.out.set HD.out 4 _ (I8.out.n.writer z2) rfl
  have y2 := I7.out.n.c2
  have y4 := I7.out.n.c4
  have f2 := I7.out.n.fr 2
  have f4 := I7.out.n.fr 4
  simp only at y2 y4
  go_wp2_with fail
  clear y2 y4 f2 f4 I7 I8
  generalize (w7.setCell ⟨Q, 2, none⟩ (.int .i64 z1)).setCell ⟨Q, 4, none⟩ (.int .i64 z2) = W9 at *
  refine (num_cl I9.out.bx z3 s5 H4.out).mono ?_
  rintro e wa ⟨rfl, hBa, sta⟩
  have IA : Hid (InN w bl bs Q w.heap.size wa s5 ⟨p, z0 == 1, z1, [], z2⟩ noS none) := I9.out.num HD.out sta hBa
  clear hBa sta I9
  by_cases hk : (0 ≤ z0 ∧ z0 ≤ 1) ∧ (0 ≤ z3 ∧ z3 ≤ 8)
  · obtain ⟨⟨ha1, ha2⟩, hb1, hb2⟩ := hk
    have G1 : Hid ((decide (0 ≤ z0) && decide (z0 ≤ 1)) = true) := by simp [ha1, ha2, Hid]
    have G2 : Hid ((decide (0 ≤ z3) && decide (z3 ≤ 8)) = true) := by simp [hb1, hb2, Hid]
    obtain ⟨m, rfl⟩ : ∃ m : Nat, z3 = (m : Int) := ⟨z3.toNat, by omega⟩
    have HK : Hid (z0 = 0 ∨ z0 = 1) := by show z0 = 0 ∨ z0 = 1; omega
    have hm8 : m ≤ 8 := by omega
    obtain ⟨dd, hdd⟩ : ∃ d, (z0 == 1) = d := ⟨_, rfl⟩
    have HIF : Hid ((endB (blksS m s5).2 = true → part = nodeP ⟨p, dd, z1, (blksS m s5).1, z2⟩ ∧ FitX ⟨p, dd, z1, (blksS m s5).1, z2⟩) ∧ (endB (blksS m s5).2 = false → ∀ x, FitX x → part ≠ nodeP x)) := by
      rw [← hdd]
      exact node_iff H0.out H1.out H2.out H3.out H4.out HK.out hm8
    rw [hdd] at IA ⊢
    clear ha1 ha2 hb1 hb2 hdd H0 H1 H2 H3 H4 HK
    go_wp2_with (first
      | (go_at_call_of 24 (Value.int .i64 z0); refine (within_i z0 0 1 true _ G1.out).mono ?_; rintro e wq ⟨rfl, rfl⟩)
      | (go_at_call_of 24 (Value.int .i64 (m : Int)); refine (within_i (m : Int) 0 8 true _ G2.out).mono ?_; rintro e wq ⟨rfl, rfl⟩))
    rename World => w9
    go_loopw [42] (fun c wr => ∃ (i : Nat) (fa : Option Addr) (fc : Nat) (g : Option Nat), i ≤ m ∧ c = .int .i64 i ∧ InN w bl bs Q w.heap.size wr (blksS i s5).2 ⟨p, dd, z1, (blksS i s5).1, z2⟩ ⟨fa, i, fc⟩ g) (fun c _ => m - (intOf c).toNat)
    case atStart => exact ⟨0, none, 0, none, by omega, rfl, IA.out⟩
    case round =>
      obtain ⟨i, fa, fc, g, hi, rfl, hI⟩ := hrel
      by_cases hlt : i < m
      · have hnx := blksS_next i s5
        have hln := blksS_len i s5
        generalize (blksS i s5).2 = sI at *
        generalize (blksS i s5).1 = bI at *
        obtain ⟨⟨f1, t1⟩, h1⟩ : ∃ x, numS sI = x := ⟨_, rfl⟩
        obtain ⟨⟨f2, t2⟩, h2⟩ : ∃ x, numS t1 = x := ⟨_, rfl⟩
        obtain ⟨⟨f3, t3⟩, h3⟩ : ∃ x, numS t2 = x := ⟨_, rfl⟩
        simp only [h1, h2, h3] at hnx
        have N1 : Hid (numS sI = (f1, t1)) := h1
        have N2 : Hid (numS t1 = (f2, t2)) := h2
        have N3 : Hid (numS t2 = (f3, t3)) := h3
        have HNX : Hid (blksS (i + 1) s5 = (bI ++ [⟨f1, f2, f3⟩], t3)) := hnx
        have HI : Hid (InN w bl bs Q w.heap.size wr sI ⟨p, dd, z1, bI, z2⟩ ⟨fa, i, fc⟩ g) := hI
        have ID : Hid (InN w bl bs Q w.heap.size wr.drew sI ⟨p, dd, z1, bI, z2⟩ ⟨fa, i, fc⟩ g) := hI.below (bel_drew wr)
        have k0 := hI.n.c3
        simp only at k0
        have EG : Hid (∀ w, (callFunc 70 #[.pointer (some ⟨bl, 0, none⟩), .pointer (some ⟨bs, 0, none⟩)]).run Tryz.prog w = .ok (.enter 70 #[.pointer (some ⟨bl, 0, none⟩), .pointer (some ⟨bs, 0, none⟩)]) w) := fun w => enters_of Tryz.func70 (by kernel_rfl) rfl _ w
        have M1 : Hid True := trivial
        clear hnx h1 h2 h3 hI hln IA
        go_upto_region 11 with fail
        go_region_law (first
          | (refine step_fn rfl (.tmp 46) rfl 70 #[.pointer (some ⟨bl, 0, none⟩), .pointer (some ⟨bs, 0, none⟩)] (by first | (simp [Act.eval]; done) | (simp [Act.eval, Act.put]; done)) EG.out (num_cl ID.out.bx f1 t1 N1.out) (.int .i64 f1) ?_ (fun e w' h => h.1); intro w1 h1; have m1 := M1.out; have J1 : Hid (InN w bl bs Q w.heap.size w1 t1 ⟨p, dd, z1, bI, z2⟩ ⟨fa, i, fc⟩ g) := ID.out.num HD.out h1.2.2 h1.2.1; have k1 := J1.out.n.c3; simp only at k1; have M2 : Hid True := trivial; clear h1 m1 M1)
          | (refine step_fn rfl (.tmp 48) rfl 70 #[.pointer (some ⟨bl, 0, none⟩), .pointer (some ⟨bs, 0, none⟩)] (by first | (simp [Act.eval]; done) | (simp [Act.eval, Act.put]; done)) EG.out (num_cl J1.out.bx f2 t2 N2.out) (.int .i64 f2) ?_ (fun e w' h => h.1); intro w2 h2; have m2 := M2.out; have J2 : Hid (InN w bl bs Q w.heap.size w2 t2 ⟨p, dd, z1, bI, z2⟩ ⟨fa, i, fc⟩ g) := J1.out.num HD.out h2.2.2 h2.2.1; have k2 := J2.out.n.c3; simp only at k2; have M3 : Hid True := trivial; clear h2 m2 M2)
          | (refine step_fn rfl (.tmp 50) rfl 70 #[.pointer (some ⟨bl, 0, none⟩), .pointer (some ⟨bs, 0, none⟩)] (by first | (simp [Act.eval]; done) | (simp [Act.eval, Act.put]; done)) EG.out (num_cl J2.out.bx f3 t3 N3.out) (.int .i64 f3) ?_ (fun e w' h => h.1); intro w3 h3; have m3 := M3.out; have J3 : Hid (InN w bl bs Q w.heap.size w3 t3 ⟨p, dd, z1, bI, z2⟩ ⟨fa, i, fc⟩ g) := J2.out.num HD.out h3.2.2 h3.2.1; have k3 := J3.out.n.c3; simp only at k3; have k3a := cell_al k3; have M4 : Hid True := trivial; clear h3 m3 M3)
          | (refine step_append_cel rfl (.tmp 45) (.tmp 53) 53 53 rfl 81 ti _ 3 24 Tryz.underlying53 hi1 hi2 hi3 hi4 rfl (O := Ob w.heap.size bl bs Q w.heap.size) (.slice fa i fc) i _ g (by first | (simp [Act.eval]; done) | (simp [Act.eval, Act.put]; done)) ((J3.out.below (bel_al _ _)).cel) (.slice (some ⟨w3.heap.size, 0, none⟩) 1 1) 1 (blkC ⟨f1, f2, f3⟩) (by first | (simp [Act.eval]; done) | (simp [Act.eval, Act.put]; done)) (src_blk3 w3 ⟨f1, f2, f3⟩) (by unfold maxLen; omega) (by omega) ?_; intro a5 c5 w5 g5 hC5 hS5 hf5; have hp5 := (J3.out.below (bel_al w3 _)).push (b := ⟨f1, f2, f3⟩) HD.out (J3.out.below (bel_al w3 _)).bel.size (J3.out.below (bel_al w3 _)).n.lt (J3.out.below (bel_al w3 _)).r.lt hC5 hS5; have J5 : Hid _ := hp5.1; have k5 := hp5.2.1; have k5f := hp5.2.2; simp only at k5 k5f; clear hC5 hS5 hf5 hp5))
        all_goals
          have J6 : Hid (InN w bl bs Q w.heap.size (w5.setCell ⟨Q, 3, none⟩ (.slice a5 (i + 1) c5)) t3 ⟨p, dd, z1, bI ++ [⟨f1, f2, f3⟩], z2⟩ ⟨a5, i + 1, c5⟩ g5) := J5.out
          clear J5 J1 J2 J3 k0 k1 k2 k3 k3a k5 k5f ID HI EG N1 N2 N3
          generalize w5.setCell ⟨Q, 3, none⟩ (.slice a5 (i + 1) c5) = W6 at *
          go_wp2
          go_roundw
          case rel => exact ⟨i + 1, a5, c5, g5, by omega, by go_num, by rw [HNX.out]; exact J6.out⟩
          case measure => simp [intOf]; omega
      · obtain rfl : i = m := by omega
        have hgd : decide ((i : Int) < (i : Int)) = false := decide_eq_false (by omega)
        generalize (blksS i s5).2 = sI at *
        generalize (blksS i s5).1 = bI at *
        obtain ⟨u, hu⟩ : ∃ x, endB sI = x := ⟨_, rfl⟩
        have hRr := hI.ret HD.out HPS.out
        have CE : Hid (Calls Tryz.prog 73 #[.pointer (some ⟨bs, 0, none⟩), .pointer (some ⟨bl, 0, none⟩)] wr.drew fun e w' => e = .returned (.bool u) ∧ w' = wr.drew) := end_cl (hI.bx.below (bel_drew wr)) u hu
        have HU : Hid ((u = true → part = nodeP ⟨p, dd, z1, bI, z2⟩ ∧ FitX ⟨p, dd, z1, bI, z2⟩) ∧ (u = false → ∀ x, FitX x → part ≠ nodeP x)) := by
          rw [← hu]; exact HIF.out
        have HRR : Hid (NdC (putN wr w.heap.size (⟨p, dd, z1, bI, z2⟩, ⟨fa, i, fc⟩)) w.heap.size (⟨p, dd, z1, bI, z2⟩, ⟨fa, i, fc⟩) ∧ Free w.heap.size (putN wr w.heap.size (⟨p, dd, z1, bI, z2⟩, ⟨fa, i, fc⟩)) (⟨p, dd, z1, bI, z2⟩, ⟨fa, i, fc⟩) ∧ Below w.heap.size w (putN wr w.heap.size (⟨p, dd, z1, bI, z2⟩, ⟨fa, i, fc⟩))) := hRr
        unfold putN at HRR
        simp only at HRR
        obtain ⟨n0, n1, n2, n3, n4, nf⟩ := hI.n
        obtain ⟨r0, r1, r2, r3, r4, rf⟩ := hI.r
        have q0 := rf 0
        have q1 := rf 1
        have q2 := rf 2
        have q3 := rf 3
        have q4 := rf 4
        simp only [zeroN, noS] at n0 n1 n2 n3 n4 r0 r1 r2 r3 r4
        clear hI hRr hu HIF IA hlt
        go_upto_region 13 with fail
        go_region_with (refine CE.out.mono ?_; rintro e wE ⟨rfl, rfl⟩)
        all_goals
          clear n0 n1 n2 n3 n4 nf r0 r1 r2 r3 r4 rf q0 q1 q2 q3 q4
          generalize ((((wr.setCell ⟨w.heap.size, 0, none⟩ (.string p)).setCell ⟨w.heap.size, 1, none⟩ (.bool dd)).setCell ⟨w.heap.size, 2, none⟩ (.int .i64 z1)).setCell ⟨w.heap.size, 3, none⟩ (.slice fa i fc)).setCell ⟨w.heap.size, 4, none⟩ (.int .i64 z2) = W9 at *
          have HN9 : Hid (NdC W9.drew w.heap.size (⟨p, dd, z1, bI, z2⟩, ⟨fa, i, fc⟩)) := HRR.out.1.below (bel_drew W9)
          have HF9 : Hid (Free w.heap.size W9.drew (⟨p, dd, z1, bI, z2⟩, ⟨fa, i, fc⟩)) := HRR.out.2.1.below (bel_drew W9)
          have HB9 : Hid (Below w.heap.size w W9.drew) := bel_tr HRR.out.2.2 (bel_drew W9)
          generalize W9.drew = W8 at *
          go_wp2
          obtain ⟨y0, y1, y2, y3, y4, _⟩ := HN9.out
          simp only at y0 y1 y2 y3 y4
          refine bodyPost_ret (v := .tuple #[ndV (⟨p, dd, z1, bI, z2⟩, ⟨fa, i, fc⟩), .bool u]) ?_ rfl ⟨⟨⟨p, dd, z1, bI, z2⟩, ⟨fa, i, fc⟩, u, rfl, HF9.out, HU.out.1, HU.out.2⟩, HB9.out⟩
          unfold ndV
          simp only [results, Tryz.results26]
          simp [go_sem, y0, y1, y2, y3, y4]
  · have HBAD : Hid (∀ x, FitX x → part ≠ nodeP x) := node_bad H0.out H1.out H2.out H3.out H4.out hk
    have hz := putN_at IA.out.r (zeroN, noS)
    have HPZ : Hid (NdC (putN wa w.heap.size (zeroN, noS)) w.heap.size (zeroN, noS) ∧ Below w.heap.size w (putN wa w.heap.size (zeroN, noS))) := ⟨hz.1, bel_stay IA.out.bel hz.2 (fun k hk => hk ▸ HD.out.r)⟩
    unfold putN at HPZ
    have HPZ2 : Hid (NdC (((((wa.setCell ⟨w.heap.size, 0, none⟩ (.string ⟨#[]⟩)).setCell ⟨w.heap.size, 1, none⟩ (.bool false)).setCell ⟨w.heap.size, 2, none⟩ (.int .i64 0)).setCell ⟨w.heap.size, 3, none⟩ (.slice none 0 0)).setCell ⟨w.heap.size, 4, none⟩ (.int .i64 0)) w.heap.size (zeroN, noS) ∧ Below w.heap.size w (((((wa.setCell ⟨w.heap.size, 0, none⟩ (.string ⟨#[]⟩)).setCell ⟨w.heap.size, 1, none⟩ (.bool false)).setCell ⟨w.heap.size, 2, none⟩ (.int .i64 0)).setCell ⟨w.heap.size, 3, none⟩ (.slice none 0 0)).setCell ⟨w.heap.size, 4, none⟩ (.int .i64 0))) := HPZ.out
    obtain ⟨r0, r1, r2, r3, r4, rf⟩ := IA.out.r
    have q0 := rf 0
    have q1 := rf 1
    have q2 := rf 2
    have q3 := rf 3
    have q4 := rf 4
    simp only [zeroN, noS] at r0 r1 r2 r3 r4
    have HFR : Hid (∀ W, Free w.heap.size W (zeroN, noS)) := fun W => free_of_cel (g := none) (.nil rfl rfl rfl) rfl rfl (Nat.zero_le _)
    clear H0 H1 H2 H3 H4 hz HPZ
    by_cases h1 : 0 ≤ z0 ∧ z0 ≤ 1
    · have G1 : Hid ((decide (0 ≤ z0) && decide (z0 ≤ 1)) = true) := by simp [h1.1, h1.2, Hid]
      have G2 : Hid ((decide (0 ≤ z3) && decide (z3 ≤ 8)) = false) := by
        show (decide (0 ≤ z3) && decide (z3 ≤ 8)) = false
        rw [Bool.eq_false_iff]
        intro e
        simp only [Bool.and_eq_true, decide_eq_true_eq] at e
        exact hk ⟨h1, e⟩
      clear hk h1
      have M1 : Hid True := trivial
      go_wp2_with (first
        | (go_at_call 24; have m1 := M1.out; refine (within_i z0 0 1 true _ G1.out).mono ?_; rintro e wq ⟨rfl, hwq⟩; subst hwq; clear m1 M1)
        | (go_at_call 24; refine (within_i z3 0 8 false _ G2.out).mono ?_; rintro e wq2 ⟨rfl, hwq⟩; subst hwq))
      obtain ⟨y0, y1, y2, y3, y4, _⟩ := HPZ2.out.1
      refine bodyPost_ret (v := .tuple #[ndV (zeroN, noS), .bool false]) ?_ rfl ⟨⟨zeroN, noS, false, rfl, HFR.out _, fun e => (by cases e), fun _ => HBAD.out⟩, HPZ2.out.2⟩
      unfold ndV
      simp only [results, Tryz.results26]
      simp only [zeroN, noS] at y0 y1 y2 y3 y4
      simp [go_sem, y0, y1, y2, y3, y4, zeroN, noS]
    · have G1 : Hid ((decide (0 ≤ z0) && decide (z0 ≤ 1)) = false) := by
        show (decide (0 ≤ z0) && decide (z0 ≤ 1)) = false
        rw [Bool.eq_false_iff]
        intro e
        simp only [Bool.and_eq_true, decide_eq_true_eq] at e
        exact h1 e
      clear hk h1
      go_wp2_with (go_at_call 24; refine (within_i z0 0 1 false _ G1.out).mono ?_; rintro e wq ⟨rfl, hwq⟩; subst hwq)
      obtain ⟨y0, y1, y2, y3, y4, _⟩ := HPZ2.out.1
      refine bodyPost_ret (v := .tuple #[ndV (zeroN, noS), .bool false]) ?_ rfl ⟨⟨zeroN, noS, false, rfl, HFR.out _, fun e => (by cases e), fun _ => HBAD.out⟩, HPZ2.out.2⟩
      unfold ndV
      simp only [results, Tryz.results26]
      simp only [zeroN, noS] at y0 y1 y2 y3 y4
      simp [go_sem, y0, y1, y2, y3, y4, zeroN, noS]

end Go.Proofs.YtigomhilcnnjdaaGreat.Img

/- The contract of image.readAll of nodes. -/
namespace Go.Proofs.YtigomhilcnnjdaaGreat.Img
open Go.RowKit Go.Proofs.YtigomhilcnnjdaaGreat Go.Proofs.YtigomhilcnnjdaaGreat.Smm
open Go.Proofs.YtigomhilcnnjdaaGreat.Lea (bel_al2)
open Go.Proofs.YtigomhilcnnjdaaGreat.Edi (bel_tr bel_al bel_cell)

/-- What readAll tells of nodes. -/
structure AllN (base : Nat) (ps : List ByteArray) (n : Nat) (e : Ending) (w' : World) : Prop where
  ex : (∃ (xs : NS) (a : Option Addr) (c : Nat), e = .returned (.tuple #[.slice a n c, .bool true]) ∧ LX base w' a n c xs ∧ ps = xs.map nodeP ∧ ∀ x ∈ xs, FitX x) ∨ (e = .returned (.tuple #[.slice none 0 0, .bool false]) ∧ ∀ xs : NS, (∀ x ∈ xs, FitX x) → ps ≠ xs.map nodeP)
theorem src_new51 (w : World) (o : Obj) (x : NR) : Src Tryz.prog 5 23 (.slice (some ⟨w.heap.size + 1, 0, none⟩) 1 1) 1 (rowC ndC [x]) ((w.alloc o).alloc (.cells #[.string x.1.path, .bool x.1.dir, .int .i64 x.1.quota, .slice x.2.a x.2.n x.2.c, .int .i64 x.1.wr] 55)) := by
  have h := src_new5 (w.alloc o) x
  rw [show (w.alloc o).heap.size = w.heap.size + 1 by simp] at h
  exact h

set_option maxRecDepth 100000 in
set_option maxHeartbeats 2000000 in
theorem readNodes_val {a : Option Addr} {b off n c : Nat} {ps : List ByteArray} {w : World} (h : Strs w a b off ps) (hn : ps.length = n) (hk : n ≤ 1000000000) (hsm : ∀ p ∈ ps, p.size ≤ maxLen) :
    Calls Tryz.prog 25 #[.slice a n c, .func (.func 26) #[] #[]] w fun e w' => AllN w.heap.size ps n e w' ∧ Below w.heap.size w w' := by
  obtain ⟨ti, hi1, hi2, hi3, hi4⟩ := ndRow
  have HS : Hid (Strs w a b off ps) := h
  have HN : Hid (ps.length = n) := hn
  have HM : Hid (∀ p ∈ ps, p.size ≤ maxLen) := hsm
  clear h hn hsm
  have hst := run_store_str
  have hst2 : ∀ (w : World) (a : Addr) (x : Option Addr) (n c : Nat) (m : Mode), (store a (.slice x n c) m).run Tryz.prog w = stored Tryz.prog w a (.slice x n c) m := fun w a x n c m => run_store_any w a _ m rfl
  go_enter Tryz.func25, Tryz.ntmps25
  go_wp2
  go_loopw [6, 13] (fun v6 v13 wr => ∃ (i : Nat) (fa : Option Addr) (fc : Nat) (qs : List NR) (g : Option Nat), i ≤ n ∧ v13 = .int .i64 i ∧ v6 = .slice fa i fc ∧ Lot w.heap.size wr fa i fc qs g ∧ ps.take i = (qs.map (·.1)).map nodeP ∧ (∀ x ∈ qs, FitX x.1) ∧ Below w.heap.size w wr) (fun _ v13 _ => n - (intOf v13).toNat)
  case atStart => exact ⟨0, none, 0, [], none, by omega, rfl, rfl, ⟨.nil rfl rfl rfl, rfl, fun x hx => (by cases hx), fun x hx => (by cases hx)⟩, by simp, fun x hx => (by cases hx), Below.refl _ _⟩
  case round =>
    obtain ⟨i, fa, fc, qs, g, hi, rfl, rfl, hO, hx, hf, hb⟩ := hrel
    have HB : Hid (Below w.heap.size w wr) := hb
    have HO : Hid (Lot w.heap.size wr fa i fc qs g) := hO
    have HX : Hid (ps.take i = (qs.map (·.1)).map nodeP) := hx
    have HF : Hid (∀ x ∈ qs, FitX x.1) := hf
    clear hO hx hf
    by_cases hlt : i < n
    · have hip : i < ps.length := by rw [HN.out]; exact hlt
      obtain rfl := HS.out.addr (by omega)
      have hcell : wr.cell? ⟨b, off + i, none⟩ = some (.string ps[i]) := (hb.cell (p := ⟨b, off + i, none⟩) (HS.out.lt (by omega))).trans (HS.out.cell i hip)
      have HT : Hid (ps.take (i + 1) = ps.take i ++ [ps[i]]) := List.take_succ_eq_append_getElem hip
      have HG : Hid (ps[i] ∈ ps) := List.getElem_mem hip
      have HGE : Hid (ps[i]? = some ps[i]) := List.getElem?_eq_getElem hip
      generalize ps[i] = p at *
      clear hb hip
      go_wp2_with fail
      refine (readNode_val p _ (HM.out p HG.out)).mono ?_
      rintro e w1 ⟨⟨⟨xp, xd, xq, xbs, xw⟩, ⟨ra, rn, rc⟩, v, rfl, hfr, hy, hno⟩, b1⟩
      have B1 : Hid (Below wr.heap.size wr w1) := b1
      have HFR : Hid (Free wr.heap.size w1 (⟨xp, xd, xq, xbs, xw⟩, ⟨ra, rn, rc⟩)) := hfr
      have HY : Hid (v = true → p = nodeP ⟨xp, xd, xq, xbs, xw⟩ ∧ FitX ⟨xp, xd, xq, xbs, xw⟩) := hy
      have HNO : Hid (v = false → ∀ l, FitX l → p ≠ nodeP l) := hno
      clear b1 hy hno hcell hfr
      unfold ndV
      simp only
      cases v with
      | false =>
        have HN2 : Hid (∀ l, FitX l → p ≠ nodeP l) := HNO.out rfl
        clear HNO HY
        go_wp2
        go_ret2
        refine ⟨⟨.inr ⟨rfl, fun ys hys e => ?_⟩⟩, bel_tr HB.out (bel_tr B1.out (bel_al _ _))⟩
        have h1 := HGE.out
        rw [e, List.getElem?_map] at h1
        cases hq : ys[i]? with
        | none => rw [hq] at h1; cases h1
        | some y =>
          rw [hq] at h1
          exact HN2.out y (hys y (List.mem_of_getElem? hq)) (Option.some.inj h1).symm
      | true =>
        obtain ⟨hp1, hp2⟩ := HY.out rfl
        have HP1 : Hid (p = nodeP ⟨xp, xd, xq, xbs, xw⟩) := hp1
        have HP2 : Hid (FitX ⟨xp, xd, xq, xbs, xw⟩) := hp2
        clear hp1 hp2 HY HNO
        have HPU : Hid (∀ o o2 a2 c2 w5 g5, Cel (Grow (fun k => w.heap.size ≤ k) ((w1.alloc o).alloc o2) w5) w5 5 (.slice a2 (i + 1) c2) (i + 1) (rowC ndC qs ++ rowC ndC [((⟨xp, xd, xq, xbs, xw⟩ : Nd), (⟨ra, rn, rc⟩ : RS))]) g5 → Stay (fun k => g = some k) ((w1.alloc o).alloc o2) w5 → (∀ k, g5 = some k → g = some k ∨ ((w1.alloc o).alloc o2).heap.size ≤ k) → Lot w.heap.size w5 a2 (i + 1) c2 (qs ++ [(⟨xp, xd, xq, xbs, xw⟩, ⟨ra, rn, rc⟩)]) g5 ∧ Below w.heap.size wr w5) := fun o o2 a2 c2 w5 g5 h1 h2 h3 => HO.out.push HB.out.size (HFR.out.below (bel_al w1 o)) (bel_tr B1.out (bel_al w1 o)) h1 h2 h3
        go_wp2_with (at_builtin; refine wpList_append_cel _ rfl _ _ 23 23 rfl 55 ti _ 5 64 Tryz.underlying23 hi1 hi2 hi3 hi4 rfl (O := fun k => w.heap.size ≤ k) _ i _ g rfl ((HO.out.below B1.out).below (bel_al2 _ _ _)).cel _ 1 (rowC ndC [((⟨xp, xd, xq, xbs, xw⟩ : Nd), (⟨ra, rn, rc⟩ : RS))]) rfl (src_new51 w1 _ (⟨xp, xd, xq, xbs, xw⟩, ⟨ra, rn, rc⟩)) (by unfold maxLen; omega) (by omega) ?_; intro a2 c2 w2 g2 hC2 hS2 hg2; have A2 : Hid _ := HPU.out _ _ _ _ _ _ hC2 hS2 hg2; clear hC2 hS2 hg2)
        go_roundw
        case rel => exact ⟨i + 1, a2, c2, qs ++ [(⟨xp, xd, xq, xbs, xw⟩, ⟨ra, rn, rc⟩)], g2, by omega, by go_num, rfl, A2.out.1, by rw [HT.out, HX.out, HP1.out, List.map_append, List.map_append]; rfl, fun x hx => (List.mem_append.1 hx).elim (HF.out x) (fun e => by rw [List.mem_singleton.1 e]; exact HP2.out), HB.out.trans A2.out.2⟩
        case measure => simp [intOf]; omega
    · obtain rfl : i = n := by omega
      have hgd : decide ((i : Int) < (i : Int)) = false := decide_eq_false (by omega)
      have HXX : Hid (ps = (qs.map (·.1)).map nodeP) := by rw [← HX.out, ← HN.out, List.take_length]; exact rfl
      clear hb hlt
      go_wp2
      go_ret2
      exact ⟨⟨.inl ⟨qs.map (·.1), fa, fc, rfl, ⟨qs, g, rfl, HO.out⟩, HXX.out, fun x hx => by obtain ⟨y, hy, rfl⟩ := List.mem_map.1 hx; exact HF.out y hy⟩⟩, HB.out⟩

end Go.Proofs.YtigomhilcnnjdaaGreat.Img

/- The contracts of strings.CutPrefix, as it is called here, and of image.readHead. -/
namespace Go.Proofs.YtigomhilcnnjdaaGreat.Img
open Go.RowKit Go.Proofs.YtigomhilcnnjdaaGreat Go.Proofs.YtigomhilcnnjdaaGreat.Smm
open Go.Proofs.YtigomhilcnnjdaaGreat.Spa (Sp RtS zeroS newS spV SpIn SpC put6 put6_at put6_def noS bel_put6)
open Go.Proofs.YtigomhilcnnjdaaGreat.Lea (LS Ls LL)
open Go.Proofs.YtigomhilcnnjdaaGreat.Edi (numsB takeN bel_tr bel_al bel_cell bel_drew)
open Go.WideShapes (bytes_inj)

def isT (s : ByteArray) : Bool := s.data.toList[0]? == some 84
theorem isT_iff {s : ByteArray} : isT s = true ↔ ∃ left : ByteArray, s.data.toList = 84 :: left.data.toList := by
  unfold isT
  cases h : s.data.toList with
  | nil => simp
  | cons c r =>
    simp only [List.getElem?_cons_zero, beq_iff_eq, Option.some.injEq, List.cons.injEq]
    exact ⟨fun e => ⟨mk r, e, (mk_li r).symm⟩, fun ⟨_, e, _⟩ => e⟩
theorem isT_ext {s : ByteArray} (h : 1 ≤ s.size) : ((s.extract 0 1).toList == [84]) = isT s := by
  rw [ByteArray.toList_eq, Wir.cut_list]
  unfold isT
  have hl := Wir.size_list s
  cases hs : s.data.toList with
  | nil => rw [hs] at hl; simp at hl; omega
  | cons c r => simp

set_option maxRecDepth 100000 in
theorem hasPrefix_val (s : ByteArray) (v : Bool) (w : World) (hs : s.size ≤ maxLen) (hv : isT s = v) :
    Calls Tryz.prog 89 #[.string s, .string ⟨#[84]⟩] w fun e w' => e = .returned (.bool v) ∧ Below w.heap.size w w' := by
  have hmx : s.size ≤ 9223372036854775807 := by unfold maxLen at hs; omega
  by_cases h0 : 1 ≤ s.size
  · have he := isT_ext h0
    rw [hv] at he
    have hg : decide ((1 : Int) ≤ (s.size : Int)) = true := decide_eq_true (by omega)
    have hg2 : decide (1 ≤ s.size) = true := decide_eq_true h0
    clear hv hs
    go_enter Tryz.func89, Tryz.ntmps89
    go_wp2
    go_ret
    exact ⟨rfl, Below.refl _ _⟩
  · have hz : s.size = 0 := by omega
    have hvf : v = false := by
      have hl := Wir.size_list s
      rw [← hv]
      unfold isT
      rw [List.length_eq_zero_iff.1 (hl.trans hz)]
      rfl
    subst hvf
    have hg : decide ((1 : Int) ≤ (s.size : Int)) = false := decide_eq_false (by omega)
    have hg2 : decide (1 ≤ s.size) = false := decide_eq_false h0
    clear hv hs hz
    go_enter Tryz.func89, Tryz.ntmps89
    go_wp2
    go_ret
    exact ⟨rfl, Below.refl _ _⟩

set_option maxRecDepth 100000 in
theorem cutP_yes (s left : ByteArray) (w : World) (hs : s.size ≤ maxLen) (h : s.data.toList = 84 :: left.data.toList) :
    Calls Tryz.prog 69 #[.string s, .string ⟨#[84]⟩] w fun e w' => e = .returned (.tuple #[.string left, .bool true]) ∧ Below w.heap.size w w' := by
  have hmx : s.size ≤ 9223372036854775807 := by unfold maxLen at hs; omega
  have hT : isT s = true := isT_iff.2 ⟨left, h⟩
  have h1 : 1 ≤ s.size := by rw [← Wir.size_list, h]; simp
  have he : s.extract 1 s.size = left := bytes_inj (by rw [Wir.ext_list, h]; rfl)
  have CP : Hid (∀ W, Calls Tryz.prog 89 #[.string s, .string ⟨#[84]⟩] W fun e w' => e = .returned (.bool true) ∧ Below W.heap.size W w') := fun W => hasPrefix_val s true W hs hT
  clear hT h hs
  go_enter Tryz.func69, Tryz.ntmps69
  go_wp2_with fail
  refine (CP.out _).mono ?_
  rintro e w1 ⟨rfl, b1⟩
  go_wp2
  go_ret2
  exact ⟨rfl, b1⟩
set_option maxRecDepth 100000 in
theorem cutP_no (s : ByteArray) (w : World) (hs : s.size ≤ maxLen) (h : isT s = false) :
    Calls Tryz.prog 69 #[.string s, .string ⟨#[84]⟩] w fun e w' => e = .returned (.tuple #[.string s, .bool false]) ∧ Below w.heap.size w w' := by
  have CP : Hid (∀ W, Calls Tryz.prog 89 #[.string s, .string ⟨#[84]⟩] W fun e w' => e = .returned (.bool false) ∧ Below W.heap.size W w') := fun W => hasPrefix_val s false W hs h
  clear h hs
  go_enter Tryz.func69, Tryz.ntmps69
  go_wp2_with fail
  refine (CP.out _).mono ?_
  rintro e w1 ⟨rfl, b1⟩
  go_wp2
  go_ret2
  exact ⟨rfl, b1⟩
set_option maxRecDepth 100000 in
theorem cut_any (s : ByteArray) (V : Value) (w : World) (h : ∀ W, Calls Tryz.prog 69 #[.string s, .string ⟨#[84]⟩] W fun e w' => e = .returned V ∧ Below W.heap.size W w') (l : ByteArray) (v : Bool) (hV : V = .tuple #[.string l, .bool v]) :
    Calls Tryz.prog 47 #[.string s, .string ⟨#[84]⟩] w fun e w' => e = .returned V ∧ Below w.heap.size w w' := by
  subst hV
  have CP : Hid (∀ W, Calls Tryz.prog 69 #[.string s, .string ⟨#[84]⟩] W fun e w' => e = .returned (.tuple #[.string l, .bool v]) ∧ Below W.heap.size W w') := h
  clear h
  go_enter Tryz.func47, Tryz.ntmps47
  go_wp2_with fail
  refine (CP.out _).mono ?_
  rintro e w1 ⟨rfl, b1⟩
  go_wp2
  go_ret2
  exact ⟨rfl, b1⟩

structure HeadR (part : ByteArray) (e : Ending) : Prop where
  ex : ∃ (z0 z1 z2 z3 z4 z5 : Int) (v : Bool), e = .returned (.tuple #[spV ⟨z0, z1, z2, z3, [], []⟩ noS noS, .int .i64 z4, .int .i64 z5, .bool v]) ∧ (v = true → part = headL [z0, z1, z2, z3, z4, z5] ∧ ∀ z ∈ [z0, z1, z2, z3, z4, z5], I64 z) ∧ (v = false → ∀ zs : List Int, zs.length = 6 → (∀ z ∈ zs, I64 z) → part ≠ headL zs)

set_option maxRecDepth 100000 in
set_option maxHeartbeats 2000000 in
theorem readHead_no (part : ByteArray) (w : World) (hp : part.size ≤ maxLen) (h : isT part = false) :
    Calls Tryz.prog 23 #[.string part] w fun e w' => HeadR part e ∧ Below w.heap.size w w' := by
  have HI : Hid (HeadR part (.returned (.tuple #[spV ⟨0, 0, 0, 0, [], []⟩ noS noS, .int .i64 0, .int .i64 0, .bool false]))) := ⟨0, 0, 0, 0, 0, 0, false, rfl, fun e => (by cases e), fun _ zs _ _ => head_no (fun left hl => by rw [isT_iff.2 ⟨left, hl⟩] at h; cases h) zs⟩
  have CP : Hid (∀ W, Calls Tryz.prog 47 #[.string part, .string ⟨#[84]⟩] W fun e w' => e = .returned (.tuple #[.string part, .bool false]) ∧ Below W.heap.size W w') := fun W => cut_any part _ W (fun W => cutP_no part W hp h) part false rfl
  clear h hp
  have hst2 : ∀ (w : World) (a : Addr) (x : Option Addr) (n c : Nat) (m : Mode), (store a (.slice x n c) m).run Tryz.prog w = stored Tryz.prog w a (.slice x n c) m := fun w a x n c m => run_store_any w a _ m rfl
  go_enter Tryz.func23, Tryz.ntmps23
  go_wp2_with fail
  refine (CP.out _).mono ?_
  rintro e w1 ⟨rfl, b1⟩
  have B1 : Hid (Below w.heap.size w w1) := bel_tr (bel_al _ _) b1
  have hS := (SpC.new w 26 zeroS noS noS).below b1
  obtain ⟨p1, _⟩ := put6_at hS zeroS noS noS
  have HS : Hid (SpC (put6 w1 w.heap.size zeroS noS noS) w.heap.size zeroS noS noS) := p1
  have HB : Hid (Below w.heap.size w (put6 w1 w.heap.size zeroS noS noS)) := bel_put6 B1.out hS (Nat.le_refl _) _ _ _
  obtain ⟨c0, c1, c2, c3, c4, c5, f⟩ := hS
  clear b1 CP p1
  rw [put6_def] at HS HB
  simp only [zeroS, noS] at c0 c1 c2 c3 c4 c5 f HS HB
  go_wp2
  obtain ⟨q0, q1, q2, q3, q4, q5, _⟩ := HS.out
  refine bodyPost_ret (v := .tuple #[spV ⟨0, 0, 0, 0, [], []⟩ noS noS, .int .i64 0, .int .i64 0, .bool false]) ?_ rfl ⟨HI.out, HB.out⟩
  unfold spV noS
  simp only [results, Tryz.results23]
  simp [go_sem, q0, q1, q2, q3, q4, q5]

theorem Bx.put6 {w : World} {bl bs R : Nat} {s : St} {s0 : Sp} {N0 L0 : RS} (h : Bx w bl bs s) (hS : SpC w R s0 N0 L0) (t : Sp) (N L : RS) (h1 : bl ≠ R) (h2 : bs ≠ R) : Bx (Spa.put6 w R t N L) bl bs s :=
  h.keep (put6_at hS t N L).2 h1 h2
set_option maxRecDepth 100000 in
set_option maxHeartbeats 4000000 in
theorem readHead_yes (part left : ByteArray) (w : World) (hp : part.size ≤ maxLen) (h : part.data.toList = 84 :: left.data.toList) :
    Calls Tryz.prog 23 #[.string part] w fun e w' => HeadR part e ∧ Below w.heap.size w w' := by
  obtain ⟨⟨z0, s1⟩, h0⟩ : ∃ x, numS (left, true) = x := ⟨_, rfl⟩
  obtain ⟨⟨z1, s2⟩, h1⟩ : ∃ x, numS s1 = x := ⟨_, rfl⟩
  obtain ⟨⟨z2, s3⟩, h2⟩ : ∃ x, numS s2 = x := ⟨_, rfl⟩
  obtain ⟨⟨z3, s4⟩, h3⟩ : ∃ x, numS s3 = x := ⟨_, rfl⟩
  obtain ⟨⟨z4, s5⟩, h4⟩ : ∃ x, numS s4 = x := ⟨_, rfl⟩
  obtain ⟨⟨z5, s6⟩, h5⟩ : ∃ x, numS s5 = x := ⟨_, rfl⟩
  obtain ⟨u, hu⟩ : ∃ x, endB s6 = x := ⟨_, rfl⟩
  have hif := head_iff h h0 h1 h2 h3 h4 h5
  have HI : Hid (HeadR part (.returned (.tuple #[spV ⟨z0, z1, z2, z3, [], []⟩ noS noS, .int .i64 z4, .int .i64 z5, .bool u]))) := ⟨z0, z1, z2, z3, z4, z5, u, rfl, fun e => hif.1 (hu.trans e), fun e => hif.2 (hu.trans e)⟩
  have CP : Hid (∀ W, Calls Tryz.prog 47 #[.string part, .string ⟨#[84]⟩] W fun e w' => e = .returned (.tuple #[.string left, .bool true]) ∧ Below W.heap.size W w') := fun W => cut_any part _ W (fun W => cutP_yes part left W hp h) left true rfl
  have HLS : Hid (left.size ≤ maxLen) := by
    have h1 := congrArg List.length h
    rw [Wir.size_list, List.length_cons, Wir.size_list] at h1
    show left.size ≤ maxLen
    omega
  have H0 : Hid (numS (left, true) = (z0, s1)) := h0
  have H1 : Hid (numS s1 = (z1, s2)) := h1
  have H2 : Hid (numS s2 = (z2, s3)) := h2
  have H3 : Hid (numS s3 = (z3, s4)) := h3
  have H4 : Hid (numS s4 = (z4, s5)) := h4
  have H5 : Hid (numS s5 = (z5, s6)) := h5
  have HE : Hid (endB s6 = u) := hu
  clear h0 h1 h2 h3 h4 h5 hu hp h hif
  have hst2 : ∀ (w : World) (a : Addr) (x : Option Addr) (n c : Nat) (m : Mode), (store a (.slice x n c) m).run Tryz.prog w = stored Tryz.prog w a (.slice x n c) m := fun w a x n c m => run_store_any w a _ m rfl
  go_enter Tryz.func23, Tryz.ntmps23
  go_wp2_with fail
  refine (CP.out _).mono ?_
  rintro e w1 ⟨rfl, b1⟩
  have B1 : Hid (Below w.heap.size w w1) := bel_tr (bel_al _ _) b1
  have S1 : Hid (SpC w1 w.heap.size zeroS noS noS) := (SpC.new w 26 zeroS noS noS).below b1
  have hw1 : w.heap.size < w1.heap.size := by have := b1.size; simp at this; omega
  clear b1 CP
  go_wp2_with fail
  refine (over_val left _ HLS.out).mono ?_
  rintro e w2 ⟨bl, bs, rfl, hB, hl, hs, b2⟩
  have B2 : Hid (Below w.heap.size w w2) := bel_tr B1.out b2
  have S2 : Hid (SpC w2 w.heap.size zeroS noS noS) := S1.out.below b2
  have X2 : Hid (Bx w2 bl bs (left, true)) := hB
  have hbl : bl ≠ w.heap.size := by omega
  have hbs : bs ≠ w.heap.size := by omega
  have HO : Hid (∀ k, Two bl bs k → w.heap.size ≤ k) := fun k hk => by rcases hk with rfl | rfl <;> omega
  have HNR : Hid (¬ Two bl bs w.heap.size) := fun e => by rcases e with e | e <;> omega
  clear b2 hB
  go_wp2_with fail
  refine (num_cl X2.out z0 s1 H0.out).mono ?_
  rintro e w3 ⟨rfl, hB3, st3⟩
  have X3 : Hid (Bx w3 bl bs s1) := hB3
  have T3 : Hid (Stay (Two bl bs) w2 w3) := st3
  clear hB3 st3
  go_wp2_with fail
  refine (num_cl X3.out z1 s2 H1.out).mono ?_
  rintro e w4 ⟨rfl, hB4, st4⟩
  have X4 : Hid (Bx w4 bl bs s2) := hB4
  have T4 : Hid (Stay (Two bl bs) w2 w4) := T3.out.then_same st4
  clear hB4 st4
  go_wp2_with fail
  refine (num_cl X4.out z2 s3 H2.out).mono ?_
  rintro e w5 ⟨rfl, hB5, st5⟩
  have X5 : Hid (Bx w5 bl bs s3) := hB5
  have T5 : Hid (Stay (Two bl bs) w2 w5) := T4.out.then_same st5
  clear hB5 st5
  go_wp2_with fail
  refine (num_cl X5.out z3 s4 H3.out).mono ?_
  rintro e w6 ⟨rfl, hB6, st6⟩
  have X6 : Hid (Bx w6 bl bs s4) := hB6
  have T6 : Hid (Stay (Two bl bs) w2 w6) := T5.out.then_same st6
  have S6 : Hid (SpC w6 w.heap.size zeroS noS noS) := S2.out.keep T6.out HNR.out
  have B6 : Hid (Below w.heap.size w w6) := bel_stay B2.out T6.out HO.out
  have HPW : Hid (SpC (Spa.put6 w6 w.heap.size ⟨z0, z1, z2, z3, [], []⟩ noS noS) w.heap.size ⟨z0, z1, z2, z3, [], []⟩ noS noS ∧ Bx (Spa.put6 w6 w.heap.size ⟨z0, z1, z2, z3, [], []⟩ noS noS) bl bs s4 ∧ Below w.heap.size w (Spa.put6 w6 w.heap.size ⟨z0, z1, z2, z3, [], []⟩ noS noS)) := ⟨(put6_at S6.out _ _ _).1, X6.out.put6 S6.out _ _ _ hbl hbs, bel_put6 B6.out S6.out (Nat.le_refl _) _ _ _⟩
  rw [put6_def] at HPW
  obtain ⟨c0, c1, c2, c3, c4, c5, f⟩ := S6.out
  simp only [zeroS, noS] at c0 c1 c2 c3 c4 c5 f
  clear hB6 st6 T3 T4 T5 X3 X4 X5
  go_wp2_with fail
  unfold noS at HPW
  simp only at HPW
  clear c0 c1 c2 c3 c4 c5 f
  generalize (((((w6.setCell ⟨w.heap.size, 0, none⟩ (.int .i64 z0)).setCell ⟨w.heap.size, 1, none⟩ (.int .i64 z1)).setCell ⟨w.heap.size, 2, none⟩ (.int .i64 z2)).setCell ⟨w.heap.size, 3, none⟩ (.int .i64 z3)).setCell ⟨w.heap.size, 4, none⟩ (.slice none 0 0)).setCell ⟨w.heap.size, 5, none⟩ (.slice none 0 0) = W at *
  refine (num_cl HPW.out.2.1 z4 s5 H4.out).mono ?_
  rintro e w7 ⟨rfl, hB7, st7⟩
  have X7 : Hid (Bx w7 bl bs s5) := hB7
  have T7 : Hid (Stay (Two bl bs) W w7) := st7
  clear hB7 st7
  go_wp2_with fail
  refine (num_cl X7.out z5 s6 H5.out).mono ?_
  rintro e w8 ⟨rfl, hB8, st8⟩
  have X8 : Hid (Bx w8 bl bs s6) := hB8
  have T8 : Hid (Stay (Two bl bs) W w8) := T7.out.then_same st8
  have S8 : Hid (SpC w8 w.heap.size ⟨z0, z1, z2, z3, [], []⟩ noS noS) := by
    have h := HPW.out.1
    exact SpC.keep (N := noS) (L := noS) h T8.out HNR.out
  have B8 : Hid (Below w.heap.size w w8) := bel_stay HPW.out.2.2 T8.out HO.out
  clear hB8 st8 T7
  have CE : Hid (Calls Tryz.prog 73 #[.pointer (some ⟨bs, 0, none⟩), .pointer (some ⟨bl, 0, none⟩)] w8.drew fun e w' => e = .returned (.bool u) ∧ w' = w8.drew) := end_cl (X8.out.below (bel_drew w8)) u HE.out
  obtain ⟨c0, c1, c2, c3, c4, c5, f⟩ := S8.out
  simp only [noS] at c0 c1 c2 c3 c4 c5 f
  have f0 := f 0
  have f1 := f 1
  have f2 := f 2
  have f3 := f 3
  have f4 := f 4
  have f5 := f 5
  have HPZ : Hid (SpC (Spa.put6 w8 w.heap.size ⟨z0, z1, z2, z3, [], []⟩ noS noS) w.heap.size ⟨z0, z1, z2, z3, [], []⟩ noS noS ∧ Below w.heap.size w (Spa.put6 w8 w.heap.size ⟨z0, z1, z2, z3, [], []⟩ noS noS)) := ⟨(put6_at S8.out _ _ _).1, bel_put6 B8.out S8.out (Nat.le_refl _) _ _ _⟩
  rw [put6_def] at HPZ
  unfold noS at HPZ
  simp only at HPZ
  go_upto_region 7 with fail
  go_region_with (refine CE.out.mono ?_; rintro e wE ⟨rfl, rfl⟩)
  all_goals
    clear c0 c1 c2 c3 c4 c5 f f0 f1 f2 f3 f4 f5
    generalize (((((w8.setCell ⟨w.heap.size, 0, none⟩ (.int .i64 z0)).setCell ⟨w.heap.size, 1, none⟩ (.int .i64 z1)).setCell ⟨w.heap.size, 2, none⟩ (.int .i64 z2)).setCell ⟨w.heap.size, 3, none⟩ (.int .i64 z3)).setCell ⟨w.heap.size, 4, none⟩ (.slice none 0 0)).setCell ⟨w.heap.size, 5, none⟩ (.slice none 0 0) = W9 at *
    have HS9 : Hid (SpC W9.drew w.heap.size ⟨z0, z1, z2, z3, [], []⟩ noS noS) := SpC.below (N := noS) (L := noS) HPZ.out.1 (bel_drew W9)
    have HB9 : Hid (Below w.heap.size w W9.drew) := bel_tr HPZ.out.2 (bel_drew W9)
    generalize W9.drew = W8 at *
    go_wp2
    obtain ⟨q0, q1, q2, q3, q4, q5, _⟩ := HS9.out
    refine bodyPost_ret (v := .tuple #[spV ⟨z0, z1, z2, z3, [], []⟩ noS noS, .int .i64 z4, .int .i64 z5, .bool u]) ?_ rfl ⟨HI.out, HB9.out⟩
    unfold spV noS
    simp only [results, Tryz.results23]
    simp [go_sem, q0, q1, q2, q3, q4, q5, noS]

theorem readHead_val (part : ByteArray) (w : World) (hp : part.size ≤ maxLen) :
    Calls Tryz.prog 23 #[.string part] w fun e w' => HeadR part e ∧ Below w.heap.size w w' := by
  cases h : isT part with
  | false => exact readHead_no part w hp h
  | true =>
    obtain ⟨left, hl⟩ := isT_iff.1 h
    exact readHead_yes part left w hp hl

end Go.Proofs.YtigomhilcnnjdaaGreat.Img

/- The contract of image.readAll of leases. -/
namespace Go.Proofs.YtigomhilcnnjdaaGreat.Img
open Go.RowKit Go.Proofs.YtigomhilcnnjdaaGreat Go.Proofs.YtigomhilcnnjdaaGreat.Smm
open Go.Proofs.YtigomhilcnnjdaaGreat.Lea (LS Ls LL LO lsRow lsC src_ls1 bel_al2)
open Go.Proofs.YtigomhilcnnjdaaGreat.Edi (bel_tr bel_al bel_cell)

/-- What readAll tells of leases. -/
structure AllL (base : Nat) (ps : List ByteArray) (n : Nat) (e : Ending) (w' : World) : Prop where
  ex : (∃ (xs : LS) (a : Option Addr) (c : Nat) (g : Option Nat), e = .returned (.tuple #[.slice a n c, .bool true]) ∧ LO base w' a n c xs g ∧ ps = xs.map leaseP ∧ ∀ x ∈ xs, FitL x) ∨ (e = .returned (.tuple #[.slice none 0 0, .bool false]) ∧ ∀ xs : LS, (∀ x ∈ xs, FitL x) → ps ≠ xs.map leaseP)

set_option maxRecDepth 100000 in
set_option maxHeartbeats 2000000 in
theorem readLeases_val {a : Option Addr} {b off n c : Nat} {ps : List ByteArray} {w : World} (h : Strs w a b off ps) (hn : ps.length = n) (hk : n ≤ 1000000000) (hsm : ∀ p ∈ ps, p.size ≤ maxLen) :
    Calls Tryz.prog 27 #[.slice a n c, .func (.func 28) #[] #[]] w fun e w' => AllL w.heap.size ps n e w' ∧ Below w.heap.size w w' := by
  obtain ⟨ti, hi1, hi2, hi3, hi4⟩ := lsRow
  have HS : Hid (Strs w a b off ps) := h
  have HN : Hid (ps.length = n) := hn
  have HM : Hid (∀ p ∈ ps, p.size ≤ maxLen) := hsm
  clear h hn hsm
  go_enter Tryz.func27, Tryz.ntmps27
  go_wp2
  go_loopw [6, 13] (fun v6 v13 wr => ∃ (i : Nat) (fa : Option Addr) (fc : Nat) (xs : LS) (g : Option Nat), i ≤ n ∧ v13 = .int .i64 i ∧ v6 = .slice fa i fc ∧ LO w.heap.size wr fa i fc xs g ∧ ps.take i = xs.map leaseP ∧ (∀ x ∈ xs, FitL x) ∧ Below w.heap.size w wr) (fun _ v13 _ => n - (intOf v13).toNat)
  case atStart => exact ⟨0, none, 0, [], none, by omega, rfl, rfl, LO.none _ _, by simp, fun x hx => (by cases hx), Below.refl _ _⟩
  case round =>
    obtain ⟨i, fa, fc, xs, g, hi, rfl, rfl, hO, hx, hf, hb⟩ := hrel
    have HB : Hid (Below w.heap.size w wr) := hb
    have HO : Hid (LO w.heap.size wr fa i fc xs g) := hO
    have HX : Hid (ps.take i = xs.map leaseP) := hx
    have HF : Hid (∀ x ∈ xs, FitL x) := hf
    clear hO hx hf
    by_cases hlt : i < n
    · have hip : i < ps.length := by rw [HN.out]; exact hlt
      obtain rfl := HS.out.addr (by omega)
      have hcell : wr.cell? ⟨b, off + i, none⟩ = some (.string ps[i]) := (hb.cell (p := ⟨b, off + i, none⟩) (HS.out.lt (by omega))).trans (HS.out.cell i hip)
      have HT : Hid (ps.take (i + 1) = ps.take i ++ [ps[i]]) := List.take_succ_eq_append_getElem hip
      have HG : Hid (ps[i] ∈ ps) := List.getElem_mem hip
      have HGE : Hid (ps[i]? = some ps[i]) := List.getElem?_eq_getElem hip
      generalize ps[i] = p at *
      clear hb hip
      go_wp2_with fail
      refine (readLease_val p _ (HM.out p HG.out)).mono ?_
      rintro e w1 ⟨⟨cc, uu, v, rfl, hy, hno⟩, b1⟩
      have B1 : Hid (Below wr.heap.size wr w1) := b1
      have HY : Hid (v = true → p = leaseP ⟨cc, uu⟩ ∧ FitL ⟨cc, uu⟩) := hy
      have HNO : Hid (v = false → ∀ l, FitL l → p ≠ leaseP l) := hno
      clear b1 hy hno hcell
      cases v with
      | false =>
        have HN2 : Hid (∀ l, FitL l → p ≠ leaseP l) := HNO.out rfl
        clear HNO
        go_wp2
        go_ret2
        refine ⟨⟨.inr ⟨rfl, fun ys hys e => ?_⟩⟩, bel_tr HB.out (bel_tr B1.out (bel_al _ _))⟩
        have h1 := HGE.out
        rw [e, List.getElem?_map] at h1
        cases hq : ys[i]? with
        | none => rw [hq] at h1; cases h1
        | some y =>
          rw [hq] at h1
          exact HN2.out y (hys y (List.mem_of_getElem? hq)) (Option.some.inj h1).symm
      | true =>
        obtain ⟨hp1, hp2⟩ := HY.out rfl
        have HP1 : Hid (p = leaseP ⟨cc, uu⟩) := hp1
        have HP2 : Hid (FitL ⟨cc, uu⟩) := hp2
        clear hp1 hp2
        go_wp2_with (at_builtin; refine wpList_append_cel _ rfl _ _ 24 24 rfl 48 ti _ 2 16 Tryz.underlying24 hi1 hi2 hi3 hi4 rfl (O := fun k => w.heap.size ≤ k) _ i _ g rfl ((HO.out.below B1.out).below (bel_al2 _ _ _)).cel _ 1 (rowC lsC [(⟨cc, uu⟩ : Ls)]) rfl (src_ls1 w1 _ ⟨cc, uu⟩) (by unfold maxLen; omega) (by omega) ?_; intro a2 c2 w2 g2 hC2 hS2 hg2; have A2 : Hid _ := ((HO.out.below B1.out).below (bel_al2 _ _ _)).app (ys := [(⟨cc, uu⟩ : Ls)]) rfl hC2 (by have := HB.out.size; have := B1.out.size; simp; omega); have B2 : Hid _ := ((HO.out.below B1.out).below (bel_al2 _ _ _)).appBelow hS2 (by have := HB.out.size; have := B1.out.size; simp; omega); clear hC2 hS2 hg2)
        go_roundw
        case rel => exact ⟨i + 1, a2, c2, xs ++ [⟨cc, uu⟩], g2, by omega, by go_num, rfl, A2.out, by rw [HT.out, HX.out, HP1.out, List.map_append]; rfl, fun x hx => (List.mem_append.1 hx).elim (HF.out x) (fun e => by rw [List.mem_singleton.1 e]; exact HP2.out), (bel_tr HB.out (bel_tr B1.out (bel_al2 _ _ _))).trans B2.out⟩
        case measure => simp [intOf]; omega
    · obtain rfl : i = n := by omega
      have hgd : decide ((i : Int) < (i : Int)) = false := decide_eq_false (by omega)
      have HXX : Hid (ps = xs.map leaseP) := by rw [← HX.out, ← HN.out, List.take_length]; exact rfl
      clear hb hlt
      go_wp2
      go_ret2
      exact ⟨⟨.inl ⟨xs, fa, fc, g, rfl, HO.out, HXX.out, HF.out⟩⟩, HB.out⟩

end Go.Proofs.YtigomhilcnnjdaaGreat.Img

/- The contract of image.read. -/
namespace Go.Proofs.YtigomhilcnnjdaaGreat.Img
open Go.RowKit Go.Proofs.YtigomhilcnnjdaaGreat Go.Proofs.YtigomhilcnnjdaaGreat.Smm
open Go.Proofs.YtigomhilcnnjdaaGreat.Spa (Sp RtS zeroS newS spV SpIn SpC put6 put6_at put6_def noS bel_put6)
open Go.Proofs.YtigomhilcnnjdaaGreat.Lea (LS Ls LL LO)
open Go.Proofs.YtigomhilcnnjdaaGreat.Edi (bel_tr bel_al bel_cell bel_drew)

theorem lx_nil {base : Nat} {w : World} {a : Option Addr} {n c : Nat} {xs : NS} (h : LX base w a n c xs) : a = none → c = 0 := by
  obtain ⟨ps, g, _, hL⟩ := h.ex
  intro ha
  cases hL.cel with
  | nil h1 h2 h3 => cases h1; rfl
  | row g cap h1 hl h2 h3 h4 h5 h6 h7 => cases h1; cases ha
theorem lx_keep {O : Nat → Prop} {base : Nat} {w w' : World} {a : Option Addr} {n c : Nat} {xs : NS} (h : LX base w a n c xs) (hs : Stay O w w') (hO : ∀ k, O k → k < base) : LX base w' a n c xs := by
  obtain ⟨ps, g, h1, hL⟩ := h.ex
  refine ⟨ps, g, h1, hL.stay hs.size (fun k hk => ?_) (fun x hx k hk => ?_)⟩
  · have hc := hL.cel
    rw [hk] at hc
    exact hs.block k hc.lt.1 (fun e => by have := hO k e; have := hc.lt.2; omega)
  · exact hs.block k ((hL.ok x hx).ok.bs.lt k hk) (fun e => by have := hO k e; have := (hL.ok x hx).blk_ge k hk; omega)
theorem lo_keep {O : Nat → Prop} {base : Nat} {w w' : World} {a : Option Addr} {n c : Nat} {xs : LS} {g : Option Nat} (h : LO base w a n c xs g) (hs : Stay O w w') (hO : ∀ k, O k → k < base) : LO base w' a n c xs g :=
  ⟨h.cel.stay hs.size (fun k hk => hs.block k (h.own k hk).1 (fun e => by have := hO k e; have := (h.own k hk).2; omega)) (fun _ e => e), h.len⟩
/-- A space in memory of the call's own. -/
structure SpOwn (base : Nat) (w : World) (s : Sp) (N L : RS) : Prop where
  lx : LX base w N.a N.n N.c s.ns
  lo : ∃ g, LO base w L.a L.n L.c s.ls g
theorem SpOwn.spIn {base : Nat} {w : World} {s : Sp} {N L : RS} (h : SpOwn base w s N L) : SpIn w s N L := by
  obtain ⟨g, hg⟩ := h.lo
  exact ⟨h.lx.nl, hg.ll, lx_nil h.lx⟩
theorem SpOwn.keep {O : Nat → Prop} {base : Nat} {w w' : World} {s : Sp} {N L : RS} (h : SpOwn base w s N L) (hs : Stay O w w') (hO : ∀ k, O k → k < base) : SpOwn base w' s N L :=
  ⟨lx_keep h.lx hs hO, h.lo.elim fun g hg => ⟨g, lo_keep hg hs hO⟩⟩
theorem SpOwn.below {base : Nat} {w w' : World} {s : Sp} {N L : RS} (h : SpOwn base w s N L) (hb : Below w.heap.size w w') : SpOwn base w' s N L :=
  ⟨h.lx.below hb, h.lo.elim fun g hg => ⟨g, hg.below hb⟩⟩
theorem SpOwn.mono {b1 b2 : Nat} {w : World} {s : Sp} {N L : RS} (h : SpOwn b1 w s N L) (hb : b2 ≤ b1) : SpOwn b2 w s N L :=
  ⟨h.lx.mono hb, h.lo.elim fun g hg => ⟨g, hg.mono hb⟩⟩
structure ReadR (base : Nat) (ps : List ByteArray) (e : Ending) (w' : World) : Prop where
  ex : ∃ (s : Sp) (N L : RS) (v : Bool), e = .returned (.tuple #[spV s N L, .bool v]) ∧ SpOwn base w' s N L ∧ (v = true → ps = partsS s ∧ FitS s) ∧ (v = false → ∀ t, FitS t → ps ≠ partsS t)
theorem spOwn_no (base : Nat) (w : World) (z0 z1 z2 z3 : Int) : SpOwn base w ⟨z0, z1, z2, z3, [], []⟩ noS noS := ⟨LX.no base w, ⟨none, LO.none base w⟩⟩
theorem read_head {p : ByteArray} {qs : List ByteArray} {zs : List Int} (h6 : zs.length = 6) (hp : p = headL zs) {t : Sp} (e : p :: qs = partsS t) : headZ t = zs ∧ qs = t.ns.map nodeP ++ t.ls.map leaseP := by
  unfold partsS at e
  simp only [List.cons.injEq] at e
  refine ⟨?_, e.2⟩
  exact (headL_inj (a := headZ t) (b := zs) (r := []) (r' := []) (by rw [h6]; rfl) (by rw [← e.1, hp])).1

set_option maxRecDepth 100000 in
set_option maxHeartbeats 4000000 in
theorem read_none {a : Option Addr} {c : Nat} {w : World} :
    Calls Tryz.prog 11 #[.slice a 0 c] w fun e w' => ReadR w.heap.size [] e w' ∧ Below w.heap.size w w' := by
  have HI : Hid (∀ W, ReadR w.heap.size [] (.returned (.tuple #[spV zeroS noS noS, .bool false])) W) := fun W => ⟨zeroS, noS, noS, false, rfl, spOwn_no _ W 0 0 0 0, fun e => (by cases e), fun _ t _ e => by unfold partsS at e; cases e⟩
  have hst2 : ∀ (w : World) (a : Addr) (x : Option Addr) (n c : Nat) (m : Mode), (store a (.slice x n c) m).run Tryz.prog w = stored Tryz.prog w a (.slice x n c) m := fun w a x n c m => run_store_any w a _ m rfl
  go_enter Tryz.func11, Tryz.ntmps11
  go_wp2
  obtain ⟨q0, q1, q2, q3, q4, q5, _⟩ := SpC.new w 26 zeroS noS noS
  simp only [zeroS, noS] at q0 q1 q2 q3 q4 q5
  refine bodyPost_ret (v := .tuple #[spV zeroS noS noS, .bool false]) ?_ rfl ⟨HI.out _, bel_al _ _⟩
  unfold spV zeroS noS
  simp only [results, Tryz.results11]
  simp [go_sem, q0, q1, q2, q3, q4, q5]

/-- What is read of nodes, or none. -/
structure OutN (base : Nat) (w : World) (ps : List ByteArray) (N : RS) (xs : NS) (v : Bool) : Prop where
  lx : LX base w N.a N.n N.c xs
  yes : v = true → ps = xs.map nodeP ∧ ∀ x ∈ xs, FitX x
  no : v = false → ∀ ys : NS, (∀ x ∈ ys, FitX x) → ps ≠ ys.map nodeP
structure OutL (base : Nat) (w : World) (ps : List ByteArray) (L : RS) (xs : LS) (v : Bool) : Prop where
  lo : ∃ g, LO base w L.a L.n L.c xs g
  yes : v = true → ps = xs.map leaseP ∧ ∀ x ∈ xs, FitL x
  no : v = false → ∀ ys : LS, (∀ x ∈ ys, FitL x) → ps ≠ ys.map leaseP
theorem AllN.out {base : Nat} {ps : List ByteArray} {n : Nat} {e : Ending} {w : World} (h : AllN base ps n e w) : ∃ N xs v, e = .returned (.tuple #[.slice N.a N.n N.c, .bool v]) ∧ OutN base w ps N xs v := by
  rcases h.ex with ⟨xs, a, c, rfl, hL, h1, h2⟩ | ⟨rfl, h1⟩
  · exact ⟨⟨a, n, c⟩, xs, true, rfl, hL, fun _ => ⟨h1, h2⟩, fun e => (by cases e)⟩
  · exact ⟨noS, [], false, rfl, LX.no base w, fun e => (by cases e), fun _ => h1⟩
theorem AllL.out {base : Nat} {ps : List ByteArray} {n : Nat} {e : Ending} {w : World} (h : AllL base ps n e w) : ∃ L xs v, e = .returned (.tuple #[.slice L.a L.n L.c, .bool v]) ∧ OutL base w ps L xs v := by
  rcases h.ex with ⟨xs, a, c, g, rfl, hL, h1, h2⟩ | ⟨rfl, h1⟩
  · exact ⟨⟨a, n, c⟩, xs, true, rfl, ⟨g, hL⟩, fun _ => ⟨h1, h2⟩, fun e => (by cases e)⟩
  · exact ⟨noS, [], false, rfl, ⟨none, LO.none base w⟩, fun e => (by cases e), fun _ => h1⟩
theorem OutN.keep {O : Nat → Prop} {base : Nat} {w w' : World} {ps : List ByteArray} {N : RS} {xs : NS} {v : Bool} (h : OutN base w ps N xs v) (hs : Stay O w w') (hO : ∀ k, O k → k < base) : OutN base w' ps N xs v := ⟨lx_keep h.lx hs hO, h.yes, h.no⟩
theorem OutN.below {base : Nat} {w w' : World} {ps : List ByteArray} {N : RS} {xs : NS} {v : Bool} (h : OutN base w ps N xs v) (hb : Below w.heap.size w w') : OutN base w' ps N xs v := ⟨h.lx.below hb, h.yes, h.no⟩
theorem OutL.keep {O : Nat → Prop} {base : Nat} {w w' : World} {ps : List ByteArray} {L : RS} {xs : LS} {v : Bool} (h : OutL base w ps L xs v) (hs : Stay O w w') (hO : ∀ k, O k → k < base) : OutL base w' ps L xs v := ⟨h.lo.elim fun g hg => ⟨g, lo_keep hg hs hO⟩, h.yes, h.no⟩
theorem SpC.nodes {w : World} {b : Nat} {s : Sp} {N L : RS} (h : SpC w b s N L) (xs : NS) (M : RS) : SpC (w.setCell ⟨b, 4, none⟩ (.slice M.a M.n M.c)) b ⟨s.tx, s.nb, s.ng, s.now, xs, s.ls⟩ M L :=
  ⟨(oth (by omega)).trans h.c0, (oth (by omega)).trans h.c1, (oth (by omega)).trans h.c2, (oth (by omega)).trans h.c3, World.cell?_setCell_same _ _ _ h.c4, (oth (by omega)).trans h.c5, fun j => frz.trans (h.fr j)⟩
theorem SpC.leases {w : World} {b : Nat} {s : Sp} {N L : RS} (h : SpC w b s N L) (xs : LS) (M : RS) : SpC (w.setCell ⟨b, 5, none⟩ (.slice M.a M.n M.c)) b ⟨s.tx, s.nb, s.ng, s.now, s.ns, xs⟩ N M :=
  ⟨(oth (by omega)).trans h.c0, (oth (by omega)).trans h.c1, (oth (by omega)).trans h.c2, (oth (by omega)).trans h.c3, (oth (by omega)).trans h.c4, World.cell?_setCell_same _ _ _ h.c5, fun j => frz.trans (h.fr j)⟩
theorem Strs.part {w : World} {b off k : Nat} {qs : List ByteArray} (h : Strs w (some ⟨b, off, none⟩) b off qs) : Strs w (some ⟨b, off, none⟩) b off (qs.take k) :=
  ⟨fun _ => rfl, fun j hj => by
    rw [List.length_take] at hj
    rw [List.getElem_take]
    exact h.cell j (by omega), fun s hs => h.small s (List.mem_of_mem_take hs), by rw [List.length_take]; have := h.len; omega⟩
theorem Strs.rest {w : World} {b off k e : Nat} {qs : List ByteArray} (h : Strs w (some ⟨b, off, none⟩) b off qs) (hk : k ≤ qs.length) (he : qs.length ≤ k + e) : Strs w (if e = 0 then some ⟨b, off, none⟩ else some ⟨b, off + k, none⟩) b (off + k) (qs.drop k) := by
  refine ⟨fun hp => ?_, fun j hj => ?_, fun s hs => h.small s (List.mem_of_mem_drop hs), by rw [List.length_drop]; have := h.len; omega⟩
  · rw [List.length_drop] at hp
    rw [if_neg (by omega)]
  · rw [List.length_drop] at hj
    rw [List.getElem_drop]
    have := h.cell (k + j) (by omega)
    rwa [← Nat.add_assoc] at this
theorem read_yes {p : ByteArray} {qs : List ByteArray} {z0 z1 z2 z3 : Int} {k d : Nat} (hq : qs.length = k + d) (hk : k + d ≤ 900000000) {xs : NS} {ls : LS} (hp : p = headL [z0, z1, z2, z3, (k : Int), (d : Int)]) (hz : ∀ z ∈ [z0, z1, z2, z3, (k : Int), (d : Int)], I64 z) (h1 : qs.take k = xs.map nodeP) (f1 : ∀ x ∈ xs, FitX x) (h2 : qs.drop k = ls.map leaseP) (f2 : ∀ x ∈ ls, FitL x) : p :: qs = partsS ⟨z0, z1, z2, z3, xs, ls⟩ ∧ FitS ⟨z0, z1, z2, z3, xs, ls⟩ := by
  have l1 : xs.length = k := by have := congrArg List.length h1; rw [List.length_take, List.length_map] at this; omega
  have l2 : ls.length = d := by have := congrArg List.length h2; rw [List.length_drop, List.length_map] at this; omega
  refine ⟨?_, hz z0 (by simp), hz z1 (by simp), hz z2 (by simp), hz z3 (by simp), f1, f2, by simp only; omega, by simp only; omega⟩
  unfold partsS headZ
  simp only
  rw [l1, l2, ← hp, ← h1, ← h2, List.take_append_drop]
theorem read_bad {p : ByteArray} {qs : List ByteArray} {z0 z1 z2 z3 : Int} {k d : Nat} (hp : p = headL [z0, z1, z2, z3, (k : Int), (d : Int)]) {t : Sp} (e : p :: qs = partsS t) : qs.take k = t.ns.map nodeP ∧ qs.drop k = t.ls.map leaseP := by
  obtain ⟨h1, h2⟩ := read_head rfl hp e
  simp only [headZ, List.cons.injEq, and_true] at h1
  have hl : (t.ns.map nodeP).length = k := by rw [List.length_map]; omega
  rw [h2]
  exact ⟨by rw [← hl, List.take_left], by rw [← hl, List.drop_left]⟩

set_option maxRecDepth 100000 in
set_option maxHeartbeats 4000000 in
theorem read_some {b n c : Nat} {p : ByteArray} {qs : List ByteArray} {w : World} (h : Strs w (some ⟨b, 0, none⟩) b 0 (p :: qs)) (hn : qs.length = n) (hc : n ≤ c) (hcm : 1 + c ≤ maxLen) (hk : n ≤ 900000000) :
    Calls Tryz.prog 11 #[.slice (some ⟨b, 0, none⟩) (1 + n) (1 + c)] w fun e w' => ReadR w.heap.size (p :: qs) e w' ∧ Below w.heap.size w w' := by
  have hx : 1 + c ≤ 9223372036854775807 := by unfold maxLen at hcm; omega
  have c0 : w.cell? ⟨b, 0, none⟩ = some (.string p) := h.cell 0 (by simp)
  have hst2 : ∀ (w : World) (a : Addr) (x : Option Addr) (n c : Nat) (m : Mode), (store a (.slice x n c) m).run Tryz.prog w = stored Tryz.prog w a (.slice x n c) m := fun w a x n c m => run_store_any w a _ m rfl
  have c0a := cell_al c0
  go_enter Tryz.func11, Tryz.ntmps11
  go_wp2_with fail
  refine (readHead_val p _ (h.small p (List.mem_cons_self ..))).mono ?_
  rintro e w1 ⟨⟨z0, z1, z2, z3, z4, z5, v, rfl, hy, hno⟩, b1⟩
  have HQ0 : Hid (Strs w1 (if c = 0 then some ⟨b, 0, none⟩ else some ⟨b, 1, none⟩) b 1 qs) := by
    have h1 := (h.below (bel_tr (bel_al _ _) b1))
    have h2 := Strs.rest (k := 1) (e := c) h1 (by simp) (by simp; omega)
    exact h2
  have HBW : Hid (qs ≠ [] → b < w.heap.size) := fun _ => h.lt (by simp)
  have hsz : ∀ o : Obj, (w.alloc o).heap.size = w.heap.size + 1 := fun o => by simp
  have hw1 := b1.size
  rw [hsz] at hw1
  have RB : Hid (SpC w1 w.heap.size zeroS noS noS) := (SpC.new w 26 zeroS noS noS).below b1
  have B1 : Hid (Below w.heap.size w w1) := bel_tr (bel_al _ _) b1
  have HY : Hid (v = true → p = headL [z0, z1, z2, z3, z4, z5] ∧ ∀ z ∈ [z0, z1, z2, z3, z4, z5], I64 z) := hy
  have HNO : Hid (v = false → ∀ zs : List Int, zs.length = 6 → (∀ z ∈ zs, I64 z) → p ≠ headL zs) := hno
  have HQL : Hid (qs.length = n) := hn
  clear b1 hy hno h c0 c0a hsz hn
  -- the refusal, once
  have HZ : Hid (∀ W, SpC W w.heap.size zeroS noS noS → Below w.heap.size w W → (∀ t, FitS t → p :: qs ≠ partsS t) → SpC (Spa.put6 W w.heap.size zeroS noS noS) w.heap.size zeroS noS noS ∧ ReadR w.heap.size (p :: qs) (.returned (.tuple #[spV zeroS noS noS, .bool false])) (Spa.put6 W w.heap.size zeroS noS noS) ∧ Below w.heap.size w (Spa.put6 W w.heap.size zeroS noS noS)) := fun W h1 h2 h3 => ⟨(put6_at h1 _ _ _).1, ⟨zeroS, noS, noS, false, rfl, spOwn_no _ _ 0 0 0 0, fun e => (by cases e), fun _ => h3⟩, bel_put6 h2 h1 (Nat.le_refl _) _ _ _⟩
  unfold spV noS
  go_upto_region 5 with fail
  have RB2 : Hid (SpC (w1.alloc (.cells #[.int .i64 z0, .int .i64 z1, .int .i64 z2, .int .i64 z3, .slice none 0 0, .slice none 0 0] 26)) w.heap.size zeroS noS noS) := RB.out.below (bel_al _ _)
  have QB2 : Hid (SpC (w1.alloc (.cells #[.int .i64 z0, .int .i64 z1, .int .i64 z2, .int .i64 z3, .slice none 0 0, .slice none 0 0] 26)) w1.heap.size ⟨z0, z1, z2, z3, [], []⟩ noS noS) := SpC.new w1 26 ⟨z0, z1, z2, z3, [], []⟩ noS noS
  have B2 : Hid (Below w.heap.size w (w1.alloc (.cells #[.int .i64 z0, .int .i64 z1, .int .i64 z2, .int .i64 z3, .slice none 0 0, .slice none 0 0] 26))) := bel_tr B1.out (bel_al _ _)
  have HQ2 : Hid (Strs (w1.alloc (.cells #[.int .i64 z0, .int .i64 z1, .int .i64 z2, .int .i64 z3, .slice none 0 0, .slice none 0 0] 26)) (if c = 0 then some ⟨b, 0, none⟩ else some ⟨b, 1, none⟩) b 1 qs) := HQ0.out.below (bel_al _ _)
  have hQ1 : w.heap.size < w1.heap.size := by omega
  generalize w1.alloc (.cells #[.int .i64 z0, .int .i64 z1, .int .i64 z2, .int .i64 z3, .slice none 0 0, .slice none 0 0] 26) = W2 at *
  generalize w1.heap.size = Q at *
  clear RB B1 HQ0 hw1
  obtain ⟨off, hoff, HQ3⟩ : ∃ off, (if c = 0 then some (⟨b, 0, none⟩ : Addr) else some ⟨b, 1, none⟩) = some ⟨b, off, none⟩ ∧ Hid (Strs W2 (some ⟨b, off, none⟩) b off qs) := by
    by_cases h0 : c = 0
    · have hq0 : qs = [] := List.length_eq_zero_iff.1 (by rw [HQL.out]; omega)
      refine ⟨0, by rw [if_pos h0], ?_⟩
      show Strs W2 (some ⟨b, 0, none⟩) b 0 qs
      rw [hq0]
      exact ⟨fun hp => by simp at hp, fun j hj => by simp at hj, by simp, by simp⟩
    · refine ⟨1, by rw [if_neg h0], ?_⟩
      have h1 := HQ2.out
      rw [if_neg h0] at h1
      exact h1
  rw [hoff]
  clear HQ2 hoff
  cases v with
  | false =>
    have hz := HZ.out W2 RB2.out B2.out (fun t ht e => by
      unfold partsS at e
      simp only [List.cons.injEq] at e
      exact HNO.out rfl (headZ t) rfl ht.hz e.1)
    have HP : Hid _ := hz
    clear hz HZ HY HNO HQ3 QB2
    rw [put6_def] at HP
    unfold noS zeroS spV at HP
    simp only at HP
    obtain ⟨r0, r1, r2, r3, r4, r5, rf⟩ := RB2.out
    simp only [zeroS, noS] at r0 r1 r2 r3 r4 r5
    go_wp2
    obtain ⟨q0, q1, q2, q3, q4, q5, _⟩ := HP.out.1
    refine bodyPost_ret (v := .tuple #[.agg #[.int .i64 0, .int .i64 0, .int .i64 0, .int .i64 0, .slice none 0 0, .slice none 0 0], .bool false]) ?_ rfl ⟨HP.out.2.1, HP.out.2.2⟩
    simp only [results, Tryz.results11]
    simp [go_sem, q0, q1, q2, q3, q4, q5]
  | true =>
    obtain ⟨hp, hz⟩ := HY.out rfl
    have HP : Hid (p = headL [z0, z1, z2, z3, z4, z5]) := hp
    have HZZ : Hid (∀ z ∈ [z0, z1, z2, z3, z4, z5], I64 z) := hz
    clear hp hz HY HNO
    by_cases hk4 : 0 ≤ z4 ∧ z4 ≤ (n : Int)
    · obtain ⟨k, rfl⟩ : ∃ k : Nat, z4 = (k : Int) := ⟨z4.toNat, by omega⟩
      obtain ⟨d, rfl⟩ : ∃ d, n = k + d := ⟨n - k, by omega⟩
      obtain ⟨q, rfl⟩ : ∃ q, c = k + q := ⟨c - k, by omega⟩
      have G1 : Hid ((decide ((0 : Int) ≤ (k : Int)) && decide ((k : Int) ≤ ((k + d : Nat) : Int))) = true) := by
        show (_ && _) = true
        rw [decide_eq_true (by omega), decide_eq_true (by omega)]; rfl
      by_cases hk5 : z5 = (d : Int)
      · subst hk5
        clear HZ hk4
        have hdq : d ≤ q := by omega
        by_cases hq0 : q = 0
        · subst hq0
          obtain ⟨y0, y1, y2, y3, y4, y5, yf⟩ := QB2.out
          simp only [noS] at y4 y5
          have C1 : Hid (∀ W, Below W2.heap.size W2 W → Calls Tryz.prog 25 #[.slice (some ⟨b, off, none⟩) k (k), .func (.func 26) #[] #[]] W fun e w' => AllN W.heap.size (qs.take k) k e w' ∧ Below W.heap.size W w') := fun W hb => readNodes_val (Strs.part (HQ3.out.below hb)) (by rw [List.length_take, HQL.out]; omega) (by omega) (fun p hp => HQ3.out.small p (List.mem_of_mem_take hp))
          have C2 : Hid (∀ W, Strs W (some ⟨b, off, none⟩) b off qs → Calls Tryz.prog 27 #[.slice (some ⟨b, off, none⟩) d 0, .func (.func 28) #[] #[]] W fun e w' => AllL W.heap.size (qs.drop k) d e w' ∧ Below W.heap.size W w') := fun W hb => readLeases_val (by have h9 := Strs.rest (e := 0) (k := k) hb (by rw [HQL.out]; omega) (by rw [HQL.out]; omega); rw [if_pos rfl] at h9; exact h9) (by rw [List.length_drop, HQL.out]; omega) (by omega) (fun p hp => HQ3.out.small p (List.mem_of_mem_drop hp))
          have hQ2 := World.block_lt_of_cell? _ _ QB2.out.c0
          have hbw : qs = [] ∨ b < w.heap.size := by
            by_cases hq0 : qs = []
            · exact .inl hq0
            · exact .inr (HBW.out hq0)
          go_wp2_with (go_at_call 24; refine (within_i _ 0 _ true _ G1.out).mono ?_; rintro e wq ⟨rfl, hwq⟩; subst wq)
          refine (C1.out _ (Below.refl _ _)).mono ?_
          rintro e w3 ⟨ho, b3⟩
          obtain ⟨⟨Na, Nn, Nc⟩, xs, v1, rfl, hON⟩ := ho.out
          have ON : Hid (OutN W2.heap.size w3 (qs.take k) ⟨Na, Nn, Nc⟩ xs v1) := hON
          have Q3 : Hid (SpC w3 Q ⟨z0, z1, z2, z3, [], []⟩ noS noS) := QB2.out.below b3
          have R3 : Hid (SpC w3 w.heap.size zeroS noS noS) := RB2.out.below b3
          have B3 : Hid (Below w.heap.size w w3) := bel_tr B2.out b3
          have S3 : Hid (Strs w3 (some ⟨b, off, none⟩) b off qs) := HQ3.out.below b3
          have hs3 := b3.size
          clear ho hON b3 y0 y1 y2 y3 y4 y5 yf QB2 RB2 B2
          have sN : Stay (fun i => i = Q) w3 (w3.setCell ⟨Q, 4, none⟩ (.slice Na Nn Nc)) := Stay.setCell _ _ _ rfl
          have ON4 : Hid (OutN W2.heap.size (w3.setCell ⟨Q, 4, none⟩ (.slice Na Nn Nc)) (qs.take k) ⟨Na, Nn, Nc⟩ xs v1) := ON.out.keep sN (fun i hi => by rw [hi]; exact hQ2)
          have Q4 : Hid (SpC (w3.setCell ⟨Q, 4, none⟩ (.slice Na Nn Nc)) Q ⟨z0, z1, z2, z3, xs, []⟩ ⟨Na, Nn, Nc⟩ noS) := SpC.nodes Q3.out xs ⟨Na, Nn, Nc⟩
          have R4 : Hid (SpC (w3.setCell ⟨Q, 4, none⟩ (.slice Na Nn Nc)) w.heap.size zeroS noS noS) := R3.out.keep sN (by omega)
          have B4 : Hid (Below w.heap.size w (w3.setCell ⟨Q, 4, none⟩ (.slice Na Nn Nc))) := bel_stay B3.out sN (fun i hi => by rw [hi]; omega)
          have S4 : Hid (Strs (w3.setCell ⟨Q, 4, none⟩ (.slice Na Nn Nc)) (some ⟨b, off, none⟩) b off qs) := by
            refine ⟨fun _ => rfl, fun j hj => ?_, S3.out.small, S3.out.len⟩
            refine Stay.cell sN (S3.out.cell j hj) ?_
            show ¬ b = Q
            rcases hbw with h0 | h0
            · rw [h0] at hj; simp at hj
            · omega
          have hs4 : W2.heap.size ≤ (w3.setCell ⟨Q, 4, none⟩ (.slice Na Nn Nc)).heap.size := Nat.le_trans hs3 sN.size
          obtain ⟨_, _, _, _, y4, _, yf⟩ := Q3.out
          have yf4 := yf 4
          simp only [noS] at y4
          clear sN ON Q3 R3 B3 S3 hs3
          go_wp2_with fail
          generalize w3.setCell ⟨Q, 4, none⟩ (.slice Na Nn Nc) = w4 at *
          clear y4 yf yf4
          refine (C2.out _ S4.out).mono ?_
          rintro e w5 ⟨ho, b5⟩
          obtain ⟨⟨La, Ln, Lc⟩, ls, v2, rfl, hOL⟩ := ho.out
          have OL : Hid (OutL w4.heap.size w5 (qs.drop k) ⟨La, Ln, Lc⟩ ls v2) := hOL
          have sL : Stay (fun i => i = Q) w5 (w5.setCell ⟨Q, 5, none⟩ (.slice La Ln Lc)) := Stay.setCell _ _ _ rfl
          have hQ4 : Q < w4.heap.size := World.block_lt_of_cell? _ _ Q4.out.c0
          have hR4 : w.heap.size < w4.heap.size := by omega
          have ON6 : Hid (OutN W2.heap.size (w5.setCell ⟨Q, 5, none⟩ (.slice La Ln Lc)) (qs.take k) ⟨Na, Nn, Nc⟩ xs v1) := (ON4.out.below b5).keep sL (fun i hi => by rw [hi]; exact hQ2)
          have OL6 : Hid (OutL w4.heap.size (w5.setCell ⟨Q, 5, none⟩ (.slice La Ln Lc)) (qs.drop k) ⟨La, Ln, Lc⟩ ls v2) := OL.out.keep sL (fun i hi => by rw [hi]; exact hQ4)
          have Q6 : Hid (SpC (w5.setCell ⟨Q, 5, none⟩ (.slice La Ln Lc)) Q ⟨z0, z1, z2, z3, xs, ls⟩ ⟨Na, Nn, Nc⟩ ⟨La, Ln, Lc⟩) := SpC.leases (Q4.out.below b5) ls ⟨La, Ln, Lc⟩
          have R6 : Hid (SpC (w5.setCell ⟨Q, 5, none⟩ (.slice La Ln Lc)) w.heap.size zeroS noS noS) := (R4.out.below b5).keep sL (by omega)
          have B6 : Hid (Below w.heap.size w (w5.setCell ⟨Q, 5, none⟩ (.slice La Ln Lc))) := bel_stay (bel_tr B4.out b5) sL (fun i hi => by rw [hi]; omega)
          obtain ⟨_, _, _, _, _, y5, yf⟩ := Q4.out.below b5
          have yf5 := yf 5
          simp only [noS] at y5
          clear ho hOL b5 OL sL ON4 Q4 R4 B4 S4
          go_upto_region 10 with fail
          generalize w5.setCell ⟨Q, 5, none⟩ (.slice La Ln Lc) = w6 at *
          clear y5 yf yf5
          have pR := put6_at R6.out ⟨z0, z1, z2, z3, xs, ls⟩ ⟨Na, Nn, Nc⟩ ⟨La, Ln, Lc⟩
          have HFIN : Hid (SpC (Spa.put6 w6 w.heap.size ⟨z0, z1, z2, z3, xs, ls⟩ ⟨Na, Nn, Nc⟩ ⟨La, Ln, Lc⟩) w.heap.size ⟨z0, z1, z2, z3, xs, ls⟩ ⟨Na, Nn, Nc⟩ ⟨La, Ln, Lc⟩ ∧ Below w.heap.size w (Spa.put6 w6 w.heap.size ⟨z0, z1, z2, z3, xs, ls⟩ ⟨Na, Nn, Nc⟩ ⟨La, Ln, Lc⟩) ∧ SpOwn w.heap.size (Spa.put6 w6 w.heap.size ⟨z0, z1, z2, z3, xs, ls⟩ ⟨Na, Nn, Nc⟩ ⟨La, Ln, Lc⟩) ⟨z0, z1, z2, z3, xs, ls⟩ ⟨Na, Nn, Nc⟩ ⟨La, Ln, Lc⟩) := by
            have n7 := ON6.out.keep pR.2 (fun i hi => by rw [hi]; omega)
            obtain ⟨g, hg⟩ := (OL6.out.keep pR.2 (fun i hi => by rw [hi]; omega)).lo
            exact ⟨pR.1, bel_put6 B6.out R6.out (Nat.le_refl _) _ _ _, n7.lx.mono (by omega), ⟨g, hg.mono (by omega)⟩⟩
          have HVV : Hid ((v1 = true → v2 = true → p :: qs = partsS ⟨z0, z1, z2, z3, xs, ls⟩ ∧ FitS ⟨z0, z1, z2, z3, xs, ls⟩) ∧ ((v1 = false ∨ v2 = false) → ∀ t, FitS t → p :: qs ≠ partsS t)) := by
            refine ⟨fun e1 e2 => ?_, fun e t ht et => ?_⟩
            · obtain ⟨a1, a2⟩ := ON6.out.yes e1
              obtain ⟨a3, a4⟩ := OL6.out.yes e2
              exact read_yes HQL.out hk HP.out HZZ.out a1 a2 a3 a4
            · obtain ⟨a1, a2⟩ := read_bad HP.out et
              rcases e with e | e
              · exact ON6.out.no e t.ns ht.ns a1
              · exact OL6.out.no e t.ls ht.ls a2
          rw [put6_def] at HFIN
          simp only at HFIN
          obtain ⟨n0, n1, n2, n3, n4, n5, _⟩ := Q6.out
          obtain ⟨r0, r1, r2, r3, r4, r5, rf⟩ := R6.out
          simp only [zeroS, noS] at r0 r1 r2 r3 r4 r5 n0 n1 n2 n3 n4 n5
          clear pR ON6 OL6 Q6 R6 B6 C1 C2 HQ3
          cases v1 with
          | false =>
            have H9 : Hid (∀ t, FitS t → p :: qs ≠ partsS t) := HVV.out.2 (.inl rfl)
            clear HVV
            go_wp2
            obtain ⟨q0, q1, q2, q3, q4, q5, _⟩ := HFIN.out.1
            refine bodyPost_ret (v := .tuple #[spV ⟨z0, z1, z2, z3, xs, ls⟩ ⟨Na, Nn, Nc⟩ ⟨La, Ln, Lc⟩, .bool false]) ?_ rfl ⟨⟨⟨z0, z1, z2, z3, xs, ls⟩, ⟨Na, Nn, Nc⟩, ⟨La, Ln, Lc⟩, false, rfl, HFIN.out.2.2, fun e => (by cases e), fun _ => H9.out⟩, HFIN.out.2.1⟩
            unfold spV
            simp only [results, Tryz.results11]
            simp [go_sem, q0, q1, q2, q3, q4, q5]
          | true =>
            have H8 : Hid (v2 = true → p :: qs = partsS ⟨z0, z1, z2, z3, xs, ls⟩ ∧ FitS ⟨z0, z1, z2, z3, xs, ls⟩) := fun e => HVV.out.1 rfl e
            have H9 : Hid (v2 = false → ∀ t, FitS t → p :: qs ≠ partsS t) := fun e => HVV.out.2 (.inr e)
            clear HVV
            go_wp2
            obtain ⟨q0, q1, q2, q3, q4, q5, _⟩ := HFIN.out.1
            refine bodyPost_ret (v := .tuple #[spV ⟨z0, z1, z2, z3, xs, ls⟩ ⟨Na, Nn, Nc⟩ ⟨La, Ln, Lc⟩, .bool v2]) ?_ rfl ⟨⟨⟨z0, z1, z2, z3, xs, ls⟩, ⟨Na, Nn, Nc⟩, ⟨La, Ln, Lc⟩, v2, rfl, HFIN.out.2.2, H8.out, H9.out⟩, HFIN.out.2.1⟩
            unfold spV
            simp only [results, Tryz.results11]
            simp [go_sem, q0, q1, q2, q3, q4, q5]
        · obtain ⟨y0, y1, y2, y3, y4, y5, yf⟩ := QB2.out
          simp only [noS] at y4 y5
          have C1 : Hid (∀ W, Below W2.heap.size W2 W → Calls Tryz.prog 25 #[.slice (some ⟨b, off, none⟩) k (k + q), .func (.func 26) #[] #[]] W fun e w' => AllN W.heap.size (qs.take k) k e w' ∧ Below W.heap.size W w') := fun W hb => readNodes_val (Strs.part (HQ3.out.below hb)) (by rw [List.length_take, HQL.out]; omega) (by omega) (fun p hp => HQ3.out.small p (List.mem_of_mem_take hp))
          have C2 : Hid (∀ W, Strs W (some ⟨b, off, none⟩) b off qs → Calls Tryz.prog 27 #[.slice (some ⟨b, off + k, none⟩) d q, .func (.func 28) #[] #[]] W fun e w' => AllL W.heap.size (qs.drop k) d e w' ∧ Below W.heap.size W w') := fun W hb => readLeases_val (by have h9 := Strs.rest (e := q) (k := k) hb (by rw [HQL.out]; omega) (by rw [HQL.out]; omega); rw [if_neg hq0] at h9; exact h9) (by rw [List.length_drop, HQL.out]; omega) (by omega) (fun p hp => HQ3.out.small p (List.mem_of_mem_drop hp))
          have hQ2 := World.block_lt_of_cell? _ _ QB2.out.c0
          have hbw : qs = [] ∨ b < w.heap.size := by
            by_cases hq0 : qs = []
            · exact .inl hq0
            · exact .inr (HBW.out hq0)
          go_wp2_with (go_at_call 24; refine (within_i _ 0 _ true _ G1.out).mono ?_; rintro e wq ⟨rfl, hwq⟩; subst wq)
          refine (C1.out _ (Below.refl _ _)).mono ?_
          rintro e w3 ⟨ho, b3⟩
          obtain ⟨⟨Na, Nn, Nc⟩, xs, v1, rfl, hON⟩ := ho.out
          have ON : Hid (OutN W2.heap.size w3 (qs.take k) ⟨Na, Nn, Nc⟩ xs v1) := hON
          have Q3 : Hid (SpC w3 Q ⟨z0, z1, z2, z3, [], []⟩ noS noS) := QB2.out.below b3
          have R3 : Hid (SpC w3 w.heap.size zeroS noS noS) := RB2.out.below b3
          have B3 : Hid (Below w.heap.size w w3) := bel_tr B2.out b3
          have S3 : Hid (Strs w3 (some ⟨b, off, none⟩) b off qs) := HQ3.out.below b3
          have hs3 := b3.size
          clear ho hON b3 y0 y1 y2 y3 y4 y5 yf QB2 RB2 B2
          have sN : Stay (fun i => i = Q) w3 (w3.setCell ⟨Q, 4, none⟩ (.slice Na Nn Nc)) := Stay.setCell _ _ _ rfl
          have ON4 : Hid (OutN W2.heap.size (w3.setCell ⟨Q, 4, none⟩ (.slice Na Nn Nc)) (qs.take k) ⟨Na, Nn, Nc⟩ xs v1) := ON.out.keep sN (fun i hi => by rw [hi]; exact hQ2)
          have Q4 : Hid (SpC (w3.setCell ⟨Q, 4, none⟩ (.slice Na Nn Nc)) Q ⟨z0, z1, z2, z3, xs, []⟩ ⟨Na, Nn, Nc⟩ noS) := SpC.nodes Q3.out xs ⟨Na, Nn, Nc⟩
          have R4 : Hid (SpC (w3.setCell ⟨Q, 4, none⟩ (.slice Na Nn Nc)) w.heap.size zeroS noS noS) := R3.out.keep sN (by omega)
          have B4 : Hid (Below w.heap.size w (w3.setCell ⟨Q, 4, none⟩ (.slice Na Nn Nc))) := bel_stay B3.out sN (fun i hi => by rw [hi]; omega)
          have S4 : Hid (Strs (w3.setCell ⟨Q, 4, none⟩ (.slice Na Nn Nc)) (some ⟨b, off, none⟩) b off qs) := by
            refine ⟨fun _ => rfl, fun j hj => ?_, S3.out.small, S3.out.len⟩
            refine Stay.cell sN (S3.out.cell j hj) ?_
            show ¬ b = Q
            rcases hbw with h0 | h0
            · rw [h0] at hj; simp at hj
            · omega
          have hs4 : W2.heap.size ≤ (w3.setCell ⟨Q, 4, none⟩ (.slice Na Nn Nc)).heap.size := Nat.le_trans hs3 sN.size
          obtain ⟨_, _, _, _, y4, _, yf⟩ := Q3.out
          have yf4 := yf 4
          simp only [noS] at y4
          clear sN ON Q3 R3 B3 S3 hs3
          go_wp2_with fail
          generalize w3.setCell ⟨Q, 4, none⟩ (.slice Na Nn Nc) = w4 at *
          clear y4 yf yf4
          refine (C2.out _ S4.out).mono ?_
          rintro e w5 ⟨ho, b5⟩
          obtain ⟨⟨La, Ln, Lc⟩, ls, v2, rfl, hOL⟩ := ho.out
          have OL : Hid (OutL w4.heap.size w5 (qs.drop k) ⟨La, Ln, Lc⟩ ls v2) := hOL
          have sL : Stay (fun i => i = Q) w5 (w5.setCell ⟨Q, 5, none⟩ (.slice La Ln Lc)) := Stay.setCell _ _ _ rfl
          have hQ4 : Q < w4.heap.size := World.block_lt_of_cell? _ _ Q4.out.c0
          have hR4 : w.heap.size < w4.heap.size := by omega
          have ON6 : Hid (OutN W2.heap.size (w5.setCell ⟨Q, 5, none⟩ (.slice La Ln Lc)) (qs.take k) ⟨Na, Nn, Nc⟩ xs v1) := (ON4.out.below b5).keep sL (fun i hi => by rw [hi]; exact hQ2)
          have OL6 : Hid (OutL w4.heap.size (w5.setCell ⟨Q, 5, none⟩ (.slice La Ln Lc)) (qs.drop k) ⟨La, Ln, Lc⟩ ls v2) := OL.out.keep sL (fun i hi => by rw [hi]; exact hQ4)
          have Q6 : Hid (SpC (w5.setCell ⟨Q, 5, none⟩ (.slice La Ln Lc)) Q ⟨z0, z1, z2, z3, xs, ls⟩ ⟨Na, Nn, Nc⟩ ⟨La, Ln, Lc⟩) := SpC.leases (Q4.out.below b5) ls ⟨La, Ln, Lc⟩
          have R6 : Hid (SpC (w5.setCell ⟨Q, 5, none⟩ (.slice La Ln Lc)) w.heap.size zeroS noS noS) := (R4.out.below b5).keep sL (by omega)
          have B6 : Hid (Below w.heap.size w (w5.setCell ⟨Q, 5, none⟩ (.slice La Ln Lc))) := bel_stay (bel_tr B4.out b5) sL (fun i hi => by rw [hi]; omega)
          obtain ⟨_, _, _, _, _, y5, yf⟩ := Q4.out.below b5
          have yf5 := yf 5
          simp only [noS] at y5
          clear ho hOL b5 OL sL ON4 Q4 R4 B4 S4
          go_upto_region 10 with fail
          generalize w5.setCell ⟨Q, 5, none⟩ (.slice La Ln Lc) = w6 at *
          clear y5 yf yf5
          have pR := put6_at R6.out ⟨z0, z1, z2, z3, xs, ls⟩ ⟨Na, Nn, Nc⟩ ⟨La, Ln, Lc⟩
          have HFIN : Hid (SpC (Spa.put6 w6 w.heap.size ⟨z0, z1, z2, z3, xs, ls⟩ ⟨Na, Nn, Nc⟩ ⟨La, Ln, Lc⟩) w.heap.size ⟨z0, z1, z2, z3, xs, ls⟩ ⟨Na, Nn, Nc⟩ ⟨La, Ln, Lc⟩ ∧ Below w.heap.size w (Spa.put6 w6 w.heap.size ⟨z0, z1, z2, z3, xs, ls⟩ ⟨Na, Nn, Nc⟩ ⟨La, Ln, Lc⟩) ∧ SpOwn w.heap.size (Spa.put6 w6 w.heap.size ⟨z0, z1, z2, z3, xs, ls⟩ ⟨Na, Nn, Nc⟩ ⟨La, Ln, Lc⟩) ⟨z0, z1, z2, z3, xs, ls⟩ ⟨Na, Nn, Nc⟩ ⟨La, Ln, Lc⟩) := by
            have n7 := ON6.out.keep pR.2 (fun i hi => by rw [hi]; omega)
            obtain ⟨g, hg⟩ := (OL6.out.keep pR.2 (fun i hi => by rw [hi]; omega)).lo
            exact ⟨pR.1, bel_put6 B6.out R6.out (Nat.le_refl _) _ _ _, n7.lx.mono (by omega), ⟨g, hg.mono (by omega)⟩⟩
          have HVV : Hid ((v1 = true → v2 = true → p :: qs = partsS ⟨z0, z1, z2, z3, xs, ls⟩ ∧ FitS ⟨z0, z1, z2, z3, xs, ls⟩) ∧ ((v1 = false ∨ v2 = false) → ∀ t, FitS t → p :: qs ≠ partsS t)) := by
            refine ⟨fun e1 e2 => ?_, fun e t ht et => ?_⟩
            · obtain ⟨a1, a2⟩ := ON6.out.yes e1
              obtain ⟨a3, a4⟩ := OL6.out.yes e2
              exact read_yes HQL.out hk HP.out HZZ.out a1 a2 a3 a4
            · obtain ⟨a1, a2⟩ := read_bad HP.out et
              rcases e with e | e
              · exact ON6.out.no e t.ns ht.ns a1
              · exact OL6.out.no e t.ls ht.ls a2
          rw [put6_def] at HFIN
          simp only at HFIN
          obtain ⟨n0, n1, n2, n3, n4, n5, _⟩ := Q6.out
          obtain ⟨r0, r1, r2, r3, r4, r5, rf⟩ := R6.out
          simp only [zeroS, noS] at r0 r1 r2 r3 r4 r5 n0 n1 n2 n3 n4 n5
          clear pR ON6 OL6 Q6 R6 B6 C1 C2 HQ3
          cases v1 with
          | false =>
            have H9 : Hid (∀ t, FitS t → p :: qs ≠ partsS t) := HVV.out.2 (.inl rfl)
            clear HVV
            go_wp2
            obtain ⟨q0, q1, q2, q3, q4, q5, _⟩ := HFIN.out.1
            refine bodyPost_ret (v := .tuple #[spV ⟨z0, z1, z2, z3, xs, ls⟩ ⟨Na, Nn, Nc⟩ ⟨La, Ln, Lc⟩, .bool false]) ?_ rfl ⟨⟨⟨z0, z1, z2, z3, xs, ls⟩, ⟨Na, Nn, Nc⟩, ⟨La, Ln, Lc⟩, false, rfl, HFIN.out.2.2, fun e => (by cases e), fun _ => H9.out⟩, HFIN.out.2.1⟩
            unfold spV
            simp only [results, Tryz.results11]
            simp [go_sem, q0, q1, q2, q3, q4, q5]
          | true =>
            have H8 : Hid (v2 = true → p :: qs = partsS ⟨z0, z1, z2, z3, xs, ls⟩ ∧ FitS ⟨z0, z1, z2, z3, xs, ls⟩) := fun e => HVV.out.1 rfl e
            have H9 : Hid (v2 = false → ∀ t, FitS t → p :: qs ≠ partsS t) := fun e => HVV.out.2 (.inr e)
            clear HVV
            go_wp2
            obtain ⟨q0, q1, q2, q3, q4, q5, _⟩ := HFIN.out.1
            refine bodyPost_ret (v := .tuple #[spV ⟨z0, z1, z2, z3, xs, ls⟩ ⟨Na, Nn, Nc⟩ ⟨La, Ln, Lc⟩, .bool v2]) ?_ rfl ⟨⟨⟨z0, z1, z2, z3, xs, ls⟩, ⟨Na, Nn, Nc⟩, ⟨La, Ln, Lc⟩, v2, rfl, HFIN.out.2.2, H8.out, H9.out⟩, HFIN.out.2.1⟩
            unfold spV
            simp only [results, Tryz.results11]
            simp [go_sem, q0, q1, q2, q3, q4, q5]
      · have hne5 : (z5 != (d : Int)) = true := by simpa using hk5
        have hz := HZ.out W2 RB2.out B2.out (fun t ht e => by
          obtain ⟨h1, h2⟩ := read_head rfl HP.out e
          have hl := congrArg List.length h2
          simp only [headZ, List.cons.injEq, and_true] at h1
          rw [List.length_append, List.length_map, List.length_map, HQL.out] at hl
          omega)
        have HPP : Hid _ := hz
        clear hz HZ HQ3 QB2
        rw [put6_def] at HPP
        unfold noS zeroS spV at HPP
        simp only at HPP
        obtain ⟨r0, r1, r2, r3, r4, r5, rf⟩ := RB2.out
        simp only [zeroS, noS] at r0 r1 r2 r3 r4 r5
        go_wp2_with (go_at_call 24; refine (within_i _ 0 _ true _ G1.out).mono ?_; rintro e wq ⟨rfl, hwq⟩; subst wq)
        obtain ⟨q0, q1, q2, q3, q4, q5, _⟩ := HPP.out.1
        refine bodyPost_ret (v := .tuple #[.agg #[.int .i64 0, .int .i64 0, .int .i64 0, .int .i64 0, .slice none 0 0, .slice none 0 0], .bool false]) ?_ rfl ⟨HPP.out.2.1, HPP.out.2.2⟩
        simp only [results, Tryz.results11]
        simp [go_sem, q0, q1, q2, q3, q4, q5]
    · have G1 : Hid ((decide ((0 : Int) ≤ z4) && decide (z4 ≤ (n : Int))) = false) := by
        show (_ && _) = false
        rw [Bool.eq_false_iff]
        intro e
        simp only [Bool.and_eq_true, decide_eq_true_eq] at e
        exact hk4 e
      have hz := HZ.out W2 RB2.out B2.out (fun t ht e => by
        obtain ⟨h1, h2⟩ := read_head rfl HP.out e
        have hl := congrArg List.length h2
        simp only [headZ, List.cons.injEq, and_true] at h1
        rw [List.length_append, List.length_map, List.length_map, HQL.out] at hl
        omega)
      have HPP : Hid _ := hz
      clear hz HZ HQ3 QB2
      rw [put6_def] at HPP
      unfold noS zeroS spV at HPP
      simp only at HPP
      obtain ⟨r0, r1, r2, r3, r4, r5, rf⟩ := RB2.out
      simp only [zeroS, noS] at r0 r1 r2 r3 r4 r5
      go_wp2_with (go_at_call 24; refine (within_i _ 0 _ false _ G1.out).mono ?_; rintro e wq ⟨rfl, hwq⟩; subst wq)
      obtain ⟨q0, q1, q2, q3, q4, q5, _⟩ := HPP.out.1
      refine bodyPost_ret (v := .tuple #[.agg #[.int .i64 0, .int .i64 0, .int .i64 0, .int .i64 0, .slice none 0 0, .slice none 0 0], .bool false]) ?_ rfl ⟨HPP.out.2.1, HPP.out.2.2⟩
      simp only [results, Tryz.results11]
      simp [go_sem, q0, q1, q2, q3, q4, q5]

end Go.Proofs.YtigomhilcnnjdaaGreat.Img

/- Plain facts for ref12.read: what a space's parts are, one by one. -/
namespace Go.Proofs.YtigomhilcnnjdaaGreat.Img
open Go.RowKit Go.Proofs.YtigomhilcnnjdaaGreat Go.Proofs.YtigomhilcnnjdaaGreat.Smm
open Go.Proofs.YtigomhilcnnjdaaGreat.Spa (Sp RtS zeroS newS spV SpIn SpC noS)
open Go.Proofs.YtigomhilcnnjdaaGreat.Lea (LS Ls LL LO)
open Go.Proofs.YtigomhilcnnjdaaGreat.Edi (numsB NO Nm bel_tr bel_al bel_cell bel_drew)
open Go.Proofs.YtigomhilcnnjdaaGreat.Wir (app_assoc app_size app_list size_list takeT takeT_back textB)
open Go.WideShapes (bytes_inj)

/-- What the reference's read tells. -/
structure RRead (base : Nat) (ps : List ByteArray) (e : Ending) (w' : World) : Prop where
  ex : ∃ (s : Sp) (N L : RS) (v : Bool), e = .returned (.tuple #[spV s N L, .bool v]) ∧ SpOwn base w' s N L ∧ (∀ t, FitS t → ps = partsS t → v = true ∧ s = t)
theorem RRead.no {base : Nat} {ps : List ByteArray} (h : ∀ t, FitS t → ps ≠ partsS t) (W : World) : RRead base ps (.returned (.tuple #[spV zeroS noS noS, .bool false])) W :=
  ⟨zeroS, noS, noS, false, rfl, spOwn_no _ W 0 0 0 0, fun t ht e => absurd e (h t ht)⟩

/-- The first part. -/
theorem head_first {p : ByteArray} {qs : List ByteArray} {t : Sp} (e : p :: qs = partsS t) : p = headL (headZ t) ∧ qs = t.ns.map nodeP ++ t.ls.map leaseP := by
  unfold partsS at e
  simp only [List.cons.injEq] at e
  exact e
theorem head_tail {p : ByteArray} {zs : List Int} (e : p = headL zs) : p.size ≠ 0 ∧ p.data.toList.head? = some 84 ∧ p.extract 1 p.size = mk (numsB zs) := by
  subst e
  have h1 : (headL zs).data.toList = 84 :: numsB zs := mk_li _
  refine ⟨?_, by rw [h1]; rfl, ?_⟩
  · rw [← size_list, h1, List.length_cons]; omega
  · exact mk_data _ (by rw [Wir.ext_list, h1]; rfl)
theorem head_is {p : ByteArray} {qs : List ByteArray} {zs : List Int} {v : Bool} (h : NumOf (p.extract 1 p.size) zs v) {t : Sp} (ht : FitS t) (e : p :: qs = partsS t) : v = true ∧ zs = headZ t ∧ qs = t.ns.map nodeP ++ t.ls.map leaseP := by
  obtain ⟨h1, h2⟩ := head_first e
  obtain ⟨_, _, h3⟩ := head_tail h1
  obtain ⟨h4, h5⟩ := h.is (headZ t) ht.hz h3
  exact ⟨h4, h5, h2⟩

/-- How far the parts are read: j of them behind the first. -/
def Sofar (p : ByteArray) (qs : List ByteArray) (z0 z1 z2 z3 : Int) (k j : Nat) (xs : NS) (ys : LS) : Prop :=
  ∀ t, FitS t → p :: qs = partsS t → (t.tx = z0 ∧ t.nb = z1 ∧ t.ng = z2 ∧ t.now = z3 ∧ t.ns.length = k) ∧ qs = t.ns.map nodeP ++ t.ls.map leaseP ∧ xs = t.ns.take j ∧ ys = t.ls.take (j - k)
theorem Sofar.start {p : ByteArray} {qs : List ByteArray} {z0 z1 z2 z3 : Int} {k d : Nat} {v : Bool} (h : NumOf (p.extract 1 p.size) [z0, z1, z2, z3, (k : Int), (d : Int)] v) : Sofar p qs z0 z1 z2 z3 k 0 [] [] := by
  intro t ht e
  obtain ⟨_, h2, h3⟩ := head_is h ht e
  unfold headZ at h2
  simp only [List.cons.injEq] at h2
  obtain ⟨e0, e1, e2, e3, e4, _⟩ := h2
  exact ⟨⟨e0.symm, e1.symm, e2.symm, e3.symm, by omega⟩, h3, by simp, by simp⟩
theorem Sofar.whole {p : ByteArray} {qs : List ByteArray} {z0 z1 z2 z3 : Int} {k j : Nat} {xs : NS} {ys : LS} (h : Sofar p qs z0 z1 z2 z3 k j xs ys) (hj : qs.length ≤ j) : ∀ t, FitS t → p :: qs = partsS t → true = true ∧ (⟨z0, z1, z2, z3, xs, ys⟩ : Sp) = t := by
  intro t ht e
  obtain ⟨⟨rfl, rfl, rfl, rfl, rfl⟩, h2, rfl, rfl⟩ := h t ht e
  have hl := congrArg List.length h2
  rw [List.length_append, List.length_map, List.length_map] at hl
  refine ⟨rfl, ?_⟩
  rw [List.take_of_length_le (by omega), List.take_of_length_le (by omega)]
theorem part_lease {qs : List ByteArray} {ns : NS} {ls : LS} {j : Nat} (e : qs = ns.map nodeP ++ ls.map leaseP) (hj : j < qs.length) (hk : ns.length ≤ j) : ∃ h : j - ns.length < ls.length, qs[j] = leaseP ls[j - ns.length] := by
  subst e
  rw [List.length_append, List.length_map, List.length_map] at hj
  refine ⟨by omega, ?_⟩
  rw [List.getElem_append_right (by rw [List.length_map]; exact hk)]
  simp
theorem part_node {qs : List ByteArray} {ns : NS} {ls : LS} {j : Nat} (e : qs = ns.map nodeP ++ ls.map leaseP) (hj : j < qs.length) (hk : j < ns.length) : qs[j] = nodeP ns[j] := by
  subst e
  rw [List.getElem_append_left (by rw [List.length_map]; exact hk)]
  simp
theorem Sofar.lease_is {p : ByteArray} {qs : List ByteArray} {z0 z1 z2 z3 : Int} {k j : Nat} {xs : NS} {ys : LS} (h : Sofar p qs z0 z1 z2 z3 k j xs ys) (hj : j < qs.length) (hk : k ≤ j) {vs : List Int} {v : Bool} (hv : NumOf qs[j] vs v) {t : Sp} (ht : FitS t) (e : p :: qs = partsS t) : v = true ∧ ∃ hi : j - k < t.ls.length, vs = [(t.ls[j - k]).c, (t.ls[j - k]).u] := by
  obtain ⟨⟨_, _, _, _, rfl⟩, h2, _, _⟩ := h t ht e
  obtain ⟨hi, h3⟩ := part_lease h2 hj hk
  obtain ⟨h4, h5⟩ := hv.is _ (FitL.zs (ht.ls _ (List.getElem_mem hi))) h3
  exact ⟨h4, hi, h5⟩
theorem Sofar.lease {p : ByteArray} {qs : List ByteArray} {z0 z1 z2 z3 : Int} {k j : Nat} {xs : NS} {ys : LS} (h : Sofar p qs z0 z1 z2 z3 k j xs ys) (hj : j < qs.length) (hk : k ≤ j) {c u : Int} {v : Bool} (hv : NumOf qs[j] [c, u] v) : Sofar p qs z0 z1 z2 z3 k (j + 1) xs (ys ++ [⟨c, u⟩]) := by
  intro t ht e
  obtain ⟨_, hi, h4⟩ := h.lease_is hj hk hv ht e
  obtain ⟨h1, h2, h3, h5⟩ := h t ht e
  refine ⟨h1, h2, ?_, ?_⟩
  · rw [h3, List.take_of_length_le (by omega), List.take_of_length_le (by omega)]
  · have e1 : j + 1 - k = (j - k) + 1 := by omega
    rw [e1, List.take_succ_eq_append_getElem hi, h5]
    simp only [List.cons.injEq] at h4
    obtain ⟨rfl, rfl, _⟩ := h4
    rfl
theorem Sofar.node_is {p : ByteArray} {qs : List ByteArray} {z0 z1 z2 z3 : Int} {k j : Nat} {xs : NS} {ys : LS} (h : Sofar p qs z0 z1 z2 z3 k j xs ys) (hj : j < qs.length) (hk : j < k) {t : Sp} (ht : FitS t) (e : p :: qs = partsS t) : ∃ hi : j < t.ns.length, takeT qs[j] = some ((t.ns[j]).path, mk (numsB (nodeZ t.ns[j]))) := by
  obtain ⟨⟨_, _, _, _, rfl⟩, h2, _, _⟩ := h t ht e
  refine ⟨hk, ?_⟩
  rw [part_node h2 hj hk]
  unfold nodeP
  exact takeT_back _ _ (ht.ns _ (List.getElem_mem hk)).path
/-- A node's numbers. -/
theorem node_nums {vs : List Int} {m : Nat} (hl : vs.length = 4 + 3 * m) (h3 : vs[3]'(by omega) = (m : Int)) : ∃ a0 a1 a2 bs, bs.length = m ∧ vs = [a0, a1, a2, (m : Int)] ++ blkZ bs := by
  have hb : ∀ (m : Nat) (r : List Int), r.length = 3 * m → ∃ bs, bs.length = m ∧ r = blkZ bs := by
    intro m
    induction m with
    | zero => intro r hr; exact ⟨[], rfl, List.length_eq_zero_iff.1 hr⟩
    | succ m ih =>
      intro r hr
      rcases r with _ | ⟨x, _ | ⟨y, _ | ⟨z, q⟩⟩⟩
      · rw [List.length_nil] at hr; omega
      · simp only [List.length_cons, List.length_nil] at hr; omega
      · simp only [List.length_cons, List.length_nil] at hr; omega
      · obtain ⟨bs, h1, h2⟩ := ih q (by simp only [List.length_cons] at hr; omega)
        exact ⟨⟨x, y, z⟩ :: bs, by rw [List.length_cons, h1], by rw [blkZ_cons, h2]⟩
  rcases vs with _ | ⟨a0, _ | ⟨a1, _ | ⟨a2, _ | ⟨a3, r⟩⟩⟩⟩
  · rw [List.length_nil] at hl; omega
  · simp only [List.length_cons, List.length_nil] at hl; omega
  · simp only [List.length_cons, List.length_nil] at hl; omega
  · simp only [List.length_cons, List.length_nil] at hl; omega
  · simp only [List.length_cons] at hl
    have h3' : a3 = (m : Int) := h3
    obtain ⟨bs, h1, h2⟩ := hb m r (by omega)
    exact ⟨a0, a1, a2, bs, h1, by rw [h2, h3']; rfl⟩
theorem kind_one (d : Bool) : (kindZ d == 1) = d := by cases d <;> rfl
theorem Sofar.node {p : ByteArray} {qs : List ByteArray} {z0 z1 z2 z3 : Int} {k j : Nat} {xs : NS} {ys : LS} (h : Sofar p qs z0 z1 z2 z3 k j xs ys) (hj : j < qs.length) (hk : j < k) {pa rest : ByteArray} (hT : takeT qs[j] = some (pa, rest)) {a0 a1 a2 : Int} {bs : List Blk} {v : Bool} (hv : NumOf rest ([a0, a1, a2, (bs.length : Int)] ++ blkZ bs) v) : Sofar p qs z0 z1 z2 z3 k (j + 1) (xs ++ [⟨pa, a0 == 1, a1, bs, a2⟩]) ys := by
  intro t ht e
  obtain ⟨hi, h4⟩ := h.node_is hj hk ht e
  obtain ⟨h1, h2, h3, h5⟩ := h t ht e
  rw [hT] at h4
  simp only [Option.some.injEq, Prod.mk.injEq] at h4
  obtain ⟨rfl, rfl⟩ := h4
  have hfx := ht.ns _ (List.getElem_mem hi)
  obtain ⟨_, h6⟩ := hv.is _ hfx.zs rfl
  refine ⟨h1, h2, ?_, ?_⟩
  · rw [List.take_succ_eq_append_getElem hi, h3]
    generalize t.ns[j] = x at *
    obtain ⟨xp, xd, xq, xb, xw⟩ := x
    unfold nodeZ at h6
    simp only [List.cons_append, List.nil_append, List.cons.injEq] at h6
    obtain ⟨rfl, rfl, rfl, _, h7⟩ := h6
    rw [kind_one, blkZ_inj h7]
  · rw [h5]
    have e1 : j + 1 - k = 0 := by omega
    have e2 : j - k = 0 := by omega
    rw [e1, e2]
/-- What the refusals say. -/
theorem Sofar.node_no {p : ByteArray} {qs : List ByteArray} {z0 z1 z2 z3 : Int} {k j : Nat} {xs : NS} {ys : LS} (h : Sofar p qs z0 z1 z2 z3 k j xs ys) (hj : j < qs.length) (hk : j < k) {pa rest : ByteArray} (hT : takeT qs[j] = some (pa, rest)) {vs : List Int} {v : Bool} (hv : NumOf rest vs v) {t : Sp} (ht : FitS t) (e : p :: qs = partsS t) : v = true ∧ ∃ m : Nat, m ≤ 8 ∧ vs.length = 4 + 3 * m ∧ vs[3]? = some (m : Int) := by
  obtain ⟨hi, h4⟩ := h.node_is hj hk ht e
  rw [hT] at h4
  simp only [Option.some.injEq, Prod.mk.injEq] at h4
  obtain ⟨rfl, rfl⟩ := h4
  have hfx := ht.ns _ (List.getElem_mem hi)
  obtain ⟨h5, h6⟩ := hv.is _ hfx.zs rfl
  refine ⟨h5, t.ns[j].bs.length, hfx.few, ?_, ?_⟩
  · rw [h6]; unfold nodeZ; rw [List.length_append, blkZ_len]; simp only [List.length_cons, List.length_nil]
  · rw [h6]; rfl
theorem Sofar.node_none {p : ByteArray} {qs : List ByteArray} {z0 z1 z2 z3 : Int} {k j : Nat} {xs : NS} {ys : LS} (h : Sofar p qs z0 z1 z2 z3 k j xs ys) (hj : j < qs.length) (hk : j < k) (hT : takeT qs[j] = none) : ∀ t, FitS t → p :: qs ≠ partsS t := by
  intro t ht e
  obtain ⟨hi, h4⟩ := h.node_is hj hk ht e
  rw [hT] at h4
  cases h4

end Go.Proofs.YtigomhilcnnjdaaGreat.Img

/- What ref12.read has in memory on its way. No program in it. -/
namespace Go.Proofs.YtigomhilcnnjdaaGreat.Img
open Go.RowKit Go.Proofs.YtigomhilcnnjdaaGreat Go.Proofs.YtigomhilcnnjdaaGreat.Smm
open Go.Proofs.YtigomhilcnnjdaaGreat.Spa (Sp RtS zeroS newS spV SpIn SpC put6 put6_at put6_def noS bel_put6)
open Go.Proofs.YtigomhilcnnjdaaGreat.Lea (LS Ls LL LO lsC)
open Go.Proofs.YtigomhilcnnjdaaGreat.Edi (numsB NO Nm bel_tr bel_al bel_cell bel_drew)
open Go.Proofs.YtigomhilcnnjdaaGreat.Wir (takeT)

/-- Six numbers of the call's own. -/
theorem six_cells {base : Nat} {w : World} {a : Option Addr} {c : Nat} {zs : List Int} {g : Option Nat} (h : NO base w a 6 c zs g) : ∃ Hb z0 z1 z2 z3 z4 z5, a = some ⟨Hb, 0, none⟩ ∧ zs = [z0, z1, z2, z3, z4, z5] ∧ base ≤ Hb ∧ Hb < w.heap.size ∧ w.cell? ⟨Hb, 0, none⟩ = some (.int .i64 z0) ∧ w.cell? ⟨Hb, 1, none⟩ = some (.int .i64 z1) ∧ w.cell? ⟨Hb, 2, none⟩ = some (.int .i64 z2) ∧ w.cell? ⟨Hb, 3, none⟩ = some (.int .i64 z3) ∧ w.cell? ⟨Hb, 4, none⟩ = some (.int .i64 z4) ∧ w.cell? ⟨Hb, 5, none⟩ = some (.int .i64 z5) := by
  have hl := h.len
  obtain ⟨Hb, rfl, rfl⟩ := h.cel.at2 (by omega)
  have ho := h.own Hb rfl
  obtain ⟨b, off, e1, e2⟩ := h.nm.at (by omega)
  cases e1
  match zs, hl with
  | [z0, z1, z2, z3, z4, z5], _ =>
    have f := fun j hj => e2 j hj
    simp only [Nat.zero_add] at f
    exact ⟨Hb, z0, z1, z2, z3, z4, z5, rfl, rfl, ho.2, ho.1, f 0 (by simp), f 1 (by simp), f 2 (by simp), f 3 (by simp), f 4 (by simp), f 5 (by simp)⟩
/-- Numbers of the call's own, one by one. -/
theorem some_cells {base : Nat} {w : World} {a : Option Addr} {n c : Nat} {zs : List Int} {g : Option Nat} (h : NO base w a n c zs g) (hp : 0 < n) : ∃ vb, a = some ⟨vb, 0, none⟩ ∧ base ≤ vb ∧ vb < w.heap.size ∧ ∀ j (hj : j < zs.length), w.cell? ⟨vb, j, none⟩ = some (.int .i64 zs[j]) := by
  obtain ⟨vb, rfl, rfl⟩ := h.cel.at2 hp
  have ho := h.own vb rfl
  obtain ⟨b, off, e1, e2⟩ := h.nm.at hp
  cases e1
  exact ⟨vb, rfl, ho.2, ho.1, fun j hj => by have := e2 j hj; rwa [Nat.zero_add] at this⟩

theorem SpC.keepS {O : Nat → Prop} {w w' : World} {b : Nat} {s : Sp} {N L : RS} (h : SpC w b s N L) (hs : Stay O w w') (hO : ¬ O b) : SpC w' b s N L :=
  ⟨Stay.cell hs h.c0 hO, Stay.cell hs h.c1 hO, Stay.cell hs h.c2 hO, Stay.cell hs h.c3 hO, Stay.cell hs h.c4 hO, Stay.cell hs h.c5 hO, fun j =>
    (World.frozen?_of_block (a := ⟨b, j, none⟩) (hs.block b (World.block_lt_of_cell? _ _ h.c0) hO)).trans (h.fr j)⟩

/-- A space is being read: the result's box R, the space's box Q, six numbers in the block H. -/
structure Rd (w0 : World) (Q H : Nat) (W : World) (z0 z1 z2 z3 : Int) (k : Nat) (xs : NS) (ys : LS) (N L : RS) : Prop where
  bel : Below w0.heap.size w0 W
  r : SpC W w0.heap.size zeroS noS noS
  q : SpC W Q ⟨z0, z1, z2, z3, xs, ys⟩ N L
  h4 : W.cell? ⟨H, 4, none⟩ = some (.int .i64 (k : Int))
  lt : w0.heap.size < Q ∧ H < Q
  ex : ∃ W1 g, LX (Q + 1) W1 N.a N.n N.c xs ∧ Stay (fun i => i = Q) W1 W ∧ LO W1.heap.size W L.a L.n L.c ys g ∧ Q < W1.heap.size

section
variable {w0 W W' : World} {Q H : Nat} {z0 z1 z2 z3 : Int} {k : Nat} {xs : NS} {ys : LS} {N L : RS}
theorem Rd.below (h : Rd w0 Q H W z0 z1 z2 z3 k xs ys N L) (hb : Below W.heap.size W W') : Rd w0 Q H W' z0 z1 z2 z3 k xs ys N L := by
  obtain ⟨W1, g, e1, e2, e3, e4⟩ := h.ex
  exact ⟨bel_tr h.bel hb, h.r.below hb, h.q.below hb, bel_cell hb h.h4, h.lt, W1, g, e1, e2.then_below hb, e3.below hb, e4⟩
theorem Rd.lx (h : Rd w0 Q H W z0 z1 z2 z3 k xs ys N L) : LX (Q + 1) W N.a N.n N.c xs := by
  obtain ⟨W1, g, e1, e2, e3, e4⟩ := h.ex
  exact lx_keep e1 e2 (fun i hi => by rw [hi]; exact Nat.lt_succ_self _)
theorem Rd.own (h : Rd w0 Q H W z0 z1 z2 z3 k xs ys N L) : SpOwn (w0.heap.size + 1) W ⟨z0, z1, z2, z3, xs, ys⟩ N L := by
  have hl := h.lt
  refine ⟨h.lx.mono (by omega), ?_⟩
  obtain ⟨W1, g, e1, e2, e3, e4⟩ := h.ex
  exact ⟨g, e3.mono (by omega)⟩
theorem Rd.size (h : Rd w0 Q H W z0 z1 z2 z3 k xs ys N L) : Q < W.heap.size := World.block_lt_of_cell? _ _ h.q.c0
theorem Rd.nlen (h : Rd w0 Q H W z0 z1 z2 z3 k xs ys N L) : xs.length = N.n := h.lx.len
theorem Rd.llen (h : Rd w0 Q H W z0 z1 z2 z3 k xs ys N L) : ys.length = L.n := by
  obtain ⟨W1, g, e1, e2, e3, e4⟩ := h.ex
  exact e3.len
theorem rd_new (h1 : SpC W w0.heap.size zeroS noS noS) (h2 : Below w0.heap.size w0 W) (h3 : w0.heap.size < W.heap.size) (h4 : W.cell? ⟨H, 4, none⟩ = some (.int .i64 (k : Int))) (t : TypeId) : Rd w0 W.heap.size H (W.alloc (.cells #[.int .i64 z0, .int .i64 z1, .int .i64 z2, .int .i64 z3, .slice none 0 0, .slice none 0 0] t)).drew z0 z1 z2 z3 k [] [] noS noS := by
  have hb : Below W.heap.size W (W.alloc (.cells #[.int .i64 z0, .int .i64 z1, .int .i64 z2, .int .i64 z3, .slice none 0 0, .slice none 0 0] t)).drew := bel_tr (bel_al _ _) (bel_drew _)
  have hq : SpC (W.alloc (.cells #[.int .i64 z0, .int .i64 z1, .int .i64 z2, .int .i64 z3, .slice none 0 0, .slice none 0 0] t)) W.heap.size ⟨z0, z1, z2, z3, [], []⟩ noS noS := SpC.new W t ⟨z0, z1, z2, z3, [], []⟩ noS noS
  have hl := World.block_lt_of_cell? _ _ h4
  have hq2 := hq.below (bel_drew _)
  exact ⟨bel_tr h2 hb, h1.below hb, hq2, bel_cell hb h4, ⟨h3, hl⟩, _, none, LX.no _ _, Stay.refl _ _, LO.none _ _, World.block_lt_of_cell? _ _ hq2.c0⟩
/-- A lease more. -/
theorem Rd.pushL (h : Rd w0 Q H W z0 z1 z2 z3 k xs ys N L) (l : Ls) : ∃ M g, LO M W L.a L.n L.c ys g ∧ (∀ W5 a5 c5 g5, Cel (Grow (fun i => M ≤ i) W W5) W5 2 (.slice a5 (L.n + 1) c5) (L.n + 1) (rowC lsC ys ++ rowC lsC [l]) g5 → Stay (fun i => g = some i) W W5 → W5.cell? ⟨Q, 5, none⟩ = some (.slice L.a L.n L.c) ∧ W5.frozen? ⟨Q, 5, none⟩ = false ∧ Rd w0 Q H (W5.setCell ⟨Q, 5, none⟩ (.slice a5 (L.n + 1) c5)) z0 z1 z2 z3 k xs (ys ++ [l]) N ⟨a5, L.n + 1, c5⟩) := by
  obtain ⟨W1, g, e1, e2, e3, e4⟩ := h.ex
  refine ⟨W1.heap.size, g, e3, fun W5 a5 c5 g5 hC hS => ?_⟩
  have hlt := h.lt
  have hg : ∀ i, g = some i → W1.heap.size ≤ i := fun i hi => (e3.own i hi).2
  have hW1 := e2.size
  have q5 := SpC.keepS h.q hS (fun e => by have := hg Q e; omega)
  have hs2 : Stay (fun i => i = Q) W5 (W5.setCell ⟨Q, 5, none⟩ (.slice a5 (L.n + 1) c5)) := Stay.setCell _ _ _ rfl
  refine ⟨q5.c5, q5.fr 5, ⟨?_, ?_, SpC.leases q5 _ ⟨a5, L.n + 1, c5⟩, ?_, h.lt, W1, g5, e1, ?_, ?_, e4⟩⟩
  · exact bel_stay (bel_stay h.bel hS (fun i hi => by have := hg i hi; omega)) hs2 (fun i hi => by omega)
  · exact SpC.keepS (SpC.keepS h.r hS (fun e => by have := hg _ e; omega)) hs2 (by show ¬ _ = Q; omega)
  · exact Stay.cell hs2 (Stay.cell hS h.h4 (fun e => by have : W1.heap.size ≤ H := hg _ e; omega)) (by show ¬ H = Q; omega)
  · exact (e2.trans hS (fun i hi e => by have := hg i e; omega)).then_same hs2
  · have h5 := e3.app (ys := [l]) rfl hC hW1
    exact ⟨h5.cel.stay hs2.size (fun i hi => hs2.block i (h5.own i hi).1 (fun e => by have := (h5.own i hi).2; omega)) (fun _ e => e), h5.len⟩
/-- A node more. -/
theorem Rd.pushN (h : Rd w0 Q H W z0 z1 z2 z3 k xs [] N noS) : ∃ (ps : List NR) (g : Option Nat), Cel (fun i => Q + 1 ≤ i) W 5 (.slice N.a N.n N.c) N.n (rowC ndC ps) g ∧ (∀ (W3 : World) (o : Obj) (x : Nd) (s : RS), Below W.heap.size W W3 → Free W.heap.size W3 (x, s) → ∀ W5 a5 c5 g5, Cel (Grow (fun i => Q + 1 ≤ i) (W3.alloc o) W5) W5 5 (.slice a5 (N.n + 1) c5) (N.n + 1) (rowC ndC ps ++ rowC ndC [(x, s)]) g5 → Stay (fun i => g = some i) (W3.alloc o) W5 → (∀ i, g5 = some i → g = some i ∨ (W3.alloc o).heap.size ≤ i) → W5.cell? ⟨Q, 4, none⟩ = some (.slice N.a N.n N.c) ∧ W5.frozen? ⟨Q, 4, none⟩ = false ∧ Rd w0 Q H (W5.setCell ⟨Q, 4, none⟩ (.slice a5 (N.n + 1) c5)) z0 z1 z2 z3 k (xs ++ [x]) [] ⟨a5, N.n + 1, c5⟩ noS) := by
  obtain ⟨ps, g, hm, hL⟩ := h.lx.ex
  refine ⟨ps, g, hL.cel, fun W3 o x s hb hF W5 a5 c5 g5 hC hS hg5 => ?_⟩
  have hlt := h.lt
  have hsz := h.size
  obtain ⟨r1, r2⟩ := hL.push (by omega) hF hb hC hS hg5
  have hq5 := r2.block Q (Nat.lt_succ_self _)
  have st : Stay (fun i => Q + 1 ≤ i) W W5 := ⟨r2.os, r2.tape, r2.output, r2.size, fun i hi ho => r2.block i (by omega)⟩
  have q5 := SpC.keepS h.q st (by show ¬ Q + 1 ≤ Q; omega)
  have hs2 : Stay (fun i => i = Q) W5 (W5.setCell ⟨Q, 4, none⟩ (.slice a5 (N.n + 1) c5)) := Stay.setCell _ _ _ rfl
  have hl5 : LX (Q + 1) W5 a5 (N.n + 1) c5 (xs ++ [x]) := ⟨ps ++ [(x, s)], g5, by rw [List.map_append, hm]; rfl, r1⟩
  refine ⟨q5.c4, q5.fr 4, ⟨?_, ?_, SpC.nodes q5 _ ⟨a5, N.n + 1, c5⟩, ?_, h.lt, _, none, lx_keep hl5 hs2 (fun i hi => by omega), Stay.refl _ _, LO.none _ _, ?_⟩⟩
  · exact bel_stay (bel_stay h.bel st (fun i hi => by omega)) hs2 (fun i hi => by omega)
  · exact SpC.keepS (SpC.keepS h.r st (by show ¬ Q + 1 ≤ _; omega)) hs2 (by show ¬ _ = Q; omega)
  · exact Stay.cell hs2 (Stay.cell st h.h4 (by show ¬ Q + 1 ≤ H; omega)) (by show ¬ H = Q; omega)
  · have := hs2.size; have := st.size; omega
end

/-- A node is being read: its box P, its numbers in the block vb. -/
structure Nb (W0 : World) (P vb : Nat) (vs : List Int) (W : World) (x : Nd) (rs : RS) (g : Option Nat) : Prop where
  bel : Below W0.heap.size W0 W
  n : NdC W P (x, rs)
  v : ∀ j (hj : j < vs.length), W.cell? ⟨vb, j, none⟩ = some (.int .i64 vs[j])
  lt : vb < P ∧ W0.heap.size ≤ vb
  cel : Cel (fun i => P < i) W 3 (.slice rs.a rs.n rs.c) rs.n (rowC blkC x.bs) g
  len : x.bs.length = rs.n
section
variable {W0 W W' : World} {P vb : Nat} {vs : List Int} {x : Nd} {rs : RS} {g : Option Nat}
theorem Nb.below (h : Nb W0 P vb vs W x rs g) (hb : Below W.heap.size W W') : Nb W0 P vb vs W' x rs g :=
  ⟨bel_tr h.bel hb, h.n.below hb, fun j hj => bel_cell hb (h.v j hj), h.lt, h.cel.below hb, h.len⟩
theorem nb_new {W1 : World} (h1 : Below W0.heap.size W0 W1) (hv : ∀ j (hj : j < vs.length), W1.cell? ⟨vb, j, none⟩ = some (.int .i64 vs[j])) (h2 : W0.heap.size ≤ vb) (h3 : vb < W1.heap.size) (pa : ByteArray) (dd : Bool) (a1 a2 : Int) (t : TypeId) : Nb W0 W1.heap.size vb vs (W1.alloc (.cells #[.string pa, .bool dd, .int .i64 a1, .slice none 0 0, .int .i64 a2] t)).drew ⟨pa, dd, a1, [], a2⟩ noS none := by
  have hb : Below W1.heap.size W1 (W1.alloc (.cells #[.string pa, .bool dd, .int .i64 a1, .slice none 0 0, .int .i64 a2] t)).drew := bel_tr (bel_al _ _) (bel_drew _)
  have hn : NdC (W1.alloc (.cells #[.string pa, .bool dd, .int .i64 a1, .slice none 0 0, .int .i64 a2] t)) W1.heap.size (⟨pa, dd, a1, [], a2⟩, noS) := NdC.new W1 t (⟨pa, dd, a1, [], a2⟩, noS)
  exact ⟨bel_tr h1 hb, hn.below (bel_drew _), fun j hj => bel_cell hb (hv j hj), ⟨h3, h2⟩, .nil rfl rfl rfl, rfl⟩
theorem Nb.free (h : Nb W0 P vb vs W x rs g) (hp : x.path.size ≤ maxLen) : Free W0.heap.size W (x, rs) :=
  free_of_cel (h.cel.stay (Nat.le_refl _) (fun _ _ => rfl) (fun i e => by have := h.lt; omega)) h.len rfl hp
theorem Nb.push (h : Nb W0 P vb vs W x rs g) (b : Blk) {W5 : World} {a5 : Option Addr} {c5 : Nat} {g5 : Option Nat} (hC : Cel (Grow (fun i => P < i) W W5) W5 3 (.slice a5 (rs.n + 1) c5) (rs.n + 1) (rowC blkC x.bs ++ blkC b) g5) (hS : Stay (fun i => g = some i) W W5) : W5.cell? ⟨P, 3, none⟩ = some (.slice rs.a rs.n rs.c) ∧ W5.frozen? ⟨P, 3, none⟩ = false ∧ Nb W0 P vb vs (W5.setCell ⟨P, 3, none⟩ (.slice a5 (rs.n + 1) c5)) ⟨x.path, x.dir, x.quota, x.bs ++ [b], x.wr⟩ ⟨a5, rs.n + 1, c5⟩ g5 := by
  have hlt := h.lt
  have hP := h.n.lt
  have hg : ∀ i, g = some i → P < i := fun i hi => by have hc := h.cel; rw [hi] at hc; exact hc.lt.2
  have n5 := h.n.keep hS (fun e => by have := hg P e; omega)
  have hs2 : Stay (fun i => i = P) W5 (W5.setCell ⟨P, 3, none⟩ (.slice a5 (rs.n + 1) c5)) := Stay.setCell _ _ _ rfl
  refine ⟨n5.c3, n5.fr 3, ⟨?_, n5.blocks _ _ _ _, fun j hj => ?_, h.lt, ?_, by simp [h.len]⟩⟩
  · exact bel_stay (bel_stay h.bel hS (fun i hi => by have := hg i hi; omega)) hs2 (fun i hi => by omega)
  · exact Stay.cell hs2 (Stay.cell hS (h.v j hj) (fun e => by have : P < vb := hg _ e; omega)) (by show ¬ vb = P; omega)
  · have e1 : rowC blkC x.bs ++ blkC b = rowC blkC (x.bs ++ [b]) := by simp [rowC]
    rw [e1] at hC
    have hO : ∀ i, Grow (fun i => P < i) W W5 i → P < i := fun i hi => hi.elim id (fun e => by omega)
    refine hC.stay hs2.size (fun i hi => ?_) hO
    have hc := hC
    rw [hi] at hc
    exact hs2.block i hc.lt.1 (fun e => by have := hO i hc.lt.2; omega)
end

theorem src_lsD (w : World) (x : Ls) : Src Tryz.prog 2 24 (.slice (some ⟨w.heap.size, 0, none⟩) 1 1) 1 (rowC lsC [x]) (w.alloc (.cells #[.int .i64 x.c, .int .i64 x.u] 48)).drew := by
  refine Src.ofSlice _ Tryz.underlying24 ⟨w.heap.size, 0, none⟩ 1 1 _ (by rw [rowC_len Lea.wideL]; simp) (fun j u hu => ?_) (rowC_oneCell Lea.wideL _)
  rw [Addr.add_lit, Nat.zero_add]
  have e := World.cell?_alloc_new w #[.int .i64 x.c, .int .i64 x.u] 48 j
  refine Eq.trans (b := (w.alloc (.cells #[.int .i64 x.c, .int .i64 x.u] 48)).cell? ⟨w.heap.size, j, none⟩) rfl (e.trans ?_)
  rw [rowC_one] at hu
  show (List.toArray (lsC x))[j]? = some u
  rw [List.getElem?_toArray]; exact hu

/-! ### what the refusals say -/
theorem Sofar.lease_bad {p : ByteArray} {qs : List ByteArray} {z0 z1 z2 z3 : Int} {k j : Nat} {xs : NS} {ys : LS} (h : Sofar p qs z0 z1 z2 z3 k j xs ys) (hj : j < qs.length) (hk : k ≤ j) {vs : List Int} {v : Bool} (hv : NumOf qs[j] vs v) (hbad : v = false ∨ vs.length ≠ 2) : ∀ t, FitS t → p :: qs ≠ partsS t := by
  intro t ht e
  obtain ⟨h1, hi, h2⟩ := h.lease_is hj hk hv ht e
  rcases hbad with hb | hb
  · rw [h1] at hb; cases hb
  · rw [h2] at hb; exact hb rfl
theorem Sofar.node_bad {p : ByteArray} {qs : List ByteArray} {z0 z1 z2 z3 : Int} {k j : Nat} {xs : NS} {ys : LS} (h : Sofar p qs z0 z1 z2 z3 k j xs ys) (hj : j < qs.length) (hk : j < k) {pa rest : ByteArray} (hT : takeT qs[j] = some (pa, rest)) {vs : List Int} {v : Bool} (hv : NumOf rest vs v) (hbad : v = false ∨ vs.length < 4 ∨ (∃ z, vs[3]? = some z ∧ (z < 0 ∨ 8 < z)) ∨ (∃ m : Nat, vs[3]? = some (m : Int) ∧ vs.length ≠ 4 + 3 * m)) : ∀ t, FitS t → p :: qs ≠ partsS t := by
  intro t ht e
  obtain ⟨h1, m, h2, h3, h4⟩ := h.node_no hj hk hT hv ht e
  rcases hbad with hb | hb | ⟨z, hz, hb⟩ | ⟨m', hz, hb⟩
  · rw [h1] at hb; cases hb
  · omega
  · rw [h4] at hz; simp only [Option.some.injEq] at hz; omega
  · rw [h4] at hz; simp only [Option.some.injEq] at hz; omega
theorem blkZ_at : ∀ (bs : List Blk) (j : Nat) (hj : j < bs.length), (blkZ bs)[3 * j]? = some bs[j].id ∧ (blkZ bs)[3 * j + 1]? = some bs[j].gen ∧ (blkZ bs)[3 * j + 2]? = some bs[j].len
  | [], j, hj => by simp at hj
  | b :: bs, 0, _ => by rw [blkZ_cons]; simp
  | b :: bs, j + 1, hj => by
    rw [blkZ_cons]
    have ih := blkZ_at bs j (by simpa using hj)
    have e1 : 3 * (j + 1) = (3 * j) + 1 + 1 + 1 := by omega
    rw [e1]
    have e2 : 3 * j + 1 + 1 + 1 + 1 = (3 * j + 1) + 1 + 1 + 1 := rfl
    have e3 : 3 * j + 1 + 1 + 1 + 2 = (3 * j + 2) + 1 + 1 + 1 := rfl
    rw [e3, List.getElem?_cons_succ, List.getElem?_cons_succ, List.getElem?_cons_succ, List.getElem?_cons_succ, List.getElem?_cons_succ, List.getElem?_cons_succ, List.getElem?_cons_succ, List.getElem?_cons_succ, List.getElem?_cons_succ, List.getElem_cons_succ]
    exact ih
theorem node_cells {W : World} {vb : Nat} {vs : List Int} (hv : ∀ j (hj : j < vs.length), W.cell? ⟨vb, j, none⟩ = some (.int .i64 vs[j])) {a0 a1 a2 a3 : Int} {bs : List Blk} (e : vs = [a0, a1, a2, a3] ++ blkZ bs) : (W.cell? ⟨vb, 0, none⟩ = some (.int .i64 a0) ∧ W.cell? ⟨vb, 1, none⟩ = some (.int .i64 a1) ∧ W.cell? ⟨vb, 2, none⟩ = some (.int .i64 a2) ∧ W.cell? ⟨vb, 3, none⟩ = some (.int .i64 a3)) ∧ ∀ j (hj : j < bs.length), W.cell? ⟨vb, 4 + 3 * j, none⟩ = some (.int .i64 bs[j].id) ∧ W.cell? ⟨vb, 5 + 3 * j, none⟩ = some (.int .i64 bs[j].gen) ∧ W.cell? ⟨vb, 6 + 3 * j, none⟩ = some (.int .i64 bs[j].len) := by
  have f : ∀ j z, vs[j]? = some z → W.cell? ⟨vb, j, none⟩ = some (.int .i64 z) := fun j z hz => by
    obtain ⟨hj, rfl⟩ := List.getElem?_eq_some_iff.1 hz
    exact hv j hj
  subst e
  refine ⟨⟨f 0 _ rfl, f 1 _ rfl, f 2 _ rfl, f 3 _ rfl⟩, fun j hj => ?_⟩
  obtain ⟨h1, h2, h3⟩ := blkZ_at bs j hj
  refine ⟨f _ _ ?_, f _ _ ?_, f _ _ ?_⟩
  · rw [List.getElem?_append_right (by simp), show 4 + 3 * j - [a0, a1, a2, a3].length = 3 * j by simp]; exact h1
  · rw [List.getElem?_append_right (by simp; omega), show 5 + 3 * j - [a0, a1, a2, a3].length = 3 * j + 1 by simp; omega]; exact h2
  · rw [List.getElem?_append_right (by simp; omega), show 6 + 3 * j - [a0, a1, a2, a3].length = 3 * j + 2 by simp; omega]; exact h3

end Go.Proofs.YtigomhilcnnjdaaGreat.Img

/- The contract of image.Decode; of law12's examples. -/
namespace Go.Proofs.YtigomhilcnnjdaaGreat.Img
open Go.RowKit Go.Proofs.YtigomhilcnnjdaaGreat Go.Proofs.YtigomhilcnnjdaaGreat.Smm
open Go.Proofs.YtigomhilcnnjdaaGreat.Spa (Sp RtS zeroS newS spV SpIn SpC put6 put6_at put6_def noS bel_put6 rightS_val)
open Go.Proofs.YtigomhilcnnjdaaGreat.Lea (LS Ls LL LO)
open Go.Proofs.YtigomhilcnnjdaaGreat.Edi (bel_tr bel_al bel_cell bel_drew)
open Go.Proofs.YtigomhilcnnjdaaGreat.Wir (app_size app_list size_list)
open Go.WideShapes (bytes_inj)

theorem read_any {a : Option Addr} {b n c : Nat} {ps : List ByteArray} {w : World} (h : Strs w a b 0 ps) (hn : ps.length = n) (hc : n ≤ c) (hcm : c ≤ maxLen) (hk : n ≤ 900000000) :
    Calls Tryz.prog 11 #[.slice a n c] w fun e w' => ReadR w.heap.size ps e w' ∧ Below w.heap.size w w' := by
  cases ps with
  | nil =>
    obtain rfl : n = 0 := by rw [← hn]; rfl
    exact read_none
  | cons p qs =>
    obtain ⟨m, rfl⟩ : ∃ m, n = 1 + m := ⟨n - 1, by rw [List.length_cons] at hn; omega⟩
    obtain ⟨d, rfl⟩ : ∃ d, c = 1 + d := ⟨c - 1, by omega⟩
    obtain rfl := h.addr (by simp)
    exact read_some h (by rw [List.length_cons] at hn; omega) (by omega) hcm (by omega)

/-- What Decode tells. -/
structure DecR (base : Nat) (s : Sp) (E : Int) (e : Ending) (w' : World) : Prop where
  ex : ∃ N L, e = .returned (.tuple #[spV s N L, .int .i64 E]) ∧ SpOwn base w' s N L
theorem parts_many (ps : List ByteArray) : 5 * ps.length ≤ (joinL ps).length := by
  induction ps with
  | nil => simp [joinL]
  | cons p ps ih =>
    have := sealB_pos p
    rw [joinL_cons, List.length_append, size_list, List.length_cons]
    omega

set_option maxRecDepth 100000 in
set_option maxHeartbeats 4000000 in
theorem decode_bad {b : ByteArray} {w : World} {ps : List ByteArray} {r : ByteArray} {E : Nat} (hb : b.size ≤ 4000000000) (hS : Small ps) (hbd : BadAt r E) (hj : b = joinP ps ++ r) :
    Calls Tryz.prog 5 #[.string b] w fun e w' => DecR w.heap.size zeroS (E : Int) e w' ∧ Below w.heap.size w w' := by
  have hne := hbd.ne
  have hcnt := parts_many ps
  have hl : (joinL ps).length ≤ b.size := by rw [hj, app_size]; unfold joinP; rw [mk_sz2]; omega
  have CO : Hid (∀ W, Calls Tryz.prog 10 #[.string b] W fun e w' => OpenedR [] E e w' ∧ Below W.heap.size W w') := fun W => by
    have h := opened_val (r := r) hS b hj W (by unfold maxLen; omega) (by omega) E (.inr hbd)
    rw [if_neg hne] at h
    exact h
  have HI : Hid (∀ W, DecR w.heap.size zeroS (E : Int) (.returned (.tuple #[spV zeroS noS noS, .int .i64 (E : Int)])) W) := fun W => ⟨noS, noS, rfl, spOwn_no _ W 0 0 0 0⟩
  have hneB : (E == 0) = false := by simpa using hne
  have hneI : ((E : Int) != 0) = true := by simp; omega
  clear hj hcnt hl hb hS hbd
  have hst2 : ∀ (w : World) (a : Addr) (x : Option Addr) (n c : Nat) (m : Mode), (store a (.slice x n c) m).run Tryz.prog w = stored Tryz.prog w a (.slice x n c) m := fun w a x n c m => run_store_any w a _ m rfl
  go_enter Tryz.func5, Tryz.ntmps5
  go_wp2_with fail
  refine (CO.out _).mono ?_
  rintro e w1 ⟨⟨a1, b1, n1, c1, rfl, _, _, _, _⟩, bb⟩
  have RB := (SpC.new w 26 zeroS noS noS).below bb
  have B1 : Hid (Below w.heap.size w w1) := bel_tr (bel_al _ _) bb
  have HP : Hid (SpC (Spa.put6 w1 w.heap.size zeroS noS noS) w.heap.size zeroS noS noS ∧ Below w.heap.size w (Spa.put6 w1 w.heap.size zeroS noS noS)) := ⟨(put6_at RB _ _ _).1, bel_put6 B1.out RB (Nat.le_refl _) _ _ _⟩
  rw [put6_def] at HP
  unfold noS zeroS at HP
  simp only at HP
  obtain ⟨r0, r1, r2, r3, r4, r5, rf⟩ := RB
  simp only [zeroS, noS] at r0 r1 r2 r3 r4 r5
  clear bb CO
  go_wp2
  obtain ⟨q0, q1, q2, q3, q4, q5, _⟩ := HP.out.1
  refine bodyPost_ret (v := .tuple #[spV zeroS noS noS, .int .i64 (E : Int)]) ?_ rfl ⟨HI.out _, HP.out.2⟩
  unfold spV noS zeroS
  simp only [results, Tryz.results5]
  simp [go_sem, q0, q1, q2, q3, q4, q5]

set_option maxRecDepth 100000 in
set_option maxHeartbeats 4000000 in
theorem decode_ok {b : ByteArray} {w : World} {ps : List ByteArray} (hb : b.size ≤ 4000000000) (hS : Small ps) (hj : b = joinP ps) (s : Sp) (E : Int) (hD : (E = 0 ∧ RtS s ∧ ps = partsS s) ∨ (E = 2 ∧ s = zeroS ∧ ∀ t, RtS t → ps ≠ partsS t)) :
    Calls Tryz.prog 5 #[.string b] w fun e w' => DecR w.heap.size s E e w' ∧ Below w.heap.size w w' := by
  have hcnt := parts_many ps
  have hl : (joinL ps).length ≤ b.size := by rw [hj]; unfold joinP; rw [mk_sz2]; omega
  have CO : Hid (∀ W, Calls Tryz.prog 10 #[.string b] W fun e w' => OpenedR ps 0 e w' ∧ Below W.heap.size W w') := fun W => by
    have h := opened_val (r := ⟨#[]⟩) hS b (by rw [hj]; unfold restP; exact bytes_inj (by rw [app_list]; simp)) W (by unfold maxLen; omega) (by omega) 0 (.inl ⟨rfl, rfl⟩)
    rw [if_pos rfl] at h
    exact h
  have hk : ps.length ≤ 900000000 := by omega
  have HD : Hid ((E = 0 ∧ RtS s ∧ ps = partsS s) ∨ (E = 2 ∧ s = zeroS ∧ ∀ t, RtS t → ps ≠ partsS t)) := hD
  have HI : Hid (∀ W, DecR w.heap.size zeroS 2 (.returned (.tuple #[spV zeroS noS noS, .int .i64 2])) W) := fun W => ⟨noS, noS, rfl, spOwn_no _ W 0 0 0 0⟩
  clear hj hcnt hl hb hS hD
  have hst2 : ∀ (w : World) (a : Addr) (x : Option Addr) (n c : Nat) (m : Mode), (store a (.slice x n c) m).run Tryz.prog w = stored Tryz.prog w a (.slice x n c) m := fun w a x n c m => run_store_any w a _ m rfl
  go_enter Tryz.func5, Tryz.ntmps5
  go_wp2_with fail
  refine (CO.out _).mono ?_
  rintro e w1 ⟨⟨a1, b1, n1, c1, rfl, hn1, hnc, hcm, hst⟩, bb⟩
  have R1 : Hid (SpC w1 w.heap.size zeroS noS noS) := (SpC.new w 26 zeroS noS noS).below bb
  have B1 : Hid (Below w.heap.size w w1) := bel_tr (bel_al _ _) bb
  have hw1 : w.heap.size < w1.heap.size := by have := bb.size; simp at this; omega
  have CRd : Hid (Calls Tryz.prog 11 #[.slice a1 n1 c1] w1 fun e w' => ReadR w1.heap.size ps e w' ∧ Below w1.heap.size w1 w') := read_any hst hn1 hnc hcm (by omega)
  clear bb CO hst hnc hcm
  go_wp2_with fail
  refine CRd.out.mono ?_
  rintro e w2 ⟨⟨t, N, L, v, rfl, hin, hy, hno⟩, b2⟩
  have IN2 : Hid (SpOwn w1.heap.size w2 t N L) := hin
  have R2 : Hid (SpC w2 w.heap.size zeroS noS noS) := R1.out.below b2
  have B2 : Hid (Below w.heap.size w w2) := bel_tr B1.out b2
  have hw2 : w.heap.size < w2.heap.size := by have := b2.size; omega
  have HY : Hid (v = true → ps = partsS t ∧ FitS t) := hy
  have HNO : Hid (v = false → ∀ t, FitS t → ps ≠ partsS t) := hno
  clear hin b2 hy hno CRd R1 B1
  have HRT : Hid (∀ W u, Below w2.heap.size w2 W → (u = true ↔ RtS t) → Calls Tryz.prog 12 #[spV t N L] W fun e w' => e = .returned (.bool u) ∧ Below W.heap.size W w') := fun W u hb hu => rightS_val (IN2.out.spIn.below hb) u hu
  have QBX : Hid (∀ ty : TypeId, SpC (w2.alloc (.cells #[.int .i64 t.tx, .int .i64 t.nb, .int .i64 t.ng, .int .i64 t.now, .slice N.a N.n N.c, .slice L.a L.n L.c] ty)) w2.heap.size t N L) := fun ty => SpC.new w2 ty t N L
  obtain ⟨tx, nb, ng, now, tns, tls⟩ := t
  obtain ⟨Na, Nn, Nc⟩ := N
  obtain ⟨La, Ln, Lc⟩ := L
  unfold spV at HRT ⊢
  simp only at HRT QBX ⊢
  have R3 : Hid (∀ o, SpC (w2.alloc o) w.heap.size zeroS noS noS) := fun o => R2.out.below (bel_al _ _)
  have HFO : Hid (∀ W, SpC W w.heap.size zeroS noS noS → Below w.heap.size w W → SpC (Spa.put6 W w.heap.size zeroS noS noS) w.heap.size zeroS noS noS ∧ Below w.heap.size w (Spa.put6 W w.heap.size zeroS noS noS)) := fun W h1 h2 => ⟨(put6_at h1 _ _ _).1, bel_put6 h2 h1 (Nat.le_refl _) _ _ _⟩
  cases v with
  | false =>
    have HE : Hid (E = 2 ∧ s = zeroS) := by
      rcases HD.out with ⟨_, h2, h3⟩ | ⟨h1, h2, _⟩
      · exact (HNO.out rfl s (rts_fit h2) h3).elim
      · exact ⟨h1, h2⟩
    obtain ⟨rfl, rfl⟩ := HE.out
    clear HE HNO HY HD HRT
    obtain ⟨r0, r1, r2, r3, r4, r5, rf⟩ := R3.out (.cells #[.int .i64 tx, .int .i64 nb, .int .i64 ng, .int .i64 now, .slice Na Nn Nc, .slice La Ln Lc] 26)
    have HP : Hid _ := HFO.out _ (R3.out (.cells #[.int .i64 tx, .int .i64 nb, .int .i64 ng, .int .i64 now, .slice Na Nn Nc, .slice La Ln Lc] 26)) (bel_tr B2.out (bel_al _ _))
    rw [put6_def] at HP
    unfold noS zeroS at HP
    simp only at HP
    simp only [zeroS, noS] at r0 r1 r2 r3 r4 r5
    go_upto_region 5 with fail
    generalize w2.alloc (.cells #[.int .i64 tx, .int .i64 nb, .int .i64 ng, .int .i64 now, .slice Na Nn Nc, .slice La Ln Lc] 26) = W3 at *
    go_wp2
    obtain ⟨q0, q1, q2, q3, q4, q5, _⟩ := HP.out.1
    refine bodyPost_ret (v := .tuple #[.agg #[.int .i64 0, .int .i64 0, .int .i64 0, .int .i64 0, .slice none 0 0, .slice none 0 0], .int .i64 2]) ?_ rfl ⟨HI.out _, HP.out.2⟩
    simp only [results, Tryz.results5]
    simp [go_sem, q0, q1, q2, q3, q4, q5]
  | true =>
    obtain ⟨hp1, hp2⟩ := HY.out rfl
    have Q3 : Hid (SpC (w2.alloc (.cells #[.int .i64 tx, .int .i64 nb, .int .i64 ng, .int .i64 now, .slice Na Nn Nc, .slice La Ln Lc] 26)) w2.heap.size ⟨tx, nb, ng, now, tns, tls⟩ ⟨Na, Nn, Nc⟩ ⟨La, Ln, Lc⟩) := QBX.out _
    have R3b : Hid (SpC (w2.alloc (.cells #[.int .i64 tx, .int .i64 nb, .int .i64 ng, .int .i64 now, .slice Na Nn Nc, .slice La Ln Lc] 26)) w.heap.size zeroS noS noS) := R3.out _
    have B3 : Hid (Below w2.heap.size w2 (w2.alloc (.cells #[.int .i64 tx, .int .i64 nb, .int .i64 ng, .int .i64 now, .slice Na Nn Nc, .slice La Ln Lc] 26))) := bel_al _ _
    go_upto_region 5 with fail
    generalize w2.alloc (.cells #[.int .i64 tx, .int .i64 nb, .int .i64 ng, .int .i64 now, .slice Na Nn Nc, .slice La Ln Lc] 26) = W3 at *
    generalize hQQ : w2.heap.size = Q at *
    have B4 : Hid (Below w.heap.size w W3) := by
      have h := B3.out
      rw [← hQQ] at h
      exact bel_tr B2.out h
    have B3' : Hid (Below w2.heap.size w2 W3) := by rw [hQQ]; exact B3.out
    obtain ⟨y0, y1, y2, y3, y4, y5, yf⟩ := Q3.out
    simp only at y0 y1 y2 y3 y4 y5
    by_cases hR : RtS ⟨tx, nb, ng, now, tns, tls⟩
    · have HE : Hid (E = 0 ∧ s = ⟨tx, nb, ng, now, tns, tls⟩) := by
        rcases HD.out with ⟨h1, _, h3⟩ | ⟨_, _, h3⟩
        · exact ⟨h1, partsS_inj (h3.symm.trans hp1)⟩
        · exact (h3 _ hR hp1).elim
      obtain ⟨rfl, rfl⟩ := HE.out
      have CR : Hid (Calls Tryz.prog 12 #[.agg #[.int .i64 tx, .int .i64 nb, .int .i64 ng, .int .i64 now, .slice Na Nn Nc, .slice La Ln Lc]] W3 fun e w' => e = .returned (.bool true) ∧ Below W3.heap.size W3 w') := HRT.out W3 true B3.out ⟨fun _ => hR, fun _ => rfl⟩
      clear HE HNO HY HD HRT hp1 hp2
      go_wp2_with fail
      refine CR.out.mono ?_
      rintro e w4 ⟨rfl, b4⟩
      have INN : Hid (SpOwn w1.heap.size w4 ⟨tx, nb, ng, now, tns, tls⟩ ⟨Na, Nn, Nc⟩ ⟨La, Ln, Lc⟩) := (IN2.out.below B3'.out).below b4
      have R4 : Hid (SpC w4 w.heap.size zeroS noS noS) := R3b.out.below b4
      obtain ⟨x0, x1, x2, x3, x4, x5, _⟩ := Q3.out.below b4
      simp only at x0 x1 x2 x3 x4 x5
      have B5 : Hid (Below w.heap.size w w4) := bel_tr B4.out b4
      have pR := put6_at R4.out ⟨tx, nb, ng, now, tns, tls⟩ ⟨Na, Nn, Nc⟩ ⟨La, Ln, Lc⟩
      have HP : Hid (SpC (Spa.put6 w4 w.heap.size ⟨tx, nb, ng, now, tns, tls⟩ ⟨Na, Nn, Nc⟩ ⟨La, Ln, Lc⟩) w.heap.size ⟨tx, nb, ng, now, tns, tls⟩ ⟨Na, Nn, Nc⟩ ⟨La, Ln, Lc⟩ ∧ Below w.heap.size w (Spa.put6 w4 w.heap.size ⟨tx, nb, ng, now, tns, tls⟩ ⟨Na, Nn, Nc⟩ ⟨La, Ln, Lc⟩) ∧ SpOwn w.heap.size (Spa.put6 w4 w.heap.size ⟨tx, nb, ng, now, tns, tls⟩ ⟨Na, Nn, Nc⟩ ⟨La, Ln, Lc⟩) ⟨tx, nb, ng, now, tns, tls⟩ ⟨Na, Nn, Nc⟩ ⟨La, Ln, Lc⟩) := ⟨pR.1, bel_put6 B5.out R4.out (Nat.le_refl _) _ _ _, (INN.out.keep pR.2 (fun k hk => by rw [hk]; exact hw1)).mono (Nat.le_of_lt hw1)⟩
      rw [put6_def] at HP
      simp only at HP
      obtain ⟨r0, r1, r2, r3, r4, r5, rf⟩ := R4.out
      simp only [zeroS, noS] at r0 r1 r2 r3 r4 r5
      clear pR b4 y0 y1 y2 y3 y4 y5 yf CR
      go_wp2
      obtain ⟨q0, q1, q2, q3, q4, q5, _⟩ := HP.out.1
      refine bodyPost_ret (v := .tuple #[spV ⟨tx, nb, ng, now, tns, tls⟩ ⟨Na, Nn, Nc⟩ ⟨La, Ln, Lc⟩, .int .i64 0]) ?_ rfl ⟨⟨⟨Na, Nn, Nc⟩, ⟨La, Ln, Lc⟩, rfl, HP.out.2.2⟩, HP.out.2.1⟩
      unfold spV
      simp only [results, Tryz.results5]
      simp [go_sem, q0, q1, q2, q3, q4, q5]
    · have HE : Hid (E = 2 ∧ s = zeroS) := by
        rcases HD.out with ⟨_, h2, h3⟩ | ⟨h1, h2, _⟩
        · exact absurd ((partsS_inj (h3.symm.trans hp1)) ▸ h2) hR
        · exact ⟨h1, h2⟩
      obtain ⟨rfl, rfl⟩ := HE.out
      have CR : Hid (Calls Tryz.prog 12 #[.agg #[.int .i64 tx, .int .i64 nb, .int .i64 ng, .int .i64 now, .slice Na Nn Nc, .slice La Ln Lc]] W3 fun e w' => e = .returned (.bool false) ∧ Below W3.heap.size W3 w') := HRT.out W3 false B3.out ⟨fun e => (by cases e), fun e => absurd e hR⟩
      clear HE HNO HY HD HRT hp1 hp2 hR
      go_wp2_with fail
      refine CR.out.mono ?_
      rintro e w4 ⟨rfl, b4⟩
      have R4 : Hid (SpC w4 w.heap.size zeroS noS noS) := R3b.out.below b4
      have HP : Hid _ := HFO.out _ R4.out (bel_tr B4.out b4)
      rw [put6_def] at HP
      unfold noS zeroS at HP
      simp only at HP
      obtain ⟨r0, r1, r2, r3, r4, r5, rf⟩ := R4.out
      simp only [zeroS, noS] at r0 r1 r2 r3 r4 r5
      clear b4 CR y0 y1 y2 y3 y4 y5 yf
      go_wp2
      obtain ⟨q0, q1, q2, q3, q4, q5, _⟩ := HP.out.1
      refine bodyPost_ret (v := .tuple #[.agg #[.int .i64 0, .int .i64 0, .int .i64 0, .int .i64 0, .slice none 0 0, .slice none 0 0], .int .i64 2]) ?_ rfl ⟨HI.out _, HP.out.2⟩
      simp only [results, Tryz.results5]
      simp [go_sem, q0, q1, q2, q3, q4, q5]

/-- By what the bytes are. -/
theorem decode_val {b : ByteArray} {w : World} (hb : b.size ≤ 4000000000) (s : Sp) (E : Int) (h : DecI b s E) :
    Calls Tryz.prog 5 #[.string b] w fun e w' => DecR w.heap.size s E e w' ∧ Below w.heap.size w w' := by
  cases h with
  | ok _ h1 h2 h3 => exact decode_ok hb h2 h3 s 0 (.inl ⟨rfl, h1, rfl⟩)
  | form ps h1 h2 h3 => exact decode_ok hb h1 h2 zeroS 2 (.inr ⟨rfl, rfl, h3⟩)
  | bad ps r e h1 h2 h3 => exact decode_bad hb h1 h2 h3

end Go.Proofs.YtigomhilcnnjdaaGreat.Img
