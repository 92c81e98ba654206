/- Part 34 of the proof: SpaceL2, SpaceL4, SpaceL6, SpaceLf. -/
import Derived.Test.YticiihjkgiookaaGreatB17
import Derived.Test.YticiihjkgiookaaGreatB28
import Derived.Test.YticiihjkgiookaaGreatB30
import Derived.Test.YticiihjkgiookaaGreatB33
import Derived.BigQuiet
import Derived.Deep.LoopGhost

/- A space in a box of the caller's own, edit by edit. No program in it. -/
namespace Go.Proofs.YticiihjkgiookaaGreat.Spa
open Go.RowKit Go.Proofs.YticiihjkgiookaaGreat
open Go.Proofs.YticiihjkgiookaaGreat.Lea (LS Ls findX putL renX LL LO LsR lsC wideL)
open Go.Proofs.YticiihjkgiookaaGreat.Edi (Ed Nm EdAt edV)

theorem OwnM.top {base M : Nat} {w : World} {s : Sp} {N L : RS} {ps : List NR} {g gl : Option Nat} (h : OwnM base M w s N L ps g gl) : OwnM base w.heap.size w s N L ps g gl :=
  ⟨h.lot, h.map, h.lo, h.gl1, h.gl2, fun k hk => by have := h.lot.cel; rw [hk] at this; exact this.lt.1, fun k hk => (h.lo.own k hk).1, fun x hx k hk => (h.lot.ok x hx).ok.bs.lt k hk⟩
theorem doS_is (s : Sp) (e : Ed) : appS s e 0 = doS s e := rfl

/-- In the block q lies the space s; its nodes and leases lie elsewhere, in memory of its own. -/
structure Now (w0 : World) (q : Nat) (w : World) (s : Sp) (N L : RS) : Prop where
  bel : Below w0.heap.size w0 w
  box : SpC w q s N L
  own : ∃ ps g gl base M, OwnM base M w s N L ps g gl ∧ (q < base ∨ M ≤ q)
  q0 : w0.heap.size ≤ q
theorem Now.below {w0 w w' : World} {q : Nat} {s : Sp} {N L : RS} (h : Now w0 q w s N L) (hb : Below w.heap.size w w') : Now w0 q w' s N L := by
  obtain ⟨ps, g, gl, base, M, h1, h2⟩ := h.own
  exact ⟨bel_tr h.bel hb, h.box.below hb, ⟨ps, g, gl, base, M, h1.below hb, h2⟩, h.q0⟩
theorem Now.spIn {w0 w : World} {q : Nat} {s : Sp} {N L : RS} (h : Now w0 q w s N L) : SpIn w s N L := by
  obtain ⟨ps, g, gl, base, M, h1, h2⟩ := h.own
  exact h1.spIn
theorem Now.lt {w0 w : World} {q : Nat} {s : Sp} {N L : RS} (h : Now w0 q w s N L) : q < w.heap.size := World.block_lt_of_cell? _ _ h.box.c0
theorem Now.put {w0 w : World} {q : Nat} {s t : Sp} {N L N' L' : RS} {ps : List NR} {g gl : Option Nat} {base M : Nat} (h : Now w0 q w s N L) (hO : OwnM base M w t N' L' ps g gl) (hq : q < base ∨ M ≤ q) : Now w0 q (put6 w q t N' L') t N' L' := by
  obtain ⟨p1, p2⟩ := put6_at h.box t N' L'
  exact ⟨((Stay.of_below (O := fun k => w0.heap.size ≤ k) h.bel).then_same (p2.mono (fun k hk => by rw [hk]; exact h.q0))).below (Nat.le_refl _) (fun k hk => hk), p1, ⟨ps, g, gl, base, M, hO.out p2 (fun k hk => by rw [hk]; exact hq), hq⟩, h.q0⟩
theorem Now.start {w0 w : World} {s : Sp} {N L : RS} {ps : List NR} {g gl : Option Nat} {base M : Nat} (hb : Below w0.heap.size w0 w) (hO : OwnM base M w s N L ps g gl) (t : TypeId) :
    Now w0 w.heap.size (w.alloc (.cells #[.int .i64 s.tx, .int .i64 s.nb, .int .i64 s.ng, .int .i64 s.now, .slice N.a N.n N.c, .slice L.a L.n L.c] t)) s N L :=
  ⟨bel_tr hb (bel_al _ _), SpC.new w t s N L, ⟨ps, g, gl, base, w.heap.size, hO.top.below (bel_al _ _), .inr (Nat.le_refl _)⟩, hb.size⟩

section
variable {w w2 : World} {t1 t2 : TypeId}
theorem sp_one (c : Below (World.drew (w.alloc (.cells #[.int .i64 0, .int .i64 0, .int .i64 0, .int .i64 0, .slice none 0 0, .slice none 0 0] t1))).heap.size (World.drew (w.alloc (.cells #[.int .i64 0, .int .i64 0, .int .i64 0, .int .i64 0, .slice none 0 0, .slice none 0 0] t1))) w2) : SpC w2 w.heap.size zeroS noS noS := (SpC.new w t1 zeroS noS noS).below (bel_tr (Edi.bel_drew _) c)
theorem an_one (c : Below (World.drew (w.alloc (.cells #[.int .i64 0, .int .i64 0, .int .i64 0, .int .i64 0, .slice none 0 0, .string ⟨#[]⟩, .bool false, .int .i64 0, .slice none 0 0, .int .i64 0, .int .i64 0] t2))).heap.size (World.drew (w.alloc (.cells #[.int .i64 0, .int .i64 0, .int .i64 0, .int .i64 0, .slice none 0 0, .string ⟨#[]⟩, .bool false, .int .i64 0, .slice none 0 0, .int .i64 0, .int .i64 0] t2))) w2) : AnC w2 w.heap.size 0 zeroB noS zeroX 0 := (AnC.new w t2).below (bel_tr (Edi.bel_drew _) c)
theorem sp_first (c : Below (World.drew ((w.alloc (.cells #[.int .i64 0, .int .i64 0, .int .i64 0, .int .i64 0, .slice none 0 0, .slice none 0 0] t1)).alloc (.cells #[.int .i64 0, .int .i64 0, .int .i64 0, .int .i64 0, .slice none 0 0, .string ⟨#[]⟩, .bool false, .int .i64 0, .slice none 0 0, .int .i64 0, .int .i64 0] t2))).heap.size (World.drew ((w.alloc (.cells #[.int .i64 0, .int .i64 0, .int .i64 0, .int .i64 0, .slice none 0 0, .slice none 0 0] t1)).alloc (.cells #[.int .i64 0, .int .i64 0, .int .i64 0, .int .i64 0, .slice none 0 0, .string ⟨#[]⟩, .bool false, .int .i64 0, .slice none 0 0, .int .i64 0, .int .i64 0] t2))) w2) : SpC w2 w.heap.size zeroS noS noS := ((SpC.new w t1 zeroS noS noS).below (bel_al _ _)).below (bel_tr (Edi.bel_drew _) c)
theorem an_second (c : Below (World.drew ((w.alloc (.cells #[.int .i64 0, .int .i64 0, .int .i64 0, .int .i64 0, .slice none 0 0, .slice none 0 0] t1)).alloc (.cells #[.int .i64 0, .int .i64 0, .int .i64 0, .int .i64 0, .slice none 0 0, .string ⟨#[]⟩, .bool false, .int .i64 0, .slice none 0 0, .int .i64 0, .int .i64 0] t2))).heap.size (World.drew ((w.alloc (.cells #[.int .i64 0, .int .i64 0, .int .i64 0, .int .i64 0, .slice none 0 0, .slice none 0 0] t1)).alloc (.cells #[.int .i64 0, .int .i64 0, .int .i64 0, .int .i64 0, .slice none 0 0, .string ⟨#[]⟩, .bool false, .int .i64 0, .slice none 0 0, .int .i64 0, .int .i64 0] t2))) w2) : AnC w2 (w.heap.size + 1) 0 zeroB noS zeroX 0 := by
  have h := (AnC.new (w.alloc (.cells #[.int .i64 0, .int .i64 0, .int .i64 0, .int .i64 0, .slice none 0 0, .slice none 0 0] t1)) t2).below (bel_tr (Edi.bel_drew _) c)
  rwa [show (w.alloc (.cells #[.int .i64 0, .int .i64 0, .int .i64 0, .int .i64 0, .slice none 0 0, .slice none 0 0] t1)).heap.size = w.heap.size + 1 by simp] at h
theorem an_first (c : Below (World.drew ((w.alloc (.cells #[.int .i64 0, .int .i64 0, .int .i64 0, .int .i64 0, .slice none 0 0, .string ⟨#[]⟩, .bool false, .int .i64 0, .slice none 0 0, .int .i64 0, .int .i64 0] t2)).alloc (.cells #[.int .i64 0, .int .i64 0, .int .i64 0, .int .i64 0, .slice none 0 0, .slice none 0 0] t1))).heap.size (World.drew ((w.alloc (.cells #[.int .i64 0, .int .i64 0, .int .i64 0, .int .i64 0, .slice none 0 0, .string ⟨#[]⟩, .bool false, .int .i64 0, .slice none 0 0, .int .i64 0, .int .i64 0] t2)).alloc (.cells #[.int .i64 0, .int .i64 0, .int .i64 0, .int .i64 0, .slice none 0 0, .slice none 0 0] t1))) w2) : AnC w2 w.heap.size 0 zeroB noS zeroX 0 := ((AnC.new w t2).below (bel_al _ _)).below (bel_tr (Edi.bel_drew _) c)
theorem sp_second (c : Below (World.drew ((w.alloc (.cells #[.int .i64 0, .int .i64 0, .int .i64 0, .int .i64 0, .slice none 0 0, .string ⟨#[]⟩, .bool false, .int .i64 0, .slice none 0 0, .int .i64 0, .int .i64 0] t2)).alloc (.cells #[.int .i64 0, .int .i64 0, .int .i64 0, .int .i64 0, .slice none 0 0, .slice none 0 0] t1))).heap.size (World.drew ((w.alloc (.cells #[.int .i64 0, .int .i64 0, .int .i64 0, .int .i64 0, .slice none 0 0, .string ⟨#[]⟩, .bool false, .int .i64 0, .slice none 0 0, .int .i64 0, .int .i64 0] t2)).alloc (.cells #[.int .i64 0, .int .i64 0, .int .i64 0, .int .i64 0, .slice none 0 0, .slice none 0 0] t1))) w2) : SpC w2 (w.heap.size + 1) zeroS noS noS := by
  have h := (SpC.new (w.alloc (.cells #[.int .i64 0, .int .i64 0, .int .i64 0, .int .i64 0, .slice none 0 0, .string ⟨#[]⟩, .bool false, .int .i64 0, .slice none 0 0, .int .i64 0, .int .i64 0] t2)) t1 zeroS noS noS).below (bel_tr (Edi.bel_drew _) c)
  rwa [show (w.alloc (.cells #[.int .i64 0, .int .i64 0, .int .i64 0, .int .i64 0, .slice none 0 0, .string ⟨#[]⟩, .bool false, .int .i64 0, .slice none 0 0, .int .i64 0, .int .i64 0] t2)).heap.size = w.heap.size + 1 by simp] at h
end
/-- What Apply tells, by names. -/
structure ApR (B : Nat) (t : Sp) (E : Int) (b : Blk) (x : Nd) (r : Ending) (w' : World) : Prop where
  ex : ∃ N L ps g gl base M sx, r = .returned (.tuple #[spV t N L, anV E b noS (x, sx) 0]) ∧ OwnM base M w' t N L ps g gl ∧ Free M w' (x, sx) ∧ B ≤ base ∧ base ≤ M
theorem apply_any {s : Sp} {N L : RS} {w : World} (h : SpIn w s N L) (e : Ed) (ea : Option Addr) (em eq : Nat) (hn : Nm w ea em e.ls) (E : Int) (hE : AppE s e E) :
    Calls Tryz.prog 7 #[spV s N L, edV e ea em eq] w fun r w' => ApR w.heap.size (appS s e E) E (appB s e E) (appN s e E) r w' ∧ Below w.heap.size w w' :=
  (apply_val h e ea em eq hn E hE).mono fun _ _ h => ⟨⟨h.1.ex⟩, h.2⟩
theorem bel_dal (w : World) (o : Obj) : Below w.drew.heap.size w.drew (w.alloc o).drew := (bel_al w.drew o)
theorem bel_daal (w : World) (o p : Obj) : Below (w.alloc o).drew.heap.size (w.alloc o).drew ((w.alloc o).alloc p).drew := (bel_al (w.alloc o).drew p)
theorem an_sec (w : World) {t1 t2 : TypeId} : AnC ((w.alloc (.cells #[.int .i64 0, .int .i64 0, .int .i64 0, .int .i64 0, .slice none 0 0, .slice none 0 0] t1)).alloc (.cells #[.int .i64 0, .int .i64 0, .int .i64 0, .int .i64 0, .slice none 0 0, .string ⟨#[]⟩, .bool false, .int .i64 0, .slice none 0 0, .int .i64 0, .int .i64 0] t2)) (w.heap.size + 1) 0 zeroB noS zeroX 0 := by
  have h := AnC.new (w.alloc (.cells #[.int .i64 0, .int .i64 0, .int .i64 0, .int .i64 0, .slice none 0 0, .slice none 0 0] t1)) t2
  rwa [show (w.alloc (.cells #[.int .i64 0, .int .i64 0, .int .i64 0, .int .i64 0, .slice none 0 0, .slice none 0 0] t1)).heap.size = w.heap.size + 1 by simp] at h
theorem sp_sec (w : World) {t1 t2 : TypeId} : SpC ((w.alloc (.cells #[.int .i64 0, .int .i64 0, .int .i64 0, .int .i64 0, .slice none 0 0, .string ⟨#[]⟩, .bool false, .int .i64 0, .slice none 0 0, .int .i64 0, .int .i64 0] t2)).alloc (.cells #[.int .i64 0, .int .i64 0, .int .i64 0, .int .i64 0, .slice none 0 0, .slice none 0 0] t1)) (w.heap.size + 1) zeroS noS noS := by
  have h := SpC.new (w.alloc (.cells #[.int .i64 0, .int .i64 0, .int .i64 0, .int .i64 0, .slice none 0 0, .string ⟨#[]⟩, .bool false, .int .i64 0, .slice none 0 0, .int .i64 0, .int .i64 0] t2)) t1 zeroS noS noS
  rwa [show (w.alloc (.cells #[.int .i64 0, .int .i64 0, .int .i64 0, .int .i64 0, .slice none 0 0, .string ⟨#[]⟩, .bool false, .int .i64 0, .slice none 0 0, .int .i64 0, .int .i64 0] t2)).heap.size = w.heap.size + 1 by simp] at h
/-- Behind an edit: in tq lies the space that came, in aq the answer. -/
structure Land (wr : World) (W : World) (tq aq : Nat) (t : Sp) (N L : RS) (E : Int) (b : Blk) (x : Nd) (sx : RS) : Prop where
  bel : Below wr.heap.size wr W
  box : SpC W tq t N L
  an : AnC W aq E b noS (x, sx) 0
  own : ∃ ps g gl base M, OwnM base M W t N L ps g gl ∧ wr.heap.size ≤ base ∧ Free base W (x, sx)
theorem Land.below {wr W W' : World} {tq aq : Nat} {t : Sp} {N L : RS} {E : Int} {b : Blk} {x : Nd} {sx : RS} (h : Land wr W tq aq t N L E b x sx) (hb : Below W.heap.size W W') : Land wr W' tq aq t N L E b x sx := by
  obtain ⟨ps, g, gl, base, M, h1, h2, h3⟩ := h.own
  exact ⟨bel_tr h.bel hb, h.box.below hb, h.an.below hb, ps, g, gl, base, M, h1.below hb, h2, h3.below hb⟩
/-- What came is put in the place of what was there. -/
theorem Land.put {w0 wr W : World} {q tq aq : Nat} {s t : Sp} {N L N1 L1 : RS} {E : Int} {b : Blk} {x : Nd} {sx : RS} (h : Land wr W tq aq t N1 L1 E b x sx) (hN : Now w0 q W s N L) (hq : q < wr.heap.size) : Now w0 q (put6 W q t N1 L1) t N1 L1 := by
  obtain ⟨ps, g, gl, base, M, h1, h2, h3⟩ := h.own
  exact hN.put h1 (.inl (by omega))
theorem Land.parts {wr W : World} {tq aq : Nat} {t : Sp} {N L : RS} {E : Int} {b : Blk} {x : Nd} {sx : RS} (h : Land wr W tq aq t N L E b x sx) : ∃ nb off ps, Nds W N.a nb off ps ∧ ps.length = N.n ∧ ps.map (·.1) = t.ns ∧ LL W L.a L.n L.c t.ls := by
  obtain ⟨ps, g, gl, base, M, h1, h2, h3⟩ := h.own
  obtain ⟨nb, hb⟩ := h1.lot.nds
  exact ⟨nb, 0, ps, hb, h1.lot.len, h1.map, h1.lo.ll⟩
theorem put6_def (w : World) (b : Nat) (s : Sp) (N L : RS) : put6 w b s N L = (((((w.setCell ⟨b, 0, none⟩ (.int .i64 s.tx)).setCell ⟨b, 1, none⟩ (.int .i64 s.nb)).setCell ⟨b, 2, none⟩ (.int .i64 s.ng)).setCell ⟨b, 3, none⟩ (.int .i64 s.now)).setCell ⟨b, 4, none⟩ (.slice N.a N.n N.c)).setCell ⟨b, 5, none⟩ (.slice L.a L.n L.c) := rfl
theorem put11_def (w : World) (B : Nat) (E : Int) (b : Blk) (T : RS) (x : NR) (n : Int) : put11 w B E b T x n = (((((((((((w.setCell ⟨B, 0, none⟩ (.int .i64 E)).setCell ⟨B, 1, none⟩ (.int .i64 b.id)).setCell ⟨B, 2, none⟩ (.int .i64 b.gen)).setCell ⟨B, 3, none⟩ (.int .i64 b.len)).setCell ⟨B, 4, none⟩ (.slice T.a T.n T.c)).setCell ⟨B, 5, none⟩ (.string x.1.path)).setCell ⟨B, 6, none⟩ (.bool x.1.dir)).setCell ⟨B, 7, none⟩ (.int .i64 x.1.quota)).setCell ⟨B, 8, none⟩ (.slice x.2.a x.2.n x.2.c)).setCell ⟨B, 9, none⟩ (.int .i64 x.1.wr)).setCell ⟨B, 10, none⟩ (.int .i64 n)) := rfl
theorem bel_put6 {w0 w : World} {b : Nat} {s0 : Sp} {N0 L0 : RS} (hb : Below w0.heap.size w0 w) (hS : SpC w b s0 N0 L0) (h : w0.heap.size ≤ b) (s : Sp) (N L : RS) : Below w0.heap.size w0 (put6 w b s N L) :=
  ((Stay.of_below (O := fun k => w0.heap.size ≤ k) hb).then_same ((put6_at hS s N L).2.mono (fun k hk => by rw [hk]; exact h))).below (Nat.le_refl _) (fun k hk => hk)
theorem bel_put11 {w0 w : World} {B : Nat} {E0 : Int} {b0 : Blk} {T0 : RS} {x0 : NR} {n0 : Int} (hb : Below w0.heap.size w0 w) (hA : AnC w B E0 b0 T0 x0 n0) (h : w0.heap.size ≤ B) (E : Int) (b : Blk) (T : RS) (x : NR) (n : Int) : Below w0.heap.size w0 (put11 w B E b T x n) :=
  ((Stay.of_below (O := fun k => w0.heap.size ≤ k) hb).then_same ((put11_at hA E b T x n).2.mono (fun k hk => by rw [hk]; exact h))).below (Nat.le_refl _) (fun k hk => hk)
theorem an_put6 {w7 : World} {tq aq : Nat} {t : Sp} {N1 L1 : RS} (FS : SpC w7 tq zeroS noS noS) (FA : AnC w7 aq 0 zeroB noS zeroX 0) (hne : tq ≠ aq) : AnC (put6 w7 tq t N1 L1) aq 0 zeroB noS zeroX 0 :=
  FA.keep (put6_at FS t N1 L1).2 (fun e => hne e.symm)
theorem land_of {wr w5 w7 : World} {tq aq : Nat} {t : Sp} {N1 L1 : RS} {ps : List NR} {g gl : Option Nat} {base1 M1 : Nat} {E : Int} {bk : Blk} {x : Nd} {sx1 : RS} (hO : OwnM base1 w5.heap.size w5 t N1 L1 ps g gl) (hF : Free M1 w5 (x, sx1)) (hbM : base1 ≤ M1) (hwb : wr.heap.size ≤ base1) (hb : Below wr.heap.size wr w7) (bl : Below w5.heap.size w5 w7) (FS : SpC w7 tq zeroS noS noS) (FA : AnC w7 aq 0 zeroB noS zeroX 0) (hne : tq ≠ aq) (h1 : tq < base1 ∨ w5.heap.size ≤ tq) (h2 : aq < base1 ∨ w5.heap.size ≤ aq) (q1 : wr.heap.size ≤ tq) (q2 : wr.heap.size ≤ aq) :
    Land wr (put11 (put6 w7 tq t N1 L1) aq E bk noS (x, sx1) 0) tq aq t N1 L1 E bk x sx1 := by
  obtain ⟨p1, p2⟩ := put6_at FS t N1 L1
  have FA2 := an_put6 (t := t) (N1 := N1) (L1 := L1) FS FA hne
  obtain ⟨r1, r2⟩ := put11_at FA2 E bk noS (x, sx1) 0
  refine ⟨bel_put11 (bel_put6 hb FS q1 _ _ _) FA2 q2 _ _ _ _ _, p1.keep r2 hne, r1, ps, g, gl, base1, w5.heap.size, ((hO.below bl).out p2 (fun k hk => by rw [hk]; exact h1)).out r2 (fun k hk => by rw [hk]; exact h2), hwb, ?_⟩
  have hk1 : ∀ k, (x, sx1).2.blk = some k → M1 ≤ k ∧ k < w5.heap.size := fun k hk => ⟨hF.blk_ge k hk, hF.ok.bs.lt k hk⟩
  exact (Stay.free (Stay.free (hF.below bl) p2 (fun k hk e => by have := hk1 k hk; omega)) r2 (fun k hk e => by have := hk1 k hk; omega)).mono hbM

theorem OwnM.nodes {base M : Nat} {w : World} {s : Sp} {N L : RS} {ps : List NR} {g gl : Option Nat} (h : OwnM base M w s N L ps g gl) : ∃ b off, Nds w N.a b off ps ∧ ps.length = N.n ∧ ps.map (·.1) = s.ns := by
  obtain ⟨b, hb⟩ := h.lot.nds
  exact ⟨b, 0, hb, h.lot.len, h.map⟩

end Go.Proofs.YticiihjkgiookaaGreat.Spa

/- Stat, whatever is there; what is told by Blocks, held against another list; an answer in a box. -/
namespace Go.Proofs.YticiihjkgiookaaGreat.Spa
open Go.RowKit Go.Proofs.YticiihjkgiookaaGreat
open Go.Proofs.YticiihjkgiookaaGreat.Edi (Ed Nm EdAt edV)

/-- What Stat tells of a right space. -/
inductive StatE (s : Sp) (p : ByteArray) : Int → Nd → Prop
  | ok (i : Nat) (x : Nd) : Is s.ns p i x → StatE s p 0 x
  | no (I E : Int) : FindR s.ns p I E → E ≠ 0 → StatE s p E zeroN
theorem statE_any (s : Sp) (p : ByteArray) : ∃ E x, StatE s p E x := by
  rcases node_cases s.ns p with h | ⟨h, h2⟩ | ⟨i, x, h⟩
  · exact ⟨1, zeroN, .no 0 1 (.arg h) (by decide)⟩
  · exact ⟨5, zeroN, .no 0 5 (.none h h2) (by decide)⟩
  · exact ⟨0, x, .ok i x h⟩
theorem StatE.is {s : Sp} {p : ByteArray} {E : Int} {x y : Nd} {i : Nat} (h : StatE s p E x) (hi : Is s.ns p i y) : E = 0 ∧ x = y := by
  cases h with
  | ok j x hj => exact ⟨rfl, (hj.one hi).2⟩
  | no I E hf h0 =>
    cases hf with
    | arg hp => rw [hi.path] at hp; cases hp
    | none hp hn => rw [hi.at_] at hn; cases hn
    | ok j x hj => exact absurd rfl h0
structure StatR (E : Int) (x : Nd) (e : Ending) (w' : World) : Prop where
  ex : ∃ sx, e = .returned (anV E zeroB noS (x, sx) 0) ∧ NdOk w' (x, sx)
theorem stat_val {s : Sp} {N L : RS} {w : World} (h : SpIn w s N L) (p : ByteArray) (hp : p.size ≤ maxLen) (hR : RtS s) (E : Int) (x : Nd) (hE : StatE s p E x) :
    Calls Tryz.prog 14 #[spV s N L, .string p] w fun e w' => StatR E x e w' ∧ Below w.heap.size w w' := by
  cases hE with
  | ok i x hi => exact (stat_ok h p hp hR i x hi).mono fun e w' ⟨⟨M, sx, _, h1, h2⟩, h3⟩ => ⟨⟨sx, h1, h2.ok⟩, h3⟩
  | no I E hf h0 => exact (stat_no h p hp hR I E hf h0).mono fun e w' ⟨h1, h2⟩ => ⟨⟨noS, h1, (free_no 0 w' zeroN rfl (by decide)).ok⟩, h2⟩

/-! ### what Blocks tells -/
theorem Sorted.blks {base : Nat} {bs : List Blk} {a : Option Addr} {m c : Nat} {ys : List Blk} {w : World} (h : Sorted base bs a m c ys w) : Blks w ⟨a, m, c⟩ ys := by
  obtain ⟨g, hc⟩ := h.cel
  have hl := h.len
  obtain ⟨hc1, hc2, _⟩ := hc.cap2
  refine ⟨hl, by show m ≤ maxLen; omega, fun hn => ?_, fun hp => ?_⟩
  · cases hc with
    | nil e _ _ => injection e
    | row k cap e _ _ _ _ _ _ _ => injection e with e1 _ _; exact absurd (e1.symm.trans hn) (by simp)
  · have hp : 0 < m := hp
    obtain ⟨b, rfl, rfl⟩ := hc.at2 hp
    refine ⟨b, 0, rfl, fun j hj i v hv => ?_⟩
    obtain ⟨b', e1, e2, e3⟩ := hc.elem wideB hj hl
    cases e1
    have := e3 i v hv
    rw [Nat.zero_add]
    exact this
structure BlkR (ys : List Blk) (e : Ending) (w' : World) : Prop where
  ex : ∃ r : RS, e = .returned (.slice r.a r.n r.c) ∧ Blks w' r ys
/-- The blocks, by their numbers. -/
def sortB (xs : NS) (ys : List Blk) : Prop := ys.Perm (blksL xs) ∧ UpB ys
theorem sortB_one {xs zs : NS} {ys us : List Blk} (h : sortB xs ys) (k : sortB zs us) (hp : (blksL xs).Perm (blksL zs)) : ys = us :=
  up_unique ((h.1.trans hp).trans k.1.symm) h.2 k.2

/-! ### boxes -/
theorem an_new (w : World) (t : TypeId) (E : Int) (b : Blk) (x : NR) : AnC (w.alloc (.cells #[.int .i64 E, .int .i64 b.id, .int .i64 b.gen, .int .i64 b.len, .slice none 0 0, .string x.1.path, .bool x.1.dir, .int .i64 x.1.quota, .slice x.2.a x.2.n x.2.c, .int .i64 x.1.wr, .int .i64 0] t)) w.heap.size E b noS x 0 :=
  ⟨World.cell?_alloc_new w _ t 0, World.cell?_alloc_new w _ t 1, World.cell?_alloc_new w _ t 2, World.cell?_alloc_new w _ t 3, World.cell?_alloc_new w _ t 4, World.cell?_alloc_new w _ t 5, World.cell?_alloc_new w _ t 6, World.cell?_alloc_new w _ t 7, World.cell?_alloc_new w _ t 8, World.cell?_alloc_new w _ t 9, World.cell?_alloc_new w _ t 10, fun j => World.frozen?_alloc_new w _ t j⟩
theorem land_new {wr w4 : World} {t : Sp} {N L : RS} {ps : List NR} {g gl : Option Nat} {base M : Nat} {E : Int} {b : Blk} {x : Nd} {sx : RS} (hb : Below wr.heap.size wr w4) (hO : OwnM base M w4 t N L ps g gl) (hF : Free M w4 (x, sx)) (h1 : wr.heap.size ≤ base) (h2 : base ≤ M) (t1 t2 : TypeId) :
    Land wr ((w4.alloc (.cells #[.int .i64 t.tx, .int .i64 t.nb, .int .i64 t.ng, .int .i64 t.now, .slice N.a N.n N.c, .slice L.a L.n L.c] t1)).alloc (.cells #[.int .i64 E, .int .i64 b.id, .int .i64 b.gen, .int .i64 b.len, .slice none 0 0, .string x.path, .bool x.dir, .int .i64 x.quota, .slice sx.a sx.n sx.c, .int .i64 x.wr, .int .i64 0] t2)) w4.heap.size (w4.heap.size + 1) t N L E b x sx := by
  have hB := bel_tr (bel_al w4 (.cells #[.int .i64 t.tx, .int .i64 t.nb, .int .i64 t.ng, .int .i64 t.now, .slice N.a N.n N.c, .slice L.a L.n L.c] t1)) (bel_al _ (.cells #[.int .i64 E, .int .i64 b.id, .int .i64 b.gen, .int .i64 b.len, .slice none 0 0, .string x.path, .bool x.dir, .int .i64 x.quota, .slice sx.a sx.n sx.c, .int .i64 x.wr, .int .i64 0] t2))
  refine ⟨bel_tr hb hB, (SpC.new w4 t1 t N L).below (bel_al _ _), ?_, ps, g, gl, base, M, hO.below hB, h1, (hF.below hB).mono h2⟩
  have h := an_new (w4.alloc (.cells #[.int .i64 t.tx, .int .i64 t.nb, .int .i64 t.ng, .int .i64 t.now, .slice N.a N.n N.c, .slice L.a L.n L.c] t1)) t2 E b (x, sx)
  rwa [show (w4.alloc (.cells #[.int .i64 t.tx, .int .i64 t.nb, .int .i64 t.ng, .int .i64 t.now, .slice N.a N.n N.c, .slice L.a L.n L.c] t1)).heap.size = w4.heap.size + 1 by simp] at h

end Go.Proofs.YticiihjkgiookaaGreat.Spa

/- The contract of space.Fold, where all edits can be made. -/
namespace Go.Proofs.YticiihjkgiookaaGreat.Spa
open Go.RowKit Go.Proofs.YticiihjkgiookaaGreat
open Go.Proofs.YticiihjkgiookaaGreat.Edi (Ed Nm EdAt edV)

/-- The space that all edits make. -/
def foldS (s : Sp) (es : List Ed) : Sp := es.foldl doS s
/-- Each edit can be made. -/
def Chain (s : Sp) (es : List Ed) : Prop := ∀ i (hi : i < es.length), AppE (foldS s (es.take i)) es[i] 0
theorem fold_next (s : Sp) (es : List Ed) {i : Nat} (hi : i < es.length) : foldS s (es.take (i + 1)) = doS (foldS s (es.take i)) es[i] := by
  unfold foldS
  rw [List.take_succ_eq_append_getElem hi, List.foldl_append]
  rfl
structure FoldR (B : Nat) (t : Sp) (r : Ending) (w' : World) : Prop where
  ex : ∃ N L ps g gl base M, r = .returned (.tuple #[spV t N L, .int .i64 0]) ∧ OwnM base M w' t N L ps g gl ∧ B ≤ base
/-- A space in memory of its own, apart from two boxes. -/
structure Apt (B q R : Nat) (w : World) (t : Sp) (N L : RS) : Prop where
  ex : ∃ ps g gl base M, OwnM base M w t N L ps g gl ∧ (q < base ∨ M ≤ q) ∧ (R < base ∨ M ≤ R) ∧ B ≤ base
theorem Apt.below {B q R : Nat} {w w' : World} {t : Sp} {N L : RS} (h : Apt B q R w t N L) (hb : Below w.heap.size w w') : Apt B q R w' t N L := by
  obtain ⟨ps, g, gl, base, M, h1, h2, h3, h4⟩ := h.ex
  exact ⟨ps, g, gl, base, M, h1.below hb, h2, h3, h4⟩
theorem Apt.put {B q R : Nat} {w : World} {t s0 : Sp} {N L N0 L0 : RS} (h : Apt B q R w t N L) (hS : SpC w q s0 N0 L0) : Apt B q R (put6 w q t N L) t N L := by
  obtain ⟨ps, g, gl, base, M, h1, h2, h3, h4⟩ := h.ex
  exact ⟨ps, g, gl, base, M, h1.out (put6_at hS t N L).2 (fun k hk => by rw [hk]; exact h2), h2, h3, h4⟩
theorem Apt.putR {B q R : Nat} {w : World} {t s0 : Sp} {N L N0 L0 : RS} (h : Apt B q R w t N L) (hS : SpC w R s0 N0 L0) : Apt B q R (put6 w R t N L) t N L := by
  obtain ⟨ps, g, gl, base, M, h1, h2, h3, h4⟩ := h.ex
  exact ⟨ps, g, gl, base, M, h1.out (put6_at hS t N L).2 (fun k hk => by rw [hk]; exact h3), h2, h3, h4⟩
theorem Apt.spIn {B q R : Nat} {w : World} {t : Sp} {N L : RS} (h : Apt B q R w t N L) : SpIn w t N L := by
  obtain ⟨ps, g, gl, base, M, h1, _⟩ := h.ex
  exact h1.spIn

set_option maxRecDepth 100000 in
set_option maxHeartbeats 4000000 in
theorem fold_ok {s : Sp} {N L : RS} {w : World} (h : SpIn w s N L) (hR : RtS s) {a : Option Addr} {b off n c : Nat} {us : List ER} (hU : Eds w a b off us) (hn : us.length = n) (hC : Chain s (us.map (·.1))) :
    Calls Tryz.prog 8 #[spV s N L, .slice a n c] w fun r w' => FoldR w.heap.size (foldS s (us.map (·.1))) r w' ∧ Below w.heap.size w w' := by
  have CC : Hid (∀ W, Below w.heap.size w W → Calls Tryz.prog 21 #[spV s N L] W fun e w' => CopiedR W.heap.size s e w' ∧ Below W.heap.size W w') := fun W hb => copied_right (h.below hb) hR
  have HU : Hid (Eds w a b off us) := hU
  have HN : Hid (us.length = n) := hn
  have HC : Hid (Chain s (us.map (·.1))) := hC
  have HR : Hid (RtS s) := hR
  have hlid := hU.len
  unfold maxLen at hlid
  have hx0 : n ≤ 9223372036854775807 := by omega
  clear h hR hU hn hC hlid
  unfold spV at CC
  rw [show spV s N L = .agg #[.int .i64 s.tx, .int .i64 s.nb, .int .i64 s.ng, .int .i64 s.now, .slice N.a N.n N.c, .slice L.a L.n L.c] from rfl]
  have hst := run_store_str
  have hst2 : ∀ (w : World) (a : Addr) (x : Option Addr) (n c : Nat) (m : Mode), (store a (.slice x n c) m).run Tryz.prog w = stored Tryz.prog w a (.slice x n c) m := fun w a x n c m => run_store_any w a _ m rfl
  go_enter Tryz.func8, Tryz.ntmps8
  go_wp2_with fail
  refine (CC.out _ (bel_tr (bel_al _ _) (bel_al _ _))).mono ?_
  rintro e w1 ⟨⟨N1, L1, ps1, g1, gl1, rfl, hO, _, _⟩, c1⟩
  obtain ⟨k1, k2, k3, k4, k5, k6⟩ := two_boxes c1
  have B1 : Hid (Below w.heap.size w w1) := k5
  have RB : Hid (SpC w1 (w.heap.size + 1) zeroS noS noS) := ⟨k3 0 _ rfl, k3 1 _ rfl, k3 2 _ rfl, k3 3 _ rfl, k3 4 _ rfl, k3 5 _ rfl, k4⟩
  have hb2 : ((w.alloc (.cells #[.int .i64 s.tx, .int .i64 s.nb, .int .i64 s.ng, .int .i64 s.now, .slice N.a N.n N.c, .slice L.a L.n L.c] 27)).alloc (.cells #[.int .i64 0, .int .i64 0, .int .i64 0, .int .i64 0, .slice none 0 0, .slice none 0 0] 27)).heap.size = w.heap.size + 2 := by simp
  have HAP : Hid (Apt w.heap.size w1.heap.size (w.heap.size + 1) w1 s N1 L1) := ⟨ps1, g1, gl1, _, w1.heap.size, hO.m.top, .inr (Nat.le_refl _), .inl (by omega), by omega⟩
  have hsz : w.heap.size + 1 < w1.heap.size := by omega
  clear c1 k1 k2 k3 k4 k5 k6 hO hb2
  unfold spV
  go_wp2
  generalize hW : w1.alloc (.cells #[.int .i64 s.tx, .int .i64 s.nb, .int .i64 s.ng, .int .i64 s.now, .slice N1.a N1.n N1.c, .slice L1.a L1.n L1.c] 27) = W at *
  have QB : Hid (SpC W w1.heap.size s N1 L1) := hW ▸ SpC.new w1 27 s N1 L1
  have BW : Hid (Below w1.heap.size w1 W) := hW ▸ bel_al _ _
  clear hW
  have BW0 : Hid (Below w.heap.size w W) := bel_tr B1.out BW.out
  have RB2 : Hid (SpC W (w.heap.size + 1) zeroS noS noS) := RB.out.below BW.out
  have HAP2 : Hid (Apt w.heap.size w1.heap.size (w.heap.size + 1) W s N1 L1) := HAP.out.below BW.out
  clear BW RB HAP CC
  generalize w1.heap.size = q at *
  go_loopg [15] n (fun g v wi => ∃ (i : Nat) (t : Sp) (N' L' : RS), i + g = n ∧ v = .int .i64 i ∧ t = foldS s ((us.map (·.1)).take i) ∧ RtS t ∧ Below w.heap.size w wi ∧ SpC wi q t N' L' ∧ SpC wi (w.heap.size + 1) zeroS noS noS ∧ Apt w.heap.size q (w.heap.size + 1) wi t N' L')
  case atStart => exact ⟨0, s, N1, L1, by omega, rfl, rfl, HR.out, BW0.out, QB.out, RB2.out, HAP2.out⟩
  case round =>
    obtain ⟨i, t, N', L', hig, rfl, hte, hRt, hb, hQ, hRB, hA⟩ := hrel
    have HT : Hid (t = foldS s ((us.map (·.1)).take i)) := hte
    have HB : Hid (Below w.heap.size w wr) := hb
    have HQ : Hid (SpC wr q t N' L') := hQ
    have HRB : Hid (SpC wr (w.heap.size + 1) zeroS noS noS) := hRB
    have HA : Hid (Apt w.heap.size q (w.heap.size + 1) wr t N' L') := hA
    clear QB RB2 HAP2 BW0 hte hRt hQ hRB hA
    by_cases hi : i < n
    · have hip : i < us.length := by rw [HN.out]; exact hi
      have him : i < (us.map (·.1)).length := by rw [List.length_map]; exact hip
      obtain rfl := HU.out.addr (by omega)
      obtain ⟨g0, g1, g2, g3, g4, g5, g6⟩ := (HU.out.below hb).at hip
      have HOK : Hid (EdOk wr us[i]) := (HU.out.below hb).ok _ (List.getElem_mem hip)
      have HAE : Hid (AppE t us[i].1 0) := by
        have h1 := HC.out i him
        rw [← HT.out, List.getElem_map] at h1
        exact h1
      have HNX : Hid (doS t us[i].1 = foldS s ((us.map (·.1)).take (i + 1))) := by
        rw [fold_next s _ him, ← HT.out, List.getElem_map]
        exact rfl
      clear hb him
      generalize us[i] = u at *
      obtain ⟨⟨ek, ep, et, ec, el, en, els⟩, ⟨ea, em, eq⟩⟩ := u
      have CA : Hid (∀ W, Below wr.heap.size wr W → Calls Tryz.prog 7 #[spV t N' L', edV ⟨ek, ep, et, ec, el, en, els⟩ ea em eq] W fun r w' => AppliedR W.heap.size (doS t ⟨ek, ep, et, ec, el, en, els⟩) (blkOf t ⟨ek, ep, et, ec, el, en, els⟩) (ndOf t ⟨ek, ep, et, ec, el, en, els⟩) r w' ∧ Below W.heap.size W w') := fun W hb => apply_yes (HA.out.spIn.below hb) _ ea em eq (HOK.out.nm.below hb) HAE.out
      have HRn : Hid (RtS (doS t ⟨ek, ep, et, ec, el, en, els⟩)) := (app_keeps HAE.out).2
      unfold spV edV at CA
      simp only at CA g0 g1 g2 g3 g4 g5 g6 HNX
      generalize doS t ⟨ek, ep, et, ec, el, en, els⟩ = t2 at *
      generalize blkOf t ⟨ek, ep, et, ec, el, en, els⟩ = bk at *
      generalize ndOf t ⟨ek, ep, et, ec, el, en, els⟩ = x at *
      have hql : q < wr.heap.size := World.block_lt_of_cell? _ _ HQ.out.c0
      have hrl : w.heap.size + 1 < wr.heap.size := World.block_lt_of_cell? _ _ HRB.out.c0
      have QA : Hid (∀ o, SpC (wr.alloc o) q t N' L') := fun o => HQ.out.below (bel_al _ _)
      have p0 := fun o => (QA.out o).c0
      have p1 := fun o => (QA.out o).c1
      have p2 := fun o => (QA.out o).c2
      have p3 := fun o => (QA.out o).c3
      have p4 := fun o => (QA.out o).c4
      have p5 := fun o => (QA.out o).c5
      clear hip
      go_wp2_with fail
      refine (CA.out _ (bel_al _ _)).mono ?_
      rintro e w4 ⟨⟨N2, L2, ps2, gg2, gl2, base2, M2, sx, rfl, hO2, hF2, hb1, hb2⟩, c4⟩
      have B4 : Hid (Below wr.heap.size wr w4) := bel_tr (bel_al _ _) c4
      have hbb : wr.heap.size ≤ base2 := Nat.le_trans (bel_al wr _).size hb1
      have HP2 : Hid (Apt w.heap.size q (w.heap.size + 1) w4 t2 N2 L2) := ⟨ps2, gg2, gl2, base2, M2, hO2, .inl (by omega), .inl (by omega), by have := HB.out.size; omega⟩
      clear p0 p1 p2 p3 p4 p5 g0 g1 g2 g3 g4 g5 g6 c4 hO2 hF2 hb1 hb2 hbb CA
      unfold spV anV noS
      simp only
      go_upto_region 6 with fail
      have HLB : Hid (SpC ((w4.alloc (.cells #[.int .i64 t2.tx, .int .i64 t2.nb, .int .i64 t2.ng, .int .i64 t2.now, .slice N2.a N2.n N2.c, .slice L2.a L2.n L2.c] 27)).alloc (.cells #[.int .i64 0, .int .i64 bk.id, .int .i64 bk.gen, .int .i64 bk.len, .slice none 0 0, .string x.path, .bool x.dir, .int .i64 x.quota, .slice sx.a sx.n sx.c, .int .i64 x.wr, .int .i64 0] 37)) w4.heap.size t2 N2 L2) := (SpC.new w4 27 t2 N2 L2).below (bel_al _ _)
      have HAB : Hid (((w4.alloc (.cells #[.int .i64 t2.tx, .int .i64 t2.nb, .int .i64 t2.ng, .int .i64 t2.now, .slice N2.a N2.n N2.c, .slice L2.a L2.n L2.c] 27)).alloc (.cells #[.int .i64 0, .int .i64 bk.id, .int .i64 bk.gen, .int .i64 bk.len, .slice none 0 0, .string x.path, .bool x.dir, .int .i64 x.quota, .slice sx.a sx.n sx.c, .int .i64 x.wr, .int .i64 0] 37)).cell? ⟨w4.heap.size + 1, 0, none⟩ = some (.int .i64 0)) := by
        have h := (an_new (w4.alloc (.cells #[.int .i64 t2.tx, .int .i64 t2.nb, .int .i64 t2.ng, .int .i64 t2.now, .slice N2.a N2.n N2.c, .slice L2.a L2.n L2.c] 27)) 37 0 bk (x, sx)).c0
        rwa [show (w4.alloc (.cells #[.int .i64 t2.tx, .int .i64 t2.nb, .int .i64 t2.ng, .int .i64 t2.now, .slice N2.a N2.n N2.c, .slice L2.a L2.n L2.c] 27)).heap.size = w4.heap.size + 1 by simp] at h
      have BA : Hid (Below w4.heap.size w4 ((w4.alloc (.cells #[.int .i64 t2.tx, .int .i64 t2.nb, .int .i64 t2.ng, .int .i64 t2.now, .slice N2.a N2.n N2.c, .slice L2.a L2.n L2.c] 27)).alloc (.cells #[.int .i64 0, .int .i64 bk.id, .int .i64 bk.gen, .int .i64 bk.len, .slice none 0 0, .string x.path, .bool x.dir, .int .i64 x.quota, .slice sx.a sx.n sx.c, .int .i64 x.wr, .int .i64 0] 37))) := bel_tr (bel_al _ _) (bel_al _ _)
      generalize (w4.alloc (.cells #[.int .i64 t2.tx, .int .i64 t2.nb, .int .i64 t2.ng, .int .i64 t2.now, .slice N2.a N2.n N2.c, .slice L2.a L2.n L2.c] 27)).alloc (.cells #[.int .i64 0, .int .i64 bk.id, .int .i64 bk.gen, .int .i64 bk.len, .slice none 0 0, .string x.path, .bool x.dir, .int .i64 x.quota, .slice sx.a sx.n sx.c, .int .i64 x.wr, .int .i64 0] 37) = W4 at *
      have BWA : Hid (Below wr.heap.size wr W4) := bel_tr B4.out BA.out
      have Q4 := HQ.out.below BWA.out
      obtain ⟨x0, x1, x2, x3, x4, x5, xf⟩ := Q4
      obtain ⟨z0, z1, z2, z3, z4, z5, _⟩ := HLB.out
      have a0 := HAB.out
      have hput := put6_at (HQ.out.below BWA.out) t2 N2 L2
      have HPQ : Hid (SpC (put6 W4 q t2 N2 L2) q t2 N2 L2 ∧ SpC (put6 W4 q t2 N2 L2) (w.heap.size + 1) zeroS noS noS ∧ Apt w.heap.size q (w.heap.size + 1) (put6 W4 q t2 N2 L2) t2 N2 L2 ∧ Below w.heap.size w (put6 W4 q t2 N2 L2)) := ⟨hput.1, (HRB.out.below BWA.out).keep hput.2 (by omega), (HP2.out.below BA.out).put (HQ.out.below BWA.out), bel_put6 (bel_tr HB.out BWA.out) (HQ.out.below BWA.out) (by omega) _ _ _⟩
      rw [put6_def] at HPQ
      clear hput
      go_wp2
      go_roundg (n - (i + 1))
      case measure => omega
      case rel => exact ⟨i + 1, t2, N2, L2, by omega, by go_num, HNX.out, HRn.out, HPQ.out.2.2.2, HPQ.out.1, HPQ.out.2.1, HPQ.out.2.2.1⟩
    · obtain rfl : i = n := by omega
      have hgd : decide ((i : Int) < (i : Int)) = false := decide_eq_false (by omega)
      have HTE : Hid (t = foldS s (us.map (·.1))) := by
        have h1 := HT.out
        rw [List.take_of_length_le (by rw [List.length_map, HN.out]; exact Nat.le_refl _)] at h1
        exact h1
      obtain ⟨z0, z1, z2, z3, z4, z5, _⟩ := HQ.out
      obtain ⟨r0, r1, r2, r3, r4, r5, rf⟩ := HRB.out
      clear hb hi
      go_wp2
      rw [← HTE.out]
      have hput := (put6_at HRB.out t N' L').1
      have hB : Below w.heap.size w (put6 wr (w.heap.size + 1) t N' L') := bel_put6 HB.out HRB.out (by omega) _ _ _
      obtain ⟨ps, g, gl, base, M, h1, _, _, h4⟩ := (HA.out.putR HRB.out).ex
      change bodyPost _ _ _ _ _ (put6 wr (w.heap.size + 1) t N' L')
      clear z0 z1 z2 z3 z4 z5 r0 r1 r2 r3 r4 r5 rf
      generalize put6 wr (w.heap.size + 1) t N' L' = W9 at *
      refine bodyPost_ret (v := .tuple #[spV t N' L', .int .i64 0]) ?_ rfl ⟨⟨N', L', ps, g, gl, base, M, rfl, h1, h4⟩, hB⟩
      obtain ⟨j0, j1, j2, j3, j4, j5, _⟩ := hput
      unfold spV
      simp only [results, Tryz.results8]
      simp [go_sem, j0, j1, j2, j3, j4, j5]

end Go.Proofs.YticiihjkgiookaaGreat.Spa

/- Edits that were made, gathered beside the space that they make; plain facts of Fold. -/
namespace Go.Proofs.YticiihjkgiookaaGreat.Spa
open Go.RowKit Go.Proofs.YticiihjkgiookaaGreat
open Go.Proofs.YticiihjkgiookaaGreat.Edi (Ed Nm EdAt edV)
set_option linter.unusedVariables false

theorem fold_app (s : Sp) (xs ys : List Ed) : foldS s (xs ++ ys) = foldS (foldS s xs) ys := by unfold foldS; rw [List.foldl_append]
theorem fold_split (s : Sp) (es : List Ed) (n : Nat) : foldS (foldS s (es.take n)) (es.drop n) = foldS s es := by rw [← fold_app, List.take_append_drop]
theorem fold_tx : ∀ (es : List Ed) (s : Sp), (foldS s es).tx = s.tx + es.length
  | [], s => by show s.tx = _; simp
  | e :: es, s => by
    show (foldS (doS s e) es).tx = _
    rw [fold_tx es (doS s e)]
    show s.tx + 1 + _ = _
    rw [List.length_cons]
    omega
theorem Chain.nil (s : Sp) : Chain s [] := fun i hi => absurd hi (by simp)
theorem Chain.snoc {s : Sp} {es : List Ed} {e : Ed} (h : Chain s es) (he : AppE (foldS s es) e 0) : Chain s (es ++ [e]) := by
  intro i hi
  by_cases hl : i < es.length
  · rw [List.getElem_append_left hl, List.take_append_of_le_length (by omega)]; exact h i hl
  · obtain rfl : i = es.length := by simp at hi; omega
    rw [List.getElem_append_right (Nat.le_refl _), List.take_append_of_le_length (Nat.le_refl _), List.take_length]
    simpa using he
theorem Chain.take {s : Sp} {es : List Ed} (h : Chain s es) (n : Nat) : Chain s (es.take n) := by
  intro i hi
  have h2 : i < n ∧ i < es.length := by rw [List.length_take] at hi; omega
  rw [List.getElem_take, List.take_take, Nat.min_eq_left (by omega)]
  exact h i h2.2
theorem Chain.drop {s : Sp} {es : List Ed} (h : Chain s es) (n : Nat) : Chain (foldS s (es.take n)) (es.drop n) := by
  intro i hi
  have hi2 : n + i < es.length := by rw [List.length_drop] at hi; omega
  have := h (n + i) hi2
  rw [List.getElem_drop, ← fold_app, ← List.take_add]
  exact this
theorem Chain.right {s : Sp} {es : List Ed} (hR : RtS s) (h : Chain s es) : RtS (foldS s es) := by
  have key : ∀ i, i ≤ es.length → RtS (foldS s (es.take i)) := by
    intro i
    induction i with
    | zero => intro _; rw [List.take_zero]; exact hR
    | succ i ih => intro hi; rw [fold_next s es (by omega)]; exact (app_keeps (h i (by omega))).2
  have := key es.length (Nat.le_refl _)
  rwa [List.take_length] at this

/-- The space in the box q, and the edits that were made, in memory of the law's own. -/
structure Fo (w0 : World) (q : Nat) (w : World) (s : Sp) (N L : RS) (a : Option Addr) (m c : Nat) (us : List ER) : Prop where
  bel : Below w0.heap.size w0 w
  box : SpC w q s N L
  own : ∃ ps g gl base M gm, OwnM base M w s N L ps g gl ∧ (q < base ∨ M ≤ q) ∧ Cel (fun k => w0.heap.size ≤ k) w 7 (.slice a m c) m (rowC edC us) gm ∧ (∀ k, gm = some k → k ≠ q ∧ (k < base ∨ M ≤ k))
  len : us.length = m
  q0 : w0.heap.size ≤ q
  ok : ∀ x ∈ us, EdOk w0 x
section
variable {w0 w w' : World} {q : Nat} {s : Sp} {N L : RS} {a : Option Addr} {m c : Nat} {us : List ER}
theorem Fo.below (h : Fo w0 q w s N L a m c us) (hb : Below w.heap.size w w') : Fo w0 q w' s N L a m c us := by
  obtain ⟨ps, g, gl, base, M, gm, h1, h2, h3, h4⟩ := h.own
  exact ⟨bel_tr h.bel hb, h.box.below hb, ⟨ps, g, gl, base, M, gm, h1.below hb, h2, h3.below hb, h4⟩, h.len, h.q0, h.ok⟩
theorem Fo.now (h : Fo w0 q w s N L a m c us) : Now w0 q w s N L := by
  obtain ⟨ps, g, gl, base, M, gm, h1, h2, h3, h4⟩ := h.own
  exact ⟨h.bel, h.box, ⟨ps, g, gl, base, M, h1, h2⟩, h.q0⟩
theorem Fo.cel (h : Fo w0 q w s N L a m c us) : ∃ gm, Cel (fun k => w0.heap.size ≤ k) w 7 (.slice a m c) m (rowC edC us) gm ∧ (∀ k, gm = some k → k ≠ q ∧ k < w.heap.size ∧ w0.heap.size ≤ k) := by
  obtain ⟨ps, g, gl, base, M, gm, h1, h2, h3, h4⟩ := h.own
  exact ⟨gm, h3, fun k hk => ⟨(h4 k hk).1, by rw [hk] at h3; exact h3.lt⟩⟩
theorem Fo.start {ps : List NR} {g gl : Option Nat} {base M : Nat} (hb : Below w0.heap.size w0 w) (hO : OwnM base M w s N L ps g gl) (t : TypeId) :
    Fo w0 w.heap.size (w.alloc (.cells #[.int .i64 s.tx, .int .i64 s.nb, .int .i64 s.ng, .int .i64 s.now, .slice N.a N.n N.c, .slice L.a L.n L.c] t)) s N L none 0 0 [] :=
  ⟨bel_tr hb (bel_al _ _), SpC.new w t s N L, ⟨ps, g, gl, base, w.heap.size, none, hO.top.below (bel_al _ _), .inr (Nat.le_refl _), .nil rfl rfl rfl, fun k hk => by cases hk⟩, rfl, hb.size, fun x hx => by cases hx⟩
end

theorem fo_next {w0 wr wc w7 : World} {o : Obj} {q tq aq : Nat} {s t : Sp} {N L N1 L1 : RS} {a a7 : Option Addr} {m c c7 : Nat} {us : List ER} {gm g7 : Option Nat} {E : Int} {bk : Blk} {x : Nd} {sx : RS}
    (h : Fo w0 q wr s N L a m c us) (hL : Land wr wc tq aq t N1 L1 E bk x sx) (hq : q < wr.heap.size) (htq : wr.heap.size ≤ tq) (hgm : ∀ k, gm = some k → k ≠ q ∧ k < wr.heap.size ∧ w0.heap.size ≤ k) (u : ER) (hu : EdOk w0 u)
    (hC7 : Cel (Grow (fun k => w0.heap.size ≤ k) (wc.alloc o) w7) w7 7 (.slice a7 (m + 1) c7) (m + 1) (rowC edC us ++ edC u) g7) (hS7 : Stay (fun k => gm = some k) (wc.alloc o) w7) (hg7 : ∀ k, g7 = some k → gm = some k ∨ (wc.alloc o).heap.size ≤ k) :
    SpC w7 tq t N1 L1 ∧ SpC w7 q s N L ∧ Fo w0 q (put6 w7 q t N1 L1) t N1 L1 a7 (m + 1) c7 (us ++ [u]) := by
  obtain ⟨ps, g, gl, base, M, h1, h2, h3⟩ := hL.own
  have hba : Below wc.heap.size wc (wc.alloc o) := bel_al _ _
  have hs1 := hL.bel.size
  have hs2 := hba.size
  have hz : (wc.alloc o).heap.size = wc.heap.size + 1 := by simp
  have hs3 := hS7.size
  have hw0 := h.bel.size
  have k1 : SpC w7 tq t N1 L1 := (hL.box.below hba).keep hS7 (fun e => by have := (hgm _ e).2.1; omega)
  have k2 : SpC w7 q s N L := ((h.box.below hL.bel).below hba).keep hS7 (fun e => (hgm _ e).1 rfl)
  have o1 : OwnM base wc.heap.size w7 t N1 L1 ps g gl := (h1.top.below hba).out hS7 (fun k e => .inl (by have := (hgm k e).2.1; omega))
  obtain ⟨p1, p2⟩ := put6_at k2 t N1 L1
  have b1 : Below w0.heap.size w0 (wc.alloc o) := bel_tr (bel_tr h.bel hL.bel) hba
  have b2 : Below w0.heap.size w0 w7 := b1.trans (hS7.below b1.size (fun k hk => (hgm k hk).2.2))
  have hk7 : ∀ k, g7 = some k → k ≠ q ∧ k < w7.heap.size := fun k hk => by
    refine ⟨?_, by rw [hk] at hC7; exact hC7.lt.1⟩
    rcases hg7 k hk with e | e
    · exact (hgm k e).1
    · omega
  refine ⟨k1, k2, bel_put6 b2 k2 h.q0 _ _ _, p1, ⟨ps, g, gl, base, wc.heap.size, g7, o1.out p2 (fun k hk => .inl (by omega)), .inl (by omega), ?_, fun k hk => ⟨(hk7 k hk).1, ?_⟩⟩, by rw [List.length_append, h.len]; rfl, h.q0, fun y hy => ?_⟩
  · rw [rowC_app, rowC_one]
    exact hC7.stay p2.size (fun k hk => p2.block k (hk7 k hk).2 (hk7 k hk).1) (fun k hk => hk.elim id (fun e => by have := e.1; omega))
  · rcases hg7 k hk with e | e
    · exact .inl (by have := (hgm k e).2.1; omega)
    · exact .inr (by omega)
  · rcases List.mem_append.1 hy with hy | hy
    · exact h.ok y hy
    · rw [List.mem_singleton.1 hy]; exact hu
theorem fo_same {w0 wr wc : World} {q tq aq : Nat} {s t : Sp} {N L N1 L1 : RS} {a : Option Addr} {m c : Nat} {us : List ER} {E : Int} {bk : Blk} {x : Nd} {sx : RS} (h : Fo w0 q wr s N L a m c us) (hL : Land wr wc tq aq t N1 L1 E bk x sx) : Fo w0 q wc s N L a m c us := h.below hL.bel

/-- The edits that were made, for Fold. -/
theorem eds_of {O : Nat → Prop} {w : World} {a : Option Addr} {m c : Nat} {us : List ER} {gm : Option Nat} (h : Cel O w 7 (.slice a m c) m (rowC edC us) gm) (hl : us.length = m) (hok : ∀ x ∈ us, EdOk w x) : ∃ b, Eds w a b 0 us ∧ (0 < m → gm = some b) := by
  subst hl
  have hcap := h.cap2
  by_cases hp : 0 < us.length
  · obtain ⟨b, rfl, rfl⟩ := h.at2 hp
    refine ⟨b, ⟨fun _ => rfl, Nat.le_trans hcap.1 hcap.2.1, fun j hj i v hv => ?_, hok⟩, fun _ => rfl⟩
    have hi : i < 7 := by have := (List.getElem?_eq_some_iff.1 hv).1; rwa [wideE.len] at this
    have e := rowC_at wideE us j hj i hi
    rw [hv] at e
    obtain ⟨h1, h2⟩ := List.getElem?_eq_some_iff.1 e
    rw [Nat.zero_add, ← h2]
    exact h.cell _ h1
  · exact ⟨0, ⟨fun e => absurd e hp, Nat.le_trans hcap.1 hcap.2.1, fun j hj => absurd hj (by omega), hok⟩, fun e => absurd e hp⟩
theorem Eds.take {w : World} {a : Option Addr} {b off : Nat} {us : List ER} (h : Eds w a b off us) (n : Nat) : Eds w a b off (us.take n) := by
  have hl : (us.take n).length ≤ us.length := by rw [List.length_take]; omega
  exact ⟨fun hp => h.addr (by omega), Nat.le_trans hl h.len, fun j hj i v hv => h.cell j (by omega) i v (by rwa [List.getElem_take] at hv), fun x hx => h.ok x (List.mem_of_mem_take hx)⟩
theorem Eds.drop {w : World} {a a' : Option Addr} {b off : Nat} {us : List ER} (h : Eds w a b off us) (n : Nat) (ha : n < us.length → a' = some ⟨b, off + n * 7, none⟩) : Eds w a' b (off + n * 7) (us.drop n) := by
  have hl : (us.drop n).length = us.length - n := List.length_drop
  refine ⟨fun hp => ha (by omega), by rw [hl]; exact Nat.le_trans (Nat.sub_le _ _) h.len, fun j hj i v hv => ?_, fun x hx => h.ok x (List.mem_of_mem_drop hx)⟩
  rw [List.getElem_drop] at hv
  have := h.cell (n + j) (by omega) i v hv
  rw [Nat.add_mul, ← Nat.add_assoc] at this
  exact this
theorem src_edit (w : World) (x : ER) : Src Tryz.prog 7 22 (.slice (some ⟨w.heap.size, 0, none⟩) 1 1) 1 (edC x) (w.alloc (.cells #[.int .i64 x.1.k, .string x.1.p, .string x.1.t, .int .i64 x.1.c, .int .i64 x.1.l, .int .i64 x.1.n, .slice x.2.a x.2.n x.2.c] 42)) := by
  refine Src.ofSlice _ Tryz.underlying22 ⟨w.heap.size, 0, none⟩ 1 1 _ (by rfl) (fun j u hu => ?_) (fun u hu => wideE.one x u hu)
  rw [Addr.add_lit, Nat.zero_add, World.cell?_alloc_new w _ _ j]
  simpa [edC] using hu

/-- What Fold told, laid into a box. -/
theorem fo_box {wr w6 W : World} {tq : Nat} {t : Sp} {N6 L6 : RS} {ps : List NR} {g gl : Option Nat} {base M : Nat} (hO : OwnM base M w6 t N6 L6 ps g gl) (hb : Below w6.heap.size w6 W) (hS : SpC W tq zeroS noS noS) (hq : tq < base ∨ w6.heap.size ≤ tq) (hwr : Below wr.heap.size wr W) (hr : wr.heap.size ≤ tq) :
    SpC (put6 W tq t N6 L6) tq t N6 L6 ∧ SpIn (put6 W tq t N6 L6) t N6 L6 ∧ Below wr.heap.size wr (put6 W tq t N6 L6) := by
  obtain ⟨p1, p2⟩ := put6_at hS t N6 L6
  exact ⟨p1, ((hO.top.below hb).out p2 (fun k hk => by rw [hk]; exact hq)).spIn, bel_put6 hwr hS hr _ _ _⟩

end Go.Proofs.YticiihjkgiookaaGreat.Spa
