/- Part 34 of the proof: SpaceL2. -/
import Derived.Test.YtaafombnpngblaaGreatB17
import Derived.Test.YtaafombnpngblaaGreatB30
import Derived.Test.YtaafombnpngblaaGreatB33

/- A space in a box of the caller's own, edit by edit. No program in it. -/
namespace Go.Proofs.YtaafombnpngblaaGreat.Spa
open Go.RowKit Go.Proofs.YtaafombnpngblaaGreat
open Go.Proofs.YtaafombnpngblaaGreat.Lea (LS Ls findX putL renX LL LO LsR lsC wideL)
open Go.Proofs.YtaafombnpngblaaGreat.Edi (Ed Nm EdAt edV)

theorem OwnM.top {base M : Nat} {w : World} {s : Sp} {N L : RS} {ps : List NR} {g gl : Option Nat} (h : OwnM base M w s N L ps g gl) : OwnM base w.heap.size w s N L ps g gl :=
  ⟨h.lot, h.map, h.lo, h.gl1, h.gl2, fun k hk => by have := h.lot.cel; rw [hk] at this; exact this.lt.1, fun k hk => (h.lo.own k hk).1, fun x hx k hk => (h.lot.ok x hx).ok.bs.lt k hk⟩
theorem doS_is (s : Sp) (e : Ed) : appS s e 0 = doS s e := rfl

/-- In the block q lies the space s; its nodes and leases lie elsewhere, in memory of its own. -/
structure Now (w0 : World) (q : Nat) (w : World) (s : Sp) (N L : RS) : Prop where
  bel : Below w0.heap.size w0 w
  box : SpC w q s N L
  own : ∃ ps g gl base M, OwnM base M w s N L ps g gl ∧ (q < base ∨ M ≤ q)
  q0 : w0.heap.size ≤ q
theorem Now.below {w0 w w' : World} {q : Nat} {s : Sp} {N L : RS} (h : Now w0 q w s N L) (hb : Below w.heap.size w w') : Now w0 q w' s N L := by
  obtain ⟨ps, g, gl, base, M, h1, h2⟩ := h.own
  exact ⟨bel_tr h.bel hb, h.box.below hb, ⟨ps, g, gl, base, M, h1.below hb, h2⟩, h.q0⟩
theorem Now.spIn {w0 w : World} {q : Nat} {s : Sp} {N L : RS} (h : Now w0 q w s N L) : SpIn w s N L := by
  obtain ⟨ps, g, gl, base, M, h1, h2⟩ := h.own
  exact h1.spIn
theorem Now.lt {w0 w : World} {q : Nat} {s : Sp} {N L : RS} (h : Now w0 q w s N L) : q < w.heap.size := World.block_lt_of_cell? _ _ h.box.c0
theorem Now.put {w0 w : World} {q : Nat} {s t : Sp} {N L N' L' : RS} {ps : List NR} {g gl : Option Nat} {base M : Nat} (h : Now w0 q w s N L) (hO : OwnM base M w t N' L' ps g gl) (hq : q < base ∨ M ≤ q) : Now w0 q (put6 w q t N' L') t N' L' := by
  obtain ⟨p1, p2⟩ := put6_at h.box t N' L'
  exact ⟨((Stay.of_below (O := fun k => w0.heap.size ≤ k) h.bel).then_same (p2.mono (fun k hk => by rw [hk]; exact h.q0))).below (Nat.le_refl _) (fun k hk => hk), p1, ⟨ps, g, gl, base, M, hO.out p2 (fun k hk => by rw [hk]; exact hq), hq⟩, h.q0⟩
theorem Now.start {w0 w : World} {s : Sp} {N L : RS} {ps : List NR} {g gl : Option Nat} {base M : Nat} (hb : Below w0.heap.size w0 w) (hO : OwnM base M w s N L ps g gl) (t : TypeId) :
    Now w0 w.heap.size (w.alloc (.cells #[.int .i64 s.tx, .int .i64 s.nb, .int .i64 s.ng, .int .i64 s.now, .slice N.a N.n N.c, .slice L.a L.n L.c] t)) s N L :=
  ⟨bel_tr hb (bel_al _ _), SpC.new w t s N L, ⟨ps, g, gl, base, w.heap.size, hO.top.below (bel_al _ _), .inr (Nat.le_refl _)⟩, hb.size⟩

section
variable {w w2 : World} {t1 t2 : TypeId}
theorem sp_one (c : Below (World.drew (w.alloc (.cells #[.int .i64 0, .int .i64 0, .int .i64 0, .int .i64 0, .slice none 0 0, .slice none 0 0] t1))).heap.size (World.drew (w.alloc (.cells #[.int .i64 0, .int .i64 0, .int .i64 0, .int .i64 0, .slice none 0 0, .slice none 0 0] t1))) w2) : SpC w2 w.heap.size zeroS noS noS := (SpC.new w t1 zeroS noS noS).below (bel_tr (Edi.bel_drew _) c)
theorem an_one (c : Below (World.drew (w.alloc (.cells #[.int .i64 0, .int .i64 0, .int .i64 0, .int .i64 0, .slice none 0 0, .string ⟨#[]⟩, .bool false, .int .i64 0, .slice none 0 0, .int .i64 0, .int .i64 0] t2))).heap.size (World.drew (w.alloc (.cells #[.int .i64 0, .int .i64 0, .int .i64 0, .int .i64 0, .slice none 0 0, .string ⟨#[]⟩, .bool false, .int .i64 0, .slice none 0 0, .int .i64 0, .int .i64 0] t2))) w2) : AnC w2 w.heap.size 0 zeroB noS zeroX 0 := (AnC.new w t2).below (bel_tr (Edi.bel_drew _) c)
theorem sp_first (c : Below (World.drew ((w.alloc (.cells #[.int .i64 0, .int .i64 0, .int .i64 0, .int .i64 0, .slice none 0 0, .slice none 0 0] t1)).alloc (.cells #[.int .i64 0, .int .i64 0, .int .i64 0, .int .i64 0, .slice none 0 0, .string ⟨#[]⟩, .bool false, .int .i64 0, .slice none 0 0, .int .i64 0, .int .i64 0] t2))).heap.size (World.drew ((w.alloc (.cells #[.int .i64 0, .int .i64 0, .int .i64 0, .int .i64 0, .slice none 0 0, .slice none 0 0] t1)).alloc (.cells #[.int .i64 0, .int .i64 0, .int .i64 0, .int .i64 0, .slice none 0 0, .string ⟨#[]⟩, .bool false, .int .i64 0, .slice none 0 0, .int .i64 0, .int .i64 0] t2))) w2) : SpC w2 w.heap.size zeroS noS noS := ((SpC.new w t1 zeroS noS noS).below (bel_al _ _)).below (bel_tr (Edi.bel_drew _) c)
theorem an_second (c : Below (World.drew ((w.alloc (.cells #[.int .i64 0, .int .i64 0, .int .i64 0, .int .i64 0, .slice none 0 0, .slice none 0 0] t1)).alloc (.cells #[.int .i64 0, .int .i64 0, .int .i64 0, .int .i64 0, .slice none 0 0, .string ⟨#[]⟩, .bool false, .int .i64 0, .slice none 0 0, .int .i64 0, .int .i64 0] t2))).heap.size (World.drew ((w.alloc (.cells #[.int .i64 0, .int .i64 0, .int .i64 0, .int .i64 0, .slice none 0 0, .slice none 0 0] t1)).alloc (.cells #[.int .i64 0, .int .i64 0, .int .i64 0, .int .i64 0, .slice none 0 0, .string ⟨#[]⟩, .bool false, .int .i64 0, .slice none 0 0, .int .i64 0, .int .i64 0] t2))) w2) : AnC w2 (w.heap.size + 1) 0 zeroB noS zeroX 0 := by
  have h := (AnC.new (w.alloc (.cells #[.int .i64 0, .int .i64 0, .int .i64 0, .int .i64 0, .slice none 0 0, .slice none 0 0] t1)) t2).below (bel_tr (Edi.bel_drew _) c)
  rwa [show (w.alloc (.cells #[.int .i64 0, .int .i64 0, .int .i64 0, .int .i64 0, .slice none 0 0, .slice none 0 0] t1)).heap.size = w.heap.size + 1 by simp] at h
theorem an_first (c : Below (World.drew ((w.alloc (.cells #[.int .i64 0, .int .i64 0, .int .i64 0, .int .i64 0, .slice none 0 0, .string ⟨#[]⟩, .bool false, .int .i64 0, .slice none 0 0, .int .i64 0, .int .i64 0] t2)).alloc (.cells #[.int .i64 0, .int .i64 0, .int .i64 0, .int .i64 0, .slice none 0 0, .slice none 0 0] t1))).heap.size (World.drew ((w.alloc (.cells #[.int .i64 0, .int .i64 0, .int .i64 0, .int .i64 0, .slice none 0 0, .string ⟨#[]⟩, .bool false, .int .i64 0, .slice none 0 0, .int .i64 0, .int .i64 0] t2)).alloc (.cells #[.int .i64 0, .int .i64 0, .int .i64 0, .int .i64 0, .slice none 0 0, .slice none 0 0] t1))) w2) : AnC w2 w.heap.size 0 zeroB noS zeroX 0 := ((AnC.new w t2).below (bel_al _ _)).below (bel_tr (Edi.bel_drew _) c)
theorem sp_second (c : Below (World.drew ((w.alloc (.cells #[.int .i64 0, .int .i64 0, .int .i64 0, .int .i64 0, .slice none 0 0, .string ⟨#[]⟩, .bool false, .int .i64 0, .slice none 0 0, .int .i64 0, .int .i64 0] t2)).alloc (.cells #[.int .i64 0, .int .i64 0, .int .i64 0, .int .i64 0, .slice none 0 0, .slice none 0 0] t1))).heap.size (World.drew ((w.alloc (.cells #[.int .i64 0, .int .i64 0, .int .i64 0, .int .i64 0, .slice none 0 0, .string ⟨#[]⟩, .bool false, .int .i64 0, .slice none 0 0, .int .i64 0, .int .i64 0] t2)).alloc (.cells #[.int .i64 0, .int .i64 0, .int .i64 0, .int .i64 0, .slice none 0 0, .slice none 0 0] t1))) w2) : SpC w2 (w.heap.size + 1) zeroS noS noS := by
  have h := (SpC.new (w.alloc (.cells #[.int .i64 0, .int .i64 0, .int .i64 0, .int .i64 0, .slice none 0 0, .string ⟨#[]⟩, .bool false, .int .i64 0, .slice none 0 0, .int .i64 0, .int .i64 0] t2)) t1 zeroS noS noS).below (bel_tr (Edi.bel_drew _) c)
  rwa [show (w.alloc (.cells #[.int .i64 0, .int .i64 0, .int .i64 0, .int .i64 0, .slice none 0 0, .string ⟨#[]⟩, .bool false, .int .i64 0, .slice none 0 0, .int .i64 0, .int .i64 0] t2)).heap.size = w.heap.size + 1 by simp] at h
end
/-- What Apply tells, by names. -/
structure ApR (B : Nat) (t : Sp) (E : Int) (b : Blk) (x : Nd) (r : Ending) (w' : World) : Prop where
  ex : ∃ N L ps g gl base M sx, r = .returned (.tuple #[spV t N L, anV E b noS (x, sx) 0]) ∧ OwnM base M w' t N L ps g gl ∧ Free M w' (x, sx) ∧ B ≤ base ∧ base ≤ M
theorem apply_any {s : Sp} {N L : RS} {w : World} (h : SpIn w s N L) (e : Ed) (ea : Option Addr) (em eq : Nat) (hn : Nm w ea em e.ls) (E : Int) (hE : AppE s e E) :
    Calls Tryz.prog 11 #[spV s N L, edV e ea em eq] w fun r w' => ApR w.heap.size (appS s e E) E (appB s e E) (appN s e E) r w' ∧ Below w.heap.size w w' :=
  (apply_val h e ea em eq hn E hE).mono fun _ _ h => ⟨⟨h.1.ex⟩, h.2⟩
theorem bel_dal (w : World) (o : Obj) : Below w.drew.heap.size w.drew (w.alloc o).drew := (bel_al w.drew o)
theorem bel_daal (w : World) (o p : Obj) : Below (w.alloc o).drew.heap.size (w.alloc o).drew ((w.alloc o).alloc p).drew := (bel_al (w.alloc o).drew p)
theorem an_sec (w : World) {t1 t2 : TypeId} : AnC ((w.alloc (.cells #[.int .i64 0, .int .i64 0, .int .i64 0, .int .i64 0, .slice none 0 0, .slice none 0 0] t1)).alloc (.cells #[.int .i64 0, .int .i64 0, .int .i64 0, .int .i64 0, .slice none 0 0, .string ⟨#[]⟩, .bool false, .int .i64 0, .slice none 0 0, .int .i64 0, .int .i64 0] t2)) (w.heap.size + 1) 0 zeroB noS zeroX 0 := by
  have h := AnC.new (w.alloc (.cells #[.int .i64 0, .int .i64 0, .int .i64 0, .int .i64 0, .slice none 0 0, .slice none 0 0] t1)) t2
  rwa [show (w.alloc (.cells #[.int .i64 0, .int .i64 0, .int .i64 0, .int .i64 0, .slice none 0 0, .slice none 0 0] t1)).heap.size = w.heap.size + 1 by simp] at h
theorem sp_sec (w : World) {t1 t2 : TypeId} : SpC ((w.alloc (.cells #[.int .i64 0, .int .i64 0, .int .i64 0, .int .i64 0, .slice none 0 0, .string ⟨#[]⟩, .bool false, .int .i64 0, .slice none 0 0, .int .i64 0, .int .i64 0] t2)).alloc (.cells #[.int .i64 0, .int .i64 0, .int .i64 0, .int .i64 0, .slice none 0 0, .slice none 0 0] t1)) (w.heap.size + 1) zeroS noS noS := by
  have h := SpC.new (w.alloc (.cells #[.int .i64 0, .int .i64 0, .int .i64 0, .int .i64 0, .slice none 0 0, .string ⟨#[]⟩, .bool false, .int .i64 0, .slice none 0 0, .int .i64 0, .int .i64 0] t2)) t1 zeroS noS noS
  rwa [show (w.alloc (.cells #[.int .i64 0, .int .i64 0, .int .i64 0, .int .i64 0, .slice none 0 0, .string ⟨#[]⟩, .bool false, .int .i64 0, .slice none 0 0, .int .i64 0, .int .i64 0] t2)).heap.size = w.heap.size + 1 by simp] at h
/-- Behind an edit: in tq lies the space that came, in aq the answer. -/
structure Land (wr : World) (W : World) (tq aq : Nat) (t : Sp) (N L : RS) (E : Int) (b : Blk) (x : Nd) (sx : RS) : Prop where
  bel : Below wr.heap.size wr W
  box : SpC W tq t N L
  an : AnC W aq E b noS (x, sx) 0
  own : ∃ ps g gl base M, OwnM base M W t N L ps g gl ∧ wr.heap.size ≤ base ∧ Free base W (x, sx)
theorem Land.below {wr W W' : World} {tq aq : Nat} {t : Sp} {N L : RS} {E : Int} {b : Blk} {x : Nd} {sx : RS} (h : Land wr W tq aq t N L E b x sx) (hb : Below W.heap.size W W') : Land wr W' tq aq t N L E b x sx := by
  obtain ⟨ps, g, gl, base, M, h1, h2, h3⟩ := h.own
  exact ⟨bel_tr h.bel hb, h.box.below hb, h.an.below hb, ps, g, gl, base, M, h1.below hb, h2, h3.below hb⟩
/-- What came is put in the place of what was there. -/
theorem Land.put {w0 wr W : World} {q tq aq : Nat} {s t : Sp} {N L N1 L1 : RS} {E : Int} {b : Blk} {x : Nd} {sx : RS} (h : Land wr W tq aq t N1 L1 E b x sx) (hN : Now w0 q W s N L) (hq : q < wr.heap.size) : Now w0 q (put6 W q t N1 L1) t N1 L1 := by
  obtain ⟨ps, g, gl, base, M, h1, h2, h3⟩ := h.own
  exact hN.put h1 (.inl (by omega))
theorem Land.parts {wr W : World} {tq aq : Nat} {t : Sp} {N L : RS} {E : Int} {b : Blk} {x : Nd} {sx : RS} (h : Land wr W tq aq t N L E b x sx) : ∃ nb off ps, Nds W N.a nb off ps ∧ ps.length = N.n ∧ ps.map (·.1) = t.ns ∧ LL W L.a L.n L.c t.ls := by
  obtain ⟨ps, g, gl, base, M, h1, h2, h3⟩ := h.own
  obtain ⟨nb, hb⟩ := h1.lot.nds
  exact ⟨nb, 0, ps, hb, h1.lot.len, h1.map, h1.lo.ll⟩
theorem put6_def (w : World) (b : Nat) (s : Sp) (N L : RS) : put6 w b s N L = (((((w.setCell ⟨b, 0, none⟩ (.int .i64 s.tx)).setCell ⟨b, 1, none⟩ (.int .i64 s.nb)).setCell ⟨b, 2, none⟩ (.int .i64 s.ng)).setCell ⟨b, 3, none⟩ (.int .i64 s.now)).setCell ⟨b, 4, none⟩ (.slice N.a N.n N.c)).setCell ⟨b, 5, none⟩ (.slice L.a L.n L.c) := rfl
theorem put11_def (w : World) (B : Nat) (E : Int) (b : Blk) (T : RS) (x : NR) (n : Int) : put11 w B E b T x n = (((((((((((w.setCell ⟨B, 0, none⟩ (.int .i64 E)).setCell ⟨B, 1, none⟩ (.int .i64 b.id)).setCell ⟨B, 2, none⟩ (.int .i64 b.gen)).setCell ⟨B, 3, none⟩ (.int .i64 b.len)).setCell ⟨B, 4, none⟩ (.slice T.a T.n T.c)).setCell ⟨B, 5, none⟩ (.string x.1.path)).setCell ⟨B, 6, none⟩ (.bool x.1.dir)).setCell ⟨B, 7, none⟩ (.int .i64 x.1.quota)).setCell ⟨B, 8, none⟩ (.slice x.2.a x.2.n x.2.c)).setCell ⟨B, 9, none⟩ (.int .i64 x.1.wr)).setCell ⟨B, 10, none⟩ (.int .i64 n)) := rfl
theorem bel_put6 {w0 w : World} {b : Nat} {s0 : Sp} {N0 L0 : RS} (hb : Below w0.heap.size w0 w) (hS : SpC w b s0 N0 L0) (h : w0.heap.size ≤ b) (s : Sp) (N L : RS) : Below w0.heap.size w0 (put6 w b s N L) :=
  ((Stay.of_below (O := fun k => w0.heap.size ≤ k) hb).then_same ((put6_at hS s N L).2.mono (fun k hk => by rw [hk]; exact h))).below (Nat.le_refl _) (fun k hk => hk)
theorem bel_put11 {w0 w : World} {B : Nat} {E0 : Int} {b0 : Blk} {T0 : RS} {x0 : NR} {n0 : Int} (hb : Below w0.heap.size w0 w) (hA : AnC w B E0 b0 T0 x0 n0) (h : w0.heap.size ≤ B) (E : Int) (b : Blk) (T : RS) (x : NR) (n : Int) : Below w0.heap.size w0 (put11 w B E b T x n) :=
  ((Stay.of_below (O := fun k => w0.heap.size ≤ k) hb).then_same ((put11_at hA E b T x n).2.mono (fun k hk => by rw [hk]; exact h))).below (Nat.le_refl _) (fun k hk => hk)
theorem an_put6 {w7 : World} {tq aq : Nat} {t : Sp} {N1 L1 : RS} (FS : SpC w7 tq zeroS noS noS) (FA : AnC w7 aq 0 zeroB noS zeroX 0) (hne : tq ≠ aq) : AnC (put6 w7 tq t N1 L1) aq 0 zeroB noS zeroX 0 :=
  FA.keep (put6_at FS t N1 L1).2 (fun e => hne e.symm)
theorem land_of {wr w5 w7 : World} {tq aq : Nat} {t : Sp} {N1 L1 : RS} {ps : List NR} {g gl : Option Nat} {base1 M1 : Nat} {E : Int} {bk : Blk} {x : Nd} {sx1 : RS} (hO : OwnM base1 w5.heap.size w5 t N1 L1 ps g gl) (hF : Free M1 w5 (x, sx1)) (hbM : base1 ≤ M1) (hwb : wr.heap.size ≤ base1) (hb : Below wr.heap.size wr w7) (bl : Below w5.heap.size w5 w7) (FS : SpC w7 tq zeroS noS noS) (FA : AnC w7 aq 0 zeroB noS zeroX 0) (hne : tq ≠ aq) (h1 : tq < base1 ∨ w5.heap.size ≤ tq) (h2 : aq < base1 ∨ w5.heap.size ≤ aq) (q1 : wr.heap.size ≤ tq) (q2 : wr.heap.size ≤ aq) :
    Land wr (put11 (put6 w7 tq t N1 L1) aq E bk noS (x, sx1) 0) tq aq t N1 L1 E bk x sx1 := by
  obtain ⟨p1, p2⟩ := put6_at FS t N1 L1
  have FA2 := an_put6 (t := t) (N1 := N1) (L1 := L1) FS FA hne
  obtain ⟨r1, r2⟩ := put11_at FA2 E bk noS (x, sx1) 0
  refine ⟨bel_put11 (bel_put6 hb FS q1 _ _ _) FA2 q2 _ _ _ _ _, p1.keep r2 hne, r1, ps, g, gl, base1, w5.heap.size, ((hO.below bl).out p2 (fun k hk => by rw [hk]; exact h1)).out r2 (fun k hk => by rw [hk]; exact h2), hwb, ?_⟩
  have hk1 : ∀ k, (x, sx1).2.blk = some k → M1 ≤ k ∧ k < w5.heap.size := fun k hk => ⟨hF.blk_ge k hk, hF.ok.bs.lt k hk⟩
  exact (Stay.free (Stay.free (hF.below bl) p2 (fun k hk e => by have := hk1 k hk; omega)) r2 (fun k hk e => by have := hk1 k hk; omega)).mono hbM

theorem OwnM.nodes {base M : Nat} {w : World} {s : Sp} {N L : RS} {ps : List NR} {g gl : Option Nat} (h : OwnM base M w s N L ps g gl) : ∃ b off, Nds w N.a b off ps ∧ ps.length = N.n ∧ ps.map (·.1) = s.ns := by
  obtain ⟨b, hb⟩ := h.lot.nds
  exact ⟨b, 0, hb, h.lot.len, h.map⟩

end Go.Proofs.YtaafombnpngblaaGreat.Spa
