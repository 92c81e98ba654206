/- Part 32 of the proof: SpaceL2, ImageF5, ImageF8, ImageF9, ImageG2, ImageF6. -/
import Derived.Test.YtcnflkjkgomnoaaGreatB16
import Derived.Test.YtcnflkjkgomnoaaGreatB23
import Derived.Test.YtcnflkjkgomnoaaGreatB28
import Derived.Test.YtcnflkjkgomnoaaGreatB31
import Derived.Deep.LoopGhost
import Derived.Deep.RegionLaw
set_option maxRecDepth 100000
set_option maxHeartbeats 8000000
namespace Go.Proofs.YtcnflkjkgomnoaaGreat.Spa
open Go.RowKit Go.Proofs.YtcnflkjkgomnoaaGreat
open Go.Proofs.YtcnflkjkgomnoaaGreat.Lea (LS Ls findX putL renX LL LO LsR lsC wideL)
open Go.Proofs.YtcnflkjkgomnoaaGreat.Edi (Ed Nm EdAt edV)
section
variable {w w2 : World} {t1 t2 : TypeId}
end
theorem put6_def (w : World) (b : Nat) (s : Sp) (N L : RS) : put6 w b s N L = (((((w.setCell ⟨b, 0, none⟩ (.int .i64 s.tx)).setCell ⟨b, 1, none⟩ (.int .i64 s.nb)).setCell ⟨b, 2, none⟩ (.int .i64 s.ng)).setCell ⟨b, 3, none⟩ (.int .i64 s.now)).setCell ⟨b, 4, none⟩ (.slice N.a N.n N.c)).setCell ⟨b, 5, none⟩ (.slice L.a L.n L.c) := rfl
theorem bel_put6 {w0 w : World} {b : Nat} {s0 : Sp} {N0 L0 : RS} (hb : Below w0.heap.size w0 w) (hS : SpC w b s0 N0 L0) (h : w0.heap.size ≤ b) (s : Sp) (N L : RS) : Below w0.heap.size w0 (put6 w b s N L) :=
  ((Stay.of_below (O := fun k => w0.heap.size ≤ k) hb).then_same ((put6_at hS s N L).2.mono (fun k hk => by rw [hk]; exact h))).below (Nat.le_refl _) (fun k hk => hk)
end Go.Proofs.YtcnflkjkgomnoaaGreat.Spa
namespace Go.Proofs.YtcnflkjkgomnoaaGreat.Img
open Go.RowKit Go.Proofs.YtcnflkjkgomnoaaGreat Go.Proofs.YtcnflkjkgomnoaaGreat.Smm
open Go.Proofs.YtcnflkjkgomnoaaGreat.Spa (Sp RtS zeroS newS spV SpIn SpC put6 put6_at put6_def noS bel_put6)
open Go.Proofs.YtcnflkjkgomnoaaGreat.Lea (LS Ls LL)
open Go.Proofs.YtcnflkjkgomnoaaGreat.Edi (numsB takeN bel_tr bel_al bel_cell)
theorem within_i (n lo hi : Int) (v : Bool) (w : World) (hv : (decide (lo ≤ n) && decide (n ≤ hi)) = v) :
    Calls Tryz.prog 74 #[.int .i64 n, .int .i64 lo, .int .i64 hi] w fun e w' => e = .returned (.bool v) ∧ w' = w := by
  go_enter Tryz.func74, Tryz.ntmps74; by_cases h1 : lo ≤ n
  · by_cases h2 : n ≤ hi
    · obtain rfl : v = true := by rw [← hv]; simp [h1, h2]
      clear hv; go_wp2; go_ret; exact ⟨rfl, rfl⟩
    · obtain rfl : v = false := by rw [← hv]; simp [h2]
      clear hv; go_wp2; go_ret; exact ⟨rfl, rfl⟩
  · obtain rfl : v = false := by rw [← hv]; simp [h1]
    clear hv; go_wp2; go_ret; exact ⟨rfl, rfl⟩
structure LeaseR (part : ByteArray) (e : Ending) : Prop where
  ex : ∃ (c u : Int) (v : Bool), e = .returned (.tuple #[.agg #[.int .i64 c, .int .i64 u], .bool v]) ∧ (v = true → part = leaseP ⟨c, u⟩ ∧ FitL ⟨c, u⟩) ∧ (v = false → ∀ l, FitL l → part ≠ leaseP l)
theorem readLease_val (part : ByteArray) (w : World) (hp : part.size ≤ maxLen) :
    Calls Tryz.prog 78 #[.string part] w fun e w' => LeaseR part e ∧ Below w.heap.size w w' := by
  obtain ⟨⟨z0, s1⟩, h0⟩ : ∃ x, numS (part, true) = x := ⟨_, rfl⟩
  obtain ⟨⟨z1, s2⟩, h1⟩ : ∃ x, numS s1 = x := ⟨_, rfl⟩
  obtain ⟨u, hu⟩ : ∃ x, endB s2 = x := ⟨_, rfl⟩
  have HI : Hid (LeaseR part (.returned (.tuple #[.agg #[.int .i64 z0, .int .i64 z1], .bool u]))) := ⟨z0, z1, u, rfl, fun e => (lease_iff h0 h1).1 (hu.trans e), fun e => (lease_iff h0 h1).2 (hu.trans e)⟩
  have HP : Hid (part.size ≤ maxLen) := hp
  have H0 : Hid (numS (part, true) = (z0, s1)) := h0
  have H1 : Hid (numS s1 = (z1, s2)) := h1
  have HE : Hid (endB s2 = u) := hu
  clear h0 h1 hu hp; go_enter Tryz.func78, Tryz.ntmps78; go_wp2_with fail
  refine (over_val part _ HP.out).mono ?_
  rintro e w1 ⟨bl, bs, rfl, hB, hl, hs, b1⟩; have hsz : ∀ o : Obj, (w.alloc o).heap.size = w.heap.size + 1 := fun o => by simp
  rw [hsz] at hl hs
  have r0 := bel_cell b1 (World.cell?_alloc_new w _ _ 0)
  have r1 := bel_cell b1 (World.cell?_alloc_new w _ _ 1)
  have f0 := Stay.frozen (Stay.of_below (O := fun _ => False) b1) (World.cell?_alloc_new w _ _ 0) (World.frozen?_alloc_new w _ _ 0) id
  have f1 := Stay.frozen (Stay.of_below (O := fun _ => False) b1) (World.cell?_alloc_new w _ _ 1) (World.frozen?_alloc_new w _ _ 1) id
  have B1 : Hid (Below w.heap.size w w1) := bel_tr (bel_al _ _) b1
  have HB1 : Hid (Bx w1 bl bs (part, true)) := hB
  have HR : Hid ((w1.cell? ⟨w.heap.size, 0, none⟩ = some (.int .i64 0) ∧ w1.cell? ⟨w.heap.size, 1, none⟩ = some (.int .i64 0)) ∧ w1.frozen? ⟨w.heap.size, 0, none⟩ = false ∧ w1.frozen? ⟨w.heap.size, 1, none⟩ = false) := ⟨⟨r0, r1⟩, f0, f1⟩
  clear b1 hB hsz r0 r1 f0 f1; go_wp2_with fail
  refine (num_cl HB1.out z0 s1 H0.out).mono ?_
  rintro e w2 ⟨rfl, hB2, st2⟩; have HB2 : Hid (Bx w2 bl bs s1) := hB2
  have S2 : Hid (Stay (Two bl bs) w1 w2) := st2
  clear hB2 st2; go_wp2_with fail
  refine (num_cl HB2.out z1 s2 H1.out).mono ?_
  rintro e w3 ⟨rfl, hB3, st3⟩; have HB3 : Hid (Bx w3 bl bs s2) := hB3
  have S3 : Hid (Stay (Two bl bs) w1 w3) := S2.out.then_same st3
  clear hB3 st3; go_wp2_with fail
  refine (end_cl HB3.out u HE.out).mono ?_
  rintro e w4 ⟨rfl, rfl⟩; have hn : ¬ Two bl bs w.heap.size := fun e => by rcases e with e | e <;> omega
  have x0 := Stay.cell S3.out HR.out.1.1 hn
  have x1 := Stay.cell S3.out HR.out.1.2 hn
  have f0 := Stay.frozen S3.out HR.out.1.1 HR.out.2.1 hn
  have f1 := Stay.frozen S3.out HR.out.1.2 HR.out.2.2 hn
  have B3 : Hid (Below w.heap.size w w4) := bel_stay B1.out S3.out (fun k hk => by rcases hk with rfl | rfl <;> omega)
  go_wp2; have hb5 := (B3.out.setCell (p := ⟨w.heap.size, 0, none⟩) (Nat.le_refl _) (.int .i64 z0)).setCell (p := ⟨w.heap.size, 1, none⟩) (Nat.le_refl _) (.int .i64 z1)
  have y1 : (w4.setCell ⟨w.heap.size, 0, none⟩ (.int .i64 z0)).cell? ⟨w.heap.size, 1, none⟩ = some (.int .i64 0) := by rw [World.cell?_setCell_other _ _ _ _ (by simp)]; exact x1
  have y0 : (w4.setCell ⟨w.heap.size, 0, none⟩ (.int .i64 z0)).cell? ⟨w.heap.size, 0, none⟩ = some (.int .i64 z0) := World.cell?_setCell_same _ _ _ x0
  have q1 : ((w4.setCell ⟨w.heap.size, 0, none⟩ (.int .i64 z0)).setCell ⟨w.heap.size, 1, none⟩ (.int .i64 z1)).cell? ⟨w.heap.size, 1, none⟩ = some (.int .i64 z1) := World.cell?_setCell_same _ _ _ y1
  have q0 : ((w4.setCell ⟨w.heap.size, 0, none⟩ (.int .i64 z0)).setCell ⟨w.heap.size, 1, none⟩ (.int .i64 z1)).cell? ⟨w.heap.size, 0, none⟩ = some (.int .i64 z0) := by rw [World.cell?_setCell_other _ _ _ _ (by simp)]; exact y0
  refine bodyPost_ret (v := .tuple #[.agg #[.int .i64 z0, .int .i64 z1], .bool u]) ?_ rfl ⟨HI.out, hb5⟩
  generalize (w4.setCell ⟨w.heap.size, 0, none⟩ (.int .i64 z0)).setCell ⟨w.heap.size, 1, none⟩ (.int .i64 z1) = W9 at *
  simp only [results, Tryz.results78]
  simp [go_sem, q0, q1]
open Go.Proofs.YtcnflkjkgomnoaaGreat.Spa (noS zeroN)
open Go.Proofs.YtcnflkjkgomnoaaGreat.Edi (bel_tr bel_al bel_cell bel_drew)
structure NdC (w : World) (b : Nat) (x : NR) : Prop where
  c0 : w.cell? ⟨b, 0, none⟩ = some (.string x.1.path)
  c1 : w.cell? ⟨b, 1, none⟩ = some (.bool x.1.dir)
  c2 : w.cell? ⟨b, 2, none⟩ = some (.int .i64 x.1.quota)
  c3 : w.cell? ⟨b, 3, none⟩ = some (.slice x.2.a x.2.n x.2.c)
  c4 : w.cell? ⟨b, 4, none⟩ = some (.int .i64 x.1.wr)
  fr : ∀ j, w.frozen? ⟨b, j, none⟩ = false
theorem NdC.keep {O : Nat → Prop} {w w' : World} {b : Nat} {x : NR} (h : NdC w b x) (hs : Stay O w w') (hO : ¬ O b) : NdC w' b x :=
  ⟨Stay.cell hs h.c0 hO, Stay.cell hs h.c1 hO, Stay.cell hs h.c2 hO, Stay.cell hs h.c3 hO, Stay.cell hs h.c4 hO, fun j =>
    (World.frozen?_of_block (a := ⟨b, j, none⟩) (hs.block b (World.block_lt_of_cell? _ _ h.c0) hO)).trans (h.fr j)⟩
theorem NdC.below {w w' : World} {b : Nat} {x : NR} (h : NdC w b x) (hb : Below w.heap.size w w') : NdC w' b x := h.keep (Stay.of_below (O := fun _ => False) hb) id
theorem NdC.lt {w : World} {b : Nat} {x : NR} (h : NdC w b x) : b < w.heap.size := World.block_lt_of_cell? _ _ h.c0
theorem NdC.new (w : World) (t : TypeId) (x : NR) : NdC (w.alloc (.cells #[.string x.1.path, .bool x.1.dir, .int .i64 x.1.quota, .slice x.2.a x.2.n x.2.c, .int .i64 x.1.wr] t)) w.heap.size x :=
  ⟨World.cell?_alloc_new w _ _ 0, World.cell?_alloc_new w _ _ 1, World.cell?_alloc_new w _ _ 2, World.cell?_alloc_new w _ _ 3, World.cell?_alloc_new w _ _ 4, fun j => World.frozen?_alloc_new w _ _ j⟩
theorem frz {w : World} {a b : Addr} {v : Value} : (w.setCell a v).frozen? b = w.frozen? b := World.frozen?_setCell ..
theorem oth {w : World} {b i j : Nat} {v : Value} (h : i ≠ j) : (w.setCell ⟨b, i, none⟩ v).cell? ⟨b, j, none⟩ = w.cell? ⟨b, j, none⟩ := World.cell?_setCell_other _ _ _ _ (by simp <;> omega)
theorem NdC.dir {w : World} {b : Nat} {x : NR} (h : NdC w b x) (d : Bool) : NdC (w.setCell ⟨b, 1, none⟩ (.bool d)) b (⟨x.1.path, d, x.1.quota, x.1.bs, x.1.wr⟩, x.2) :=
  ⟨(oth (by omega)).trans h.c0, World.cell?_setCell_same _ _ _ h.c1, (oth (by omega)).trans h.c2, (oth (by omega)).trans h.c3, (oth (by omega)).trans h.c4, fun j => frz.trans (h.fr j)⟩
theorem NdC.quota {w : World} {b : Nat} {x : NR} (h : NdC w b x) (q : Int) : NdC (w.setCell ⟨b, 2, none⟩ (.int .i64 q)) b (⟨x.1.path, x.1.dir, q, x.1.bs, x.1.wr⟩, x.2) :=
  ⟨(oth (by omega)).trans h.c0, (oth (by omega)).trans h.c1, World.cell?_setCell_same _ _ _ h.c2, (oth (by omega)).trans h.c3, (oth (by omega)).trans h.c4, fun j => frz.trans (h.fr j)⟩
theorem NdC.blocks {w : World} {b : Nat} {x : NR} (h : NdC w b x) (bs : List Blk) (a : Option Addr) (n c : Nat) : NdC (w.setCell ⟨b, 3, none⟩ (.slice a n c)) b (⟨x.1.path, x.1.dir, x.1.quota, bs, x.1.wr⟩, ⟨a, n, c⟩) :=
  ⟨(oth (by omega)).trans h.c0, (oth (by omega)).trans h.c1, (oth (by omega)).trans h.c2, World.cell?_setCell_same _ _ _ h.c3, (oth (by omega)).trans h.c4, fun j => frz.trans (h.fr j)⟩
theorem NdC.writer {w : World} {b : Nat} {x : NR} (h : NdC w b x) (q : Int) : NdC (w.setCell ⟨b, 4, none⟩ (.int .i64 q)) b (⟨x.1.path, x.1.dir, x.1.quota, x.1.bs, q⟩, x.2) :=
  ⟨(oth (by omega)).trans h.c0, (oth (by omega)).trans h.c1, (oth (by omega)).trans h.c2, (oth (by omega)).trans h.c3, World.cell?_setCell_same _ _ _ h.c4, fun j => frz.trans (h.fr j)⟩
def putN (w : World) (b : Nat) (x : NR) : World := ((((w.setCell ⟨b, 0, none⟩ (.string x.1.path)).setCell ⟨b, 1, none⟩ (.bool x.1.dir)).setCell ⟨b, 2, none⟩ (.int .i64 x.1.quota)).setCell ⟨b, 3, none⟩ (.slice x.2.a x.2.n x.2.c)).setCell ⟨b, 4, none⟩ (.int .i64 x.1.wr)
theorem NdC.path {w : World} {b : Nat} {x : NR} (h : NdC w b x) (p : ByteArray) : NdC (w.setCell ⟨b, 0, none⟩ (.string p)) b (⟨p, x.1.dir, x.1.quota, x.1.bs, x.1.wr⟩, x.2) :=
  ⟨World.cell?_setCell_same _ _ _ h.c0, (oth (by omega)).trans h.c1, (oth (by omega)).trans h.c2, (oth (by omega)).trans h.c3, (oth (by omega)).trans h.c4, fun j => frz.trans (h.fr j)⟩
theorem putN_at {w : World} {b : Nat} {x0 : NR} (h : NdC w b x0) (x : NR) : NdC (putN w b x) b x ∧ Stay (fun k => k = b) w (putN w b x) := by
  refine ⟨((((h.path x.1.path).dir x.1.dir).quota x.1.quota).blocks x.1.bs x.2.a x.2.n x.2.c).writer x.1.wr, ?_⟩
  have k : ∀ (W : World) (i : Nat) (v : Value), Stay (fun k => k = b) W (W.setCell ⟨b, i, none⟩ v) := fun W i v => Stay.setCell W ⟨b, i, none⟩ v rfl
  exact ((((k w 0 _).then_same (k _ 1 _)).then_same (k _ 2 _)).then_same (k _ 3 _)).then_same (k _ 4 _)
structure Dis (B bl bs Q R : Nat) : Prop where
  l : B ≤ bl
  s : B ≤ bs
  q : B ≤ Q
  r : B ≤ R
  ls : bl ≠ bs
  ql : Q ≠ bl
  qs : Q ≠ bs
  rl : R ≠ bl
  rs : R ≠ bs
  rq : R ≠ Q
abbrev Ob (B bl bs Q R : Nat) : Nat → Prop := fun k => B ≤ k ∧ k ≠ bl ∧ k ≠ bs ∧ k ≠ Q ∧ k ≠ R
structure InN (w0 : World) (bl bs Q R : Nat) (w : World) (s : St) (x : Nd) (rs : RS) (g : Option Nat) : Prop where
  bel : Below w0.heap.size w0 w
  bx : Bx w bl bs s
  n : NdC w Q (x, rs)
  r : NdC w R (zeroN, noS)
  cel : Cel (Ob w0.heap.size bl bs Q R) w 3 (.slice rs.a rs.n rs.c) rs.n (rowC blkC x.bs) g
  len : x.bs.length = rs.n
theorem Dis.nq {B bl bs Q R : Nat} (d : Dis B bl bs Q R) : ¬ Two bl bs Q := fun e => e.elim d.ql d.qs
theorem Dis.nr {B bl bs Q R : Nat} (d : Dis B bl bs Q R) : ¬ Two bl bs R := fun e => e.elim d.rl d.rs
theorem InN.num {w0 w w' : World} {bl bs Q R : Nat} {s s' : St} {x : Nd} {rs : RS} {g : Option Nat} (d : Dis w0.heap.size bl bs Q R) (h : InN w0 bl bs Q R w s x rs g) (hs : Stay (Two bl bs) w w') (hb : Bx w' bl bs s') : InN w0 bl bs Q R w' s' x rs g := by
  refine ⟨bel_stay h.bel hs (fun k hk => hk.elim (fun e => e ▸ d.l) (fun e => e ▸ d.s)), hb, h.n.keep hs d.nq, h.r.keep hs d.nr, h.cel.stay hs.size (fun k hk => ?_) (fun _ e => e), h.len⟩
  have hc := h.cel
  rw [hk] at hc
  obtain ⟨h1, h2⟩ := hc.lt
  exact hs.block k h1 (fun e => e.elim h2.2.1 h2.2.2.1)
theorem InN.below {w0 w w' : World} {bl bs Q R : Nat} {s : St} {x : Nd} {rs : RS} {g : Option Nat} (h : InN w0 bl bs Q R w s x rs g) (hb : Below w.heap.size w w') : InN w0 bl bs Q R w' s x rs g :=
  ⟨bel_tr h.bel hb, h.bx.below hb, h.n.below hb, h.r.below hb, h.cel.below hb, h.len⟩
theorem InN.set {w0 w : World} {bl bs Q R : Nat} {s : St} {x y : Nd} {rs : RS} {g : Option Nat} (d : Dis w0.heap.size bl bs Q R) (h : InN w0 bl bs Q R w s x rs g) (k : Nat) (v : Value) (hy : NdC (w.setCell ⟨Q, k, none⟩ v) Q (y, rs)) (hbs : y.bs = x.bs) : InN w0 bl bs Q R (w.setCell ⟨Q, k, none⟩ v) s y rs g := by
  have hs : Stay (fun i => i = Q) w (w.setCell ⟨Q, k, none⟩ v) := Stay.setCell _ _ _ rfl
  refine ⟨bel_stay h.bel hs (fun i hi => hi ▸ d.q), h.bx.keep hs (fun e => d.ql e.symm) (fun e => d.qs e.symm), hy, h.r.keep hs d.rq, ?_, by rw [hbs]; exact h.len⟩
  rw [hbs]
  refine h.cel.stay hs.size (fun i hi => ?_) (fun _ e => e)
  have hc := h.cel
  rw [hi] at hc
  exact hs.block i hc.lt.1 hc.lt.2.2.2.2.1
theorem InN.push {w0 w w5 : World} {bl bs Q R : Nat} {s : St} {x : Nd} {rs : RS} {g g5 : Option Nat} {a5 : Option Addr} {c5 : Nat} {b : Blk} (d : Dis w0.heap.size bl bs Q R) (h : InN w0 bl bs Q R w s x rs g) (hsz : w0.heap.size ≤ w.heap.size) (hQ : Q < w.heap.size) (hR : R < w.heap.size)
    (hC : Cel (Grow (Ob w0.heap.size bl bs Q R) w w5) w5 3 (.slice a5 (rs.n + 1) c5) (rs.n + 1) (rowC blkC x.bs ++ blkC b) g5) (hS : Stay (fun k => g = some k) w w5) :
    InN w0 bl bs Q R (w5.setCell ⟨Q, 3, none⟩ (.slice a5 (rs.n + 1) c5)) s ⟨x.path, x.dir, x.quota, x.bs ++ [b], x.wr⟩ ⟨a5, rs.n + 1, c5⟩ g5 ∧ w5.cell? ⟨Q, 3, none⟩ = some (.slice rs.a rs.n rs.c) ∧ w5.frozen? ⟨Q, 3, none⟩ = false := by
  have hg : ∀ k, g = some k → Ob w0.heap.size bl bs Q R k := fun k hk => by have hc := h.cel; rw [hk] at hc; exact hc.lt.2
  have n5 := h.n.keep hS (fun e => (hg Q e).2.2.2.1 rfl)
  have hs2 : Stay (fun i => i = Q) w5 (w5.setCell ⟨Q, 3, none⟩ (.slice a5 (rs.n + 1) c5)) := Stay.setCell _ _ _ rfl
  have hbl := h.bx.lt
  refine ⟨⟨?_, ?_, n5.blocks _ _ _ _, ?_, ?_, by simp [h.len]⟩, n5.c3, n5.fr 3⟩
  · exact bel_stay (bel_stay h.bel hS (fun k hk => (hg k hk).1)) hs2 (fun i hi => hi ▸ d.q)
  · exact (h.bx.keep hS (fun e => (hg bl e).2.1 rfl) (fun e => (hg bs e).2.2.1 rfl)).keep hs2 (fun e => d.ql e.symm) (fun e => d.qs e.symm)
  · exact (h.r.keep hS (fun e => (hg R e).2.2.2.2 rfl)).keep hs2 d.rq
  · have e1 : rowC blkC x.bs ++ blkC b = rowC blkC (x.bs ++ [b]) := by simp [rowC]
    rw [e1] at hC
    have hO : ∀ k, Grow (Ob w0.heap.size bl bs Q R) w w5 k → Ob w0.heap.size bl bs Q R k := fun k hk => hk.elim id (fun e => ⟨by omega, by omega, by omega, by omega, by omega⟩)
    refine hC.stay hs2.size (fun k hk => ?_) hO
    have hc := hC
    rw [hk] at hc
    exact hs2.block k hc.lt.1 (hO k hc.lt.2).2.2.2.1
theorem step_fn {P : Program} {ops : Array Oper} {o : Oper} {a : Act} {w : World} {K : Act → World → Prop} {Q : Exit → Act → World → Prop} {E : Prop}
    (hgd : o.guard = none) (s : Operand) (ho : o.op = .call { callee := .value s, args := #[], argTypes := #[] }) (F : FuncId) (cap : Array Value) (hv : a.eval s = .func (.func F) #[] cap) (eg : ∀ w, (callFunc F cap).run P w = .ok (.enter F cap) w)
    {R : Ending → World → Prop} (hc : Calls P F cap w R) (v : Value) (hK : ∀ w', R (.returned v) w' → K (a.put o.dst v) w') (hno : ∀ e w', R e w' → e = .returned v) :
    if Region.wanted o (yielded ops a.tmps) = true then Oper.wp P o a w K Q else E := by
  have hw : Region.wanted o (yielded ops a.tmps) = true := by simp [Region.wanted, hgd]
  rw [if_pos hw]
  unfold Oper.wp; simp [execOp, ho, resolve, invoke, hv, Deferred.ofValue, eg, Oper.upon_enter]
  refine hc.mono fun e w' h => ?_
  have := hno e w' h
  subst this; exact hK w' h
structure NodeR (base : Nat) (part : ByteArray) (e : Ending) (w' : World) : Prop where
  ex : ∃ (x : Nd) (rs : RS) (v : Bool), e = .returned (.tuple #[ndV (x, rs), .bool v]) ∧ Free base w' (x, rs) ∧ (v = true → part = nodeP x ∧ FitX x) ∧ (v = false → ∀ y, FitX y → part ≠ nodeP y)
theorem src_blk3 (w : World) (b : Blk) : Src Tryz.prog 3 33 (.slice (some ⟨w.heap.size, 0, none⟩) 1 1) 1 (blkC b) (w.alloc (.cells #[.int .i64 b.id, .int .i64 b.gen, .int .i64 b.len] 31)) := Spa.src_blk w b _ rfl
theorem InN.free {w0 w : World} {bl bs Q R : Nat} {s : St} {x : Nd} {rs : RS} {g : Option Nat} (h : InN w0 bl bs Q R w s x rs g) (hp : x.path.size ≤ maxLen) : Free w0.heap.size w (x, rs) :=
  free_of_cel (h.cel.stay (Nat.le_refl _) (fun _ _ => rfl) (fun _ e => e.1)) h.len rfl hp
theorem InN.ret {w0 w : World} {bl bs Q R : Nat} {s : St} {x : Nd} {rs : RS} {g : Option Nat} (d : Dis w0.heap.size bl bs Q R) (h : InN w0 bl bs Q R w s x rs g) (hp : x.path.size ≤ maxLen) : NdC (putN w R (x, rs)) R (x, rs) ∧ Free w0.heap.size (putN w R (x, rs)) (x, rs) ∧ Below w0.heap.size w0 (putN w R (x, rs)) := by
  obtain ⟨p1, p2⟩ := putN_at h.r (x, rs)
  refine ⟨p1, Stay.free (h.free hp) p2 (fun k hk e => ?_), bel_stay h.bel p2 (fun k hk => hk ▸ d.r)⟩
  subst e; unfold RS.blk at hk; split at hk
  · cases hk
  · rename_i hn
    obtain ⟨b, hb1, hb2⟩ := h.cel.at2 (by simp only at hn ⊢; omega)
    simp only at hk hb1
    rw [hb1] at hk
    have : b = k := by simpa using hk
    subst this; have hc := h.cel
    rw [hb2] at hc
    exact hc.lt.2.2.2.2.2 rfl
theorem readNode_val (part : ByteArray) (w : World) (hp : part.size ≤ maxLen) :
    Calls Tryz.prog 76 #[.string part] w fun e w' => NodeR w.heap.size part e w' ∧ Below w.heap.size w w' := by
  obtain ⟨ti, hi1, hi2, hi3, hi4⟩ := blkRow
  obtain ⟨⟨p, s1⟩, h0⟩ : ∃ x, txtS (part, true) = x := ⟨_, rfl⟩
  obtain ⟨⟨z0, s2⟩, h1⟩ : ∃ x, numS s1 = x := ⟨_, rfl⟩
  obtain ⟨⟨z1, s3⟩, h2⟩ : ∃ x, numS s2 = x := ⟨_, rfl⟩
  obtain ⟨⟨z2, s4⟩, h3⟩ : ∃ x, numS s3 = x := ⟨_, rfl⟩
  obtain ⟨⟨z3, s5⟩, h4⟩ : ∃ x, numS s4 = x := ⟨_, rfl⟩
  have HPM : Hid (part.size ≤ maxLen) := hp
  have HPS : Hid (p.size ≤ maxLen) := by
    have h := txtS_small (part, true)
    rw [h0] at h
    show p.size ≤ maxLen
    unfold maxLen; simp only at h
    omega
  have H0 : Hid (txtS (part, true) = (p, s1)) := h0
  have H1 : Hid (numS s1 = (z0, s2)) := h1
  have H2 : Hid (numS s2 = (z1, s3)) := h2
  have H3 : Hid (numS s3 = (z2, s4)) := h3
  have H4 : Hid (numS s4 = (z3, s5)) := h4
  clear h0 h1 h2 h3 h4 hp; have hst := run_store_str
  have hst2 := sto2
  go_enter Tryz.func76, Tryz.ntmps76; go_wp2_with fail
  refine (over_val part _ HPM.out).mono ?_
  rintro e w1 ⟨bl, bs, rfl, hB, hl, hs, b1⟩; have hsz : ∀ o : Obj, (w.alloc o).heap.size = w.heap.size + 1 := fun o => by simp
  have hw1 := b1.size
  rw [hsz] at hl hs hw1
  have R1 : Hid (NdC w1 w.heap.size (zeroN, noS)) := (NdC.new w 35 (zeroN, noS)).below b1
  have B1 : Hid (Below w.heap.size w w1) := bel_tr (bel_al _ _) b1
  have X1 : Hid (Bx w1 bl bs (part, true)) := hB
  clear b1 hB hsz; go_wp2_with fail
  refine (txt_cl X1.out p s1 H0.out).mono ?_
  rintro e w2 ⟨rfl, hB2, st2⟩; have R2 : Hid (NdC w2 w.heap.size (zeroN, noS)) := R1.out.keep st2 (fun e => by rcases e with e | e <;> omega)
  have B2 : Hid (Below w.heap.size w w2) := bel_stay B1.out st2 (fun k hk => by rcases hk with rfl | rfl <;> omega)
  have X2 : Hid (Bx w2 bl bs s1) := hB2
  have hq := hB2.lt
  have HRL : w.heap.size < w2.heap.size := by have := st2.size; omega
  have hne := hB2.ne
  clear hB2 st2 X1 R1 B1; have HD : Hid (Dis w.heap.size bl bs w2.heap.size w.heap.size) := ⟨by omega, by omega, by omega, by omega, hne, by omega, by omega, by omega, by omega, by omega⟩
  have HIN : Hid (∀ t : TypeId, InN w bl bs w2.heap.size w.heap.size (w2.alloc (.cells #[.string p, .bool false, .int .i64 0, .slice none 0 0, .int .i64 0] t)) s1 ⟨p, false, 0, [], 0⟩ noS none) := fun t => ⟨bel_tr B2.out (bel_al _ _), X2.out.below (bel_al _ _), NdC.new w2 t (⟨p, false, 0, [], 0⟩, noS), R2.out.below (bel_al _ _), .nil rfl rfl rfl, rfl⟩
  go_wp2_with fail
  have I3 : Hid _ := HIN.out 35
  generalize w2.alloc (.cells #[.string p, .bool false, .int .i64 0, .slice none 0 0, .int .i64 0] 35) = W3 at *
  generalize w2.heap.size = Q at *
  refine (num_cl I3.out.bx z0 s2 H1.out).mono ?_
  rintro e w4 ⟨rfl, hB4, st4⟩; have I4 : Hid (InN w bl bs Q w.heap.size w4 s2 ⟨p, false, 0, [], 0⟩ noS none) := I3.out.num HD.out st4 hB4
  clear hB4 st4 I3 HIN; have I5 : Hid (InN w bl bs Q w.heap.size (w4.setCell ⟨Q, 1, none⟩ (.bool (z0 == 1))) s2 ⟨p, z0 == 1, 0, [], 0⟩ noS none) := I4.out.set HD.out 1 _ (I4.out.n.dir (z0 == 1)) rfl
  have y1 := I4.out.n.c1
  have f1 := I4.out.n.fr 1
  simp only at y1
  go_wp2_with fail
  clear y1 f1; generalize w4.setCell ⟨Q, 1, none⟩ (.bool (z0 == 1)) = W5 at *
  refine (num_cl I5.out.bx z1 s3 H2.out).mono ?_
  rintro e w6 ⟨rfl, hB6, st6⟩; have I6 : Hid (InN w bl bs Q w.heap.size w6 s3 ⟨p, z0 == 1, 0, [], 0⟩ noS none) := I5.out.num HD.out st6 hB6
  clear hB6 st6 I4 I5; go_wp2_with fail
  refine (num_cl I6.out.bx z2 s4 H3.out).mono ?_
  rintro e w7 ⟨rfl, hB7, st7⟩; have I7 : Hid (InN w bl bs Q w.heap.size w7 s4 ⟨p, z0 == 1, 0, [], 0⟩ noS none) := I6.out.num HD.out st7 hB7
  clear hB7 st7 I6; have I8 : Hid (InN w bl bs Q w.heap.size (w7.setCell ⟨Q, 2, none⟩ (.int .i64 z1)) s4 ⟨p, z0 == 1, z1, [], 0⟩ noS none) := I7.out.set HD.out 2 _ (I7.out.n.quota z1) rfl
  have I9 : Hid (InN w bl bs Q w.heap.size ((w7.setCell ⟨Q, 2, none⟩ (.int .i64 z1)).setCell ⟨Q, 4, none⟩ (.int .i64 z2)) s4 ⟨p, z0 == 1, z1, [], z2⟩ noS none) := I8.out.set HD.out 4 _ (I8.out.n.writer z2) rfl
  have y2 := I7.out.n.c2
  have y4 := I7.out.n.c4
  have f2 := I7.out.n.fr 2
  have f4 := I7.out.n.fr 4
  simp only at y2 y4
  go_wp2_with fail
  clear y2 y4 f2 f4 I7 I8; generalize (w7.setCell ⟨Q, 2, none⟩ (.int .i64 z1)).setCell ⟨Q, 4, none⟩ (.int .i64 z2) = W9 at *
  refine (num_cl I9.out.bx z3 s5 H4.out).mono ?_
  rintro e wa ⟨rfl, hBa, sta⟩; have IA : Hid (InN w bl bs Q w.heap.size wa s5 ⟨p, z0 == 1, z1, [], z2⟩ noS none) := I9.out.num HD.out sta hBa
  clear hBa sta I9; by_cases hk : (0 ≤ z0 ∧ z0 ≤ 1) ∧ (0 ≤ z3 ∧ z3 ≤ 8)
  · obtain ⟨⟨ha1, ha2⟩, hb1, hb2⟩ := hk
    have G1 : Hid ((decide (0 ≤ z0) && decide (z0 ≤ 1)) = true) := by simp [ha1, ha2, Hid]
    have G2 : Hid ((decide (0 ≤ z3) && decide (z3 ≤ 8)) = true) := by simp [hb1, hb2, Hid]
    obtain ⟨m, rfl⟩ : ∃ m : Nat, z3 = (m : Int) := ⟨z3.toNat, by omega⟩
    have HK : Hid (z0 = 0 ∨ z0 = 1) := by show z0 = 0 ∨ z0 = 1; omega
    have hm8 : m ≤ 8 := by omega
    obtain ⟨dd, hdd⟩ : ∃ d, (z0 == 1) = d := ⟨_, rfl⟩
    have HIF : Hid ((endB (blksS m s5).2 = true → part = nodeP ⟨p, dd, z1, (blksS m s5).1, z2⟩ ∧ FitX ⟨p, dd, z1, (blksS m s5).1, z2⟩) ∧ (endB (blksS m s5).2 = false → ∀ x, FitX x → part ≠ nodeP x)) := by
      rw [← hdd]
      exact node_iff H0.out H1.out H2.out H3.out H4.out HK.out hm8
    rw [hdd] at IA ⊢
    clear ha1 ha2 hb1 hb2 hdd H0 H1 H2 H3 H4 HK; go_wp2_with (first
      | (go_at_call_of 74 (Value.int .i64 z0); refine (within_i z0 0 1 true _ G1.out).mono ?_; rintro e wq ⟨rfl, rfl⟩)
      | (go_at_call_of 74 (Value.int .i64 (m : Int)); refine (within_i (m : Int) 0 8 true _ G2.out).mono ?_; rintro e wq ⟨rfl, rfl⟩))
    rename World => w9; go_loopw [42] (fun c wr => ∃ (i : Nat) (fa : Option Addr) (fc : Nat) (g : Option Nat), i ≤ m ∧ c = .int .i64 i ∧ InN w bl bs Q w.heap.size wr (blksS i s5).2 ⟨p, dd, z1, (blksS i s5).1, z2⟩ ⟨fa, i, fc⟩ g) (fun c _ => m - (intOf c).toNat)
    case atStart => exact ⟨0, none, 0, none, by omega, rfl, IA.out⟩
    case round =>
      obtain ⟨i, fa, fc, g, hi, rfl, hI⟩ := hrel
      by_cases hlt : i < m
      · have hnx := blksS_next i s5
        have hln := blksS_len i s5
        generalize (blksS i s5).2 = sI at *
        generalize (blksS i s5).1 = bI at *
        obtain ⟨⟨f1, t1⟩, h1⟩ : ∃ x, numS sI = x := ⟨_, rfl⟩
        obtain ⟨⟨f2, t2⟩, h2⟩ : ∃ x, numS t1 = x := ⟨_, rfl⟩
        obtain ⟨⟨f3, t3⟩, h3⟩ : ∃ x, numS t2 = x := ⟨_, rfl⟩
        simp only [h1, h2, h3] at hnx
        have N1 : Hid (numS sI = (f1, t1)) := h1
        have N2 : Hid (numS t1 = (f2, t2)) := h2
        have N3 : Hid (numS t2 = (f3, t3)) := h3
        have HNX : Hid (blksS (i + 1) s5 = (bI ++ [⟨f1, f2, f3⟩], t3)) := hnx
        have HI : Hid (InN w bl bs Q w.heap.size wr sI ⟨p, dd, z1, bI, z2⟩ ⟨fa, i, fc⟩ g) := hI
        have ID : Hid (InN w bl bs Q w.heap.size wr.drew sI ⟨p, dd, z1, bI, z2⟩ ⟨fa, i, fc⟩ g) := hI.below (bel_drew wr)
        have k0 := hI.n.c3
        simp only at k0
        have EG : Hid (∀ w, (callFunc 150 #[.pointer (some ⟨bl, 0, none⟩), .pointer (some ⟨bs, 0, none⟩)]).run Tryz.prog w = .ok (.enter 150 #[.pointer (some ⟨bl, 0, none⟩), .pointer (some ⟨bs, 0, none⟩)]) w) := fun w => enters_of Tryz.func150 (by kernel_rfl) rfl _ w
        have M1 : Hid True := trivial
        clear hnx h1 h2 h3 hI hln IA; go_upto_region 11 with fail
        go_region_law (first
          | (refine step_fn rfl (.tmp 46) rfl 150 #[.pointer (some ⟨bl, 0, none⟩), .pointer (some ⟨bs, 0, none⟩)] (by first | (simp [Act.eval]; done) | (simp [Act.eval, Act.put]; done)) EG.out (num_cl ID.out.bx f1 t1 N1.out) (.int .i64 f1) ?_ (fun e w' h => h.1); intro w1 h1; have m1 := M1.out; have J1 : Hid (InN w bl bs Q w.heap.size w1 t1 ⟨p, dd, z1, bI, z2⟩ ⟨fa, i, fc⟩ g) := ID.out.num HD.out h1.2.2 h1.2.1; have k1 := J1.out.n.c3; simp only at k1; have M2 : Hid True := trivial; clear h1 m1 M1)
          | (refine step_fn rfl (.tmp 48) rfl 150 #[.pointer (some ⟨bl, 0, none⟩), .pointer (some ⟨bs, 0, none⟩)] (by first | (simp [Act.eval]; done) | (simp [Act.eval, Act.put]; done)) EG.out (num_cl J1.out.bx f2 t2 N2.out) (.int .i64 f2) ?_ (fun e w' h => h.1); intro w2 h2; have m2 := M2.out; have J2 : Hid (InN w bl bs Q w.heap.size w2 t2 ⟨p, dd, z1, bI, z2⟩ ⟨fa, i, fc⟩ g) := J1.out.num HD.out h2.2.2 h2.2.1; have k2 := J2.out.n.c3; simp only at k2; have M3 : Hid True := trivial; clear h2 m2 M2)
          | (refine step_fn rfl (.tmp 50) rfl 150 #[.pointer (some ⟨bl, 0, none⟩), .pointer (some ⟨bs, 0, none⟩)] (by first | (simp [Act.eval]; done) | (simp [Act.eval, Act.put]; done)) EG.out (num_cl J2.out.bx f3 t3 N3.out) (.int .i64 f3) ?_ (fun e w' h => h.1); intro w3 h3; have m3 := M3.out; have J3 : Hid (InN w bl bs Q w.heap.size w3 t3 ⟨p, dd, z1, bI, z2⟩ ⟨fa, i, fc⟩ g) := J2.out.num HD.out h3.2.2 h3.2.1; have k3 := J3.out.n.c3; simp only at k3; have k3a := cell_al k3; have M4 : Hid True := trivial; clear h3 m3 M3)
          | (refine step_append_cel rfl (.tmp 45) (.tmp 53) 33 33 rfl 31 ti _ 3 24 Tryz.underlying33 hi1 hi2 hi3 hi4 rfl (O := Ob w.heap.size bl bs Q w.heap.size) (.slice fa i fc) i _ g (by first | (simp [Act.eval]; done) | (simp [Act.eval, Act.put]; done)) ((J3.out.below (bel_al _ _)).cel) (.slice (some ⟨w3.heap.size, 0, none⟩) 1 1) 1 (blkC ⟨f1, f2, f3⟩) (by first | (simp [Act.eval]; done) | (simp [Act.eval, Act.put]; done)) (src_blk3 w3 ⟨f1, f2, f3⟩) (by unfold maxLen; omega) (by omega) ?_; intro a5 c5 w5 g5 hC5 hS5 hf5; have hp5 := (J3.out.below (bel_al w3 _)).push (b := ⟨f1, f2, f3⟩) HD.out (J3.out.below (bel_al w3 _)).bel.size (J3.out.below (bel_al w3 _)).n.lt (J3.out.below (bel_al w3 _)).r.lt hC5 hS5; have J5 : Hid _ := hp5.1; have k5 := hp5.2.1; have k5f := hp5.2.2; simp only at k5 k5f; clear hC5 hS5 hf5 hp5))
        all_goals
          have J6 : Hid (InN w bl bs Q w.heap.size (w5.setCell ⟨Q, 3, none⟩ (.slice a5 (i + 1) c5)) t3 ⟨p, dd, z1, bI ++ [⟨f1, f2, f3⟩], z2⟩ ⟨a5, i + 1, c5⟩ g5) := J5.out
          clear J5 J1 J2 J3 k0 k1 k2 k3 k3a k5 k5f ID HI EG N1 N2 N3; generalize w5.setCell ⟨Q, 3, none⟩ (.slice a5 (i + 1) c5) = W6 at *
          go_wp2; go_roundw
          case rel => exact ⟨i + 1, a5, c5, g5, by omega, by go_num, by rw [HNX.out]; exact J6.out⟩
          case measure => simp [intOf]; omega
      · obtain rfl : i = m := by omega
        have hgd : decide ((i : Int) < (i : Int)) = false := decide_eq_false (by omega)
        generalize (blksS i s5).2 = sI at *
        generalize (blksS i s5).1 = bI at *
        obtain ⟨u, hu⟩ : ∃ x, endB sI = x := ⟨_, rfl⟩
        have hRr := hI.ret HD.out HPS.out
        have CE : Hid (Calls Tryz.prog 153 #[.pointer (some ⟨bs, 0, none⟩), .pointer (some ⟨bl, 0, none⟩)] wr.drew fun e w' => e = .returned (.bool u) ∧ w' = wr.drew) := end_cl (hI.bx.below (bel_drew wr)) u hu
        have HU : Hid ((u = true → part = nodeP ⟨p, dd, z1, bI, z2⟩ ∧ FitX ⟨p, dd, z1, bI, z2⟩) ∧ (u = false → ∀ x, FitX x → part ≠ nodeP x)) := by
          rw [← hu]; exact HIF.out
        have HRR : Hid (NdC (putN wr w.heap.size (⟨p, dd, z1, bI, z2⟩, ⟨fa, i, fc⟩)) w.heap.size (⟨p, dd, z1, bI, z2⟩, ⟨fa, i, fc⟩) ∧ Free w.heap.size (putN wr w.heap.size (⟨p, dd, z1, bI, z2⟩, ⟨fa, i, fc⟩)) (⟨p, dd, z1, bI, z2⟩, ⟨fa, i, fc⟩) ∧ Below w.heap.size w (putN wr w.heap.size (⟨p, dd, z1, bI, z2⟩, ⟨fa, i, fc⟩))) := hRr
        unfold putN at HRR; simp only at HRR
        obtain ⟨n0, n1, n2, n3, n4, nf⟩ := hI.n
        obtain ⟨r0, r1, r2, r3, r4, rf⟩ := hI.r
        have q0 := rf 0
        have q1 := rf 1
        have q2 := rf 2
        have q3 := rf 3
        have q4 := rf 4
        simp only [zeroN, noS] at n0 n1 n2 n3 n4 r0 r1 r2 r3 r4
        clear hI hRr hu HIF IA hlt; go_upto_region 13 with fail
        go_region_with (refine CE.out.mono ?_; rintro e wE ⟨rfl, rfl⟩)
        all_goals
          clear n0 n1 n2 n3 n4 nf r0 r1 r2 r3 r4 rf q0 q1 q2 q3 q4; generalize ((((wr.setCell ⟨w.heap.size, 0, none⟩ (.string p)).setCell ⟨w.heap.size, 1, none⟩ (.bool dd)).setCell ⟨w.heap.size, 2, none⟩ (.int .i64 z1)).setCell ⟨w.heap.size, 3, none⟩ (.slice fa i fc)).setCell ⟨w.heap.size, 4, none⟩ (.int .i64 z2) = W9 at *
          have HN9 : Hid (NdC W9.drew w.heap.size (⟨p, dd, z1, bI, z2⟩, ⟨fa, i, fc⟩)) := HRR.out.1.below (bel_drew W9)
          have HF9 : Hid (Free w.heap.size W9.drew (⟨p, dd, z1, bI, z2⟩, ⟨fa, i, fc⟩)) := HRR.out.2.1.below (bel_drew W9)
          have HB9 : Hid (Below w.heap.size w W9.drew) := bel_tr HRR.out.2.2 (bel_drew W9)
          generalize W9.drew = W8 at *
          go_wp2; obtain ⟨y0, y1, y2, y3, y4, _⟩ := HN9.out
          simp only at y0 y1 y2 y3 y4
          refine bodyPost_ret (v := .tuple #[ndV (⟨p, dd, z1, bI, z2⟩, ⟨fa, i, fc⟩), .bool u]) ?_ rfl ⟨⟨⟨p, dd, z1, bI, z2⟩, ⟨fa, i, fc⟩, u, rfl, HF9.out, HU.out.1, HU.out.2⟩, HB9.out⟩
          unfold ndV; simp only [results, Tryz.results76]
          simp [go_sem, y0, y1, y2, y3, y4]
  · have HBAD : Hid (∀ x, FitX x → part ≠ nodeP x) := node_bad H0.out H1.out H2.out H3.out H4.out hk
    have hz := putN_at IA.out.r (zeroN, noS)
    have HPZ : Hid (NdC (putN wa w.heap.size (zeroN, noS)) w.heap.size (zeroN, noS) ∧ Below w.heap.size w (putN wa w.heap.size (zeroN, noS))) := ⟨hz.1, bel_stay IA.out.bel hz.2 (fun k hk => hk ▸ HD.out.r)⟩
    unfold putN at HPZ; have HPZ2 : Hid (NdC (((((wa.setCell ⟨w.heap.size, 0, none⟩ (.string ⟨#[]⟩)).setCell ⟨w.heap.size, 1, none⟩ (.bool false)).setCell ⟨w.heap.size, 2, none⟩ (.int .i64 0)).setCell ⟨w.heap.size, 3, none⟩ (.slice none 0 0)).setCell ⟨w.heap.size, 4, none⟩ (.int .i64 0)) w.heap.size (zeroN, noS) ∧ Below w.heap.size w (((((wa.setCell ⟨w.heap.size, 0, none⟩ (.string ⟨#[]⟩)).setCell ⟨w.heap.size, 1, none⟩ (.bool false)).setCell ⟨w.heap.size, 2, none⟩ (.int .i64 0)).setCell ⟨w.heap.size, 3, none⟩ (.slice none 0 0)).setCell ⟨w.heap.size, 4, none⟩ (.int .i64 0))) := HPZ.out
    obtain ⟨r0, r1, r2, r3, r4, rf⟩ := IA.out.r
    have q0 := rf 0
    have q1 := rf 1
    have q2 := rf 2
    have q3 := rf 3
    have q4 := rf 4
    simp only [zeroN, noS] at r0 r1 r2 r3 r4
    have HFR : Hid (∀ W, Free w.heap.size W (zeroN, noS)) := fun W => free_of_cel (g := none) (.nil rfl rfl rfl) rfl rfl (Nat.zero_le _)
    clear H0 H1 H2 H3 H4 hz HPZ; by_cases h1 : 0 ≤ z0 ∧ z0 ≤ 1
    · have G1 : Hid ((decide (0 ≤ z0) && decide (z0 ≤ 1)) = true) := by simp [h1.1, h1.2, Hid]
      have G2 : Hid ((decide (0 ≤ z3) && decide (z3 ≤ 8)) = false) := by
        show (decide (0 ≤ z3) && decide (z3 ≤ 8)) = false
        rw [Bool.eq_false_iff]
        intro e
        simp only [Bool.and_eq_true, decide_eq_true_eq] at e
        exact hk ⟨h1, e⟩
      clear hk h1; have M1 : Hid True := trivial
      go_wp2_with (first
        | (go_at_call 74; have m1 := M1.out; refine (within_i z0 0 1 true _ G1.out).mono ?_; rintro e wq ⟨rfl, hwq⟩; subst hwq; clear m1 M1)
        | (go_at_call 74; refine (within_i z3 0 8 false _ G2.out).mono ?_; rintro e wq2 ⟨rfl, hwq⟩; subst hwq))
      obtain ⟨y0, y1, y2, y3, y4, _⟩ := HPZ2.out.1
      refine bodyPost_ret (v := .tuple #[ndV (zeroN, noS), .bool false]) ?_ rfl ⟨⟨zeroN, noS, false, rfl, HFR.out _, fun e => (by cases e), fun _ => HBAD.out⟩, HPZ2.out.2⟩
      unfold ndV; simp only [results, Tryz.results76]
      simp only [zeroN, noS] at y0 y1 y2 y3 y4
      simp [go_sem, y0, y1, y2, y3, y4, zeroN, noS]
    · have G1 : Hid ((decide (0 ≤ z0) && decide (z0 ≤ 1)) = false) := by
        show (decide (0 ≤ z0) && decide (z0 ≤ 1)) = false
        rw [Bool.eq_false_iff]
        intro e
        simp only [Bool.and_eq_true, decide_eq_true_eq] at e
        exact h1 e
      clear hk h1; go_wp2_with (go_at_call 74; refine (within_i z0 0 1 false _ G1.out).mono ?_; rintro e wq ⟨rfl, hwq⟩; subst hwq)
      obtain ⟨y0, y1, y2, y3, y4, _⟩ := HPZ2.out.1
      refine bodyPost_ret (v := .tuple #[ndV (zeroN, noS), .bool false]) ?_ rfl ⟨⟨zeroN, noS, false, rfl, HFR.out _, fun e => (by cases e), fun _ => HBAD.out⟩, HPZ2.out.2⟩
      unfold ndV; simp only [results, Tryz.results76]
      simp only [zeroN, noS] at y0 y1 y2 y3 y4
      simp [go_sem, y0, y1, y2, y3, y4, zeroN, noS]
open Go.Proofs.YtcnflkjkgomnoaaGreat.Lea (bel_al2)
open Go.Proofs.YtcnflkjkgomnoaaGreat.Edi (bel_tr bel_al bel_cell)
structure AllN (base : Nat) (ps : List ByteArray) (n : Nat) (e : Ending) (w' : World) : Prop where
  ex : (∃ (xs : NS) (a : Option Addr) (c : Nat), e = .returned (.tuple #[.slice a n c, .bool true]) ∧ LX base w' a n c xs ∧ ps = xs.map nodeP ∧ ∀ x ∈ xs, FitX x) ∨ (e = .returned (.tuple #[.slice none 0 0, .bool false]) ∧ ∀ xs : NS, (∀ x ∈ xs, FitX x) → ps ≠ xs.map nodeP)
theorem src_new51 (w : World) (o : Obj) (x : NR) : Src Tryz.prog 5 24 (.slice (some ⟨w.heap.size + 1, 0, none⟩) 1 1) 1 (rowC ndC [x]) ((w.alloc o).alloc (.cells #[.string x.1.path, .bool x.1.dir, .int .i64 x.1.quota, .slice x.2.a x.2.n x.2.c, .int .i64 x.1.wr] 35)) := by
  have h := src_new5 (w.alloc o) x
  rw [show (w.alloc o).heap.size = w.heap.size + 1 by simp] at h
  exact h
theorem readNodes_val {a : Option Addr} {b off n c : Nat} {ps : List ByteArray} {w : World} (h : Strs w a b off ps) (hn : ps.length = n) (hk : n ≤ 1000000000) (hsm : ∀ p ∈ ps, p.size ≤ maxLen) :
    Calls Tryz.prog 75 #[.slice a n c, .func (.func 76) #[] #[]] w fun e w' => AllN w.heap.size ps n e w' ∧ Below w.heap.size w w' := by
  obtain ⟨ti, hi1, hi2, hi3, hi4⟩ := ndRow
  have HS : Hid (Strs w a b off ps) := h
  have HN : Hid (ps.length = n) := hn
  have HM : Hid (∀ p ∈ ps, p.size ≤ maxLen) := hsm
  clear h hn hsm; have hst := run_store_str
  have hst2 := sto2
  go_enter Tryz.func75, Tryz.ntmps75; go_wp2; go_loopw [6, 13] (fun v6 v13 wr => ∃ (i : Nat) (fa : Option Addr) (fc : Nat) (qs : List NR) (g : Option Nat), i ≤ n ∧ v13 = .int .i64 i ∧ v6 = .slice fa i fc ∧ Lot w.heap.size wr fa i fc qs g ∧ ps.take i = (qs.map (·.1)).map nodeP ∧ (∀ x ∈ qs, FitX x.1) ∧ Below w.heap.size w wr) (fun _ v13 _ => n - (intOf v13).toNat)
  case atStart => exact ⟨0, none, 0, [], none, by omega, rfl, rfl, ⟨.nil rfl rfl rfl, rfl, fun x hx => (by cases hx), fun x hx => (by cases hx)⟩, by simp, fun x hx => (by cases hx), Below.refl _ _⟩
  case round =>
    obtain ⟨i, fa, fc, qs, g, hi, rfl, rfl, hO, hx, hf, hb⟩ := hrel
    have HB : Hid (Below w.heap.size w wr) := hb
    have HO : Hid (Lot w.heap.size wr fa i fc qs g) := hO
    have HX : Hid (ps.take i = (qs.map (·.1)).map nodeP) := hx
    have HF : Hid (∀ x ∈ qs, FitX x.1) := hf
    clear hO hx hf; by_cases hlt : i < n
    · have hip : i < ps.length := by rw [HN.out]; exact hlt
      obtain rfl := HS.out.addr (by omega)
      have hcell : wr.cell? ⟨b, off + i, none⟩ = some (.string ps[i]) := (hb.cell (p := ⟨b, off + i, none⟩) (HS.out.lt (by omega))).trans (HS.out.cell i hip)
      have HT : Hid (ps.take (i + 1) = ps.take i ++ [ps[i]]) := List.take_succ_eq_append_getElem hip
      have HG : Hid (ps[i] ∈ ps) := List.getElem_mem hip
      have HGE : Hid (ps[i]? = some ps[i]) := List.getElem?_eq_getElem hip
      generalize ps[i] = p at *
      clear hb hip; go_wp2_with fail
      refine (readNode_val p _ (HM.out p HG.out)).mono ?_
      rintro e w1 ⟨⟨⟨xp, xd, xq, xbs, xw⟩, ⟨ra, rn, rc⟩, v, rfl, hfr, hy, hno⟩, b1⟩; have B1 : Hid (Below wr.heap.size wr w1) := b1
      have HFR : Hid (Free wr.heap.size w1 (⟨xp, xd, xq, xbs, xw⟩, ⟨ra, rn, rc⟩)) := hfr
      have HY : Hid (v = true → p = nodeP ⟨xp, xd, xq, xbs, xw⟩ ∧ FitX ⟨xp, xd, xq, xbs, xw⟩) := hy
      have HNO : Hid (v = false → ∀ l, FitX l → p ≠ nodeP l) := hno
      clear b1 hy hno hcell hfr; unfold ndV; simp only
      cases v with
      | false =>
        have HN2 : Hid (∀ l, FitX l → p ≠ nodeP l) := HNO.out rfl
        clear HNO HY; go_wp2; go_ret2; refine ⟨⟨.inr ⟨rfl, fun ys hys e => ?_⟩⟩, bel_tr HB.out (bel_tr B1.out (bel_al _ _))⟩
        have h1 := HGE.out
        rw [e, List.getElem?_map] at h1
        cases hq : ys[i]? with
        | none => rw [hq] at h1; cases h1
        | some y =>
          rw [hq] at h1
          exact HN2.out y (hys y (List.mem_of_getElem? hq)) (Option.some.inj h1).symm
      | true =>
        obtain ⟨hp1, hp2⟩ := HY.out rfl
        have HP1 : Hid (p = nodeP ⟨xp, xd, xq, xbs, xw⟩) := hp1
        have HP2 : Hid (FitX ⟨xp, xd, xq, xbs, xw⟩) := hp2
        clear hp1 hp2 HY HNO; have HPU : Hid (∀ o o2 a2 c2 w5 g5, Cel (Grow (fun k => w.heap.size ≤ k) ((w1.alloc o).alloc o2) w5) w5 5 (.slice a2 (i + 1) c2) (i + 1) (rowC ndC qs ++ rowC ndC [((⟨xp, xd, xq, xbs, xw⟩ : Nd), (⟨ra, rn, rc⟩ : RS))]) g5 → Stay (fun k => g = some k) ((w1.alloc o).alloc o2) w5 → (∀ k, g5 = some k → g = some k ∨ ((w1.alloc o).alloc o2).heap.size ≤ k) → Lot w.heap.size w5 a2 (i + 1) c2 (qs ++ [(⟨xp, xd, xq, xbs, xw⟩, ⟨ra, rn, rc⟩)]) g5 ∧ Below w.heap.size wr w5) := fun o o2 a2 c2 w5 g5 h1 h2 h3 => HO.out.push HB.out.size (HFR.out.below (bel_al w1 o)) (bel_tr B1.out (bel_al w1 o)) h1 h2 h3
        go_wp2_with (at_builtin; refine wpList_append_cel _ rfl _ _ 24 24 rfl 35 ti _ 5 64 Tryz.underlying24 hi1 hi2 hi3 hi4 rfl (O := fun k => w.heap.size ≤ k) _ i _ g rfl ((HO.out.below B1.out).below (bel_al2 _ _ _)).cel _ 1 (rowC ndC [((⟨xp, xd, xq, xbs, xw⟩ : Nd), (⟨ra, rn, rc⟩ : RS))]) rfl (src_new51 w1 _ (⟨xp, xd, xq, xbs, xw⟩, ⟨ra, rn, rc⟩)) (by unfold maxLen; omega) (by omega) ?_; intro a2 c2 w2 g2 hC2 hS2 hg2; have A2 : Hid _ := HPU.out _ _ _ _ _ _ hC2 hS2 hg2; clear hC2 hS2 hg2)
        go_roundw
        case rel => exact ⟨i + 1, a2, c2, qs ++ [(⟨xp, xd, xq, xbs, xw⟩, ⟨ra, rn, rc⟩)], g2, by omega, by go_num, rfl, A2.out.1, by rw [HT.out, HX.out, HP1.out, List.map_append, List.map_append]; rfl, fun x hx => (List.mem_append.1 hx).elim (HF.out x) (fun e => by rw [List.mem_singleton.1 e]; exact HP2.out), HB.out.trans A2.out.2⟩
        case measure => simp [intOf]; omega
    · obtain rfl : i = n := by omega
      have hgd : decide ((i : Int) < (i : Int)) = false := decide_eq_false (by omega)
      have HXX : Hid (ps = (qs.map (·.1)).map nodeP) := by rw [← HX.out, ← HN.out, List.take_length]; exact rfl
      clear hb hlt; go_wp2; go_ret2; exact ⟨⟨.inl ⟨qs.map (·.1), fa, fc, rfl, ⟨qs, g, rfl, HO.out⟩, HXX.out, fun x hx => by obtain ⟨y, hy, rfl⟩ := List.mem_map.1 hx; exact HF.out y hy⟩⟩, HB.out⟩
open Go.Proofs.YtcnflkjkgomnoaaGreat.Edi (numsB takeN bel_tr bel_al bel_cell bel_drew)
open Go.WideShapes (bytes_inj)
def isT (s : ByteArray) : Bool := s.data.toList[0]? == some 84
theorem isT_iff {s : ByteArray} : isT s = true ↔ ∃ left : ByteArray, s.data.toList = 84 :: left.data.toList := by
  unfold isT; cases h : s.data.toList with
  | nil => simp
  | cons c r =>
    simp only [List.getElem?_cons_zero, beq_iff_eq, Option.some.injEq, List.cons.injEq]
    exact ⟨fun e => ⟨mk r, e, (mk_li r).symm⟩, fun ⟨_, e, _⟩ => e⟩
theorem isT_ext {s : ByteArray} (h : 1 ≤ s.size) : ((s.extract 0 1).toList == [84]) = isT s := by
  rw [ByteArray.toList_eq, Wir.cut_list]
  unfold isT; have hl := Wir.size_list s
  cases hs : s.data.toList with
  | nil => rw [hs] at hl; simp at hl; omega
  | cons c r => simp
theorem hasPrefix_val (s : ByteArray) (v : Bool) (w : World) (hs : s.size ≤ maxLen) (hv : isT s = v) :
    Calls Tryz.prog 168 #[.string s, .string ⟨#[84]⟩] w fun e w' => e = .returned (.bool v) ∧ Below w.heap.size w w' := by
  have hmx : s.size ≤ 9223372036854775807 := by unfold maxLen at hs; omega
  by_cases h0 : 1 ≤ s.size
  · have he := isT_ext h0
    rw [hv] at he
    have hg : decide ((1 : Int) ≤ (s.size : Int)) = true := decide_eq_true (by omega)
    have hg2 : decide (1 ≤ s.size) = true := decide_eq_true h0
    clear hv hs; go_enter Tryz.func168, Tryz.ntmps168; go_wp2; go_ret; exact ⟨rfl, Below.refl _ _⟩
  · have hz : s.size = 0 := by omega
    have hvf : v = false := by
      have hl := Wir.size_list s
      rw [← hv]
      unfold isT; rw [List.length_eq_zero_iff.1 (hl.trans hz)]
      rfl
    subst hvf; have hg : decide ((1 : Int) ≤ (s.size : Int)) = false := decide_eq_false (by omega)
    have hg2 : decide (1 ≤ s.size) = false := decide_eq_false h0
    clear hv hs hz; go_enter Tryz.func168, Tryz.ntmps168; go_wp2; go_ret; exact ⟨rfl, Below.refl _ _⟩
theorem cutP_yes (s left : ByteArray) (w : World) (hs : s.size ≤ maxLen) (h : s.data.toList = 84 :: left.data.toList) :
    Calls Tryz.prog 149 #[.string s, .string ⟨#[84]⟩] w fun e w' => e = .returned (.tuple #[.string left, .bool true]) ∧ Below w.heap.size w w' := by
  have hmx : s.size ≤ 9223372036854775807 := by unfold maxLen at hs; omega
  have hT : isT s = true := isT_iff.2 ⟨left, h⟩
  have h1 : 1 ≤ s.size := by rw [← Wir.size_list, h]; simp
  have he : s.extract 1 s.size = left := bytes_inj (by rw [Wir.ext_list, h]; rfl)
  have CP : Hid (∀ W, Calls Tryz.prog 168 #[.string s, .string ⟨#[84]⟩] W fun e w' => e = .returned (.bool true) ∧ Below W.heap.size W w') := fun W => hasPrefix_val s true W hs hT
  clear hT h hs; go_enter Tryz.func149, Tryz.ntmps149; go_wp2_with fail
  refine (CP.out _).mono ?_
  rintro e w1 ⟨rfl, b1⟩; go_wp2; go_ret2; exact ⟨rfl, b1⟩
theorem cutP_no (s : ByteArray) (w : World) (hs : s.size ≤ maxLen) (h : isT s = false) :
    Calls Tryz.prog 149 #[.string s, .string ⟨#[84]⟩] w fun e w' => e = .returned (.tuple #[.string s, .bool false]) ∧ Below w.heap.size w w' := by
  have CP : Hid (∀ W, Calls Tryz.prog 168 #[.string s, .string ⟨#[84]⟩] W fun e w' => e = .returned (.bool false) ∧ Below W.heap.size W w') := fun W => hasPrefix_val s false W hs h
  clear h hs; go_enter Tryz.func149, Tryz.ntmps149; go_wp2_with fail
  refine (CP.out _).mono ?_
  rintro e w1 ⟨rfl, b1⟩; go_wp2; go_ret2; exact ⟨rfl, b1⟩
theorem cut_any (s : ByteArray) (V : Value) (w : World) (h : ∀ W, Calls Tryz.prog 149 #[.string s, .string ⟨#[84]⟩] W fun e w' => e = .returned V ∧ Below W.heap.size W w') (l : ByteArray) (v : Bool) (hV : V = .tuple #[.string l, .bool v]) :
    Calls Tryz.prog 117 #[.string s, .string ⟨#[84]⟩] w fun e w' => e = .returned V ∧ Below w.heap.size w w' := by
  subst hV; have CP : Hid (∀ W, Calls Tryz.prog 149 #[.string s, .string ⟨#[84]⟩] W fun e w' => e = .returned (.tuple #[.string l, .bool v]) ∧ Below W.heap.size W w') := h
  clear h; go_enter Tryz.func117, Tryz.ntmps117; go_wp2_with fail
  refine (CP.out _).mono ?_
  rintro e w1 ⟨rfl, b1⟩; go_wp2; go_ret2; exact ⟨rfl, b1⟩
structure HeadR (part : ByteArray) (e : Ending) : Prop where
  ex : ∃ (z0 z1 z2 z3 z4 z5 : Int) (v : Bool), e = .returned (.tuple #[spV ⟨z0, z1, z2, z3, [], []⟩ noS noS, .int .i64 z4, .int .i64 z5, .bool v]) ∧ (v = true → part = headL [z0, z1, z2, z3, z4, z5] ∧ ∀ z ∈ [z0, z1, z2, z3, z4, z5], I64 z) ∧ (v = false → ∀ zs : List Int, zs.length = 6 → (∀ z ∈ zs, I64 z) → part ≠ headL zs)
theorem readHead_no (part : ByteArray) (w : World) (hp : part.size ≤ maxLen) (h : isT part = false) :
    Calls Tryz.prog 73 #[.string part] w fun e w' => HeadR part e ∧ Below w.heap.size w w' := by
  have HI : Hid (HeadR part (.returned (.tuple #[spV ⟨0, 0, 0, 0, [], []⟩ noS noS, .int .i64 0, .int .i64 0, .bool false]))) := ⟨0, 0, 0, 0, 0, 0, false, rfl, fun e => (by cases e), fun _ zs _ _ => head_no (fun left hl => by rw [isT_iff.2 ⟨left, hl⟩] at h; cases h) zs⟩
  have CP : Hid (∀ W, Calls Tryz.prog 117 #[.string part, .string ⟨#[84]⟩] W fun e w' => e = .returned (.tuple #[.string part, .bool false]) ∧ Below W.heap.size W w') := fun W => cut_any part _ W (fun W => cutP_no part W hp h) part false rfl
  clear h hp; have hst2 := sto2
  go_enter Tryz.func73, Tryz.ntmps73; go_wp2_with fail
  refine (CP.out _).mono ?_
  rintro e w1 ⟨rfl, b1⟩; have B1 : Hid (Below w.heap.size w w1) := bel_tr (bel_al _ _) b1
  have hS := (SpC.new w 27 zeroS noS noS).below b1
  obtain ⟨p1, _⟩ := put6_at hS zeroS noS noS
  have HS : Hid (SpC (put6 w1 w.heap.size zeroS noS noS) w.heap.size zeroS noS noS) := p1
  have HB : Hid (Below w.heap.size w (put6 w1 w.heap.size zeroS noS noS)) := bel_put6 B1.out hS (Nat.le_refl _) _ _ _
  obtain ⟨c0, c1, c2, c3, c4, c5, f⟩ := hS
  clear b1 CP p1; rw [put6_def] at HS HB
  simp only [zeroS, noS] at c0 c1 c2 c3 c4 c5 f HS HB
  go_wp2; obtain ⟨q0, q1, q2, q3, q4, q5, _⟩ := HS.out
  refine bodyPost_ret (v := .tuple #[spV ⟨0, 0, 0, 0, [], []⟩ noS noS, .int .i64 0, .int .i64 0, .bool false]) ?_ rfl ⟨HI.out, HB.out⟩
  unfold spV noS; simp only [results, Tryz.results73]
  simp [go_sem, q0, q1, q2, q3, q4, q5]
theorem Bx.put6 {w : World} {bl bs R : Nat} {s : St} {s0 : Sp} {N0 L0 : RS} (h : Bx w bl bs s) (hS : SpC w R s0 N0 L0) (t : Sp) (N L : RS) (h1 : bl ≠ R) (h2 : bs ≠ R) : Bx (Spa.put6 w R t N L) bl bs s :=
  h.keep (put6_at hS t N L).2 h1 h2
theorem readHead_yes (part left : ByteArray) (w : World) (hp : part.size ≤ maxLen) (h : part.data.toList = 84 :: left.data.toList) :
    Calls Tryz.prog 73 #[.string part] w fun e w' => HeadR part e ∧ Below w.heap.size w w' := by
  obtain ⟨⟨z0, s1⟩, h0⟩ : ∃ x, numS (left, true) = x := ⟨_, rfl⟩
  obtain ⟨⟨z1, s2⟩, h1⟩ : ∃ x, numS s1 = x := ⟨_, rfl⟩
  obtain ⟨⟨z2, s3⟩, h2⟩ : ∃ x, numS s2 = x := ⟨_, rfl⟩
  obtain ⟨⟨z3, s4⟩, h3⟩ : ∃ x, numS s3 = x := ⟨_, rfl⟩
  obtain ⟨⟨z4, s5⟩, h4⟩ : ∃ x, numS s4 = x := ⟨_, rfl⟩
  obtain ⟨⟨z5, s6⟩, h5⟩ : ∃ x, numS s5 = x := ⟨_, rfl⟩
  obtain ⟨u, hu⟩ : ∃ x, endB s6 = x := ⟨_, rfl⟩
  have hif := head_iff h h0 h1 h2 h3 h4 h5
  have HI : Hid (HeadR part (.returned (.tuple #[spV ⟨z0, z1, z2, z3, [], []⟩ noS noS, .int .i64 z4, .int .i64 z5, .bool u]))) := ⟨z0, z1, z2, z3, z4, z5, u, rfl, fun e => hif.1 (hu.trans e), fun e => hif.2 (hu.trans e)⟩
  have CP : Hid (∀ W, Calls Tryz.prog 117 #[.string part, .string ⟨#[84]⟩] W fun e w' => e = .returned (.tuple #[.string left, .bool true]) ∧ Below W.heap.size W w') := fun W => cut_any part _ W (fun W => cutP_yes part left W hp h) left true rfl
  have HLS : Hid (left.size ≤ maxLen) := by
    have h1 := congrArg List.length h
    rw [Wir.size_list, List.length_cons, Wir.size_list] at h1
    show left.size ≤ maxLen
    omega
  have H0 : Hid (numS (left, true) = (z0, s1)) := h0
  have H1 : Hid (numS s1 = (z1, s2)) := h1
  have H2 : Hid (numS s2 = (z2, s3)) := h2
  have H3 : Hid (numS s3 = (z3, s4)) := h3
  have H4 : Hid (numS s4 = (z4, s5)) := h4
  have H5 : Hid (numS s5 = (z5, s6)) := h5
  have HE : Hid (endB s6 = u) := hu
  clear h0 h1 h2 h3 h4 h5 hu hp h hif; have hst2 := sto2
  go_enter Tryz.func73, Tryz.ntmps73; go_wp2_with fail
  refine (CP.out _).mono ?_
  rintro e w1 ⟨rfl, b1⟩; have B1 : Hid (Below w.heap.size w w1) := bel_tr (bel_al _ _) b1
  have S1 : Hid (SpC w1 w.heap.size zeroS noS noS) := (SpC.new w 27 zeroS noS noS).below b1
  have hw1 : w.heap.size < w1.heap.size := by have := b1.size; simp at this; omega
  clear b1 CP; go_wp2_with fail
  refine (over_val left _ HLS.out).mono ?_
  rintro e w2 ⟨bl, bs, rfl, hB, hl, hs, b2⟩; have B2 : Hid (Below w.heap.size w w2) := bel_tr B1.out b2
  have S2 : Hid (SpC w2 w.heap.size zeroS noS noS) := S1.out.below b2
  have X2 : Hid (Bx w2 bl bs (left, true)) := hB
  have hbl : bl ≠ w.heap.size := by omega
  have hbs : bs ≠ w.heap.size := by omega
  have HO : Hid (∀ k, Two bl bs k → w.heap.size ≤ k) := fun k hk => by rcases hk with rfl | rfl <;> omega
  have HNR : Hid (¬ Two bl bs w.heap.size) := fun e => by rcases e with e | e <;> omega
  clear b2 hB; go_wp2_with fail
  refine (num_cl X2.out z0 s1 H0.out).mono ?_
  rintro e w3 ⟨rfl, hB3, st3⟩; have X3 : Hid (Bx w3 bl bs s1) := hB3
  have T3 : Hid (Stay (Two bl bs) w2 w3) := st3
  clear hB3 st3; go_wp2_with fail
  refine (num_cl X3.out z1 s2 H1.out).mono ?_
  rintro e w4 ⟨rfl, hB4, st4⟩; have X4 : Hid (Bx w4 bl bs s2) := hB4
  have T4 : Hid (Stay (Two bl bs) w2 w4) := T3.out.then_same st4
  clear hB4 st4; go_wp2_with fail
  refine (num_cl X4.out z2 s3 H2.out).mono ?_
  rintro e w5 ⟨rfl, hB5, st5⟩; have X5 : Hid (Bx w5 bl bs s3) := hB5
  have T5 : Hid (Stay (Two bl bs) w2 w5) := T4.out.then_same st5
  clear hB5 st5; go_wp2_with fail
  refine (num_cl X5.out z3 s4 H3.out).mono ?_
  rintro e w6 ⟨rfl, hB6, st6⟩; have X6 : Hid (Bx w6 bl bs s4) := hB6
  have T6 : Hid (Stay (Two bl bs) w2 w6) := T5.out.then_same st6
  have S6 : Hid (SpC w6 w.heap.size zeroS noS noS) := S2.out.keep T6.out HNR.out
  have B6 : Hid (Below w.heap.size w w6) := bel_stay B2.out T6.out HO.out
  have HPW : Hid (SpC (Spa.put6 w6 w.heap.size ⟨z0, z1, z2, z3, [], []⟩ noS noS) w.heap.size ⟨z0, z1, z2, z3, [], []⟩ noS noS ∧ Bx (Spa.put6 w6 w.heap.size ⟨z0, z1, z2, z3, [], []⟩ noS noS) bl bs s4 ∧ Below w.heap.size w (Spa.put6 w6 w.heap.size ⟨z0, z1, z2, z3, [], []⟩ noS noS)) := ⟨(put6_at S6.out _ _ _).1, X6.out.put6 S6.out _ _ _ hbl hbs, bel_put6 B6.out S6.out (Nat.le_refl _) _ _ _⟩
  rw [put6_def] at HPW
  obtain ⟨c0, c1, c2, c3, c4, c5, f⟩ := S6.out
  simp only [zeroS, noS] at c0 c1 c2 c3 c4 c5 f
  clear hB6 st6 T3 T4 T5 X3 X4 X5; go_wp2_with fail
  unfold noS at HPW; simp only at HPW
  clear c0 c1 c2 c3 c4 c5 f; generalize (((((w6.setCell ⟨w.heap.size, 0, none⟩ (.int .i64 z0)).setCell ⟨w.heap.size, 1, none⟩ (.int .i64 z1)).setCell ⟨w.heap.size, 2, none⟩ (.int .i64 z2)).setCell ⟨w.heap.size, 3, none⟩ (.int .i64 z3)).setCell ⟨w.heap.size, 4, none⟩ (.slice none 0 0)).setCell ⟨w.heap.size, 5, none⟩ (.slice none 0 0) = W at *
  refine (num_cl HPW.out.2.1 z4 s5 H4.out).mono ?_
  rintro e w7 ⟨rfl, hB7, st7⟩; have X7 : Hid (Bx w7 bl bs s5) := hB7
  have T7 : Hid (Stay (Two bl bs) W w7) := st7
  clear hB7 st7; go_wp2_with fail
  refine (num_cl X7.out z5 s6 H5.out).mono ?_
  rintro e w8 ⟨rfl, hB8, st8⟩; have X8 : Hid (Bx w8 bl bs s6) := hB8
  have T8 : Hid (Stay (Two bl bs) W w8) := T7.out.then_same st8
  have S8 : Hid (SpC w8 w.heap.size ⟨z0, z1, z2, z3, [], []⟩ noS noS) := by
    have h := HPW.out.1
    exact SpC.keep (N := noS) (L := noS) h T8.out HNR.out
  have B8 : Hid (Below w.heap.size w w8) := bel_stay HPW.out.2.2 T8.out HO.out
  clear hB8 st8 T7; have CE : Hid (Calls Tryz.prog 153 #[.pointer (some ⟨bs, 0, none⟩), .pointer (some ⟨bl, 0, none⟩)] w8.drew fun e w' => e = .returned (.bool u) ∧ w' = w8.drew) := end_cl (X8.out.below (bel_drew w8)) u HE.out
  obtain ⟨c0, c1, c2, c3, c4, c5, f⟩ := S8.out
  simp only [noS] at c0 c1 c2 c3 c4 c5 f
  have f0 := f 0
  have f1 := f 1
  have f2 := f 2
  have f3 := f 3
  have f4 := f 4
  have f5 := f 5
  have HPZ : Hid (SpC (Spa.put6 w8 w.heap.size ⟨z0, z1, z2, z3, [], []⟩ noS noS) w.heap.size ⟨z0, z1, z2, z3, [], []⟩ noS noS ∧ Below w.heap.size w (Spa.put6 w8 w.heap.size ⟨z0, z1, z2, z3, [], []⟩ noS noS)) := ⟨(put6_at S8.out _ _ _).1, bel_put6 B8.out S8.out (Nat.le_refl _) _ _ _⟩
  rw [put6_def] at HPZ
  unfold noS at HPZ; simp only at HPZ
  go_upto_region 7 with fail
  go_region_with (refine CE.out.mono ?_; rintro e wE ⟨rfl, rfl⟩)
  all_goals
    clear c0 c1 c2 c3 c4 c5 f f0 f1 f2 f3 f4 f5; generalize (((((w8.setCell ⟨w.heap.size, 0, none⟩ (.int .i64 z0)).setCell ⟨w.heap.size, 1, none⟩ (.int .i64 z1)).setCell ⟨w.heap.size, 2, none⟩ (.int .i64 z2)).setCell ⟨w.heap.size, 3, none⟩ (.int .i64 z3)).setCell ⟨w.heap.size, 4, none⟩ (.slice none 0 0)).setCell ⟨w.heap.size, 5, none⟩ (.slice none 0 0) = W9 at *
    have HS9 : Hid (SpC W9.drew w.heap.size ⟨z0, z1, z2, z3, [], []⟩ noS noS) := SpC.below (N := noS) (L := noS) HPZ.out.1 (bel_drew W9)
    have HB9 : Hid (Below w.heap.size w W9.drew) := bel_tr HPZ.out.2 (bel_drew W9)
    generalize W9.drew = W8 at *
    go_wp2; obtain ⟨q0, q1, q2, q3, q4, q5, _⟩ := HS9.out
    refine bodyPost_ret (v := .tuple #[spV ⟨z0, z1, z2, z3, [], []⟩ noS noS, .int .i64 z4, .int .i64 z5, .bool u]) ?_ rfl ⟨HI.out, HB9.out⟩
    unfold spV noS; simp only [results, Tryz.results73]
    simp [go_sem, q0, q1, q2, q3, q4, q5, noS]
theorem readHead_val (part : ByteArray) (w : World) (hp : part.size ≤ maxLen) :
    Calls Tryz.prog 73 #[.string part] w fun e w' => HeadR part e ∧ Below w.heap.size w w' := by
  cases h : isT part with
  | false => exact readHead_no part w hp h
  | true =>
    obtain ⟨left, hl⟩ := isT_iff.1 h
    exact readHead_yes part left w hp hl
end Go.Proofs.YtcnflkjkgomnoaaGreat.Img
