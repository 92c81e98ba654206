/- Part 54 of the proof: SpaceFJ, SpaceFL. -/
import Derived.Test.YtdilfbfkeiaafaaGreatB36
set_option maxRecDepth 100000
set_option maxHeartbeats 8000000
namespace Go.Proofs.YtdilfbfkeiaafaaGreat.Spa
open Go.RowKit Go.Proofs.YtdilfbfkeiaafaaGreat
open Go.Proofs.YtdilfbfkeiaafaaGreat.Lea (LS Ls findX putL renX LL LO LsR lsC wideL)
open Go.Proofs.YtdilfbfkeiaafaaGreat.Edi (Ed Nm EdAt edV)
theorem addBlock_writ {base M0 S : Nat} {w : World} {s : Sp} {N L : RS} {ps : List NR} {gb : Nat} {gl : Option Nat} (h : Pre base M0 S w s N L ps gb gl) (e : Ed) (ea : Option Addr) (em eq : Nat) (hs : e.p.size ≤ maxLen) (E : Int) (hE : WritE s.ns e.p e.c E) (h0 : E ≠ 0) (hp : 0 < ps.length) :
    Calls Tryz.prog 61 #[.pointer (some ⟨S, 0, none⟩), edV e ea em eq] w fun r w' => LeftR S base M0 E w r w' := by
  have hE2 : WritE (ps.map (·.1)) e.p e.c E := by rw [h.own.map]; exact hE
  have CW : Hid (∀ W, Below w.heap.size w W → Calls Tryz.prog 107 #[.pointer (some ⟨S, 0, none⟩), edV e ea em eq] W fun e w' => e = leftV E ∧ Below W.heap.size W w') := fun W hb => written_no ((h.below hb).lies hp) e ea em eq hs E hE2 h0
  obtain ⟨k, p, t, cl, l, nn, ls⟩ := e
  unfold edV at CW ⊢
  simp only at CW ⊢
  have hst := run_store_str
  clear h hs hE hE2 h0 hp; go_enter Tryz.func61, Tryz.ntmps61; go_wp2_with (go_at_call 107; refine (CW.out _ (bel_tr (bel_al _ _) (bel_al _ _))).mono ?_; rintro e w1 ⟨rfl, c1⟩)
  exact left_post rfl (LeftR.of (bel_tr (bel_tr (bel_al _ _) (bel_al _ _)) c1))
theorem addBlock_lens {base M0 S : Nat} {w : World} {s : Sp} {N L : RS} {ps : List NR} {gb : Nat} {gl : Option Nat} (h : Pre base M0 S w s N L ps gb gl) (e : Ed) (ea : Option Addr) (em eq : Nat) (hn : Nm w ea em e.ls) (hnb : ∀ ad, ea = some ad → 0 < em → ad.block < base) (hs : e.p.size ≤ maxLen) (i : Nat) (x : Nd) (hw : Wr s e i x) (hl : ¬ LenOk x.bs e.ls) (h8 : x.bs.length ≤ 8) :
    Calls Tryz.prog 61 #[.pointer (some ⟨S, 0, none⟩), edV e ea em eq] w fun r w' => LeftR S base M0 1 w r w' := by
  have hiq : Is (ps.map (·.1)) e.p i x := by rw [h.own.map]; exact hw.is
  obtain ⟨r, hX⟩ := is_at' hiq
  obtain ⟨hF0, hg0, hiN, hpos, _⟩ := h.free' hX
  have hrn : x.bs.length = r.n := hF0.ok.bs.len
  have CW : Hid (∀ W, Below w.heap.size w W → Calls Tryz.prog 107 #[.pointer (some ⟨S, 0, none⟩), edV e ea em eq] W fun e w' => e = .returned (.pointer (some ⟨gb, i * 5, none⟩)) ∧ Below W.heap.size W w') := fun W hb => written_ok ((h.below hb).lies hpos) e ea em eq hs i x hiq hw.dir hw.wr
  have CS : Hid (∀ W, Below w.heap.size w W → Calls Tryz.prog 108 #[.pointer (some ⟨gb, i * 5, none⟩), .slice ea em eq] W fun r' w' => r' = leftV 1 ∧ Stay (fun k => r.blk = some k) W w') := fun W hb => by
    have hP := h.below hb
    obtain ⟨hF, hg, _, _, _⟩ := hP.free' hX
    refine setLengths_no (x := x) (s := r) hF ((hP.lies hpos).at' hX).c3 hg (hn.below hb) (fun ad had hp e => ?_) hl (by omega)
    have := hF.blk_ge _ e
    have := hnb ad had hp
    omega
  have HSB : Hid (S < base) := h.sb
  have HGE : Hid (∀ k, r.blk = some k → base ≤ k ∧ k < M0) := fun k hk => ⟨hF0.blk_ge k hk, h.m3 _ (List.mem_of_getElem? hX) k hk⟩
  obtain ⟨k, p, t, cl, l, nn, ls⟩ := e
  unfold edV at CW ⊢
  simp only at CW CS ⊢
  have hst := run_store_str
  clear h hn hnb hs hw hl h8 hiq hX hF0 hg0 hiN hpos hrn; go_enter Tryz.func61, Tryz.ntmps61; go_wp2_with (first
    | (go_at_call 107; refine (CW.out _ (bel_tr (bel_al _ _) (bel_al _ _))).mono ?_; rintro e w1 ⟨rfl, c1⟩; obtain ⟨q1, q2, q3, q4, q5, q6⟩ := two_boxes c1; have y6 := q1 6 _ rfl; have B1 : Hid (Below w.heap.size w w1) := q5; clear c1 q1 q2 q3 q4 q5 q6)
    | (go_at_call 108; refine (CS.out _ B1.out).mono ?_; rintro e w2 ⟨rfl, hS2⟩))
  exact left_post rfl ⟨rfl, (Stay.of_below B1.out).trans hS2 (fun k _ e => .inr (HGE.out k e)), fun s N L h => ⟨s, N, L, (h.below B1.out).keep hS2 (fun e => by have := HGE.out S e; have := HSB.out; omega)⟩⟩
theorem run_append_zero {P : Program} (w : World) (t tx ty e : TypeId) (i : TypeInfo) (z : Value) (size bytes : Nat) (ht : P.underlying t = some (.slice e)) (hi : P.info? e = some i) (hz : i.zero = some z) (hsize : i.size = size) (hby : i.bytes = bytes) (hzs : z.cells.size = size) (p : Option Addr)
    (x : Value) (m : Nat) (news : List Value) (hs : Src P size tx x m news w) (hm : 0 < m) (hlen : m ≤ maxLen) (hlb : m * bytes ≤ 140737488355328) :
    ∃ c' w', (Builtin.append_ #[t, tx] ty #[.slice p 0 0, x]).run P w = .ok (.slice (some ⟨w.heap.size, 0, none⟩) m c') w' ∧ Cel (fun k => w.heap.size ≤ k) w' size (.slice (some ⟨w.heap.size, 0, none⟩) m c') m news (some w.heap.size) ∧ Below w.heap.size w w' := by
  have hnl := hs.newsLen
  have hs' : Src P i.size tx x m news w := by rw [hsize]; exact hs
  have hold : (Builtin.firstCells i.size 0 (.slice p 0 0)).run P w.drew = .ok ([] : List Value).toArray w.drew := by
    cases p with
    | none => simp [Builtin.firstCells]
    | some ad => exact run_firstCells_some w.drew i.size 0 ad 0 0 [] (by simp) (fun j u hu => by simp at hu)
  have h63 : m ≤ 9223372036854775807 := by unfold maxLen at hlen; omega
  have hrun := run_append_grow_src (P := P) w t tx ty e i z ht hi hz p 0 0 [] hold x m news hs' (by omega) (by omega) (growslice_fits (by omega) (by rw [hby, Nat.zero_add]; exact hlb))
  rw [Nat.zero_add] at hrun
  have hge := grownCap_ge w m 0 e
  have hcm := grownCap_le_maxLen w m 0 e hlen
  generalize grownCap w m 0 e = c' at *
  rw [List.nil_append] at hrun
  have hsz : (news.toArray ++ Builtin.zeroCells z.cells (c' - m)).size = c' * size := by
    rw [Array.size_append, List.size_toArray, hnl, size_zeroCells, hzs, ← Nat.add_mul]
    congr 1; omega
  refine ⟨c', _, hrun, .row w.heap.size c' rfl hnl (Nat.le_refl _) (by simp) hge hcm (fun j hj => ?_) (fun j hj => ⟨?_, ?_⟩), bel_tr (bel_drewN w 1) (bel_al w.drew _)⟩
  · have e1 : (w.drew.alloc (.cells (news.toArray ++ Builtin.zeroCells z.cells (c' - m)) e)).cell? ⟨w.heap.size, j, none⟩ = _ := World.cell?_alloc_new w.drew _ _ j
    rw [e1, Array.getElem?_append_left (by rw [List.size_toArray]; exact hj), List.getElem?_toArray, List.getElem?_eq_getElem hj]
  · have e1 : (w.drew.alloc (.cells (news.toArray ++ Builtin.zeroCells z.cells (c' - m)) e)).cell? ⟨w.heap.size, j, none⟩ = _ := World.cell?_alloc_new w.drew _ _ j
    rw [e1, Array.getElem?_eq_getElem (by rw [hsz]; exact hj)]
    rfl
  · exact World.frozen?_alloc_new w.drew _ _ j
theorem append_blk {base : Nat} {w : World} {x : Nd} {s : RS} (hF : Free base w (x, s)) (hR : Rm w s) (hB : base ≤ w.heap.size) (h8 : s.n ≤ 8) (b : Blk) (xv : Value) (hs : Src Tryz.prog 3 33 xv 1 (blkC b) w) (ty : TypeId) :
    ∃ a' c' w' g', (Builtin.append_ #[33, 33] ty #[.slice s.a s.n s.c, xv]).run Tryz.prog w = .ok (.slice a' (s.n + 1) c') w' ∧ Cel (fun k => base ≤ k) w' 3 (.slice a' (s.n + 1) c') (s.n + 1) (rowC blkC (x.bs ++ [b])) g' ∧ Stay (fun k => s.blk = some k) w w' ∧ (∀ k, g' = some k → s.blk = some k ∨ w.heap.size ≤ k) := by
  obtain ⟨ti, hi1, hi2, hi3, hi4⟩ := blkRow
  have hl : x.bs.length = s.n := hF.ok.bs.len
  rcases Nat.eq_zero_or_pos s.n with h0 | h0
  · have hb0 : x.bs = [] := List.length_eq_zero_iff.1 (by omega)
    have hc := hR.z h0
    obtain ⟨c', w', hrun, hC, hBl⟩ := run_append_zero (P := Tryz.prog) w 33 33 ty 31 ti _ 3 24 Tryz.underlying33 hi1 hi2 hi3 hi4 rfl s.a xv 1 (blkC b) hs (by omega) (by unfold maxLen; omega) (by omega)
    refine ⟨some ⟨w.heap.size, 0, none⟩, c', w', some w.heap.size, ?_, ?_, Stay.of_below hBl, fun k hk => .inr (by cases hk; exact Nat.le_refl _)⟩
    · rw [h0, hc]; exact hrun
    · rw [h0, hb0, Nat.zero_add, List.nil_append, rowC_one]
      exact hC.stay (Nat.le_refl _) (fun _ _ => rfl) (fun k hk => Nat.le_trans hB hk)
  · obtain ⟨g, ha, hlv⟩ := hR.live h0
    have hblk : s.blk = some g := by unfold RS.blk; rw [if_neg (by omega), ha]; rfl
    have hC : Cel (fun k => base ≤ k) w 3 (.slice s.a s.n s.c) s.n (rowC blkC x.bs) (some g) := by
      rw [ha]
      refine .row g s.c rfl (by rw [rowC_len wideB, hl]) (hF.blk_ge g hblk) (hR.lt g hblk) hR.le hR.lid (fun j hj => ?_) hlv
      obtain ⟨b2, off2, h1, h2⟩ := hF.ok.bs.cells h0
      have h1' : s.a = some ⟨b2, off2, none⟩ := h1
      rw [ha] at h1'
      cases h1'
      have hj0 := hj
      rw [rowC_len wideB] at hj
      have e := rowC_at wideB x.bs (j / 3) (by omega) (j % 3) (by omega)
      have e2 : j / 3 * 3 + j % 3 = j := by omega
      rw [e2] at e
      rw [List.getElem?_eq_getElem hj0] at e
      have := h2 (j / 3) (by show j / 3 < x.bs.length; omega) (j % 3) _ e.symm
      rw [show 0 + j / 3 * 3 + j % 3 = j by omega] at this
      exact this
    obtain ⟨a', c', w', g', hrun, r1, r2, r3⟩ := run_append_cel (P := Tryz.prog) w 33 33 ty 31 ti _ 3 24 Tryz.underlying33 hi1 hi2 hi3 hi4 rfl hC xv 1 (blkC b) hs (by unfold maxLen; omega) (by omega)
    refine ⟨a', c', w', g', hrun, ?_, r2.mono (fun k hk => by rw [hblk]; exact hk), fun k hk => ?_⟩
    · rw [rowC_app, rowC_one]
      exact grow_base hB (fun k hk => hk) r1
    · rw [hblk]; exact r3 k hk
theorem step_append_blk {ops : Array Oper} {o : Oper} {a : Act} {w : World} {K : Act → World → Prop} {Q : Exit → Act → World → Prop} {F : Prop} (hgd : o.guard = none) (so xo : Operand)
    (ho : o.op = .call { callee := .builtin .append, args := #[so, xo], argTypes := #[33, 33] })
    {base : Nat} (x : Nd) (s : RS) (hv : a.eval so = .slice s.a s.n s.c) (hF : Free base w (x, s)) (hR : Rm w s) (hB : base ≤ w.heap.size) (h8 : s.n ≤ 8) (b : Blk) (xv : Value) (hxv : a.eval xo = xv) (hs : Src Tryz.prog 3 33 xv 1 (blkC b) w)
    (hK : ∀ a' c' w' g', Cel (fun k => base ≤ k) w' 3 (.slice a' (s.n + 1) c') (s.n + 1) (rowC blkC (x.bs ++ [b])) g' → Stay (fun k => s.blk = some k) w w' → (∀ k, g' = some k → s.blk = some k ∨ w.heap.size ≤ k) → K (a.put o.dst (.slice a' (s.n + 1) c')) w') :
    if Region.wanted o (yielded ops a.tmps) = true then Oper.wp Tryz.prog o a w K Q else F := by
  have hw : Region.wanted o (yielded ops a.tmps) = true := by simp [Region.wanted, hgd]
  rw [if_pos hw]
  obtain ⟨a', c', w', g', hrun, r1, r2, r3⟩ := append_blk hF hR hB h8 b xv hs o.type
  unfold Oper.wp; simp [execOp, ho, resolve, invoke, builtin, hv, hxv, hrun, Result.andThen]
  exact hK a' c' w' g' r1 r2 r3
theorem src_blk (w : World) (b : Blk) (B : Nat) (hB : B = w.heap.size) : Src Tryz.prog 3 33 (.slice (some ⟨B, 0, none⟩) 1 1) 1 (blkC b) (w.alloc (.cells #[.int .i64 b.id, .int .i64 b.gen, .int .i64 b.len] 31)) := by
  subst hB; refine Src.ofSlice _ Tryz.underlying33 ⟨w.heap.size, 0, none⟩ 1 1 _ rfl (fun j u hu => ?_) (fun u hu => wideB.one b u hu)
  rw [Addr.add_lit, Nat.zero_add]
  have := World.cell?_alloc_new w #[.int .i64 b.id, .int .i64 b.gen, .int .i64 b.len] 31 j
  rw [this, ← hu]
  unfold blkC; simp
theorem src_blkD (w : World) (b : Blk) : Src Tryz.prog 3 33 (.slice (some ⟨w.heap.size, 0, none⟩) 1 1) 1 (blkC b) (w.alloc (.cells #[.int .i64 b.id, .int .i64 b.gen, .int .i64 b.len] 31)).drew := by
  refine Src.ofSlice _ Tryz.underlying33 ⟨w.heap.size, 0, none⟩ 1 1 _ rfl (fun j u hu => ?_) (fun u hu => wideB.one b u hu)
  rw [Addr.add_lit, Nat.zero_add]
  have := World.cell?_alloc_new w #[.int .i64 b.id, .int .i64 b.gen, .int .i64 b.len] 31 j
  have e : (w.alloc (.cells #[.int .i64 b.id, .int .i64 b.gen, .int .i64 b.len] 31)).drew.cell? ⟨w.heap.size, j, none⟩ = _ := this
  rw [e, ← hu]
  unfold blkC; simp
theorem preOf {base S : Nat} {W : World} {s : Sp} {N L : RS} {ps : List NR} {gb : Nat} {gl : Option Nat} (hc : SpC W S s N L) (ho : Own base W s N L ps (some gb) gl) (hna : N.a = some ⟨gb, 0, none⟩) (hsb : S < base) (hbw : base ≤ W.heap.size) : Pre base W.heap.size S W s N L ps gb gl :=
  ⟨hc, ho, hna, hsb, hbw, ho.lot.cel.lt.1, fun k hk => (ho.lo.own k hk).1, fun x hx k hk => (ho.lot.ok x hx).ok.bs.lt k hk, Nat.le_refl _⟩
theorem pre_ng {base M S : Nat} {W : World} {s : Sp} {N L : RS} {ps : List NR} {gb : Nat} {gl : Option Nat} (hP : Pre base M S W s N L ps gb gl) (v : Int) : Pre base M S (W.setCell ⟨S, 2, none⟩ (.int .i64 v)) ⟨s.tx, s.nb, v, s.now, s.ns, s.ls⟩ N L ps gb gl ∧ Stay (fun k => k = S) W (W.setCell ⟨S, 2, none⟩ (.int .i64 v)) := by
  obtain ⟨a1, a2⟩ := hP.c.set2 v
  have hsb := hP.sb
  have ho := hP.own.out a2 (fun k hk => by omega)
  exact ⟨⟨a1, ⟨ho.lot, ho.map, ho.lo, ho.sep, ho.gl1, ho.gl2⟩, hP.na, hP.sb, Nat.le_trans hP.bw a2.size, hP.m1, hP.m2, hP.m3, Nat.le_trans hP.mw a2.size⟩, a2⟩
theorem pre_nb {base M S : Nat} {W : World} {s : Sp} {N L : RS} {ps : List NR} {gb : Nat} {gl : Option Nat} (hP : Pre base M S W s N L ps gb gl) (v : Int) : Pre base M S (W.setCell ⟨S, 1, none⟩ (.int .i64 v)) ⟨s.tx, v, s.ng, s.now, s.ns, s.ls⟩ N L ps gb gl ∧ Stay (fun k => k = S) W (W.setCell ⟨S, 1, none⟩ (.int .i64 v)) := by
  obtain ⟨a1, a2⟩ := hP.c.set1 v
  have hsb := hP.sb
  have ho := hP.own.out a2 (fun k hk => by omega)
  exact ⟨⟨a1, ⟨ho.lot, ho.map, ho.lo, ho.sep, ho.gl1, ho.gl2⟩, hP.na, hP.sb, Nat.le_trans hP.bw a2.size, hP.m1, hP.m2, hP.m3, Nat.le_trans hP.mw a2.size⟩, a2⟩
theorem addedB {base M0 S : Nat} {W W' w5 : World} {s : Sp} {N L : RS} {ps : List NR} {gb : Nat} {gl : Option Nat} (h : Pre base M0 S W s N L ps gb gl) {i : Nat} {xp : ByteArray} {xd : Bool} {xq : Int} {xl : List Blk} {xw : Int} {r : RS} (hX : ps[i]? = some (⟨xp, xd, xq, xl, xw⟩, r)) (hne : r.blk ≠ some gb) (hl : xl.length = r.n) (hb : Below W.heap.size W W') {a5 : Option Addr} {c5 : Nat} {g5 : Option Nat} {b : Blk}
    (hC : Cel (fun k => base ≤ k) w5 3 (.slice a5 (r.n + 1) c5) (r.n + 1) (rowC blkC (xl ++ [b])) g5) (hS : Stay (fun k => r.blk = some k) W' w5) (hg : ∀ k, g5 = some k → r.blk = some k ∨ W'.heap.size ≤ k) :
    (w5.cell? ⟨gb, i * 5 + 3, none⟩ = some (.slice r.a r.n r.c) ∧ w5.frozen? ⟨gb, i * 5 + 3, none⟩ = false) ∧ Own base (w5.setCell ⟨gb, i * 5 + 3, none⟩ (.slice a5 (r.n + 1) c5)) ⟨s.tx, s.nb, s.ng, s.now, s.ns.set i ⟨xp, xd, xq, xl ++ [b], xw⟩, s.ls⟩ N L (ps.set i (⟨xp, xd, xq, xl ++ [b], xw⟩, ⟨a5, r.n + 1, c5⟩)) (some gb) gl ∧ SpC (w5.setCell ⟨gb, i * 5 + 3, none⟩ (.slice a5 (r.n + 1) c5)) S ⟨s.tx, s.nb, s.ng, s.now, s.ns.set i ⟨xp, xd, xq, xl ++ [b], xw⟩, s.ls⟩ N L ∧ Stay (fun k => r.blk = some k ∨ k = gb) W (w5.setCell ⟨gb, i * 5 + 3, none⟩ (.slice a5 (r.n + 1) c5)) ∧ (∀ k, (⟨a5, r.n + 1, c5⟩ : RS).blk = some k → r.blk = some k ∨ W.heap.size ≤ k) := by
  have hP := h.below hb
  obtain ⟨hi, hx⟩ := List.getElem?_eq_some_iff.1 hX
  have hf := hP.free' hX
  have hlt := hP.lt
  have hbs : W'.heap.size ≤ w5.heap.size := hS.size
  have hws := hb.size
  have hkeep : w5.heap[gb]? = W'.heap[gb]? := hS.block gb hlt.1 hne
  have ha := (hP.lies hf.2.2.2.1).at' hX
  have hc3 : w5.cell? ⟨gb, i * 5 + 3, none⟩ = some (.slice r.a r.n r.c) := (World.cell?_of_block (a := ⟨gb, i * 5 + 3, none⟩) hkeep).trans ha.c3
  have hf3 : w5.frozen? ⟨gb, i * 5 + 3, none⟩ = false := (World.frozen?_of_block (a := ⟨gb, i * 5 + 3, none⟩) hkeep).trans (hf.2.2.2.2 3 (by omega))
  obtain ⟨q, ha5, hg5⟩ := hC.at2 (by omega)
  have hblk : (⟨a5, r.n + 1, c5⟩ : RS).blk = some q := by unfold RS.blk; rw [if_neg (by show ¬ r.n + 1 = 0; omega)]; show a5.map _ = _; rw [ha5]; rfl
  have hq := hg q hg5
  have hqg : q ≠ gb := fun e => by
    rcases hq with e2 | e2
    · exact hne (by rw [e2, e])
    · omega
  have hS2 : Stay (fun k => k = gb) w5 (w5.setCell ⟨gb, i * 5 + 3, none⟩ (.slice a5 (r.n + 1) c5)) := Stay.setCell _ _ _ rfl
  have hF5 : Free base w5 (⟨xp, xd, xq, xl ++ [b], xw⟩, ⟨a5, r.n + 1, c5⟩) := free_of_cel hC (by rw [List.length_append, hl]; rfl) rfl hf.1.ok.small
  have hF6 : Free base (w5.setCell ⟨gb, i * 5 + 3, none⟩ (.slice a5 (r.n + 1) c5)) (⟨xp, xd, xq, xl ++ [b], xw⟩, ⟨a5, r.n + 1, c5⟩) := Stay.free hF5 hS2 (fun k hk e => by
    have hk' : (⟨a5, r.n + 1, c5⟩ : RS).blk = some k := hk
    rw [hblk] at hk'
    exact hqg ((Option.some.inj hk').trans e))
  have hST : Stay (fun k => r.blk = some k ∨ k = gb) W' (w5.setCell ⟨gb, i * 5 + 3, none⟩ (.slice a5 (r.n + 1) c5)) := (hS.mono (fun k hk => .inl hk)).then_same (hS2.mono (fun k hk => .inr hk))
  have hCN : Cel (fun k => base ≤ k) w5 5 (.slice N.a N.n N.c) N.n (rowC ndC ps) (some gb) := hP.own.lot.cel.stay hS.size (fun k hk => by cases hk; exact hkeep) (fun _ e => e)
  have hC6 := Cel.setF hCN hP.own.lot.len hi 3 (by omega) (.slice a5 (r.n + 1) c5) (⟨xp, xd, xq, xl ++ [b], xw⟩, ⟨a5, r.n + 1, c5⟩) (fun j => by
    rw [hx]
    match j with
    | 0 => rfl
    | 1 => rfl
    | 2 => rfl
    | 3 => rfl
    | 4 => rfl
    | j + 5 => rfl)
  have hO := hP.own.upd hi (⟨xp, xd, xq, xl ++ [b], xw⟩, ⟨a5, r.n + 1, c5⟩) hC6 hF6 hST (fun k _ e => by rw [hx]; exact e.symm) (fun k hk => by
    rw [hx]
    have hk' : (⟨a5, r.n + 1, c5⟩ : RS).blk = some k := hk
    rw [hblk] at hk'
    cases hk'
    exact hq)
  refine ⟨⟨hc3, hf3⟩, hO, (hP.c.keep hST (fun e => ?_)).ns _ _, (Stay.of_below hb).then_same hST, fun k hk => ?_⟩
  · have hsb := hP.sb
    rcases e with e | e
    · have := hf.1.blk_ge S e; omega
    · omega
  · rw [hblk] at hk
    cases hk
    rcases hq with e | e
    · exact .inl e
    · exact .inr (by omega)
theorem addBlock_long {base M0 S : Nat} {w : World} {s : Sp} {N L : RS} {ps : List NR} {gb : Nat} {gl : Option Nat} (h : Pre base M0 S w s N L ps gb gl) (e : Ed) (ea : Option Addr) (em eq : Nat) (hn : Nm w ea em e.ls) (hnb : ∀ ad, ea = some ad → 0 < em → ad.block < base) (hs : e.p.size ≤ maxLen) (i : Nat) (x : Nd) (hw : Wr s e i x) (hl : LenOk x.bs e.ls) (h8 : x.bs.length ≤ 8) (hx : x.bs.length = 8 ∨ s.nb = 9007199254740991 ∨ s.ng = 9007199254740991) :
    Calls Tryz.prog 61 #[.pointer (some ⟨S, 0, none⟩), edV e ea em eq] w fun r w' => LeftR S base M0 4 w r w' := by
  have hiq : Is (ps.map (·.1)) e.p i x := by rw [h.own.map]; exact hw.is
  obtain ⟨r, hX⟩ := is_at' hiq
  obtain ⟨hF0, hg0, hiN, hpos, _⟩ := h.free' hX
  have hrn : x.bs.length = r.n := hF0.ok.bs.len
  have hxs : x.path.size ≤ maxLen := hF0.ok.small
  have CW : Hid (∀ W, Below w.heap.size w W → Calls Tryz.prog 107 #[.pointer (some ⟨S, 0, none⟩), edV e ea em eq] W fun e w' => e = .returned (.pointer (some ⟨gb, i * 5, none⟩)) ∧ Below W.heap.size W w') := fun W hb => written_ok ((h.below hb).lies hpos) e ea em eq hs i x hiq hw.dir hw.wr
  have CS : Hid (∀ W, Below w.heap.size w W → Calls Tryz.prog 108 #[.pointer (some ⟨gb, i * 5, none⟩), .slice ea em eq] W fun r' w' => r' = .returned (.tuple #[]) ∧ Free base w' (withBs x (setLens x.bs e.ls), r) ∧ Stay (fun k => r.blk = some k) W w' ∧ (Rm W r → Rm w' r)) := fun W hb => by
    have hP := h.below hb
    obtain ⟨hF, hg, _, _, _⟩ := hP.free' hX
    refine setLengths_ok2 (x := x) (s := r) hF ((hP.lies hpos).at' hX).c3 hg (hn.below hb) (fun ad had hp e => ?_) hl (by omega)
    have := hF.blk_ge _ e
    have := hnb ad had hp
    omega
  have HX : Hid (ps[i]? = some (x, r)) := hX
  have HPRE : Hid (Pre base M0 S w s N L ps gb gl) := h
  have HRN : Hid (x.bs.length = r.n ∧ r.n ≤ 8) := ⟨hrn, by omega⟩
  have HLEN : Hid ((setLens x.bs e.ls).length = r.n) := by show _ = _; rw [setLens_len _ _ hl.len]; exact hrn
  have HGE : Hid (∀ k, r.blk = some k → base ≤ k ∧ k < M0) := fun k hk => ⟨hF0.blk_ge k hk, h.m3 _ (List.mem_of_getElem? hX) k hk⟩
  obtain ⟨k, p, t, cl, l, nn, ls⟩ := e
  obtain ⟨xp, xd, xq, xb, xw⟩ := x
  obtain ⟨ra, rn, rc⟩ := r
  obtain ⟨tx, nb, ng, now, ns, lss⟩ := s
  simp only at CS HX HRN HLEN HGE hxs hrn h8 hx ⊢
  have HN2 : Hid (∀ w1 w2, Below w.heap.size w w1 → Free base w2 (⟨xp, xd, xq, setLens xb ls, xw⟩, ⟨ra, rn, rc⟩) → Stay (fun k => (⟨ra, rn, rc⟩ : RS).blk = some k) w1 w2 → Pre base M0 S w2 ⟨tx, nb, ng, now, ns.set i ⟨xp, xd, xq, setLens xb ls, xw⟩, lss⟩ N L (ps.set i (⟨xp, xd, xq, setLens xb ls, xw⟩, ⟨ra, rn, rc⟩)) gb gl) := fun w1 w2 hb hF hS => (HPRE.out.below hb).bs' HX.out _ hF hS
  unfold withBs at CS; unfold edV at CW ⊢
  simp only at CS CW ⊢
  generalize setLens xb ls = xl at *
  have CR : Hid (∀ W, Calls Tryz.prog 25 #[.bool true, .int .i64 4] W fun e w' => e = leftV 4 ∧ W = w') := fun W => (refuse_yes 4 W).mono fun e w' ⟨h1, h2⟩ => ⟨h1, h2.symm⟩
  have hst := run_store_str
  have hst2 := sto2
  have HSB : Hid (S < base) := h.sb
  have fin : ∀ w1 w2, Below w.heap.size w w1 → Stay (fun k => (⟨ra, rn, rc⟩ : RS).blk = some k) w1 w2 → LeftR S base M0 4 w (leftV 4) w2 := fun w1 w2 hb hS2 => ⟨rfl, (Stay.of_below hb).trans hS2 (fun k _ e => .inr (HGE.out k e)), fun s N L h => ⟨s, N, L, (h.below hb).keep hS2 (fun e => by have := HGE.out S e; have := HSB.out; omega)⟩⟩
  have HFIN : Hid _ := fin
  clear fin; rw [hrn] at hx
  clear h hn hnb hs hw hl h8 hiq hX hF0 hg0 hiN hpos hrn hxs; by_cases c1 : rn = 8
  · have b1 : ((rn : Int) == 8) = true := by simp [c1]
    clear hx c1; go_enter Tryz.func61, Tryz.ntmps61; go_wp2_with (first
      | (go_at_call 107; refine (CW.out _ (bel_tr (bel_al _ _) (bel_al _ _))).mono ?_; rintro e w1 ⟨rfl, c1⟩; obtain ⟨q1, q2, q3, q4, q5, q6⟩ := two_boxes c1; have y0 := q1 0 _ rfl; have y1 := q1 1 _ rfl; have y2 := q1 2 _ rfl; have y3 := q1 3 _ rfl; have y4 := q1 4 _ rfl; have y5 := q1 5 _ rfl; have y6 := q1 6 _ rfl; have B1 : Hid (Below w.heap.size w w1) := q5; have HAN : Hid (AnC w1 (w.heap.size + 1) 0 zeroB noS zeroX 0) := ⟨q3 0 _ rfl, q3 1 _ rfl, q3 2 _ rfl, q3 3 _ rfl, q3 4 _ rfl, q3 5 _ rfl, q3 6 _ rfl, q3 7 _ rfl, q3 8 _ rfl, q3 9 _ rfl, q3 10 _ rfl, q4⟩; have HSZ : Hid (w.heap.size + 2 ≤ w1.heap.size) := q6; clear c1 q1 q2 q3 q4 q5 q6)
      | (go_at_call 108; refine (CS.out _ B1.out).mono ?_; rintro e w2 ⟨rfl, hF2, hS2, hR2⟩; have hP2 := HN2.out w1 w2 B1.out hF2 hS2; obtain ⟨n0, n1, n2, n3, n4⟩ := (hP2.lies (hP2.free' (set_at' HX.out _)).2.2.2.1).at' (set_at' HX.out _); have s1 := hP2.c.c1; have s2 := hP2.c.c2; have HP2 : Hid _ := hP2; have HS2 : Hid (Stay (fun k => (⟨ra, rn, rc⟩ : RS).blk = some k) w1 w2) := hS2; have HR2 : Hid (Rm w1 ⟨ra, rn, rc⟩ → Rm w2 ⟨ra, rn, rc⟩) := hR2; simp only at n0 n1 n2 n3 n4 s1 s2; clear hF2 hS2 hP2 hR2)
      | (go_at_call 25; refine (CR.out _).mono ?_; rintro e w3 ⟨rfl, rfl⟩))
    exact left_post rfl (HFIN.out w1 w2 B1.out HS2.out)
  · have b1 : ((rn : Int) == 8) = false := by rw [beq_eq_false_iff_ne]; omega
    by_cases c2 : nb = 9007199254740991
    · have b2 : (nb == 9007199254740991) = true := by simp [c2]
      clear hx c1 c2; go_enter Tryz.func61, Tryz.ntmps61; go_wp2_with (first
        | (go_at_call 107; refine (CW.out _ (bel_tr (bel_al _ _) (bel_al _ _))).mono ?_; rintro e w1 ⟨rfl, c1⟩; obtain ⟨q1, q2, q3, q4, q5, q6⟩ := two_boxes c1; have y0 := q1 0 _ rfl; have y1 := q1 1 _ rfl; have y2 := q1 2 _ rfl; have y3 := q1 3 _ rfl; have y4 := q1 4 _ rfl; have y5 := q1 5 _ rfl; have y6 := q1 6 _ rfl; have B1 : Hid (Below w.heap.size w w1) := q5; have HAN : Hid (AnC w1 (w.heap.size + 1) 0 zeroB noS zeroX 0) := ⟨q3 0 _ rfl, q3 1 _ rfl, q3 2 _ rfl, q3 3 _ rfl, q3 4 _ rfl, q3 5 _ rfl, q3 6 _ rfl, q3 7 _ rfl, q3 8 _ rfl, q3 9 _ rfl, q3 10 _ rfl, q4⟩; have HSZ : Hid (w.heap.size + 2 ≤ w1.heap.size) := q6; clear c1 q1 q2 q3 q4 q5 q6)
        | (go_at_call 108; refine (CS.out _ B1.out).mono ?_; rintro e w2 ⟨rfl, hF2, hS2, hR2⟩; have hP2 := HN2.out w1 w2 B1.out hF2 hS2; obtain ⟨n0, n1, n2, n3, n4⟩ := (hP2.lies (hP2.free' (set_at' HX.out _)).2.2.2.1).at' (set_at' HX.out _); have s1 := hP2.c.c1; have s2 := hP2.c.c2; have HP2 : Hid _ := hP2; have HS2 : Hid (Stay (fun k => (⟨ra, rn, rc⟩ : RS).blk = some k) w1 w2) := hS2; have HR2 : Hid (Rm w1 ⟨ra, rn, rc⟩ → Rm w2 ⟨ra, rn, rc⟩) := hR2; simp only at n0 n1 n2 n3 n4 s1 s2; clear hF2 hS2 hP2 hR2)
        | (go_at_call 25; refine (CR.out _).mono ?_; rintro e w3 ⟨rfl, rfl⟩))
      exact left_post rfl (HFIN.out w1 w2 B1.out HS2.out)
    · have b2 : (nb == 9007199254740991) = false := by simpa using c2
      have b3 : (ng == 9007199254740991) = true := by
        have : ng = 9007199254740991 := by rcases hx with e | e | e <;> first | exact absurd e c1 | exact absurd e c2 | exact e
        simp [this]
      clear hx c1 c2; go_enter Tryz.func61, Tryz.ntmps61; go_wp2_with (first
        | (go_at_call 107; refine (CW.out _ (bel_tr (bel_al _ _) (bel_al _ _))).mono ?_; rintro e w1 ⟨rfl, c1⟩; obtain ⟨q1, q2, q3, q4, q5, q6⟩ := two_boxes c1; have y0 := q1 0 _ rfl; have y1 := q1 1 _ rfl; have y2 := q1 2 _ rfl; have y3 := q1 3 _ rfl; have y4 := q1 4 _ rfl; have y5 := q1 5 _ rfl; have y6 := q1 6 _ rfl; have B1 : Hid (Below w.heap.size w w1) := q5; have HAN : Hid (AnC w1 (w.heap.size + 1) 0 zeroB noS zeroX 0) := ⟨q3 0 _ rfl, q3 1 _ rfl, q3 2 _ rfl, q3 3 _ rfl, q3 4 _ rfl, q3 5 _ rfl, q3 6 _ rfl, q3 7 _ rfl, q3 8 _ rfl, q3 9 _ rfl, q3 10 _ rfl, q4⟩; have HSZ : Hid (w.heap.size + 2 ≤ w1.heap.size) := q6; clear c1 q1 q2 q3 q4 q5 q6)
        | (go_at_call 108; refine (CS.out _ B1.out).mono ?_; rintro e w2 ⟨rfl, hF2, hS2, hR2⟩; have hP2 := HN2.out w1 w2 B1.out hF2 hS2; obtain ⟨n0, n1, n2, n3, n4⟩ := (hP2.lies (hP2.free' (set_at' HX.out _)).2.2.2.1).at' (set_at' HX.out _); have s1 := hP2.c.c1; have s2 := hP2.c.c2; have HP2 : Hid _ := hP2; have HS2 : Hid (Stay (fun k => (⟨ra, rn, rc⟩ : RS).blk = some k) w1 w2) := hS2; have HR2 : Hid (Rm w1 ⟨ra, rn, rc⟩ → Rm w2 ⟨ra, rn, rc⟩) := hR2; simp only at n0 n1 n2 n3 n4 s1 s2; clear hF2 hS2 hP2 hR2)
        | (go_at_call 25; refine (CR.out _).mono ?_; rintro e w3 ⟨rfl, rfl⟩))
      exact left_post rfl (HFIN.out w1 w2 B1.out HS2.out)
theorem addBlock_ok {base M0 S : Nat} {w : World} {s : Sp} {N L : RS} {ps : List NR} {gb : Nat} {gl : Option Nat} (h : Pre base M0 S w s N L ps gb gl) (e : Ed) (ea : Option Addr) (em eq : Nat) (hn : Nm w ea em e.ls) (hnb : ∀ ad, ea = some ad → 0 < em → ad.block < base) (hs : e.p.size ≤ maxLen) (i : Nat) (x : Nd) (hw : Wr s e i x) (hl : LenOk x.bs e.ls) (h8 : x.bs.length < 8) (hrm : ∀ x ∈ ps, Rm w x.2) (hb1 : 1 ≤ s.nb ∧ s.nb < 9007199254740991) (hb2 : 1 ≤ s.ng ∧ s.ng < 9007199254740991) :
    Calls Tryz.prog 61 #[.pointer (some ⟨S, 0, none⟩), edV e ea em eq] w fun r w' => DoneR S base M0 ⟨s.tx, s.nb + 1, s.ng + 1, s.now, s.ns.set i (withBs x (setLens x.bs e.ls ++ [⟨s.nb, s.ng, 0⟩])), s.ls⟩ ⟨s.nb, s.ng, 0⟩ (withBs x (setLens x.bs e.ls ++ [⟨s.nb, s.ng, 0⟩])) w r w' := by
  have hiq : Is (ps.map (·.1)) e.p i x := by rw [h.own.map]; exact hw.is
  obtain ⟨r, hX⟩ := is_at' hiq
  obtain ⟨hF0, hg0, hiN, hpos, _⟩ := h.free' hX
  have hrn : x.bs.length = r.n := hF0.ok.bs.len
  have hxs : x.path.size ≤ maxLen := hF0.ok.small
  have CW : Hid (∀ W, Below w.heap.size w W → Calls Tryz.prog 107 #[.pointer (some ⟨S, 0, none⟩), edV e ea em eq] W fun e w' => e = .returned (.pointer (some ⟨gb, i * 5, none⟩)) ∧ Below W.heap.size W w') := fun W hb => written_ok ((h.below hb).lies hpos) e ea em eq hs i x hiq hw.dir hw.wr
  have CS : Hid (∀ W, Below w.heap.size w W → Calls Tryz.prog 108 #[.pointer (some ⟨gb, i * 5, none⟩), .slice ea em eq] W fun r' w' => r' = .returned (.tuple #[]) ∧ Free base w' (withBs x (setLens x.bs e.ls), r) ∧ Stay (fun k => r.blk = some k) W w' ∧ (Rm W r → Rm w' r)) := fun W hb => by
    have hP := h.below hb
    obtain ⟨hF, hg, _, _, _⟩ := hP.free' hX
    refine setLengths_ok2 (x := x) (s := r) hF ((hP.lies hpos).at' hX).c3 hg (hn.below hb) (fun ad had hp e => ?_) hl (by omega)
    have := hF.blk_ge _ e
    have := hnb ad had hp
    omega
  have HX : Hid (ps[i]? = some (x, r)) := hX
  have HRM0 : Hid (Rm w r) := hrm _ (List.mem_of_getElem? hX)
  have HPRE : Hid (Pre base M0 S w s N L ps gb gl) := h
  have HRN : Hid (x.bs.length = r.n ∧ r.n ≤ 8) := ⟨hrn, by omega⟩
  have HLEN : Hid ((setLens x.bs e.ls).length = r.n) := by show _ = _; rw [setLens_len _ _ hl.len]; exact hrn
  have HGE : Hid (∀ k, r.blk = some k → base ≤ k ∧ k < M0) := fun k hk => ⟨hF0.blk_ge k hk, h.m3 _ (List.mem_of_getElem? hX) k hk⟩
  obtain ⟨k, p, t, cl, l, nn, ls⟩ := e
  obtain ⟨xp, xd, xq, xb, xw⟩ := x
  obtain ⟨ra, rn, rc⟩ := r
  obtain ⟨tx, nb, ng, now, ns, lss⟩ := s
  simp only at CS HX HRN HLEN HGE hxs hrn h8 hb1 hb2 ⊢
  have HN2 : Hid (∀ w1 w2, Below w.heap.size w w1 → Free base w2 (⟨xp, xd, xq, setLens xb ls, xw⟩, ⟨ra, rn, rc⟩) → Stay (fun k => (⟨ra, rn, rc⟩ : RS).blk = some k) w1 w2 → Pre base M0 S w2 ⟨tx, nb, ng, now, ns.set i ⟨xp, xd, xq, setLens xb ls, xw⟩, lss⟩ N L (ps.set i (⟨xp, xd, xq, setLens xb ls, xw⟩, ⟨ra, rn, rc⟩)) gb gl) := fun w1 w2 hb hF hS => (HPRE.out.below hb).bs' HX.out _ hF hS
  unfold withBs at CS ⊢
  unfold edV at CW ⊢
  simp only at CS CW ⊢
  generalize setLens xb ls = xl at *
  have CR : Hid (∀ E W, Calls Tryz.prog 25 #[.bool false, .int .i64 E] W fun e w' => e = .returned (.tuple #[]) ∧ W = w') := fun E W => (refuse_no E W).mono fun e w' ⟨h1, h2⟩ => ⟨h1, h2.symm⟩
  have hst := run_store_str
  have hst2 := sto2
  obtain ⟨hb1a, hb1b⟩ := hb1
  obtain ⟨hb2a, hb2b⟩ := hb2
  have b1 : ((rn : Int) == 8) = false := by rw [beq_eq_false_iff_ne]; omega
  have b2 : (nb == 9007199254740991) = false := by rw [beq_eq_false_iff_ne]; omega
  have b3 : (ng == 9007199254740991) = false := by rw [beq_eq_false_iff_ne]; omega
  have HR7 : Hid (rn < 8) := by show rn < 8; omega
  clear h hn hnb hs hw hl h8 hiq hX hF0 hg0 hiN hpos hrn hxs hrm; go_enter Tryz.func61, Tryz.ntmps61; go_wp2_with (first
    | (go_at_call 107; refine (CW.out _ (bel_tr (bel_al _ _) (bel_al _ _))).mono ?_; rintro e w1 ⟨rfl, c1⟩; obtain ⟨q1, q2, q3, q4, q5, q6⟩ := two_boxes c1; have y0 := q1 0 _ rfl; have y1 := q1 1 _ rfl; have y2 := q1 2 _ rfl; have y3 := q1 3 _ rfl; have y4 := q1 4 _ rfl; have y5 := q1 5 _ rfl; have y6 := q1 6 _ rfl; have B1 : Hid (Below w.heap.size w w1) := q5; have HAN : Hid (AnC w1 (w.heap.size + 1) 0 zeroB noS zeroX 0) := ⟨q3 0 _ rfl, q3 1 _ rfl, q3 2 _ rfl, q3 3 _ rfl, q3 4 _ rfl, q3 5 _ rfl, q3 6 _ rfl, q3 7 _ rfl, q3 8 _ rfl, q3 9 _ rfl, q3 10 _ rfl, q4⟩; have HSZ : Hid (w.heap.size + 2 ≤ w1.heap.size) := q6; clear c1 q1 q2 q3 q4 q5 q6)
    | (go_at_call 108; refine (CS.out _ B1.out).mono ?_; rintro e w2 ⟨rfl, hF2, hS2, hR2⟩; have hP2 := HN2.out w1 w2 B1.out hF2 hS2; obtain ⟨n0, n1, n2, n3, n4⟩ := (hP2.lies (hP2.free' (set_at' HX.out _)).2.2.2.1).at' (set_at' HX.out _); have s1 := hP2.c.c1; have s2 := hP2.c.c2; have HP2 : Hid _ := hP2; have HS2 : Hid (Stay (fun k => (⟨ra, rn, rc⟩ : RS).blk = some k) w1 w2) := hS2; have HR2 : Hid (Rm w1 ⟨ra, rn, rc⟩ → Rm w2 ⟨ra, rn, rc⟩) := hR2; simp only at n0 n1 n2 n3 n4 s1 s2; clear hF2 hS2 hP2 hR2)
    | (go_at_call 25; refine (CR.out _ _).mono ?_; rintro e w3 ⟨rfl, rfl⟩))
  have s1a := cell_al s1
  have s2a := cell_al s2
  go_region
  clear s1a s2a; have BA : Hid (Below w2.heap.size w2 (w2.alloc (.cells #[.int .i64 nb, .int .i64 ng, .int .i64 0] 31)).drew) := bel_tr (bel_al w2 _) (bel_drewN _ 1)
  have x0 := bel_cell (bel_drewN (w2.alloc (.cells #[.int .i64 nb, .int .i64 ng, .int .i64 0] 31)) 1) (World.cell?_alloc_new w2 #[.int .i64 nb, .int .i64 ng, .int .i64 0] 31 0)
  have x1 := bel_cell (bel_drewN (w2.alloc (.cells #[.int .i64 nb, .int .i64 ng, .int .i64 0] 31)) 1) (World.cell?_alloc_new w2 #[.int .i64 nb, .int .i64 ng, .int .i64 0] 31 1)
  have x2 := bel_cell (bel_drewN (w2.alloc (.cells #[.int .i64 nb, .int .i64 ng, .int .i64 0] 31)) 1) (World.cell?_alloc_new w2 #[.int .i64 nb, .int .i64 ng, .int .i64 0] 31 2)
  have X0 : Hid ((w2.alloc (.cells #[.int .i64 nb, .int .i64 ng, .int .i64 0] 31)).drew.cell? ⟨w2.heap.size, 0, none⟩ = some (.int .i64 nb)) := x0
  have X1 : Hid ((w2.alloc (.cells #[.int .i64 nb, .int .i64 ng, .int .i64 0] 31)).drew.cell? ⟨w2.heap.size, 1, none⟩ = some (.int .i64 ng)) := x1
  have X2 : Hid ((w2.alloc (.cells #[.int .i64 nb, .int .i64 ng, .int .i64 0] 31)).drew.cell? ⟨w2.heap.size, 2, none⟩ = some (.int .i64 0)) := x2
  have HSZ3 : Hid (w.heap.size + 2 ≤ w2.heap.size ∧ w2.heap.size < (w2.alloc (.cells #[.int .i64 nb, .int .i64 ng, .int .i64 0] 31)).drew.heap.size) := by
    have h1 := HS2.out.size
    have h2 := HSZ.out
    refine ⟨by omega, ?_⟩
    show w2.heap.size < (w2.alloc _).heap.size
    simp
  clear x0 x1 x2; generalize hW3 : (w2.alloc (.cells #[.int .i64 nb, .int .i64 ng, .int .i64 0] 31)).drew = W3 at *
  clear hW3; obtain ⟨Bb, hBb⟩ : ∃ B, w2.heap.size = B := ⟨_, rfl⟩
  have hP3 := HP2.out.below BA.out
  have HP3 : Hid (Pre base M0 S W3 ⟨tx, nb, ng, now, ns.set i ⟨xp, xd, xq, xl, xw⟩, lss⟩ N L (ps.set i (⟨xp, xd, xq, xl, xw⟩, ⟨ra, rn, rc⟩)) gb gl) := hP3
  have hrb := (HPRE.out.free' HX.out).1.ok.bs.lt
  have HRM3 : Hid (Rm W3 ⟨ra, rn, rc⟩) := (HR2.out (HRM0.out.below B1.out)).below BA.out
  have HAN3 : Hid (AnC W3 (w.heap.size + 1) 0 zeroB noS zeroX 0) := (HAN.out.keep HS2.out (fun e => by have := hrb _ e; omega)).below BA.out
  have HST3 : Hid (Stay (Chg S base M0) w W3) := ((Stay.of_below B1.out).trans HS2.out (fun k _ e => .inr (HGE.out k e))).then_below BA.out
  have HNE : Hid ((⟨ra, rn, rc⟩ : RS).blk ≠ some gb) := (HPRE.out.free' HX.out).2.1
  have v3 := ((hP3.lies (hP3.free' (set_at' HX.out _)).2.2.2.1).at' (set_at' HX.out _)).c3
  have x0 := X0.out
  have x1 := X1.out
  have x2 := X2.out
  rw [hBb] at x0 x1 x2 HSZ3 X0 X1 X2
  have HBB : Hid (w2.heap.size = Bb) := hBb
  simp only at v3
  clear hP3 hrb n0 n1 n2 n3 n4 s1 s2; have v3a := cell_al v3
  have x0a := cell_al x0
  have x1a := cell_al x1
  have x2a := cell_al x2
  have BB : Hid (∀ o, Below W3.heap.size W3 (W3.alloc o).drew) := fun o => bel_tr (bel_al W3 o) (bel_drewN _ 1)
  have HSRC : Hid (Src Tryz.prog 3 33 (.slice (some ⟨W3.heap.size, 0, none⟩) 1 1) 1 (blkC ⟨nb, ng, 0⟩) (W3.alloc (.cells #[.int .i64 nb, .int .i64 ng, .int .i64 0] 31)).drew) := src_blkD W3 ⟨nb, ng, 0⟩
  have HB3 : Hid (base ≤ W3.heap.size) := HP3.out.bw
  have HADD : Hid (∀ o w5 a5 c5 g5, Cel (fun k => base ≤ k) w5 3 (.slice a5 (rn + 1) c5) (rn + 1) (rowC blkC (xl ++ [⟨nb, ng, 0⟩])) g5 → Stay (fun k => (⟨ra, rn, rc⟩ : RS).blk = some k) (W3.alloc o).drew w5 → (∀ k, g5 = some k → (⟨ra, rn, rc⟩ : RS).blk = some k ∨ (W3.alloc o).drew.heap.size ≤ k) → (w5.cell? ⟨gb, i * 5 + 3, none⟩ = some (.slice ra rn rc) ∧ w5.frozen? ⟨gb, i * 5 + 3, none⟩ = false) ∧ Own base (w5.setCell ⟨gb, i * 5 + 3, none⟩ (.slice a5 (rn + 1) c5)) ⟨tx, nb, ng, now, ns.set i ⟨xp, xd, xq, xl ++ [⟨nb, ng, 0⟩], xw⟩, lss⟩ N L (ps.set i (⟨xp, xd, xq, xl ++ [⟨nb, ng, 0⟩], xw⟩, ⟨a5, rn + 1, c5⟩)) (some gb) gl ∧ SpC (w5.setCell ⟨gb, i * 5 + 3, none⟩ (.slice a5 (rn + 1) c5)) S ⟨tx, nb, ng, now, ns.set i ⟨xp, xd, xq, xl ++ [⟨nb, ng, 0⟩], xw⟩, lss⟩ N L ∧ Stay (fun k => (⟨ra, rn, rc⟩ : RS).blk = some k ∨ k = gb) W3 (w5.setCell ⟨gb, i * 5 + 3, none⟩ (.slice a5 (rn + 1) c5)) ∧ (∀ k, (⟨a5, rn + 1, c5⟩ : RS).blk = some k → (⟨ra, rn, rc⟩ : RS).blk = some k ∨ W3.heap.size ≤ k)) := fun o w5 a5 c5 g5 hC hS hg => by
    have := addedB HP3.out (set_at' HX.out _) HNE.out HLEN.out (BB.out o) hC hS hg
    simp only [List.set_set] at this
    exact this
  go_wp2; go_region_law (refine step_append_blk rfl (.tmp 50) (.tmp 52) rfl (base := base) ⟨xp, xd, xq, xl, xw⟩ ⟨ra, rn, rc⟩ (by simp [Act.eval]) ((HP3.out.free' (set_at' HX.out _)).1.below (BB.out _)) (HRM3.out.below (BB.out _)) (Nat.le_trans HB3.out (BB.out _).size) (by have := HR7.out; show rn ≤ 8; omega) ⟨nb, ng, 0⟩ _ (by simp [Act.eval]) HSRC.out ?_; intro a5 c5 w5 g5 hC5 hS5 hf5; obtain ⟨⟨h3c, h3f⟩, r1, r2, r3, r4⟩ := HADD.out _ w5 a5 c5 g5 hC5 hS5 hf5; have R1 : Hid _ := r1; have R2 : Hid _ := r2; have R3 : Hid _ := r3; have R4 : Hid _ := r4; clear hC5 hS5 hf5 r1 r2 r3 r4)
  all_goals (
    have hsb := HPRE.out.sb
    have hlt := HPRE.out.lt
    have hsz := HSZ3.out
    have hbw := HPRE.out.bw
    have hmw := HPRE.out.mw
    have hOW : ∀ k, ((⟨ra, rn, rc⟩ : RS).blk = some k ∨ k = gb) → base ≤ k ∧ k < M0 := fun k hk => by
      rcases hk with e | e
      · exact HGE.out k e
      · have := HPRE.out.m1
        have := (HPRE.out.own.lot.cel.lt).2
        exact ⟨by omega, by omega⟩
    have HBK : Hid (∀ z ∈ ps.set i (⟨xp, xd, xq, xl ++ [⟨nb, ng, 0⟩], xw⟩, ⟨a5, rn + 1, c5⟩), ∀ k, z.2.blk = some k → k ≠ w.heap.size + 1 ∧ (k < M0 ∨ w.heap.size ≤ k)) := fun z hz k hk => by
      rcases List.mem_or_eq_of_mem_set hz with hz | rfl
      · have := HPRE.out.m3 z hz k hk
        omega
      · rcases R4.out k hk with e | e
        · have := HGE.out k e
          omega
        · omega
    have h6 := preOf R2.out R1.out HPRE.out.na HPRE.out.sb (Nat.le_trans HB3.out R3.out.size)
    have HAN6 : Hid _ := HAN3.out.keep R3.out (fun e => by have := hOW _ e; omega)
    have HST6 : Hid _ := HST3.out.trans R3.out (fun k _ e => .inr (hOW k e))
    have X60 := stay_cell R3.out (fun e => by have := hOW _ e; omega) X0.out
    have X61 := stay_cell R3.out (fun e => by have := hOW _ e; omega) X1.out
    have X62 := stay_cell R3.out (fun e => by have := hOW _ e; omega) X2.out
    have hsz6 := R3.out.size
    have hbs : Bb < (w5.setCell ⟨gb, i * 5 + 3, none⟩ (.slice a5 (rn + 1) c5)).heap.size := by omega
    clear hOW h3c h3f R1 R2 R3 R4 HADD HSRC BB x0 x1 x2 x0a x1a x2a v3 v3a HAN3 HRM3 HP3 X0 X1 X2 HP2 HS2 HR2 HB3 BA HBB hBb HST3 hsz6; generalize w5.setCell ⟨gb, i * 5 + 3, none⟩ (.slice a5 (rn + 1) c5) = W6 at *
    have s1 := h6.c.c1
    have f1 := h6.c.fr 1
    obtain ⟨h7, t7⟩ := pre_nb h6 (nb + 1)
    have s2 := h7.c.c2
    have f2 := h7.c.fr 2
    obtain ⟨h8, t8⟩ := pre_ng h7 (ng + 1)
    have HP8 : Hid _ := h8
    have T7 : Hid _ := t7
    have T8 : Hid _ := t8
    simp only at s1 s2
    have HNB : Hid (Bb ≠ S ∧ w.heap.size + 1 ≠ S ∧ w.heap.size + 2 ≤ Bb) := ⟨by omega, by omega, by omega⟩
    have HBBS : Hid (Bb < W6.heap.size) := hbs
    have Y0 : Hid _ := X60
    have Y1 : Hid _ := X61
    have Y2 : Hid _ := X62
    clear h6 h7 h8 t7 t8 hsb hlt hsz hbw hmw hbs X60 X61 X62; go_wp2; have hn := HNB.out
    have HAN8 : Hid _ := (HAN6.out.keep T7.out (fun e => hn.2.1 e)).keep T8.out (fun e => hn.2.1 e)
    have HST8 : Hid _ := (HST6.out.trans T7.out (fun k _ e => .inl e)).trans T8.out (fun k _ e => .inl e)
    have x0 := stay_cell T8.out (fun e => hn.1 e) (stay_cell T7.out (fun e => hn.1 e) Y0.out)
    have x1 := stay_cell T8.out (fun e => hn.1 e) (stay_cell T7.out (fun e => hn.1 e) Y1.out)
    have x2 := stay_cell T8.out (fun e => hn.1 e) (stay_cell T7.out (fun e => hn.1 e) Y2.out)
    have hs7 := T7.out.size
    have hs8 := T8.out.size
    have HBW8 : Hid (Bb < ((W6.setCell ⟨S, 1, none⟩ (.int .i64 (nb + 1))).setCell ⟨S, 2, none⟩ (.int .i64 (ng + 1))).heap.size) := by have := HBBS.out; show _ < _; omega
    have h8 := HP8.out
    have HF8 : Hid _ := (h8.free' (set_at' HX.out _)).1
    obtain ⟨v0, v1, v2, v3, v4⟩ := (h8.lies (h8.free' (set_at' HX.out _)).2.2.2.1).at' (set_at' HX.out _)
    simp only at v0 v1 v2 v3 v4
    clear T7 T8 Y0 Y1 Y2 hs7 hs8 s1 s2 f1 f2 h8 HAN6 HST6 HBBS; generalize hW8 : (W6.setCell ⟨S, 1, none⟩ (.int .i64 (nb + 1))).setCell ⟨S, 2, none⟩ (.int .i64 (ng + 1)) = W8 at *
    clear hW8; have HR8 : Hid (rn + 1 ≤ 8) := HR7.out
    have CC : Hid (∀ W, Free base W (⟨xp, xd, xq, xl ++ [⟨nb, ng, 0⟩], xw⟩, ⟨a5, rn + 1, c5⟩) → Calls Tryz.prog 44 #[.agg #[.string xp, .bool xd, .int .i64 xq, .slice a5 (rn + 1) c5, .int .i64 xw]] W fun e w' => CopyR W.heap.size ⟨xp, xd, xq, xl ++ [⟨nb, ng, 0⟩], xw⟩ e w' ∧ Below W.heap.size W w') := fun W hF => copiedNode_val (⟨xp, xd, xq, xl ++ [(⟨nb, ng, 0⟩ : Blk)], xw⟩, ⟨a5, rn + 1, c5⟩) W hF.ok (by show (rn + 1) * 24 ≤ _; have := HR8.out; omega)
    have HEND : Hid (∀ w4 (sx : RS), Below W8.heap.size W8 w4 → Free W8.heap.size w4 (⟨xp, xd, xq, xl ++ [⟨nb, ng, 0⟩], xw⟩, sx) → AnC (put11 w4 (w.heap.size + 1) 0 ⟨nb, ng, 0⟩ noS (⟨xp, xd, xq, xl ++ [⟨nb, ng, 0⟩], xw⟩, sx) 0) (w.heap.size + 1) 0 ⟨nb, ng, 0⟩ noS (⟨xp, xd, xq, xl ++ [⟨nb, ng, 0⟩], xw⟩, sx) 0 ∧ DoneR S base M0 ⟨tx, nb + 1, ng + 1, now, ns.set i ⟨xp, xd, xq, xl ++ [⟨nb, ng, 0⟩], xw⟩, lss⟩ ⟨nb, ng, 0⟩ ⟨xp, xd, xq, xl ++ [⟨nb, ng, 0⟩], xw⟩ w (.returned (anV 0 ⟨nb, ng, 0⟩ noS (⟨xp, xd, xq, xl ++ [⟨nb, ng, 0⟩], xw⟩, sx) 0)) (put11 w4 (w.heap.size + 1) 0 ⟨nb, ng, 0⟩ noS (⟨xp, xd, xq, xl ++ [⟨nb, ng, 0⟩], xw⟩, sx) 0)) := fun w4 sx hB hF => by
      have h8 := preOf HP8.out.c HP8.out.own HP8.out.na HP8.out.sb HP8.out.bw
      have hb8 := HBW8.out
      have hn := HNB.out
      have hO4 := (h8.own.at h8.m.1 h8.m.2.1 h8.m3).below hB
      exact DoneR.mk2 (HAN8.out.below hB) (h8.c.below hB) hO4 hF h8.bw (HST8.out.then_below hB) (by omega) HPRE.out.bw HPRE.out.lt.2.2.1 (fun k hk => by have := HPRE.out.m1; have := HPRE.out.mw; cases hk; omega) (fun k hk => by have := HPRE.out.m2 k hk; have := HPRE.out.mw; omega) HBK.out (fun k hk => by have h1 := hF.blk_ge k hk; omega)
    clear hn)
  all_goals (
    refine wp_region_any (by kernel_rfl) ?_
    try (change wpAny _ _ _ _ _ _ _ (World.drew _))
    refine wpAny_take (i := 1) (v := ?_) rfl (by kernel_rfl) (by kernel_rfl) (by kernel_rfl) (fun _ _ _ h => h) (Or.inl ⟨by rfl, ?_⟩) ?_
    rotate_left
    · intro w; go_simp; first | done | with_reducible rfl
    refine wpAny_take (i := 2) (v := ?_) rfl (by kernel_rfl) (by kernel_rfl) (by kernel_rfl) (fun _ _ _ h => h) (Or.inl ⟨by rfl, ?_⟩) ?_
    rotate_left
    · intro w; go_simp; first | done | with_reducible rfl
    refine wpAny_ready (rs := [0, 3]) (by kernel_rfl) (by simp) ?_
    refine AllReady.cons rfl (fun K hK => ?_) ?_
    · go_simp
      refine hK _ _ ?_
      clear hK K; refine wpAny_ready (rs := [3]) (by kernel_rfl) (by simp) ?_
      refine AllReady.cons rfl (fun K hK => ?_) ?_
      · go_simp
        refine hK _ _ ?_
        clear hK K; refine wpAny_ready (rs := [4]) (by kernel_rfl) (by simp) ?_
        refine AllReady.cons rfl (fun K hK => ?_) ?_
        · go_simp
          refine (CC.out _ (HF8.out.below (bel_drewN _ 1))).mono ?_; rintro e w4 ⟨⟨sx, rfl, hF4⟩, c4⟩; have B4 : Hid (Below W8.heap.size W8 w4) := bel_tr (bel_drewN _ 1) c4; have HF4 : Hid (Free W8.heap.size w4 (⟨xp, xd, xq, xl ++ [⟨nb, ng, 0⟩], xw⟩, sx)) := hF4; have p0 := bel_cell B4.out x0; have p1 := bel_cell B4.out x1; have p2 := bel_cell B4.out x2; obtain ⟨a0, a1, a2, a3, a4, a5, a6, a7, a8, a9, a10, afr⟩ := HAN8.out.below B4.out; unfold ndV; unfold zeroB at a1 a2 a3; unfold noS at a4; unfold zeroX zeroN noS at a5 a6 a7 a8 a9; simp only at a1 a2 a3 a4 a5 a6 a7 a8 a9 ⊢; clear hF4 c4
          try go_simp
          refine hK _ _ ?_
          clear hK K; refine wpAny_take (i := 5) (v := ?_) rfl (by kernel_rfl) (by kernel_rfl) (by kernel_rfl) (fun _ _ _ h => h) (Or.inl ⟨by rfl, ?_⟩) ?_
          rotate_left
          · intro w; go_simp; first | done | with_reducible rfl
          refine wpAny_ready (rs := [6]) (by kernel_rfl) (by simp) ?_
          refine AllReady.cons rfl (fun K hK => ?_) ?_
          · go_simp
            refine hK _ _ ?_
            clear hK K; refine wpAny_done (by kernel_rfl) ?_ _
            go_wp2; obtain ⟨hA, hD⟩ := HEND.out w4 sx B4.out HF4.out
            have k0 := hA.c0
            have k1 := hA.c1
            have k2 := hA.c2
            have k3 := hA.c3
            have k4 := hA.c4
            have k5 := hA.c5
            have k6 := hA.c6
            have k7 := hA.c7
            have k8 := hA.c8
            have k9 := hA.c9
            have k10 := hA.c10
            unfold put11 noS at k0 k1 k2 k3 k4 k5 k6 k7 k8 k9 k10 hD; simp only [anV] at k0 k1 k2 k3 k4 k5 k6 k7 k8 k9 k10 hD
            refine bodyPost_ret ?_ rfl hD
            simp only [results, Tryz.results61]
            simp [go_sem, k0, k1, k2, k3, k4, k5, k6, k7, k8, k9, k10]
          exact AllReady.nil
        exact AllReady.nil
      exact AllReady.nil
    refine AllReady.cons rfl (fun K hK => ?_) ?_
    · go_simp
      refine hK _ _ ?_
      clear hK K; refine wpAny_ready (rs := [0, 4]) (by kernel_rfl) (by simp) ?_
      refine AllReady.cons rfl (fun K hK => ?_) ?_
      · go_simp
        refine hK _ _ ?_
        clear hK K; refine wpAny_ready (rs := [4]) (by kernel_rfl) (by simp) ?_
        refine AllReady.cons rfl (fun K hK => ?_) ?_
        · go_simp
          refine (CC.out _ (HF8.out.below (bel_drewN _ 1))).mono ?_; rintro e w4 ⟨⟨sx, rfl, hF4⟩, c4⟩; have B4 : Hid (Below W8.heap.size W8 w4) := bel_tr (bel_drewN _ 1) c4; have HF4 : Hid (Free W8.heap.size w4 (⟨xp, xd, xq, xl ++ [⟨nb, ng, 0⟩], xw⟩, sx)) := hF4; have p0 := bel_cell B4.out x0; have p1 := bel_cell B4.out x1; have p2 := bel_cell B4.out x2; obtain ⟨a0, a1, a2, a3, a4, a5, a6, a7, a8, a9, a10, afr⟩ := HAN8.out.below B4.out; unfold ndV; unfold zeroB at a1 a2 a3; unfold noS at a4; unfold zeroX zeroN noS at a5 a6 a7 a8 a9; simp only at a1 a2 a3 a4 a5 a6 a7 a8 a9 ⊢; clear hF4 c4
          try go_simp
          refine hK _ _ ?_
          clear hK K; refine wpAny_take (i := 5) (v := ?_) rfl (by kernel_rfl) (by kernel_rfl) (by kernel_rfl) (fun _ _ _ h => h) (Or.inl ⟨by rfl, ?_⟩) ?_
          rotate_left
          · intro w; go_simp; first | done | with_reducible rfl
          refine wpAny_ready (rs := [6]) (by kernel_rfl) (by simp) ?_
          refine AllReady.cons rfl (fun K hK => ?_) ?_
          · go_simp
            refine hK _ _ ?_
            clear hK K; refine wpAny_done (by kernel_rfl) ?_ _
            go_wp2; obtain ⟨hA, hD⟩ := HEND.out w4 sx B4.out HF4.out
            have k0 := hA.c0
            have k1 := hA.c1
            have k2 := hA.c2
            have k3 := hA.c3
            have k4 := hA.c4
            have k5 := hA.c5
            have k6 := hA.c6
            have k7 := hA.c7
            have k8 := hA.c8
            have k9 := hA.c9
            have k10 := hA.c10
            unfold put11 noS at k0 k1 k2 k3 k4 k5 k6 k7 k8 k9 k10 hD; simp only [anV] at k0 k1 k2 k3 k4 k5 k6 k7 k8 k9 k10 hD
            refine bodyPost_ret ?_ rfl hD
            simp only [results, Tryz.results61]
            simp [go_sem, k0, k1, k2, k3, k4, k5, k6, k7, k8, k9, k10]
          exact AllReady.nil
        exact AllReady.nil
      refine AllReady.cons rfl (fun K hK => ?_) ?_
      · go_simp
        refine (CC.out _ (HF8.out.below (bel_drewN _ 1))).mono ?_; rintro e w4 ⟨⟨sx, rfl, hF4⟩, c4⟩; have B4 : Hid (Below W8.heap.size W8 w4) := bel_tr (bel_drewN _ 1) c4; have HF4 : Hid (Free W8.heap.size w4 (⟨xp, xd, xq, xl ++ [⟨nb, ng, 0⟩], xw⟩, sx)) := hF4; have p0 := bel_cell B4.out x0; have p1 := bel_cell B4.out x1; have p2 := bel_cell B4.out x2; obtain ⟨a0, a1, a2, a3, a4, a5, a6, a7, a8, a9, a10, afr⟩ := HAN8.out.below B4.out; unfold ndV; unfold zeroB at a1 a2 a3; unfold noS at a4; unfold zeroX zeroN noS at a5 a6 a7 a8 a9; simp only at a1 a2 a3 a4 a5 a6 a7 a8 a9 ⊢; clear hF4 c4
        try go_simp
        refine hK _ _ ?_
        clear hK K; refine wpAny_ready (rs := [0]) (by kernel_rfl) (by simp) ?_
        refine AllReady.cons rfl (fun K hK => ?_) ?_
        · go_simp
          refine hK _ _ ?_
          clear hK K; refine wpAny_take (i := 5) (v := ?_) rfl (by kernel_rfl) (by kernel_rfl) (by kernel_rfl) (fun _ _ _ h => h) (Or.inl ⟨by rfl, ?_⟩) ?_
          rotate_left
          · intro w; go_simp; first | done | with_reducible rfl
          refine wpAny_ready (rs := [6]) (by kernel_rfl) (by simp) ?_
          refine AllReady.cons rfl (fun K hK => ?_) ?_
          · go_simp
            refine hK _ _ ?_
            clear hK K; refine wpAny_done (by kernel_rfl) ?_ _
            go_wp2; obtain ⟨hA, hD⟩ := HEND.out w4 sx B4.out HF4.out
            have k0 := hA.c0
            have k1 := hA.c1
            have k2 := hA.c2
            have k3 := hA.c3
            have k4 := hA.c4
            have k5 := hA.c5
            have k6 := hA.c6
            have k7 := hA.c7
            have k8 := hA.c8
            have k9 := hA.c9
            have k10 := hA.c10
            unfold put11 noS at k0 k1 k2 k3 k4 k5 k6 k7 k8 k9 k10 hD; simp only [anV] at k0 k1 k2 k3 k4 k5 k6 k7 k8 k9 k10 hD
            refine bodyPost_ret ?_ rfl hD
            simp only [results, Tryz.results61]
            simp [go_sem, k0, k1, k2, k3, k4, k5, k6, k7, k8, k9, k10]
          exact AllReady.nil
        exact AllReady.nil
      exact AllReady.nil
    exact AllReady.nil)
end Go.Proofs.YtdilfbfkeiaafaaGreat.Spa
