/- Part 30 of the proof: SpaceFL, SpaceFM, SpaceFN, SpaceFO, SpaceFP, SpaceFQ, SpaceFR, SpaceFV, SpaceFT, SpaceFU, SpaceL1, SpaceL5. -/
import Derived.Test.YticiihjkgiookaaGreatB17
import Derived.Test.YticiihjkgiookaaGreatB28
import Derived.Test.YticiihjkgiookaaGreatB29
import Derived.BigQuiet
import Derived.Deep.LoopGhost

/- The contract of space.addBlock. -/
namespace Go.Proofs.YticiihjkgiookaaGreat.Spa
open Go.RowKit Go.Proofs.YticiihjkgiookaaGreat
open Go.Proofs.YticiihjkgiookaaGreat.Lea (LS Ls findX putL renX LL LO LsR lsC wideL)
open Go.Proofs.YticiihjkgiookaaGreat.Edi (Ed Nm EdAt edV)

theorem src_blkD (w : World) (b : Blk) : Src Tryz.prog 3 33 (.slice (some ⟨w.heap.size, 0, none⟩) 1 1) 1 (blkC b) (w.alloc (.cells #[.int .i64 b.id, .int .i64 b.gen, .int .i64 b.len] 31)).drew := by
  refine Src.ofSlice _ Tryz.underlying33 ⟨w.heap.size, 0, none⟩ 1 1 _ rfl (fun j u hu => ?_) (fun u hu => wideB.one b u hu)
  rw [Addr.add_lit, Nat.zero_add]
  have := World.cell?_alloc_new w #[.int .i64 b.id, .int .i64 b.gen, .int .i64 b.len] 31 j
  have e : (w.alloc (.cells #[.int .i64 b.id, .int .i64 b.gen, .int .i64 b.len] 31)).drew.cell? ⟨w.heap.size, j, none⟩ = _ := this
  rw [e, ← hu]
  unfold blkC
  simp

/-- A space at its own bound. -/
theorem preOf {base S : Nat} {W : World} {s : Sp} {N L : RS} {ps : List NR} {gb : Nat} {gl : Option Nat} (hc : SpC W S s N L) (ho : Own base W s N L ps (some gb) gl) (hna : N.a = some ⟨gb, 0, none⟩) (hsb : S < base) (hbw : base ≤ W.heap.size) : Pre base W.heap.size S W s N L ps gb gl :=
  ⟨hc, ho, hna, hsb, hbw, ho.lot.cel.lt.1, fun k hk => (ho.lo.own k hk).1, fun x hx k hk => (ho.lot.ok x hx).ok.bs.lt k hk, Nat.le_refl _⟩
theorem pre_ng {base M S : Nat} {W : World} {s : Sp} {N L : RS} {ps : List NR} {gb : Nat} {gl : Option Nat} (hP : Pre base M S W s N L ps gb gl) (v : Int) : Pre base M S (W.setCell ⟨S, 2, none⟩ (.int .i64 v)) ⟨s.tx, s.nb, v, s.now, s.ns, s.ls⟩ N L ps gb gl ∧ Stay (fun k => k = S) W (W.setCell ⟨S, 2, none⟩ (.int .i64 v)) := by
  obtain ⟨a1, a2⟩ := hP.c.set2 v
  have hsb := hP.sb
  have ho := hP.own.out a2 (fun k hk => by omega)
  exact ⟨⟨a1, ⟨ho.lot, ho.map, ho.lo, ho.sep, ho.gl1, ho.gl2⟩, hP.na, hP.sb, Nat.le_trans hP.bw a2.size, hP.m1, hP.m2, hP.m3, Nat.le_trans hP.mw a2.size⟩, a2⟩
theorem pre_nb {base M S : Nat} {W : World} {s : Sp} {N L : RS} {ps : List NR} {gb : Nat} {gl : Option Nat} (hP : Pre base M S W s N L ps gb gl) (v : Int) : Pre base M S (W.setCell ⟨S, 1, none⟩ (.int .i64 v)) ⟨s.tx, v, s.ng, s.now, s.ns, s.ls⟩ N L ps gb gl ∧ Stay (fun k => k = S) W (W.setCell ⟨S, 1, none⟩ (.int .i64 v)) := by
  obtain ⟨a1, a2⟩ := hP.c.set1 v
  have hsb := hP.sb
  have ho := hP.own.out a2 (fun k hk => by omega)
  exact ⟨⟨a1, ⟨ho.lot, ho.map, ho.lo, ho.sep, ho.gl1, ho.gl2⟩, hP.na, hP.sb, Nat.le_trans hP.bw a2.size, hP.m1, hP.m2, hP.m3, Nat.le_trans hP.mw a2.size⟩, a2⟩

/-- A block more lies in the node's row. -/
theorem addedB {base M0 S : Nat} {W W' w5 : World} {s : Sp} {N L : RS} {ps : List NR} {gb : Nat} {gl : Option Nat} (h : Pre base M0 S W s N L ps gb gl) {i : Nat} {xp : ByteArray} {xd : Bool} {xq : Int} {xl : List Blk} {xw : Int} {r : RS} (hX : ps[i]? = some (⟨xp, xd, xq, xl, xw⟩, r)) (hne : r.blk ≠ some gb) (hl : xl.length = r.n) (hb : Below W.heap.size W W') {a5 : Option Addr} {c5 : Nat} {g5 : Option Nat} {b : Blk}
    (hC : Cel (fun k => base ≤ k) w5 3 (.slice a5 (r.n + 1) c5) (r.n + 1) (rowC blkC (xl ++ [b])) g5) (hS : Stay (fun k => r.blk = some k) W' w5) (hg : ∀ k, g5 = some k → r.blk = some k ∨ W'.heap.size ≤ k) :
    (w5.cell? ⟨gb, i * 5 + 3, none⟩ = some (.slice r.a r.n r.c) ∧ w5.frozen? ⟨gb, i * 5 + 3, none⟩ = false) ∧ Own base (w5.setCell ⟨gb, i * 5 + 3, none⟩ (.slice a5 (r.n + 1) c5)) ⟨s.tx, s.nb, s.ng, s.now, s.ns.set i ⟨xp, xd, xq, xl ++ [b], xw⟩, s.ls⟩ N L (ps.set i (⟨xp, xd, xq, xl ++ [b], xw⟩, ⟨a5, r.n + 1, c5⟩)) (some gb) gl ∧ SpC (w5.setCell ⟨gb, i * 5 + 3, none⟩ (.slice a5 (r.n + 1) c5)) S ⟨s.tx, s.nb, s.ng, s.now, s.ns.set i ⟨xp, xd, xq, xl ++ [b], xw⟩, s.ls⟩ N L ∧ Stay (fun k => r.blk = some k ∨ k = gb) W (w5.setCell ⟨gb, i * 5 + 3, none⟩ (.slice a5 (r.n + 1) c5)) ∧ (∀ k, (⟨a5, r.n + 1, c5⟩ : RS).blk = some k → r.blk = some k ∨ W.heap.size ≤ k) := by
  have hP := h.below hb
  obtain ⟨hi, hx⟩ := List.getElem?_eq_some_iff.1 hX
  have hf := hP.free' hX
  have hlt := hP.lt
  have hbs : W'.heap.size ≤ w5.heap.size := hS.size
  have hws := hb.size
  have hkeep : w5.heap[gb]? = W'.heap[gb]? := hS.block gb hlt.1 hne
  have ha := (hP.lies hf.2.2.2.1).at' hX
  have hc3 : w5.cell? ⟨gb, i * 5 + 3, none⟩ = some (.slice r.a r.n r.c) := (World.cell?_of_block (a := ⟨gb, i * 5 + 3, none⟩) hkeep).trans ha.c3
  have hf3 : w5.frozen? ⟨gb, i * 5 + 3, none⟩ = false := (World.frozen?_of_block (a := ⟨gb, i * 5 + 3, none⟩) hkeep).trans (hf.2.2.2.2 3 (by omega))
  obtain ⟨q, ha5, hg5⟩ := hC.at2 (by omega)
  have hblk : (⟨a5, r.n + 1, c5⟩ : RS).blk = some q := by unfold RS.blk; rw [if_neg (by show ¬ r.n + 1 = 0; omega)]; show a5.map _ = _; rw [ha5]; rfl
  have hq := hg q hg5
  have hqg : q ≠ gb := fun e => by
    rcases hq with e2 | e2
    · exact hne (by rw [e2, e])
    · omega
  have hS2 : Stay (fun k => k = gb) w5 (w5.setCell ⟨gb, i * 5 + 3, none⟩ (.slice a5 (r.n + 1) c5)) := Stay.setCell _ _ _ rfl
  have hF5 : Free base w5 (⟨xp, xd, xq, xl ++ [b], xw⟩, ⟨a5, r.n + 1, c5⟩) := free_of_cel hC (by rw [List.length_append, hl]; rfl) rfl hf.1.ok.small
  have hF6 : Free base (w5.setCell ⟨gb, i * 5 + 3, none⟩ (.slice a5 (r.n + 1) c5)) (⟨xp, xd, xq, xl ++ [b], xw⟩, ⟨a5, r.n + 1, c5⟩) := Stay.free hF5 hS2 (fun k hk e => by
    have hk' : (⟨a5, r.n + 1, c5⟩ : RS).blk = some k := hk
    rw [hblk] at hk'
    exact hqg ((Option.some.inj hk').trans e))
  have hST : Stay (fun k => r.blk = some k ∨ k = gb) W' (w5.setCell ⟨gb, i * 5 + 3, none⟩ (.slice a5 (r.n + 1) c5)) := (hS.mono (fun k hk => .inl hk)).then_same (hS2.mono (fun k hk => .inr hk))
  have hCN : Cel (fun k => base ≤ k) w5 5 (.slice N.a N.n N.c) N.n (rowC ndC ps) (some gb) := hP.own.lot.cel.stay hS.size (fun k hk => by cases hk; exact hkeep) (fun _ e => e)
  have hC6 := Cel.setF hCN hP.own.lot.len hi 3 (by omega) (.slice a5 (r.n + 1) c5) (⟨xp, xd, xq, xl ++ [b], xw⟩, ⟨a5, r.n + 1, c5⟩) (fun j => by
    rw [hx]
    match j with
    | 0 => rfl
    | 1 => rfl
    | 2 => rfl
    | 3 => rfl
    | 4 => rfl
    | j + 5 => rfl)
  have hO := hP.own.upd hi (⟨xp, xd, xq, xl ++ [b], xw⟩, ⟨a5, r.n + 1, c5⟩) hC6 hF6 hST (fun k _ e => by rw [hx]; exact e.symm) (fun k hk => by
    rw [hx]
    have hk' : (⟨a5, r.n + 1, c5⟩ : RS).blk = some k := hk
    rw [hblk] at hk'
    cases hk'
    exact hq)
  refine ⟨⟨hc3, hf3⟩, hO, (hP.c.keep hST (fun e => ?_)).ns _ _, (Stay.of_below hb).then_same hST, fun k hk => ?_⟩
  · have hsb := hP.sb
    rcases e with e | e
    · have := hf.1.blk_ge S e; omega
    · omega
  · rw [hblk] at hk
    cases hk
    rcases hq with e | e
    · exact .inl e
    · exact .inr (by omega)

set_option maxRecDepth 100000 in
set_option maxHeartbeats 4000000 in
theorem addBlock_long {base M0 S : Nat} {w : World} {s : Sp} {N L : RS} {ps : List NR} {gb : Nat} {gl : Option Nat} (h : Pre base M0 S w s N L ps gb gl) (e : Ed) (ea : Option Addr) (em eq : Nat) (hn : Nm w ea em e.ls) (hnb : ∀ ad, ea = some ad → 0 < em → ad.block < base) (hs : e.p.size ≤ maxLen) (i : Nat) (x : Nd) (hw : Wr s e i x) (hl : LenOk x.bs e.ls) (h8 : x.bs.length ≤ 8) (hx : x.bs.length = 8 ∨ s.nb = 9007199254740991 ∨ s.ng = 9007199254740991) :
    Calls Tryz.prog 48 #[.pointer (some ⟨S, 0, none⟩), edV e ea em eq] w fun r w' => LeftR S base M0 4 w r w' := by
  have hiq : Is (ps.map (·.1)) e.p i x := by rw [h.own.map]; exact hw.is
  obtain ⟨r, hX⟩ := is_at' hiq
  obtain ⟨hF0, hg0, hiN, hpos, _⟩ := h.free' hX
  have hrn : x.bs.length = r.n := hF0.ok.bs.len
  have hxs : x.path.size ≤ maxLen := hF0.ok.small
  have CW : Hid (∀ W, Below w.heap.size w W → Calls Tryz.prog 93 #[.pointer (some ⟨S, 0, none⟩), edV e ea em eq] W fun e w' => e = .returned (.pointer (some ⟨gb, i * 5, none⟩)) ∧ Below W.heap.size W w') := fun W hb => written_ok ((h.below hb).lies hpos) e ea em eq hs i x hiq hw.dir hw.wr
  have CS : Hid (∀ W, Below w.heap.size w W → Calls Tryz.prog 94 #[.pointer (some ⟨gb, i * 5, none⟩), .slice ea em eq] W fun r' w' => r' = .returned (.tuple #[]) ∧ Free base w' (withBs x (setLens x.bs e.ls), r) ∧ Stay (fun k => r.blk = some k) W w' ∧ (Rm W r → Rm w' r)) := fun W hb => by
    have hP := h.below hb
    obtain ⟨hF, hg, _, _, _⟩ := hP.free' hX
    refine setLengths_ok2 (x := x) (s := r) hF ((hP.lies hpos).at' hX).c3 hg (hn.below hb) (fun ad had hp e => ?_) hl (by omega)
    have := hF.blk_ge _ e
    have := hnb ad had hp
    omega
  have HX : Hid (ps[i]? = some (x, r)) := hX
  have HPRE : Hid (Pre base M0 S w s N L ps gb gl) := h
  have HRN : Hid (x.bs.length = r.n ∧ r.n ≤ 8) := ⟨hrn, by omega⟩
  have HLEN : Hid ((setLens x.bs e.ls).length = r.n) := by show _ = _; rw [setLens_len _ _ hl.len]; exact hrn
  have HGE : Hid (∀ k, r.blk = some k → base ≤ k ∧ k < M0) := fun k hk => ⟨hF0.blk_ge k hk, h.m3 _ (List.mem_of_getElem? hX) k hk⟩
  obtain ⟨k, p, t, cl, l, nn, ls⟩ := e
  obtain ⟨xp, xd, xq, xb, xw⟩ := x
  obtain ⟨ra, rn, rc⟩ := r
  obtain ⟨tx, nb, ng, now, ns, lss⟩ := s
  simp only at CS HX HRN HLEN HGE hxs hrn h8 hx ⊢
  have HN2 : Hid (∀ w1 w2, Below w.heap.size w w1 → Free base w2 (⟨xp, xd, xq, setLens xb ls, xw⟩, ⟨ra, rn, rc⟩) → Stay (fun k => (⟨ra, rn, rc⟩ : RS).blk = some k) w1 w2 → Pre base M0 S w2 ⟨tx, nb, ng, now, ns.set i ⟨xp, xd, xq, setLens xb ls, xw⟩, lss⟩ N L (ps.set i (⟨xp, xd, xq, setLens xb ls, xw⟩, ⟨ra, rn, rc⟩)) gb gl) := fun w1 w2 hb hF hS => (HPRE.out.below hb).bs' HX.out _ hF hS
  unfold withBs at CS
  unfold edV at CW ⊢
  simp only at CS CW ⊢
  generalize setLens xb ls = xl at *
  have CR : Hid (∀ W, Calls Tryz.prog 18 #[.bool true, .int .i64 4] W fun e w' => e = leftV 4 ∧ W = w') := fun W => (refuse_yes 4 W).mono fun e w' ⟨h1, h2⟩ => ⟨h1, h2.symm⟩
  have hst := run_store_str
  have hst2 : ∀ (w : World) (a : Addr) (x : Option Addr) (n c : Nat) (m : Mode), (store a (.slice x n c) m).run Tryz.prog w = stored Tryz.prog w a (.slice x n c) m := fun w a x n c m => run_store_any w a _ m rfl
  have HSB : Hid (S < base) := h.sb
  have fin : ∀ w1 w2, Below w.heap.size w w1 → Stay (fun k => (⟨ra, rn, rc⟩ : RS).blk = some k) w1 w2 → LeftR S base M0 4 w (leftV 4) w2 := fun w1 w2 hb hS2 => ⟨rfl, (Stay.of_below hb).trans hS2 (fun k _ e => .inr (HGE.out k e)), fun s N L h => ⟨s, N, L, (h.below hb).keep hS2 (fun e => by have := HGE.out S e; have := HSB.out; omega)⟩⟩
  have HFIN : Hid _ := fin
  clear fin
  rw [hrn] at hx
  clear h hn hnb hs hw hl h8 hiq hX hF0 hg0 hiN hpos hrn hxs
  by_cases c1 : rn = 8
  · have b1 : ((rn : Int) == 8) = true := by simp [c1]
    clear hx c1
    go_enter Tryz.func48, Tryz.ntmps48
    go_wp2_with (first
      | (go_at_call 93; refine (CW.out _ (bel_tr (bel_al _ _) (bel_al _ _))).mono ?_; rintro e w1 ⟨rfl, c1⟩; obtain ⟨q1, q2, q3, q4, q5, q6⟩ := two_boxes c1; have y0 := q1 0 _ rfl; have y1 := q1 1 _ rfl; have y2 := q1 2 _ rfl; have y3 := q1 3 _ rfl; have y4 := q1 4 _ rfl; have y5 := q1 5 _ rfl; have y6 := q1 6 _ rfl; have B1 : Hid (Below w.heap.size w w1) := q5; have HAN : Hid (AnC w1 (w.heap.size + 1) 0 zeroB noS zeroX 0) := ⟨q3 0 _ rfl, q3 1 _ rfl, q3 2 _ rfl, q3 3 _ rfl, q3 4 _ rfl, q3 5 _ rfl, q3 6 _ rfl, q3 7 _ rfl, q3 8 _ rfl, q3 9 _ rfl, q3 10 _ rfl, q4⟩; have HSZ : Hid (w.heap.size + 2 ≤ w1.heap.size) := q6; clear c1 q1 q2 q3 q4 q5 q6)
      | (go_at_call 94; refine (CS.out _ B1.out).mono ?_; rintro e w2 ⟨rfl, hF2, hS2, hR2⟩; have hP2 := HN2.out w1 w2 B1.out hF2 hS2; obtain ⟨n0, n1, n2, n3, n4⟩ := (hP2.lies (hP2.free' (set_at' HX.out _)).2.2.2.1).at' (set_at' HX.out _); have s1 := hP2.c.c1; have s2 := hP2.c.c2; have HP2 : Hid _ := hP2; have HS2 : Hid (Stay (fun k => (⟨ra, rn, rc⟩ : RS).blk = some k) w1 w2) := hS2; have HR2 : Hid (Rm w1 ⟨ra, rn, rc⟩ → Rm w2 ⟨ra, rn, rc⟩) := hR2; simp only at n0 n1 n2 n3 n4 s1 s2; clear hF2 hS2 hP2 hR2)
      | (go_at_call 18; refine (CR.out _).mono ?_; rintro e w3 ⟨rfl, rfl⟩))
    exact left_post rfl (HFIN.out w1 w2 B1.out HS2.out)
  · have b1 : ((rn : Int) == 8) = false := by rw [beq_eq_false_iff_ne]; omega
    by_cases c2 : nb = 9007199254740991
    · have b2 : (nb == 9007199254740991) = true := by simp [c2]
      clear hx c1 c2
      go_enter Tryz.func48, Tryz.ntmps48
      go_wp2_with (first
        | (go_at_call 93; refine (CW.out _ (bel_tr (bel_al _ _) (bel_al _ _))).mono ?_; rintro e w1 ⟨rfl, c1⟩; obtain ⟨q1, q2, q3, q4, q5, q6⟩ := two_boxes c1; have y0 := q1 0 _ rfl; have y1 := q1 1 _ rfl; have y2 := q1 2 _ rfl; have y3 := q1 3 _ rfl; have y4 := q1 4 _ rfl; have y5 := q1 5 _ rfl; have y6 := q1 6 _ rfl; have B1 : Hid (Below w.heap.size w w1) := q5; have HAN : Hid (AnC w1 (w.heap.size + 1) 0 zeroB noS zeroX 0) := ⟨q3 0 _ rfl, q3 1 _ rfl, q3 2 _ rfl, q3 3 _ rfl, q3 4 _ rfl, q3 5 _ rfl, q3 6 _ rfl, q3 7 _ rfl, q3 8 _ rfl, q3 9 _ rfl, q3 10 _ rfl, q4⟩; have HSZ : Hid (w.heap.size + 2 ≤ w1.heap.size) := q6; clear c1 q1 q2 q3 q4 q5 q6)
        | (go_at_call 94; refine (CS.out _ B1.out).mono ?_; rintro e w2 ⟨rfl, hF2, hS2, hR2⟩; have hP2 := HN2.out w1 w2 B1.out hF2 hS2; obtain ⟨n0, n1, n2, n3, n4⟩ := (hP2.lies (hP2.free' (set_at' HX.out _)).2.2.2.1).at' (set_at' HX.out _); have s1 := hP2.c.c1; have s2 := hP2.c.c2; have HP2 : Hid _ := hP2; have HS2 : Hid (Stay (fun k => (⟨ra, rn, rc⟩ : RS).blk = some k) w1 w2) := hS2; have HR2 : Hid (Rm w1 ⟨ra, rn, rc⟩ → Rm w2 ⟨ra, rn, rc⟩) := hR2; simp only at n0 n1 n2 n3 n4 s1 s2; clear hF2 hS2 hP2 hR2)
        | (go_at_call 18; refine (CR.out _).mono ?_; rintro e w3 ⟨rfl, rfl⟩))
      exact left_post rfl (HFIN.out w1 w2 B1.out HS2.out)
    · have b2 : (nb == 9007199254740991) = false := by simpa using c2
      have b3 : (ng == 9007199254740991) = true := by
        have : ng = 9007199254740991 := by rcases hx with e | e | e <;> first | exact absurd e c1 | exact absurd e c2 | exact e
        simp [this]
      clear hx c1 c2
      go_enter Tryz.func48, Tryz.ntmps48
      go_wp2_with (first
        | (go_at_call 93; refine (CW.out _ (bel_tr (bel_al _ _) (bel_al _ _))).mono ?_; rintro e w1 ⟨rfl, c1⟩; obtain ⟨q1, q2, q3, q4, q5, q6⟩ := two_boxes c1; have y0 := q1 0 _ rfl; have y1 := q1 1 _ rfl; have y2 := q1 2 _ rfl; have y3 := q1 3 _ rfl; have y4 := q1 4 _ rfl; have y5 := q1 5 _ rfl; have y6 := q1 6 _ rfl; have B1 : Hid (Below w.heap.size w w1) := q5; have HAN : Hid (AnC w1 (w.heap.size + 1) 0 zeroB noS zeroX 0) := ⟨q3 0 _ rfl, q3 1 _ rfl, q3 2 _ rfl, q3 3 _ rfl, q3 4 _ rfl, q3 5 _ rfl, q3 6 _ rfl, q3 7 _ rfl, q3 8 _ rfl, q3 9 _ rfl, q3 10 _ rfl, q4⟩; have HSZ : Hid (w.heap.size + 2 ≤ w1.heap.size) := q6; clear c1 q1 q2 q3 q4 q5 q6)
        | (go_at_call 94; refine (CS.out _ B1.out).mono ?_; rintro e w2 ⟨rfl, hF2, hS2, hR2⟩; have hP2 := HN2.out w1 w2 B1.out hF2 hS2; obtain ⟨n0, n1, n2, n3, n4⟩ := (hP2.lies (hP2.free' (set_at' HX.out _)).2.2.2.1).at' (set_at' HX.out _); have s1 := hP2.c.c1; have s2 := hP2.c.c2; have HP2 : Hid _ := hP2; have HS2 : Hid (Stay (fun k => (⟨ra, rn, rc⟩ : RS).blk = some k) w1 w2) := hS2; have HR2 : Hid (Rm w1 ⟨ra, rn, rc⟩ → Rm w2 ⟨ra, rn, rc⟩) := hR2; simp only at n0 n1 n2 n3 n4 s1 s2; clear hF2 hS2 hP2 hR2)
        | (go_at_call 18; refine (CR.out _).mono ?_; rintro e w3 ⟨rfl, rfl⟩))
      exact left_post rfl (HFIN.out w1 w2 B1.out HS2.out)

set_option maxRecDepth 100000 in
set_option maxHeartbeats 4000000 in
theorem addBlock_ok {base M0 S : Nat} {w : World} {s : Sp} {N L : RS} {ps : List NR} {gb : Nat} {gl : Option Nat} (h : Pre base M0 S w s N L ps gb gl) (e : Ed) (ea : Option Addr) (em eq : Nat) (hn : Nm w ea em e.ls) (hnb : ∀ ad, ea = some ad → 0 < em → ad.block < base) (hs : e.p.size ≤ maxLen) (i : Nat) (x : Nd) (hw : Wr s e i x) (hl : LenOk x.bs e.ls) (h8 : x.bs.length < 8) (hrm : ∀ x ∈ ps, Rm w x.2) (hb1 : 1 ≤ s.nb ∧ s.nb < 9007199254740991) (hb2 : 1 ≤ s.ng ∧ s.ng < 9007199254740991) :
    Calls Tryz.prog 48 #[.pointer (some ⟨S, 0, none⟩), edV e ea em eq] w fun r w' => DoneR S base M0 ⟨s.tx, s.nb + 1, s.ng + 1, s.now, s.ns.set i (withBs x (setLens x.bs e.ls ++ [⟨s.nb, s.ng, 0⟩])), s.ls⟩ ⟨s.nb, s.ng, 0⟩ (withBs x (setLens x.bs e.ls ++ [⟨s.nb, s.ng, 0⟩])) w r w' := by
  have hiq : Is (ps.map (·.1)) e.p i x := by rw [h.own.map]; exact hw.is
  obtain ⟨r, hX⟩ := is_at' hiq
  obtain ⟨hF0, hg0, hiN, hpos, _⟩ := h.free' hX
  have hrn : x.bs.length = r.n := hF0.ok.bs.len
  have hxs : x.path.size ≤ maxLen := hF0.ok.small
  have CW : Hid (∀ W, Below w.heap.size w W → Calls Tryz.prog 93 #[.pointer (some ⟨S, 0, none⟩), edV e ea em eq] W fun e w' => e = .returned (.pointer (some ⟨gb, i * 5, none⟩)) ∧ Below W.heap.size W w') := fun W hb => written_ok ((h.below hb).lies hpos) e ea em eq hs i x hiq hw.dir hw.wr
  have CS : Hid (∀ W, Below w.heap.size w W → Calls Tryz.prog 94 #[.pointer (some ⟨gb, i * 5, none⟩), .slice ea em eq] W fun r' w' => r' = .returned (.tuple #[]) ∧ Free base w' (withBs x (setLens x.bs e.ls), r) ∧ Stay (fun k => r.blk = some k) W w' ∧ (Rm W r → Rm w' r)) := fun W hb => by
    have hP := h.below hb
    obtain ⟨hF, hg, _, _, _⟩ := hP.free' hX
    refine setLengths_ok2 (x := x) (s := r) hF ((hP.lies hpos).at' hX).c3 hg (hn.below hb) (fun ad had hp e => ?_) hl (by omega)
    have := hF.blk_ge _ e
    have := hnb ad had hp
    omega
  have HX : Hid (ps[i]? = some (x, r)) := hX
  have HRM0 : Hid (Rm w r) := hrm _ (List.mem_of_getElem? hX)
  have HPRE : Hid (Pre base M0 S w s N L ps gb gl) := h
  have HRN : Hid (x.bs.length = r.n ∧ r.n ≤ 8) := ⟨hrn, by omega⟩
  have HLEN : Hid ((setLens x.bs e.ls).length = r.n) := by show _ = _; rw [setLens_len _ _ hl.len]; exact hrn
  have HGE : Hid (∀ k, r.blk = some k → base ≤ k ∧ k < M0) := fun k hk => ⟨hF0.blk_ge k hk, h.m3 _ (List.mem_of_getElem? hX) k hk⟩
  obtain ⟨k, p, t, cl, l, nn, ls⟩ := e
  obtain ⟨xp, xd, xq, xb, xw⟩ := x
  obtain ⟨ra, rn, rc⟩ := r
  obtain ⟨tx, nb, ng, now, ns, lss⟩ := s
  simp only at CS HX HRN HLEN HGE hxs hrn h8 hb1 hb2 ⊢
  have HN2 : Hid (∀ w1 w2, Below w.heap.size w w1 → Free base w2 (⟨xp, xd, xq, setLens xb ls, xw⟩, ⟨ra, rn, rc⟩) → Stay (fun k => (⟨ra, rn, rc⟩ : RS).blk = some k) w1 w2 → Pre base M0 S w2 ⟨tx, nb, ng, now, ns.set i ⟨xp, xd, xq, setLens xb ls, xw⟩, lss⟩ N L (ps.set i (⟨xp, xd, xq, setLens xb ls, xw⟩, ⟨ra, rn, rc⟩)) gb gl) := fun w1 w2 hb hF hS => (HPRE.out.below hb).bs' HX.out _ hF hS
  unfold withBs at CS ⊢
  unfold edV at CW ⊢
  simp only at CS CW ⊢
  generalize setLens xb ls = xl at *
  have CR : Hid (∀ E W, Calls Tryz.prog 18 #[.bool false, .int .i64 E] W fun e w' => e = .returned (.tuple #[]) ∧ W = w') := fun E W => (refuse_no E W).mono fun e w' ⟨h1, h2⟩ => ⟨h1, h2.symm⟩
  have hst := run_store_str
  have hst2 : ∀ (w : World) (a : Addr) (x : Option Addr) (n c : Nat) (m : Mode), (store a (.slice x n c) m).run Tryz.prog w = stored Tryz.prog w a (.slice x n c) m := fun w a x n c m => run_store_any w a _ m rfl
  obtain ⟨hb1a, hb1b⟩ := hb1
  obtain ⟨hb2a, hb2b⟩ := hb2
  have b1 : ((rn : Int) == 8) = false := by rw [beq_eq_false_iff_ne]; omega
  have b2 : (nb == 9007199254740991) = false := by rw [beq_eq_false_iff_ne]; omega
  have b3 : (ng == 9007199254740991) = false := by rw [beq_eq_false_iff_ne]; omega
  have HR7 : Hid (rn < 8) := by show rn < 8; omega
  clear h hn hnb hs hw hl h8 hiq hX hF0 hg0 hiN hpos hrn hxs hrm
  go_enter Tryz.func48, Tryz.ntmps48
  go_wp2_with (first
    | (go_at_call 93; refine (CW.out _ (bel_tr (bel_al _ _) (bel_al _ _))).mono ?_; rintro e w1 ⟨rfl, c1⟩; obtain ⟨q1, q2, q3, q4, q5, q6⟩ := two_boxes c1; have y0 := q1 0 _ rfl; have y1 := q1 1 _ rfl; have y2 := q1 2 _ rfl; have y3 := q1 3 _ rfl; have y4 := q1 4 _ rfl; have y5 := q1 5 _ rfl; have y6 := q1 6 _ rfl; have B1 : Hid (Below w.heap.size w w1) := q5; have HAN : Hid (AnC w1 (w.heap.size + 1) 0 zeroB noS zeroX 0) := ⟨q3 0 _ rfl, q3 1 _ rfl, q3 2 _ rfl, q3 3 _ rfl, q3 4 _ rfl, q3 5 _ rfl, q3 6 _ rfl, q3 7 _ rfl, q3 8 _ rfl, q3 9 _ rfl, q3 10 _ rfl, q4⟩; have HSZ : Hid (w.heap.size + 2 ≤ w1.heap.size) := q6; clear c1 q1 q2 q3 q4 q5 q6)
    | (go_at_call 94; refine (CS.out _ B1.out).mono ?_; rintro e w2 ⟨rfl, hF2, hS2, hR2⟩; have hP2 := HN2.out w1 w2 B1.out hF2 hS2; obtain ⟨n0, n1, n2, n3, n4⟩ := (hP2.lies (hP2.free' (set_at' HX.out _)).2.2.2.1).at' (set_at' HX.out _); have s1 := hP2.c.c1; have s2 := hP2.c.c2; have HP2 : Hid _ := hP2; have HS2 : Hid (Stay (fun k => (⟨ra, rn, rc⟩ : RS).blk = some k) w1 w2) := hS2; have HR2 : Hid (Rm w1 ⟨ra, rn, rc⟩ → Rm w2 ⟨ra, rn, rc⟩) := hR2; simp only at n0 n1 n2 n3 n4 s1 s2; clear hF2 hS2 hP2 hR2)
    | (go_at_call 18; refine (CR.out _ _).mono ?_; rintro e w3 ⟨rfl, rfl⟩))
  have s1a := cell_al s1
  have s2a := cell_al s2
  go_region
  clear s1a s2a
  have BA : Hid (Below w2.heap.size w2 (w2.alloc (.cells #[.int .i64 nb, .int .i64 ng, .int .i64 0] 31)).drew) := bel_tr (bel_al w2 _) (bel_drewN _ 1)
  have x0 := bel_cell (bel_drewN (w2.alloc (.cells #[.int .i64 nb, .int .i64 ng, .int .i64 0] 31)) 1) (World.cell?_alloc_new w2 #[.int .i64 nb, .int .i64 ng, .int .i64 0] 31 0)
  have x1 := bel_cell (bel_drewN (w2.alloc (.cells #[.int .i64 nb, .int .i64 ng, .int .i64 0] 31)) 1) (World.cell?_alloc_new w2 #[.int .i64 nb, .int .i64 ng, .int .i64 0] 31 1)
  have x2 := bel_cell (bel_drewN (w2.alloc (.cells #[.int .i64 nb, .int .i64 ng, .int .i64 0] 31)) 1) (World.cell?_alloc_new w2 #[.int .i64 nb, .int .i64 ng, .int .i64 0] 31 2)
  have X0 : Hid ((w2.alloc (.cells #[.int .i64 nb, .int .i64 ng, .int .i64 0] 31)).drew.cell? ⟨w2.heap.size, 0, none⟩ = some (.int .i64 nb)) := x0
  have X1 : Hid ((w2.alloc (.cells #[.int .i64 nb, .int .i64 ng, .int .i64 0] 31)).drew.cell? ⟨w2.heap.size, 1, none⟩ = some (.int .i64 ng)) := x1
  have X2 : Hid ((w2.alloc (.cells #[.int .i64 nb, .int .i64 ng, .int .i64 0] 31)).drew.cell? ⟨w2.heap.size, 2, none⟩ = some (.int .i64 0)) := x2
  have HSZ3 : Hid (w.heap.size + 2 ≤ w2.heap.size ∧ w2.heap.size < (w2.alloc (.cells #[.int .i64 nb, .int .i64 ng, .int .i64 0] 31)).drew.heap.size) := by
    have h1 := HS2.out.size
    have h2 := HSZ.out
    refine ⟨by omega, ?_⟩
    show w2.heap.size < (w2.alloc _).heap.size
    simp
  clear x0 x1 x2
  generalize hW3 : (w2.alloc (.cells #[.int .i64 nb, .int .i64 ng, .int .i64 0] 31)).drew = W3 at *
  clear hW3
  obtain ⟨Bb, hBb⟩ : ∃ B, w2.heap.size = B := ⟨_, rfl⟩
  have hP3 := HP2.out.below BA.out
  have HP3 : Hid (Pre base M0 S W3 ⟨tx, nb, ng, now, ns.set i ⟨xp, xd, xq, xl, xw⟩, lss⟩ N L (ps.set i (⟨xp, xd, xq, xl, xw⟩, ⟨ra, rn, rc⟩)) gb gl) := hP3
  have hrb := (HPRE.out.free' HX.out).1.ok.bs.lt
  have HRM3 : Hid (Rm W3 ⟨ra, rn, rc⟩) := (HR2.out (HRM0.out.below B1.out)).below BA.out
  have HAN3 : Hid (AnC W3 (w.heap.size + 1) 0 zeroB noS zeroX 0) := (HAN.out.keep HS2.out (fun e => by have := hrb _ e; omega)).below BA.out
  have HST3 : Hid (Stay (Chg S base M0) w W3) := ((Stay.of_below B1.out).trans HS2.out (fun k _ e => .inr (HGE.out k e))).then_below BA.out
  have HNE : Hid ((⟨ra, rn, rc⟩ : RS).blk ≠ some gb) := (HPRE.out.free' HX.out).2.1
  have v3 := ((hP3.lies (hP3.free' (set_at' HX.out _)).2.2.2.1).at' (set_at' HX.out _)).c3
  have x0 := X0.out
  have x1 := X1.out
  have x2 := X2.out
  rw [hBb] at x0 x1 x2 HSZ3 X0 X1 X2
  have HBB : Hid (w2.heap.size = Bb) := hBb
  simp only at v3
  clear hP3 hrb n0 n1 n2 n3 n4 s1 s2
  have v3a := cell_al v3
  have x0a := cell_al x0
  have x1a := cell_al x1
  have x2a := cell_al x2
  have BB : Hid (∀ o, Below W3.heap.size W3 (W3.alloc o).drew) := fun o => bel_tr (bel_al W3 o) (bel_drewN _ 1)
  have HSRC : Hid (Src Tryz.prog 3 33 (.slice (some ⟨W3.heap.size, 0, none⟩) 1 1) 1 (blkC ⟨nb, ng, 0⟩) (W3.alloc (.cells #[.int .i64 nb, .int .i64 ng, .int .i64 0] 31)).drew) := src_blkD W3 ⟨nb, ng, 0⟩
  have HB3 : Hid (base ≤ W3.heap.size) := HP3.out.bw
  have HADD : Hid (∀ o w5 a5 c5 g5, Cel (fun k => base ≤ k) w5 3 (.slice a5 (rn + 1) c5) (rn + 1) (rowC blkC (xl ++ [⟨nb, ng, 0⟩])) g5 → Stay (fun k => (⟨ra, rn, rc⟩ : RS).blk = some k) (W3.alloc o).drew w5 → (∀ k, g5 = some k → (⟨ra, rn, rc⟩ : RS).blk = some k ∨ (W3.alloc o).drew.heap.size ≤ k) → (w5.cell? ⟨gb, i * 5 + 3, none⟩ = some (.slice ra rn rc) ∧ w5.frozen? ⟨gb, i * 5 + 3, none⟩ = false) ∧ Own base (w5.setCell ⟨gb, i * 5 + 3, none⟩ (.slice a5 (rn + 1) c5)) ⟨tx, nb, ng, now, ns.set i ⟨xp, xd, xq, xl ++ [⟨nb, ng, 0⟩], xw⟩, lss⟩ N L (ps.set i (⟨xp, xd, xq, xl ++ [⟨nb, ng, 0⟩], xw⟩, ⟨a5, rn + 1, c5⟩)) (some gb) gl ∧ SpC (w5.setCell ⟨gb, i * 5 + 3, none⟩ (.slice a5 (rn + 1) c5)) S ⟨tx, nb, ng, now, ns.set i ⟨xp, xd, xq, xl ++ [⟨nb, ng, 0⟩], xw⟩, lss⟩ N L ∧ Stay (fun k => (⟨ra, rn, rc⟩ : RS).blk = some k ∨ k = gb) W3 (w5.setCell ⟨gb, i * 5 + 3, none⟩ (.slice a5 (rn + 1) c5)) ∧ (∀ k, (⟨a5, rn + 1, c5⟩ : RS).blk = some k → (⟨ra, rn, rc⟩ : RS).blk = some k ∨ W3.heap.size ≤ k)) := fun o w5 a5 c5 g5 hC hS hg => by
    have := addedB HP3.out (set_at' HX.out _) HNE.out HLEN.out (BB.out o) hC hS hg
    simp only [List.set_set] at this
    exact this
  go_wp2
  go_region_law (refine step_append_blk rfl (.tmp 50) (.tmp 52) rfl (base := base) ⟨xp, xd, xq, xl, xw⟩ ⟨ra, rn, rc⟩ (by simp [Act.eval]) ((HP3.out.free' (set_at' HX.out _)).1.below (BB.out _)) (HRM3.out.below (BB.out _)) (Nat.le_trans HB3.out (BB.out _).size) (by have := HR7.out; show rn ≤ 8; omega) ⟨nb, ng, 0⟩ _ (by simp [Act.eval]) HSRC.out ?_; intro a5 c5 w5 g5 hC5 hS5 hf5; obtain ⟨⟨h3c, h3f⟩, r1, r2, r3, r4⟩ := HADD.out _ w5 a5 c5 g5 hC5 hS5 hf5; have R1 : Hid _ := r1; have R2 : Hid _ := r2; have R3 : Hid _ := r3; have R4 : Hid _ := r4; clear hC5 hS5 hf5 r1 r2 r3 r4)
  all_goals (
    have hsb := HPRE.out.sb
    have hlt := HPRE.out.lt
    have hsz := HSZ3.out
    have hbw := HPRE.out.bw
    have hmw := HPRE.out.mw
    have hOW : ∀ k, ((⟨ra, rn, rc⟩ : RS).blk = some k ∨ k = gb) → base ≤ k ∧ k < M0 := fun k hk => by
      rcases hk with e | e
      · exact HGE.out k e
      · have := HPRE.out.m1
        have := (HPRE.out.own.lot.cel.lt).2
        exact ⟨by omega, by omega⟩
    have HBK : Hid (∀ z ∈ ps.set i (⟨xp, xd, xq, xl ++ [⟨nb, ng, 0⟩], xw⟩, ⟨a5, rn + 1, c5⟩), ∀ k, z.2.blk = some k → k ≠ w.heap.size + 1 ∧ (k < M0 ∨ w.heap.size ≤ k)) := fun z hz k hk => by
      rcases List.mem_or_eq_of_mem_set hz with hz | rfl
      · have := HPRE.out.m3 z hz k hk
        omega
      · rcases R4.out k hk with e | e
        · have := HGE.out k e
          omega
        · omega
    have h6 := preOf R2.out R1.out HPRE.out.na HPRE.out.sb (Nat.le_trans HB3.out R3.out.size)
    have HAN6 : Hid _ := HAN3.out.keep R3.out (fun e => by have := hOW _ e; omega)
    have HST6 : Hid _ := HST3.out.trans R3.out (fun k _ e => .inr (hOW k e))
    have X60 := stay_cell R3.out (fun e => by have := hOW _ e; omega) X0.out
    have X61 := stay_cell R3.out (fun e => by have := hOW _ e; omega) X1.out
    have X62 := stay_cell R3.out (fun e => by have := hOW _ e; omega) X2.out
    have hsz6 := R3.out.size
    have hbs : Bb < (w5.setCell ⟨gb, i * 5 + 3, none⟩ (.slice a5 (rn + 1) c5)).heap.size := by omega
    clear hOW h3c h3f R1 R2 R3 R4 HADD HSRC BB x0 x1 x2 x0a x1a x2a v3 v3a HAN3 HRM3 HP3 X0 X1 X2 HP2 HS2 HR2 HB3 BA HBB hBb HST3 hsz6
    generalize w5.setCell ⟨gb, i * 5 + 3, none⟩ (.slice a5 (rn + 1) c5) = W6 at *
    have s1 := h6.c.c1
    have f1 := h6.c.fr 1
    obtain ⟨h7, t7⟩ := pre_nb h6 (nb + 1)
    have s2 := h7.c.c2
    have f2 := h7.c.fr 2
    obtain ⟨h8, t8⟩ := pre_ng h7 (ng + 1)
    have HP8 : Hid _ := h8
    have T7 : Hid _ := t7
    have T8 : Hid _ := t8
    simp only at s1 s2
    have HNB : Hid (Bb ≠ S ∧ w.heap.size + 1 ≠ S ∧ w.heap.size + 2 ≤ Bb) := ⟨by omega, by omega, by omega⟩
    have HBBS : Hid (Bb < W6.heap.size) := hbs
    have Y0 : Hid _ := X60
    have Y1 : Hid _ := X61
    have Y2 : Hid _ := X62
    clear h6 h7 h8 t7 t8 hsb hlt hsz hbw hmw hbs X60 X61 X62
    go_wp2
    have hn := HNB.out
    have HAN8 : Hid _ := (HAN6.out.keep T7.out (fun e => hn.2.1 e)).keep T8.out (fun e => hn.2.1 e)
    have HST8 : Hid _ := (HST6.out.trans T7.out (fun k _ e => .inl e)).trans T8.out (fun k _ e => .inl e)
    have x0 := stay_cell T8.out (fun e => hn.1 e) (stay_cell T7.out (fun e => hn.1 e) Y0.out)
    have x1 := stay_cell T8.out (fun e => hn.1 e) (stay_cell T7.out (fun e => hn.1 e) Y1.out)
    have x2 := stay_cell T8.out (fun e => hn.1 e) (stay_cell T7.out (fun e => hn.1 e) Y2.out)
    have hs7 := T7.out.size
    have hs8 := T8.out.size
    have HBW8 : Hid (Bb < ((W6.setCell ⟨S, 1, none⟩ (.int .i64 (nb + 1))).setCell ⟨S, 2, none⟩ (.int .i64 (ng + 1))).heap.size) := by have := HBBS.out; show _ < _; omega
    have h8 := HP8.out
    have HF8 : Hid _ := (h8.free' (set_at' HX.out _)).1
    obtain ⟨v0, v1, v2, v3, v4⟩ := (h8.lies (h8.free' (set_at' HX.out _)).2.2.2.1).at' (set_at' HX.out _)
    simp only at v0 v1 v2 v3 v4
    clear T7 T8 Y0 Y1 Y2 hs7 hs8 s1 s2 f1 f2 h8 HAN6 HST6 HBBS
    generalize hW8 : (W6.setCell ⟨S, 1, none⟩ (.int .i64 (nb + 1))).setCell ⟨S, 2, none⟩ (.int .i64 (ng + 1)) = W8 at *
    clear hW8
    have HR8 : Hid (rn + 1 ≤ 8) := HR7.out
    have CC : Hid (∀ W, Free base W (⟨xp, xd, xq, xl ++ [⟨nb, ng, 0⟩], xw⟩, ⟨a5, rn + 1, c5⟩) → Calls Tryz.prog 31 #[.agg #[.string xp, .bool xd, .int .i64 xq, .slice a5 (rn + 1) c5, .int .i64 xw]] W fun e w' => CopyR W.heap.size ⟨xp, xd, xq, xl ++ [⟨nb, ng, 0⟩], xw⟩ e w' ∧ Below W.heap.size W w') := fun W hF => copiedNode_val (⟨xp, xd, xq, xl ++ [(⟨nb, ng, 0⟩ : Blk)], xw⟩, ⟨a5, rn + 1, c5⟩) W hF.ok (by show (rn + 1) * 24 ≤ _; have := HR8.out; omega)
    have HEND : Hid (∀ w4 (sx : RS), Below W8.heap.size W8 w4 → Free W8.heap.size w4 (⟨xp, xd, xq, xl ++ [⟨nb, ng, 0⟩], xw⟩, sx) → AnC (put11 w4 (w.heap.size + 1) 0 ⟨nb, ng, 0⟩ noS (⟨xp, xd, xq, xl ++ [⟨nb, ng, 0⟩], xw⟩, sx) 0) (w.heap.size + 1) 0 ⟨nb, ng, 0⟩ noS (⟨xp, xd, xq, xl ++ [⟨nb, ng, 0⟩], xw⟩, sx) 0 ∧ DoneR S base M0 ⟨tx, nb + 1, ng + 1, now, ns.set i ⟨xp, xd, xq, xl ++ [⟨nb, ng, 0⟩], xw⟩, lss⟩ ⟨nb, ng, 0⟩ ⟨xp, xd, xq, xl ++ [⟨nb, ng, 0⟩], xw⟩ w (.returned (anV 0 ⟨nb, ng, 0⟩ noS (⟨xp, xd, xq, xl ++ [⟨nb, ng, 0⟩], xw⟩, sx) 0)) (put11 w4 (w.heap.size + 1) 0 ⟨nb, ng, 0⟩ noS (⟨xp, xd, xq, xl ++ [⟨nb, ng, 0⟩], xw⟩, sx) 0)) := fun w4 sx hB hF => by
      have h8 := preOf HP8.out.c HP8.out.own HP8.out.na HP8.out.sb HP8.out.bw
      have hb8 := HBW8.out
      have hn := HNB.out
      have hO4 := (h8.own.at h8.m.1 h8.m.2.1 h8.m3).below hB
      exact DoneR.mk2 (HAN8.out.below hB) (h8.c.below hB) hO4 hF h8.bw (HST8.out.then_below hB) (by omega) HPRE.out.bw HPRE.out.lt.2.2.1 (fun k hk => by have := HPRE.out.m1; have := HPRE.out.mw; cases hk; omega) (fun k hk => by have := HPRE.out.m2 k hk; have := HPRE.out.mw; omega) HBK.out (fun k hk => by have h1 := hF.blk_ge k hk; omega)
    clear hn)
  all_goals (
    refine wp_region_any (by kernel_rfl) ?_
    try (change wpAny _ _ _ _ _ _ _ (World.drew _))
    refine wpAny_take (i := 1) (v := ?_) rfl (by kernel_rfl) (by kernel_rfl) (by kernel_rfl) (fun _ _ _ h => h) (Or.inl ⟨by rfl, ?_⟩) ?_
    rotate_left
    · intro w; go_simp; first | done | with_reducible rfl
    refine wpAny_take (i := 2) (v := ?_) rfl (by kernel_rfl) (by kernel_rfl) (by kernel_rfl) (fun _ _ _ h => h) (Or.inl ⟨by rfl, ?_⟩) ?_
    rotate_left
    · intro w; go_simp; first | done | with_reducible rfl
    refine wpAny_ready (rs := [0, 3]) (by kernel_rfl) (by simp) ?_
    refine AllReady.cons rfl (fun K hK => ?_) ?_
    · go_simp
      refine hK _ _ ?_
      clear hK K
      refine wpAny_ready (rs := [3]) (by kernel_rfl) (by simp) ?_
      refine AllReady.cons rfl (fun K hK => ?_) ?_
      · go_simp
        refine hK _ _ ?_
        clear hK K
        refine wpAny_ready (rs := [4]) (by kernel_rfl) (by simp) ?_
        refine AllReady.cons rfl (fun K hK => ?_) ?_
        · go_simp
          refine (CC.out _ (HF8.out.below (bel_drewN _ 1))).mono ?_; rintro e w4 ⟨⟨sx, rfl, hF4⟩, c4⟩; have B4 : Hid (Below W8.heap.size W8 w4) := bel_tr (bel_drewN _ 1) c4; have HF4 : Hid (Free W8.heap.size w4 (⟨xp, xd, xq, xl ++ [⟨nb, ng, 0⟩], xw⟩, sx)) := hF4; have p0 := bel_cell B4.out x0; have p1 := bel_cell B4.out x1; have p2 := bel_cell B4.out x2; obtain ⟨a0, a1, a2, a3, a4, a5, a6, a7, a8, a9, a10, afr⟩ := HAN8.out.below B4.out; unfold ndV; unfold zeroB at a1 a2 a3; unfold noS at a4; unfold zeroX zeroN noS at a5 a6 a7 a8 a9; simp only at a1 a2 a3 a4 a5 a6 a7 a8 a9 ⊢; clear hF4 c4
          try go_simp
          refine hK _ _ ?_
          clear hK K
          refine wpAny_take (i := 5) (v := ?_) rfl (by kernel_rfl) (by kernel_rfl) (by kernel_rfl) (fun _ _ _ h => h) (Or.inl ⟨by rfl, ?_⟩) ?_
          rotate_left
          · intro w; go_simp; first | done | with_reducible rfl
          refine wpAny_ready (rs := [6]) (by kernel_rfl) (by simp) ?_
          refine AllReady.cons rfl (fun K hK => ?_) ?_
          · go_simp
            refine hK _ _ ?_
            clear hK K
            refine wpAny_done (by kernel_rfl) ?_ _
            go_wp2
            obtain ⟨hA, hD⟩ := HEND.out w4 sx B4.out HF4.out
            have k0 := hA.c0
            have k1 := hA.c1
            have k2 := hA.c2
            have k3 := hA.c3
            have k4 := hA.c4
            have k5 := hA.c5
            have k6 := hA.c6
            have k7 := hA.c7
            have k8 := hA.c8
            have k9 := hA.c9
            have k10 := hA.c10
            unfold put11 noS at k0 k1 k2 k3 k4 k5 k6 k7 k8 k9 k10 hD
            simp only [anV] at k0 k1 k2 k3 k4 k5 k6 k7 k8 k9 k10 hD
            refine bodyPost_ret ?_ rfl hD
            simp only [results, Tryz.results48]
            simp [go_sem, k0, k1, k2, k3, k4, k5, k6, k7, k8, k9, k10]
          exact AllReady.nil
        exact AllReady.nil
      exact AllReady.nil
    refine AllReady.cons rfl (fun K hK => ?_) ?_
    · go_simp
      refine hK _ _ ?_
      clear hK K
      refine wpAny_ready (rs := [0, 4]) (by kernel_rfl) (by simp) ?_
      refine AllReady.cons rfl (fun K hK => ?_) ?_
      · go_simp
        refine hK _ _ ?_
        clear hK K
        refine wpAny_ready (rs := [4]) (by kernel_rfl) (by simp) ?_
        refine AllReady.cons rfl (fun K hK => ?_) ?_
        · go_simp
          refine (CC.out _ (HF8.out.below (bel_drewN _ 1))).mono ?_; rintro e w4 ⟨⟨sx, rfl, hF4⟩, c4⟩; have B4 : Hid (Below W8.heap.size W8 w4) := bel_tr (bel_drewN _ 1) c4; have HF4 : Hid (Free W8.heap.size w4 (⟨xp, xd, xq, xl ++ [⟨nb, ng, 0⟩], xw⟩, sx)) := hF4; have p0 := bel_cell B4.out x0; have p1 := bel_cell B4.out x1; have p2 := bel_cell B4.out x2; obtain ⟨a0, a1, a2, a3, a4, a5, a6, a7, a8, a9, a10, afr⟩ := HAN8.out.below B4.out; unfold ndV; unfold zeroB at a1 a2 a3; unfold noS at a4; unfold zeroX zeroN noS at a5 a6 a7 a8 a9; simp only at a1 a2 a3 a4 a5 a6 a7 a8 a9 ⊢; clear hF4 c4
          try go_simp
          refine hK _ _ ?_
          clear hK K
          refine wpAny_take (i := 5) (v := ?_) rfl (by kernel_rfl) (by kernel_rfl) (by kernel_rfl) (fun _ _ _ h => h) (Or.inl ⟨by rfl, ?_⟩) ?_
          rotate_left
          · intro w; go_simp; first | done | with_reducible rfl
          refine wpAny_ready (rs := [6]) (by kernel_rfl) (by simp) ?_
          refine AllReady.cons rfl (fun K hK => ?_) ?_
          · go_simp
            refine hK _ _ ?_
            clear hK K
            refine wpAny_done (by kernel_rfl) ?_ _
            go_wp2
            obtain ⟨hA, hD⟩ := HEND.out w4 sx B4.out HF4.out
            have k0 := hA.c0
            have k1 := hA.c1
            have k2 := hA.c2
            have k3 := hA.c3
            have k4 := hA.c4
            have k5 := hA.c5
            have k6 := hA.c6
            have k7 := hA.c7
            have k8 := hA.c8
            have k9 := hA.c9
            have k10 := hA.c10
            unfold put11 noS at k0 k1 k2 k3 k4 k5 k6 k7 k8 k9 k10 hD
            simp only [anV] at k0 k1 k2 k3 k4 k5 k6 k7 k8 k9 k10 hD
            refine bodyPost_ret ?_ rfl hD
            simp only [results, Tryz.results48]
            simp [go_sem, k0, k1, k2, k3, k4, k5, k6, k7, k8, k9, k10]
          exact AllReady.nil
        exact AllReady.nil
      refine AllReady.cons rfl (fun K hK => ?_) ?_
      · go_simp
        refine (CC.out _ (HF8.out.below (bel_drewN _ 1))).mono ?_; rintro e w4 ⟨⟨sx, rfl, hF4⟩, c4⟩; have B4 : Hid (Below W8.heap.size W8 w4) := bel_tr (bel_drewN _ 1) c4; have HF4 : Hid (Free W8.heap.size w4 (⟨xp, xd, xq, xl ++ [⟨nb, ng, 0⟩], xw⟩, sx)) := hF4; have p0 := bel_cell B4.out x0; have p1 := bel_cell B4.out x1; have p2 := bel_cell B4.out x2; obtain ⟨a0, a1, a2, a3, a4, a5, a6, a7, a8, a9, a10, afr⟩ := HAN8.out.below B4.out; unfold ndV; unfold zeroB at a1 a2 a3; unfold noS at a4; unfold zeroX zeroN noS at a5 a6 a7 a8 a9; simp only at a1 a2 a3 a4 a5 a6 a7 a8 a9 ⊢; clear hF4 c4
        try go_simp
        refine hK _ _ ?_
        clear hK K
        refine wpAny_ready (rs := [0]) (by kernel_rfl) (by simp) ?_
        refine AllReady.cons rfl (fun K hK => ?_) ?_
        · go_simp
          refine hK _ _ ?_
          clear hK K
          refine wpAny_take (i := 5) (v := ?_) rfl (by kernel_rfl) (by kernel_rfl) (by kernel_rfl) (fun _ _ _ h => h) (Or.inl ⟨by rfl, ?_⟩) ?_
          rotate_left
          · intro w; go_simp; first | done | with_reducible rfl
          refine wpAny_ready (rs := [6]) (by kernel_rfl) (by simp) ?_
          refine AllReady.cons rfl (fun K hK => ?_) ?_
          · go_simp
            refine hK _ _ ?_
            clear hK K
            refine wpAny_done (by kernel_rfl) ?_ _
            go_wp2
            obtain ⟨hA, hD⟩ := HEND.out w4 sx B4.out HF4.out
            have k0 := hA.c0
            have k1 := hA.c1
            have k2 := hA.c2
            have k3 := hA.c3
            have k4 := hA.c4
            have k5 := hA.c5
            have k6 := hA.c6
            have k7 := hA.c7
            have k8 := hA.c8
            have k9 := hA.c9
            have k10 := hA.c10
            unfold put11 noS at k0 k1 k2 k3 k4 k5 k6 k7 k8 k9 k10 hD
            simp only [anV] at k0 k1 k2 k3 k4 k5 k6 k7 k8 k9 k10 hD
            refine bodyPost_ret ?_ rfl hD
            simp only [results, Tryz.results48]
            simp [go_sem, k0, k1, k2, k3, k4, k5, k6, k7, k8, k9, k10]
          exact AllReady.nil
        exact AllReady.nil
      exact AllReady.nil
    exact AllReady.nil)

end Go.Proofs.YticiihjkgiookaaGreat.Spa

/- The contract of space.change, by the kind of its edit. -/
namespace Go.Proofs.YticiihjkgiookaaGreat.Spa
open Go.RowKit Go.Proofs.YticiihjkgiookaaGreat
open Go.Proofs.YticiihjkgiookaaGreat.Lea (LS Ls findX putL renX LL LO LsR lsC wideL)
open Go.Proofs.YticiihjkgiookaaGreat.Edi (Ed Nm EdAt edV)

theorem anC_two (w : World) (cs : Array Value) (t1 : TypeId) : AnC ((w.alloc (.cells cs t1)).alloc (.cells #[.int .i64 0, .int .i64 0, .int .i64 0, .int .i64 0, .slice none 0 0, .string ⟨#[]⟩, .bool false, .int .i64 0, .slice none 0 0, .int .i64 0, .int .i64 0] 37)) (w.heap.size + 1) 0 zeroB noS zeroX 0 := by
  obtain ⟨q1, q2, q3, q4, q5, q6⟩ := two_boxes (w := w) (cs := cs) (t1 := t1) (Below.refl _ _)
  exact ⟨q3 0 _ rfl, q3 1 _ rfl, q3 2 _ rfl, q3 3 _ rfl, q3 4 _ rfl, q3 5 _ rfl, q3 6 _ rfl, q3 7 _ rfl, q3 8 _ rfl, q3 9 _ rfl, q3 10 _ rfl, q4⟩

theorem done_up {base M0 S : Nat} {w W w1 : World} {s t : Sp} {N L : RS} {ps : List NR} {gb : Nat} {gl : Option Nat} (h : Pre base M0 S w s N L ps gb gl) {b : Blk} {x : Nd} {r : Ending} (hA : AnC W (w.heap.size + 1) 0 zeroB noS zeroX 0) (hsz : w.heap.size + 2 ≤ W.heap.size) (hb : Below w.heap.size w W) (hD : DoneR S base M0 t b x W r w1) :
    ∃ sx, r = .returned (anV 0 b noS (x, sx) 0) ∧ AnC w1 (w.heap.size + 1) 0 zeroB noS zeroX 0 ∧ AnC (put11 w1 (w.heap.size + 1) 0 b noS (x, sx) 0) (w.heap.size + 1) 0 b noS (x, sx) 0 ∧ DoneR S base M0 t b x w (.returned (anV 0 b noS (x, sx) 0)) (put11 w1 (w.heap.size + 1) 0 b noS (x, sx) 0) := by
  obtain ⟨⟨N', L', ps', g', gl', M, sx, hr, hC, hO, hF, hM, ⟨n1, n2, n3⟩, n4⟩, hst⟩ := hD
  have hmw := h.mw
  have hlt := h.lt
  have hA1 := hA.keep hst (fun e => by
    rcases e with e | e
    · omega
    · omega)
  have hf : ∀ k, k < M0 ∨ W.heap.size ≤ k → k ≠ w.heap.size + 1 ∧ (k < M0 ∨ w.heap.size ≤ k) := fun k hk => by omega
  obtain ⟨k1, k2⟩ := DoneR.mk2 (b := b) (x := x) (sx := sx) hA1 hC hO hF hM ((Stay.of_below hb).then_same hst) (by omega) h.bw hlt.2.2.1 (fun k hk => hf k (n1 k hk)) (fun k hk => hf k (n2 k hk)) (fun z hz k hk => hf k (n3 z hz k hk)) (fun k hk => by have := n4 k hk; omega)
  exact ⟨sx, hr, hA1, k1, k2⟩

theorem unit_up {base M0 S : Nat} {w W w1 : World} {s t : Sp} {N L : RS} {ps : List NR} {gb : Nat} {gl : Option Nat} (h : Pre base M0 S w s N L ps gb gl) {r : Ending} (hA : AnC W (w.heap.size + 1) 0 zeroB noS zeroX 0) (hsz : w.heap.size + 2 ≤ W.heap.size) (hb : Below w.heap.size w W) (hD : UnitR S base M0 t W r w1) :
    r = .returned (.tuple #[]) ∧ AnC w1 (w.heap.size + 1) 0 zeroB noS zeroX 0 ∧ AnC (put11 w1 (w.heap.size + 1) 0 zeroB noS (zeroN, noS) 0) (w.heap.size + 1) 0 zeroB noS (zeroN, noS) 0 ∧ DoneR S base M0 t zeroB zeroN w (.returned (anV 0 zeroB noS (zeroN, noS) 0)) (put11 w1 (w.heap.size + 1) 0 zeroB noS (zeroN, noS) 0) := by
  obtain ⟨⟨N', L', ps', g', gl', hr, hC, hO, n1, n2, n3⟩, hst⟩ := hD
  have hmw := h.mw
  have hlt := h.lt
  have hbw := h.bw
  have hss := hst.size
  have hA1 := hA.keep hst (fun e => by
    rcases e with e | e
    · omega
    · omega)
  have hf : ∀ k, k < M0 ∨ W.heap.size ≤ k → k ≠ w.heap.size + 1 ∧ (k < M0 ∨ w.heap.size ≤ k) := fun k hk => by omega
  obtain ⟨k1, k2⟩ := DoneR.mk2 (b := zeroB) (x := zeroN) (sx := noS) hA1 hC hO (free_no _ w1 zeroN rfl (Nat.zero_le _)) (by omega) ((Stay.of_below hb).then_same hst) (by omega) h.bw hlt.2.2.1 (fun k hk => hf k (n1 k hk)) (fun k hk => hf k (n2 k hk)) (fun z hz k hk => hf k (n3 z hz k hk)) (fun k hk => by unfold noS RS.blk at hk; simp at hk)
  exact ⟨hr, hA1, k1, k2⟩

set_option maxRecDepth 100000 in
set_option maxHeartbeats 4000000 in
theorem change_create_no {base M0 S : Nat} {w : World} {s : Sp} {N L : RS} {ps : List NR} {gb : Nat} {gl : Option Nat} (_h : Pre base M0 S w s N L ps gb gl) (e : Ed) (ea : Option Addr) (em eq : Nat) (hk : e.k = 2) (E : Int) (hc : ∀ W, Below w.heap.size w W → Calls Tryz.prog 44 #[.pointer (some ⟨S, 0, none⟩), edV e ea em eq] W fun r w' => LeftR S base M0 E W r w') :
    Calls Tryz.prog 22 #[.pointer (some ⟨S, 0, none⟩), edV e ea em eq] w fun r w' => LeftR S base M0 E w r w' := by
  have CD : Hid (∀ W, Below w.heap.size w W → Calls Tryz.prog 44 #[.pointer (some ⟨S, 0, none⟩), edV e ea em eq] W fun r w' => LeftR S base M0 E W r w') := hc
  obtain ⟨k, p, t, cl, l, nn, ls⟩ := e
  simp only at hk
  subst hk
  unfold edV at CD ⊢
  simp only at CD ⊢
  have hst := run_store_str
  have hst2 : ∀ (w : World) (a : Addr) (x : Option Addr) (n c : Nat) (m : Mode), (store a (.slice x n c) m).run Tryz.prog w = stored Tryz.prog w a (.slice x n c) m := fun w a x n c m => run_store_any w a _ m rfl
  clear hc
  go_enter Tryz.func22, Tryz.ntmps22
  go_wp2_with (go_at_call 44; refine (CD.out _ (bel_tr (bel_al _ _) (bel_al _ _))).mono ?_; rintro e w1 hL1; have HL : Hid _ := LeftR.after (bel_tr (bel_al _ _) (bel_al _ _)) hL1; obtain ⟨rfl, _, _⟩ := hL1)
  exact left_post rfl HL.out

set_option maxRecDepth 100000 in
set_option maxHeartbeats 4000000 in
theorem change_create {base M0 S : Nat} {w : World} {s : Sp} {N L : RS} {ps : List NR} {gb : Nat} {gl : Option Nat} (h : Pre base M0 S w s N L ps gb gl) (e : Ed) (ea : Option Addr) (em eq : Nat) (hk : e.k = 2) (u : Sp) (b : Blk) (x : Nd) (hc : ∀ W, Below w.heap.size w W → Calls Tryz.prog 44 #[.pointer (some ⟨S, 0, none⟩), edV e ea em eq] W fun r w' => DoneR S base M0 u b x W r w') :
    Calls Tryz.prog 22 #[.pointer (some ⟨S, 0, none⟩), edV e ea em eq] w fun r w' => DoneR S base M0 u b x w r w' := by
  have CD : Hid (∀ W, Below w.heap.size w W → Calls Tryz.prog 44 #[.pointer (some ⟨S, 0, none⟩), edV e ea em eq] W fun r w' => DoneR S base M0 u b x W r w') := hc
  have HPRE : Hid (Pre base M0 S w s N L ps gb gl) := h
  obtain ⟨k, p, t, cl, l, nn, ls⟩ := e
  simp only at hk
  subst hk
  unfold edV at CD ⊢
  simp only at CD ⊢
  have hst := run_store_str
  have hst2 : ∀ (w : World) (a : Addr) (x : Option Addr) (n c : Nat) (m : Mode), (store a (.slice x n c) m).run Tryz.prog w = stored Tryz.prog w a (.slice x n c) m := fun w a x n c m => run_store_any w a _ m rfl
  clear hc h
  go_enter Tryz.func22, Tryz.ntmps22
  go_wp2_with (go_at_call 44; refine (CD.out _ (bel_tr (bel_al _ _) (bel_al _ _))).mono ?_; rintro e w1 hD1; obtain ⟨sx, rfl, hA1, hA2, hD2⟩ := done_up HPRE.out (anC_two _ _ _) (by simp) (bel_tr (bel_al _ _) (bel_al _ _)) hD1; have HA1 : Hid _ := hA1; have HA2 : Hid _ := hA2; have HD : Hid _ := hD2; clear hA1 hA2 hD2 hD1; obtain ⟨a0, a1, a2, a3, a4, a5, a6, a7, a8, a9, a10, afr⟩ := HA1.out; unfold zeroB at a1 a2 a3; unfold noS at a4; unfold zeroX zeroN noS at a5 a6 a7 a8 a9; simp only at a1 a2 a3 a4 a5 a6 a7 a8 a9; unfold anV noS; simp only)
  have hA := HA2.out
  have hD := HD.out
  have k0 := hA.c0
  have k1 := hA.c1
  have k2 := hA.c2
  have k3 := hA.c3
  have k4 := hA.c4
  have k5 := hA.c5
  have k6 := hA.c6
  have k7 := hA.c7
  have k8 := hA.c8
  have k9 := hA.c9
  have k10 := hA.c10
  unfold put11 noS  at k0 k1 k2 k3 k4 k5 k6 k7 k8 k9 k10 hD
  simp only [anV] at k0 k1 k2 k3 k4 k5 k6 k7 k8 k9 k10 hD
  refine bodyPost_ret ?_ rfl hD
  simp only [results, Tryz.results22]
  simp [go_sem, k0, k1, k2, k3, k4, k5, k6, k7, k8, k9, k10]

set_option maxRecDepth 100000 in
set_option maxHeartbeats 4000000 in
theorem change_rename_no {base M0 S : Nat} {w : World} {s : Sp} {N L : RS} {ps : List NR} {gb : Nat} {gl : Option Nat} (_h : Pre base M0 S w s N L ps gb gl) (e : Ed) (ea : Option Addr) (em eq : Nat) (hk : e.k = 4) (E : Int) (hc : ∀ W, Below w.heap.size w W → Calls Tryz.prog 47 #[.pointer (some ⟨S, 0, none⟩), edV e ea em eq] W fun r w' => LeftR S base M0 E W r w') :
    Calls Tryz.prog 22 #[.pointer (some ⟨S, 0, none⟩), edV e ea em eq] w fun r w' => LeftR S base M0 E w r w' := by
  have CD : Hid (∀ W, Below w.heap.size w W → Calls Tryz.prog 47 #[.pointer (some ⟨S, 0, none⟩), edV e ea em eq] W fun r w' => LeftR S base M0 E W r w') := hc
  obtain ⟨k, p, t, cl, l, nn, ls⟩ := e
  simp only at hk
  subst hk
  unfold edV at CD ⊢
  simp only at CD ⊢
  have hst := run_store_str
  have hst2 : ∀ (w : World) (a : Addr) (x : Option Addr) (n c : Nat) (m : Mode), (store a (.slice x n c) m).run Tryz.prog w = stored Tryz.prog w a (.slice x n c) m := fun w a x n c m => run_store_any w a _ m rfl
  clear hc
  go_enter Tryz.func22, Tryz.ntmps22
  go_wp2_with (go_at_call 47; refine (CD.out _ (bel_tr (bel_al _ _) (bel_al _ _))).mono ?_; rintro e w1 hL1; have HL : Hid _ := LeftR.after (bel_tr (bel_al _ _) (bel_al _ _)) hL1; obtain ⟨rfl, _, _⟩ := hL1)
  exact left_post rfl HL.out

set_option maxRecDepth 100000 in
set_option maxHeartbeats 4000000 in
theorem change_rename {base M0 S : Nat} {w : World} {s : Sp} {N L : RS} {ps : List NR} {gb : Nat} {gl : Option Nat} (h : Pre base M0 S w s N L ps gb gl) (e : Ed) (ea : Option Addr) (em eq : Nat) (hk : e.k = 4) (u : Sp) (hc : ∀ W, Below w.heap.size w W → Calls Tryz.prog 47 #[.pointer (some ⟨S, 0, none⟩), edV e ea em eq] W fun r w' => UnitR S base M0 u W r w') :
    Calls Tryz.prog 22 #[.pointer (some ⟨S, 0, none⟩), edV e ea em eq] w fun r w' => DoneR S base M0 u zeroB zeroN w r w' := by
  have CD : Hid (∀ W, Below w.heap.size w W → Calls Tryz.prog 47 #[.pointer (some ⟨S, 0, none⟩), edV e ea em eq] W fun r w' => UnitR S base M0 u W r w') := hc
  have HPRE : Hid (Pre base M0 S w s N L ps gb gl) := h
  obtain ⟨k, p, t, cl, l, nn, ls⟩ := e
  simp only at hk
  subst hk
  unfold edV at CD ⊢
  simp only at CD ⊢
  have hst := run_store_str
  have hst2 : ∀ (w : World) (a : Addr) (x : Option Addr) (n c : Nat) (m : Mode), (store a (.slice x n c) m).run Tryz.prog w = stored Tryz.prog w a (.slice x n c) m := fun w a x n c m => run_store_any w a _ m rfl
  clear hc h
  go_enter Tryz.func22, Tryz.ntmps22
  go_wp2_with (go_at_call 47; refine (CD.out _ (bel_tr (bel_al _ _) (bel_al _ _))).mono ?_; rintro e w1 hD1; obtain ⟨rfl, hA1, hA2, hD2⟩ := unit_up HPRE.out (anC_two _ _ _) (by simp) (bel_tr (bel_al _ _) (bel_al _ _)) hD1; have HA1 : Hid _ := hA1; have HA2 : Hid _ := hA2; have HD : Hid _ := hD2; clear hA1 hA2 hD2 hD1; obtain ⟨a0, a1, a2, a3, a4, a5, a6, a7, a8, a9, a10, afr⟩ := HA1.out; unfold zeroB at a1 a2 a3; unfold noS at a4; unfold zeroX zeroN noS at a5 a6 a7 a8 a9; simp only at a1 a2 a3 a4 a5 a6 a7 a8 a9)
  have hA := HA2.out
  have hD := HD.out
  have k0 := hA.c0
  have k1 := hA.c1
  have k2 := hA.c2
  have k3 := hA.c3
  have k4 := hA.c4
  have k5 := hA.c5
  have k6 := hA.c6
  have k7 := hA.c7
  have k8 := hA.c8
  have k9 := hA.c9
  have k10 := hA.c10
  unfold put11 noS zeroN zeroB at k0 k1 k2 k3 k4 k5 k6 k7 k8 k9 k10 hD
  simp only [anV] at k0 k1 k2 k3 k4 k5 k6 k7 k8 k9 k10 hD
  refine bodyPost_ret ?_ rfl hD
  simp only [results, Tryz.results22]
  simp [go_sem, k0, k1, k2, k3, k4, k5, k6, k7, k8, k9, k10]

set_option maxRecDepth 100000 in
set_option maxHeartbeats 4000000 in
theorem change_addBlock_no {base M0 S : Nat} {w : World} {s : Sp} {N L : RS} {ps : List NR} {gb : Nat} {gl : Option Nat} (_h : Pre base M0 S w s N L ps gb gl) (e : Ed) (ea : Option Addr) (em eq : Nat) (hk : e.k = 5) (E : Int) (hc : ∀ W, Below w.heap.size w W → Calls Tryz.prog 48 #[.pointer (some ⟨S, 0, none⟩), edV e ea em eq] W fun r w' => LeftR S base M0 E W r w') :
    Calls Tryz.prog 22 #[.pointer (some ⟨S, 0, none⟩), edV e ea em eq] w fun r w' => LeftR S base M0 E w r w' := by
  have CD : Hid (∀ W, Below w.heap.size w W → Calls Tryz.prog 48 #[.pointer (some ⟨S, 0, none⟩), edV e ea em eq] W fun r w' => LeftR S base M0 E W r w') := hc
  obtain ⟨k, p, t, cl, l, nn, ls⟩ := e
  simp only at hk
  subst hk
  unfold edV at CD ⊢
  simp only at CD ⊢
  have hst := run_store_str
  have hst2 : ∀ (w : World) (a : Addr) (x : Option Addr) (n c : Nat) (m : Mode), (store a (.slice x n c) m).run Tryz.prog w = stored Tryz.prog w a (.slice x n c) m := fun w a x n c m => run_store_any w a _ m rfl
  clear hc
  go_enter Tryz.func22, Tryz.ntmps22
  go_wp2_with (go_at_call 48; refine (CD.out _ (bel_tr (bel_al _ _) (bel_al _ _))).mono ?_; rintro e w1 hL1; have HL : Hid _ := LeftR.after (bel_tr (bel_al _ _) (bel_al _ _)) hL1; obtain ⟨rfl, _, _⟩ := hL1)
  exact left_post rfl HL.out

set_option maxRecDepth 100000 in
set_option maxHeartbeats 4000000 in
theorem change_addBlock {base M0 S : Nat} {w : World} {s : Sp} {N L : RS} {ps : List NR} {gb : Nat} {gl : Option Nat} (h : Pre base M0 S w s N L ps gb gl) (e : Ed) (ea : Option Addr) (em eq : Nat) (hk : e.k = 5) (u : Sp) (b : Blk) (x : Nd) (hc : ∀ W, Below w.heap.size w W → Calls Tryz.prog 48 #[.pointer (some ⟨S, 0, none⟩), edV e ea em eq] W fun r w' => DoneR S base M0 u b x W r w') :
    Calls Tryz.prog 22 #[.pointer (some ⟨S, 0, none⟩), edV e ea em eq] w fun r w' => DoneR S base M0 u b x w r w' := by
  have CD : Hid (∀ W, Below w.heap.size w W → Calls Tryz.prog 48 #[.pointer (some ⟨S, 0, none⟩), edV e ea em eq] W fun r w' => DoneR S base M0 u b x W r w') := hc
  have HPRE : Hid (Pre base M0 S w s N L ps gb gl) := h
  obtain ⟨k, p, t, cl, l, nn, ls⟩ := e
  simp only at hk
  subst hk
  unfold edV at CD ⊢
  simp only at CD ⊢
  have hst := run_store_str
  have hst2 : ∀ (w : World) (a : Addr) (x : Option Addr) (n c : Nat) (m : Mode), (store a (.slice x n c) m).run Tryz.prog w = stored Tryz.prog w a (.slice x n c) m := fun w a x n c m => run_store_any w a _ m rfl
  clear hc h
  go_enter Tryz.func22, Tryz.ntmps22
  go_wp2_with (go_at_call 48; refine (CD.out _ (bel_tr (bel_al _ _) (bel_al _ _))).mono ?_; rintro e w1 hD1; obtain ⟨sx, rfl, hA1, hA2, hD2⟩ := done_up HPRE.out (anC_two _ _ _) (by simp) (bel_tr (bel_al _ _) (bel_al _ _)) hD1; have HA1 : Hid _ := hA1; have HA2 : Hid _ := hA2; have HD : Hid _ := hD2; clear hA1 hA2 hD2 hD1; obtain ⟨a0, a1, a2, a3, a4, a5, a6, a7, a8, a9, a10, afr⟩ := HA1.out; unfold zeroB at a1 a2 a3; unfold noS at a4; unfold zeroX zeroN noS at a5 a6 a7 a8 a9; simp only at a1 a2 a3 a4 a5 a6 a7 a8 a9; unfold anV noS; simp only)
  have hA := HA2.out
  have hD := HD.out
  have k0 := hA.c0
  have k1 := hA.c1
  have k2 := hA.c2
  have k3 := hA.c3
  have k4 := hA.c4
  have k5 := hA.c5
  have k6 := hA.c6
  have k7 := hA.c7
  have k8 := hA.c8
  have k9 := hA.c9
  have k10 := hA.c10
  unfold put11 noS  at k0 k1 k2 k3 k4 k5 k6 k7 k8 k9 k10 hD
  simp only [anV] at k0 k1 k2 k3 k4 k5 k6 k7 k8 k9 k10 hD
  refine bodyPost_ret ?_ rfl hD
  simp only [results, Tryz.results22]
  simp [go_sem, k0, k1, k2, k3, k4, k5, k6, k7, k8, k9, k10]

set_option maxRecDepth 100000 in
set_option maxHeartbeats 4000000 in
theorem change_complete_no {base M0 S : Nat} {w : World} {s : Sp} {N L : RS} {ps : List NR} {gb : Nat} {gl : Option Nat} (_h : Pre base M0 S w s N L ps gb gl) (e : Ed) (ea : Option Addr) (em eq : Nat) (hk : e.k = 6) (E : Int) (hc : ∀ W, Below w.heap.size w W → Calls Tryz.prog 49 #[.pointer (some ⟨S, 0, none⟩), edV e ea em eq] W fun r w' => LeftR S base M0 E W r w') :
    Calls Tryz.prog 22 #[.pointer (some ⟨S, 0, none⟩), edV e ea em eq] w fun r w' => LeftR S base M0 E w r w' := by
  have CD : Hid (∀ W, Below w.heap.size w W → Calls Tryz.prog 49 #[.pointer (some ⟨S, 0, none⟩), edV e ea em eq] W fun r w' => LeftR S base M0 E W r w') := hc
  obtain ⟨k, p, t, cl, l, nn, ls⟩ := e
  simp only at hk
  subst hk
  unfold edV at CD ⊢
  simp only at CD ⊢
  have hst := run_store_str
  have hst2 : ∀ (w : World) (a : Addr) (x : Option Addr) (n c : Nat) (m : Mode), (store a (.slice x n c) m).run Tryz.prog w = stored Tryz.prog w a (.slice x n c) m := fun w a x n c m => run_store_any w a _ m rfl
  clear hc
  go_enter Tryz.func22, Tryz.ntmps22
  go_wp2_with (go_at_call 49; refine (CD.out _ (bel_tr (bel_al _ _) (bel_al _ _))).mono ?_; rintro e w1 hL1; have HL : Hid _ := LeftR.after (bel_tr (bel_al _ _) (bel_al _ _)) hL1; obtain ⟨rfl, _, _⟩ := hL1)
  exact left_post rfl HL.out

set_option maxRecDepth 100000 in
set_option maxHeartbeats 4000000 in
theorem change_complete {base M0 S : Nat} {w : World} {s : Sp} {N L : RS} {ps : List NR} {gb : Nat} {gl : Option Nat} (h : Pre base M0 S w s N L ps gb gl) (e : Ed) (ea : Option Addr) (em eq : Nat) (hk : e.k = 6) (u : Sp) (b : Blk) (x : Nd) (hc : ∀ W, Below w.heap.size w W → Calls Tryz.prog 49 #[.pointer (some ⟨S, 0, none⟩), edV e ea em eq] W fun r w' => DoneR S base M0 u b x W r w') :
    Calls Tryz.prog 22 #[.pointer (some ⟨S, 0, none⟩), edV e ea em eq] w fun r w' => DoneR S base M0 u b x w r w' := by
  have CD : Hid (∀ W, Below w.heap.size w W → Calls Tryz.prog 49 #[.pointer (some ⟨S, 0, none⟩), edV e ea em eq] W fun r w' => DoneR S base M0 u b x W r w') := hc
  have HPRE : Hid (Pre base M0 S w s N L ps gb gl) := h
  obtain ⟨k, p, t, cl, l, nn, ls⟩ := e
  simp only at hk
  subst hk
  unfold edV at CD ⊢
  simp only at CD ⊢
  have hst := run_store_str
  have hst2 : ∀ (w : World) (a : Addr) (x : Option Addr) (n c : Nat) (m : Mode), (store a (.slice x n c) m).run Tryz.prog w = stored Tryz.prog w a (.slice x n c) m := fun w a x n c m => run_store_any w a _ m rfl
  clear hc h
  go_enter Tryz.func22, Tryz.ntmps22
  go_wp2_with (go_at_call 49; refine (CD.out _ (bel_tr (bel_al _ _) (bel_al _ _))).mono ?_; rintro e w1 hD1; obtain ⟨sx, rfl, hA1, hA2, hD2⟩ := done_up HPRE.out (anC_two _ _ _) (by simp) (bel_tr (bel_al _ _) (bel_al _ _)) hD1; have HA1 : Hid _ := hA1; have HA2 : Hid _ := hA2; have HD : Hid _ := hD2; clear hA1 hA2 hD2 hD1; obtain ⟨a0, a1, a2, a3, a4, a5, a6, a7, a8, a9, a10, afr⟩ := HA1.out; unfold zeroB at a1 a2 a3; unfold noS at a4; unfold zeroX zeroN noS at a5 a6 a7 a8 a9; simp only at a1 a2 a3 a4 a5 a6 a7 a8 a9; unfold anV noS; simp only)
  have hA := HA2.out
  have hD := HD.out
  have k0 := hA.c0
  have k1 := hA.c1
  have k2 := hA.c2
  have k3 := hA.c3
  have k4 := hA.c4
  have k5 := hA.c5
  have k6 := hA.c6
  have k7 := hA.c7
  have k8 := hA.c8
  have k9 := hA.c9
  have k10 := hA.c10
  unfold put11 noS  at k0 k1 k2 k3 k4 k5 k6 k7 k8 k9 k10 hD
  simp only [anV] at k0 k1 k2 k3 k4 k5 k6 k7 k8 k9 k10 hD
  refine bodyPost_ret ?_ rfl hD
  simp only [results, Tryz.results22]
  simp [go_sem, k0, k1, k2, k3, k4, k5, k6, k7, k8, k9, k10]

set_option maxRecDepth 100000 in
set_option maxHeartbeats 4000000 in
theorem change_setQuota_no {base M0 S : Nat} {w : World} {s : Sp} {N L : RS} {ps : List NR} {gb : Nat} {gl : Option Nat} (_h : Pre base M0 S w s N L ps gb gl) (e : Ed) (ea : Option Addr) (em eq : Nat) (hk : e.k = 7) (E : Int) (hc : ∀ W, Below w.heap.size w W → Calls Tryz.prog 50 #[.pointer (some ⟨S, 0, none⟩), edV e ea em eq] W fun r w' => LeftR S base M0 E W r w') :
    Calls Tryz.prog 22 #[.pointer (some ⟨S, 0, none⟩), edV e ea em eq] w fun r w' => LeftR S base M0 E w r w' := by
  have CD : Hid (∀ W, Below w.heap.size w W → Calls Tryz.prog 50 #[.pointer (some ⟨S, 0, none⟩), edV e ea em eq] W fun r w' => LeftR S base M0 E W r w') := hc
  obtain ⟨k, p, t, cl, l, nn, ls⟩ := e
  simp only at hk
  subst hk
  unfold edV at CD ⊢
  simp only at CD ⊢
  have hst := run_store_str
  have hst2 : ∀ (w : World) (a : Addr) (x : Option Addr) (n c : Nat) (m : Mode), (store a (.slice x n c) m).run Tryz.prog w = stored Tryz.prog w a (.slice x n c) m := fun w a x n c m => run_store_any w a _ m rfl
  clear hc
  go_enter Tryz.func22, Tryz.ntmps22
  go_wp2_with (go_at_call 50; refine (CD.out _ (bel_tr (bel_al _ _) (bel_al _ _))).mono ?_; rintro e w1 hL1; have HL : Hid _ := LeftR.after (bel_tr (bel_al _ _) (bel_al _ _)) hL1; obtain ⟨rfl, _, _⟩ := hL1)
  exact left_post rfl HL.out

set_option maxRecDepth 100000 in
set_option maxHeartbeats 4000000 in
theorem change_setQuota {base M0 S : Nat} {w : World} {s : Sp} {N L : RS} {ps : List NR} {gb : Nat} {gl : Option Nat} (h : Pre base M0 S w s N L ps gb gl) (e : Ed) (ea : Option Addr) (em eq : Nat) (hk : e.k = 7) (u : Sp) (hc : ∀ W, Below w.heap.size w W → Calls Tryz.prog 50 #[.pointer (some ⟨S, 0, none⟩), edV e ea em eq] W fun r w' => UnitR S base M0 u W r w') :
    Calls Tryz.prog 22 #[.pointer (some ⟨S, 0, none⟩), edV e ea em eq] w fun r w' => DoneR S base M0 u zeroB zeroN w r w' := by
  have CD : Hid (∀ W, Below w.heap.size w W → Calls Tryz.prog 50 #[.pointer (some ⟨S, 0, none⟩), edV e ea em eq] W fun r w' => UnitR S base M0 u W r w') := hc
  have HPRE : Hid (Pre base M0 S w s N L ps gb gl) := h
  obtain ⟨k, p, t, cl, l, nn, ls⟩ := e
  simp only at hk
  subst hk
  unfold edV at CD ⊢
  simp only at CD ⊢
  have hst := run_store_str
  have hst2 : ∀ (w : World) (a : Addr) (x : Option Addr) (n c : Nat) (m : Mode), (store a (.slice x n c) m).run Tryz.prog w = stored Tryz.prog w a (.slice x n c) m := fun w a x n c m => run_store_any w a _ m rfl
  clear hc h
  go_enter Tryz.func22, Tryz.ntmps22
  go_wp2_with (go_at_call 50; refine (CD.out _ (bel_tr (bel_al _ _) (bel_al _ _))).mono ?_; rintro e w1 hD1; obtain ⟨rfl, hA1, hA2, hD2⟩ := unit_up HPRE.out (anC_two _ _ _) (by simp) (bel_tr (bel_al _ _) (bel_al _ _)) hD1; have HA1 : Hid _ := hA1; have HA2 : Hid _ := hA2; have HD : Hid _ := hD2; clear hA1 hA2 hD2 hD1; obtain ⟨a0, a1, a2, a3, a4, a5, a6, a7, a8, a9, a10, afr⟩ := HA1.out; unfold zeroB at a1 a2 a3; unfold noS at a4; unfold zeroX zeroN noS at a5 a6 a7 a8 a9; simp only at a1 a2 a3 a4 a5 a6 a7 a8 a9)
  have hA := HA2.out
  have hD := HD.out
  have k0 := hA.c0
  have k1 := hA.c1
  have k2 := hA.c2
  have k3 := hA.c3
  have k4 := hA.c4
  have k5 := hA.c5
  have k6 := hA.c6
  have k7 := hA.c7
  have k8 := hA.c8
  have k9 := hA.c9
  have k10 := hA.c10
  unfold put11 noS zeroN zeroB at k0 k1 k2 k3 k4 k5 k6 k7 k8 k9 k10 hD
  simp only [anV] at k0 k1 k2 k3 k4 k5 k6 k7 k8 k9 k10 hD
  refine bodyPost_ret ?_ rfl hD
  simp only [results, Tryz.results22]
  simp [go_sem, k0, k1, k2, k3, k4, k5, k6, k7, k8, k9, k10]

set_option maxRecDepth 100000 in
set_option maxHeartbeats 4000000 in
theorem change_renew_no {base M0 S : Nat} {w : World} {s : Sp} {N L : RS} {ps : List NR} {gb : Nat} {gl : Option Nat} (_h : Pre base M0 S w s N L ps gb gl) (e : Ed) (ea : Option Addr) (em eq : Nat) (hk : e.k = 8) (E : Int) (hc : ∀ W, Below w.heap.size w W → Calls Tryz.prog 51 #[.pointer (some ⟨S, 0, none⟩), edV e ea em eq] W fun r w' => LeftR S base M0 E W r w') :
    Calls Tryz.prog 22 #[.pointer (some ⟨S, 0, none⟩), edV e ea em eq] w fun r w' => LeftR S base M0 E w r w' := by
  have CD : Hid (∀ W, Below w.heap.size w W → Calls Tryz.prog 51 #[.pointer (some ⟨S, 0, none⟩), edV e ea em eq] W fun r w' => LeftR S base M0 E W r w') := hc
  obtain ⟨k, p, t, cl, l, nn, ls⟩ := e
  simp only at hk
  subst hk
  unfold edV at CD ⊢
  simp only at CD ⊢
  have hst := run_store_str
  have hst2 : ∀ (w : World) (a : Addr) (x : Option Addr) (n c : Nat) (m : Mode), (store a (.slice x n c) m).run Tryz.prog w = stored Tryz.prog w a (.slice x n c) m := fun w a x n c m => run_store_any w a _ m rfl
  clear hc
  go_enter Tryz.func22, Tryz.ntmps22
  go_wp2_with (go_at_call 51; refine (CD.out _ (bel_tr (bel_al _ _) (bel_al _ _))).mono ?_; rintro e w1 hL1; have HL : Hid _ := LeftR.after (bel_tr (bel_al _ _) (bel_al _ _)) hL1; obtain ⟨rfl, _, _⟩ := hL1)
  exact left_post rfl HL.out

set_option maxRecDepth 100000 in
set_option maxHeartbeats 4000000 in
theorem change_renew {base M0 S : Nat} {w : World} {s : Sp} {N L : RS} {ps : List NR} {gb : Nat} {gl : Option Nat} (h : Pre base M0 S w s N L ps gb gl) (e : Ed) (ea : Option Addr) (em eq : Nat) (hk : e.k = 8) (u : Sp) (hc : ∀ W, Below w.heap.size w W → Calls Tryz.prog 51 #[.pointer (some ⟨S, 0, none⟩), edV e ea em eq] W fun r w' => UnitR S base M0 u W r w') :
    Calls Tryz.prog 22 #[.pointer (some ⟨S, 0, none⟩), edV e ea em eq] w fun r w' => DoneR S base M0 u zeroB zeroN w r w' := by
  have CD : Hid (∀ W, Below w.heap.size w W → Calls Tryz.prog 51 #[.pointer (some ⟨S, 0, none⟩), edV e ea em eq] W fun r w' => UnitR S base M0 u W r w') := hc
  have HPRE : Hid (Pre base M0 S w s N L ps gb gl) := h
  obtain ⟨k, p, t, cl, l, nn, ls⟩ := e
  simp only at hk
  subst hk
  unfold edV at CD ⊢
  simp only at CD ⊢
  have hst := run_store_str
  have hst2 : ∀ (w : World) (a : Addr) (x : Option Addr) (n c : Nat) (m : Mode), (store a (.slice x n c) m).run Tryz.prog w = stored Tryz.prog w a (.slice x n c) m := fun w a x n c m => run_store_any w a _ m rfl
  clear hc h
  go_enter Tryz.func22, Tryz.ntmps22
  go_wp2_with (go_at_call 51; refine (CD.out _ (bel_tr (bel_al _ _) (bel_al _ _))).mono ?_; rintro e w1 hD1; obtain ⟨rfl, hA1, hA2, hD2⟩ := unit_up HPRE.out (anC_two _ _ _) (by simp) (bel_tr (bel_al _ _) (bel_al _ _)) hD1; have HA1 : Hid _ := hA1; have HA2 : Hid _ := hA2; have HD : Hid _ := hD2; clear hA1 hA2 hD2 hD1; obtain ⟨a0, a1, a2, a3, a4, a5, a6, a7, a8, a9, a10, afr⟩ := HA1.out; unfold zeroB at a1 a2 a3; unfold noS at a4; unfold zeroX zeroN noS at a5 a6 a7 a8 a9; simp only at a1 a2 a3 a4 a5 a6 a7 a8 a9)
  have hA := HA2.out
  have hD := HD.out
  have k0 := hA.c0
  have k1 := hA.c1
  have k2 := hA.c2
  have k3 := hA.c3
  have k4 := hA.c4
  have k5 := hA.c5
  have k6 := hA.c6
  have k7 := hA.c7
  have k8 := hA.c8
  have k9 := hA.c9
  have k10 := hA.c10
  unfold put11 noS zeroN zeroB at k0 k1 k2 k3 k4 k5 k6 k7 k8 k9 k10 hD
  simp only [anV] at k0 k1 k2 k3 k4 k5 k6 k7 k8 k9 k10 hD
  refine bodyPost_ret ?_ rfl hD
  simp only [results, Tryz.results22]
  simp [go_sem, k0, k1, k2, k3, k4, k5, k6, k7, k8, k9, k10]

set_option maxRecDepth 100000 in
set_option maxHeartbeats 4000000 in
theorem change_bump_no {base M0 S : Nat} {w : World} {s : Sp} {N L : RS} {ps : List NR} {gb : Nat} {gl : Option Nat} (_h : Pre base M0 S w s N L ps gb gl) (e : Ed) (ea : Option Addr) (em eq : Nat) (hk : e.k = 9) (E : Int) (hc : ∀ W, Below w.heap.size w W → Calls Tryz.prog 52 #[.pointer (some ⟨S, 0, none⟩), edV e ea em eq] W fun r w' => LeftR S base M0 E W r w') :
    Calls Tryz.prog 22 #[.pointer (some ⟨S, 0, none⟩), edV e ea em eq] w fun r w' => LeftR S base M0 E w r w' := by
  have CD : Hid (∀ W, Below w.heap.size w W → Calls Tryz.prog 52 #[.pointer (some ⟨S, 0, none⟩), edV e ea em eq] W fun r w' => LeftR S base M0 E W r w') := hc
  obtain ⟨k, p, t, cl, l, nn, ls⟩ := e
  simp only at hk
  subst hk
  unfold edV at CD ⊢
  simp only at CD ⊢
  have hst := run_store_str
  have hst2 : ∀ (w : World) (a : Addr) (x : Option Addr) (n c : Nat) (m : Mode), (store a (.slice x n c) m).run Tryz.prog w = stored Tryz.prog w a (.slice x n c) m := fun w a x n c m => run_store_any w a _ m rfl
  clear hc
  go_enter Tryz.func22, Tryz.ntmps22
  go_wp2_with (go_at_call 52; refine (CD.out _ (bel_tr (bel_al _ _) (bel_al _ _))).mono ?_; rintro e w1 hL1; have HL : Hid _ := LeftR.after (bel_tr (bel_al _ _) (bel_al _ _)) hL1; obtain ⟨rfl, _, _⟩ := hL1)
  exact left_post rfl HL.out

set_option maxRecDepth 100000 in
set_option maxHeartbeats 4000000 in
theorem change_bump {base M0 S : Nat} {w : World} {s : Sp} {N L : RS} {ps : List NR} {gb : Nat} {gl : Option Nat} (h : Pre base M0 S w s N L ps gb gl) (e : Ed) (ea : Option Addr) (em eq : Nat) (hk : e.k = 9) (u : Sp) (b : Blk) (x : Nd) (hc : ∀ W, Below w.heap.size w W → Calls Tryz.prog 52 #[.pointer (some ⟨S, 0, none⟩), edV e ea em eq] W fun r w' => DoneR S base M0 u b x W r w') :
    Calls Tryz.prog 22 #[.pointer (some ⟨S, 0, none⟩), edV e ea em eq] w fun r w' => DoneR S base M0 u b x w r w' := by
  have CD : Hid (∀ W, Below w.heap.size w W → Calls Tryz.prog 52 #[.pointer (some ⟨S, 0, none⟩), edV e ea em eq] W fun r w' => DoneR S base M0 u b x W r w') := hc
  have HPRE : Hid (Pre base M0 S w s N L ps gb gl) := h
  obtain ⟨k, p, t, cl, l, nn, ls⟩ := e
  simp only at hk
  subst hk
  unfold edV at CD ⊢
  simp only at CD ⊢
  have hst := run_store_str
  have hst2 : ∀ (w : World) (a : Addr) (x : Option Addr) (n c : Nat) (m : Mode), (store a (.slice x n c) m).run Tryz.prog w = stored Tryz.prog w a (.slice x n c) m := fun w a x n c m => run_store_any w a _ m rfl
  clear hc h
  go_enter Tryz.func22, Tryz.ntmps22
  go_wp2_with (go_at_call 52; refine (CD.out _ (bel_tr (bel_al _ _) (bel_al _ _))).mono ?_; rintro e w1 hD1; obtain ⟨sx, rfl, hA1, hA2, hD2⟩ := done_up HPRE.out (anC_two _ _ _) (by simp) (bel_tr (bel_al _ _) (bel_al _ _)) hD1; have HA1 : Hid _ := hA1; have HA2 : Hid _ := hA2; have HD : Hid _ := hD2; clear hA1 hA2 hD2 hD1; obtain ⟨a0, a1, a2, a3, a4, a5, a6, a7, a8, a9, a10, afr⟩ := HA1.out; unfold zeroB at a1 a2 a3; unfold noS at a4; unfold zeroX zeroN noS at a5 a6 a7 a8 a9; simp only at a1 a2 a3 a4 a5 a6 a7 a8 a9; unfold anV noS; simp only)
  have hA := HA2.out
  have hD := HD.out
  have k0 := hA.c0
  have k1 := hA.c1
  have k2 := hA.c2
  have k3 := hA.c3
  have k4 := hA.c4
  have k5 := hA.c5
  have k6 := hA.c6
  have k7 := hA.c7
  have k8 := hA.c8
  have k9 := hA.c9
  have k10 := hA.c10
  unfold put11 noS  at k0 k1 k2 k3 k4 k5 k6 k7 k8 k9 k10 hD
  simp only [anV] at k0 k1 k2 k3 k4 k5 k6 k7 k8 k9 k10 hD
  refine bodyPost_ret ?_ rfl hD
  simp only [results, Tryz.results22]
  simp [go_sem, k0, k1, k2, k3, k4, k5, k6, k7, k8, k9, k10]

set_option maxRecDepth 100000 in
set_option maxHeartbeats 4000000 in
theorem change_reopen_no {base M0 S : Nat} {w : World} {s : Sp} {N L : RS} {ps : List NR} {gb : Nat} {gl : Option Nat} (_h : Pre base M0 S w s N L ps gb gl) (e : Ed) (ea : Option Addr) (em eq : Nat) (hk : e.k = 10) (E : Int) (hc : ∀ W, Below w.heap.size w W → Calls Tryz.prog 53 #[.pointer (some ⟨S, 0, none⟩), edV e ea em eq] W fun r w' => LeftR S base M0 E W r w') :
    Calls Tryz.prog 22 #[.pointer (some ⟨S, 0, none⟩), edV e ea em eq] w fun r w' => LeftR S base M0 E w r w' := by
  have CD : Hid (∀ W, Below w.heap.size w W → Calls Tryz.prog 53 #[.pointer (some ⟨S, 0, none⟩), edV e ea em eq] W fun r w' => LeftR S base M0 E W r w') := hc
  obtain ⟨k, p, t, cl, l, nn, ls⟩ := e
  simp only at hk
  subst hk
  unfold edV at CD ⊢
  simp only at CD ⊢
  have hst := run_store_str
  have hst2 : ∀ (w : World) (a : Addr) (x : Option Addr) (n c : Nat) (m : Mode), (store a (.slice x n c) m).run Tryz.prog w = stored Tryz.prog w a (.slice x n c) m := fun w a x n c m => run_store_any w a _ m rfl
  clear hc
  go_enter Tryz.func22, Tryz.ntmps22
  go_wp2_with (go_at_call 53; refine (CD.out _ (bel_tr (bel_al _ _) (bel_al _ _))).mono ?_; rintro e w1 hL1; have HL : Hid _ := LeftR.after (bel_tr (bel_al _ _) (bel_al _ _)) hL1; obtain ⟨rfl, _, _⟩ := hL1)
  exact left_post rfl HL.out

set_option maxRecDepth 100000 in
set_option maxHeartbeats 4000000 in
theorem change_reopen {base M0 S : Nat} {w : World} {s : Sp} {N L : RS} {ps : List NR} {gb : Nat} {gl : Option Nat} (h : Pre base M0 S w s N L ps gb gl) (e : Ed) (ea : Option Addr) (em eq : Nat) (hk : e.k = 10) (u : Sp) (b : Blk) (x : Nd) (hc : ∀ W, Below w.heap.size w W → Calls Tryz.prog 53 #[.pointer (some ⟨S, 0, none⟩), edV e ea em eq] W fun r w' => DoneR S base M0 u b x W r w') :
    Calls Tryz.prog 22 #[.pointer (some ⟨S, 0, none⟩), edV e ea em eq] w fun r w' => DoneR S base M0 u b x w r w' := by
  have CD : Hid (∀ W, Below w.heap.size w W → Calls Tryz.prog 53 #[.pointer (some ⟨S, 0, none⟩), edV e ea em eq] W fun r w' => DoneR S base M0 u b x W r w') := hc
  have HPRE : Hid (Pre base M0 S w s N L ps gb gl) := h
  obtain ⟨k, p, t, cl, l, nn, ls⟩ := e
  simp only at hk
  subst hk
  unfold edV at CD ⊢
  simp only at CD ⊢
  have hst := run_store_str
  have hst2 : ∀ (w : World) (a : Addr) (x : Option Addr) (n c : Nat) (m : Mode), (store a (.slice x n c) m).run Tryz.prog w = stored Tryz.prog w a (.slice x n c) m := fun w a x n c m => run_store_any w a _ m rfl
  clear hc h
  go_enter Tryz.func22, Tryz.ntmps22
  go_wp2_with (go_at_call 53; refine (CD.out _ (bel_tr (bel_al _ _) (bel_al _ _))).mono ?_; rintro e w1 hD1; obtain ⟨sx, rfl, hA1, hA2, hD2⟩ := done_up HPRE.out (anC_two _ _ _) (by simp) (bel_tr (bel_al _ _) (bel_al _ _)) hD1; have HA1 : Hid _ := hA1; have HA2 : Hid _ := hA2; have HD : Hid _ := hD2; clear hA1 hA2 hD2 hD1; obtain ⟨a0, a1, a2, a3, a4, a5, a6, a7, a8, a9, a10, afr⟩ := HA1.out; unfold zeroB at a1 a2 a3; unfold noS at a4; unfold zeroX zeroN noS at a5 a6 a7 a8 a9; simp only at a1 a2 a3 a4 a5 a6 a7 a8 a9; unfold anV noS; simp only)
  have hA := HA2.out
  have hD := HD.out
  have k0 := hA.c0
  have k1 := hA.c1
  have k2 := hA.c2
  have k3 := hA.c3
  have k4 := hA.c4
  have k5 := hA.c5
  have k6 := hA.c6
  have k7 := hA.c7
  have k8 := hA.c8
  have k9 := hA.c9
  have k10 := hA.c10
  unfold put11 noS  at k0 k1 k2 k3 k4 k5 k6 k7 k8 k9 k10 hD
  simp only [anV] at k0 k1 k2 k3 k4 k5 k6 k7 k8 k9 k10 hD
  refine bodyPost_ret ?_ rfl hD
  simp only [results, Tryz.results22]
  simp [go_sem, k0, k1, k2, k3, k4, k5, k6, k7, k8, k9, k10]

end Go.Proofs.YticiihjkgiookaaGreat.Spa

/- The contract of space.change at MkDir and Delete. -/
namespace Go.Proofs.YticiihjkgiookaaGreat.Spa
open Go.RowKit Go.Proofs.YticiihjkgiookaaGreat
open Go.Proofs.YticiihjkgiookaaGreat.Lea (LS Ls findX putL renX LL LO LsR lsC wideL)
open Go.Proofs.YticiihjkgiookaaGreat.Edi (Ed Nm EdAt edV)

theorem AddR.unit {base M0 S : Nat} {W w1 : World} {s t : Sp} {N L : RS} {ps : List NR} {gb : Nat} {gl : Option Nat} (h : Pre base M0 S W s N L ps gb gl) {r : Ending} (hA : AddR S base t L gl W r w1) : UnitR S base M0 t W r w1 := by
  obtain ⟨⟨N', ps', g', hr, hC, hO, h1, h2⟩, hst⟩ := hA
  exact ⟨⟨N', L, ps', g', gl, hr, hC, hO, fun k hk => .inr (h1 k hk), fun k hk => .inl (h.m2 k hk), fun x hx k hk => .inr (h2 x hx k hk)⟩, hst.mono (fun k hk => .inl hk)⟩
theorem unit_ns {base M0 S : Nat} {W w1 : World} {s : Sp} {N L : RS} {ps : List NR} {gb : Nat} {gl : Option Nat} (h : Pre base M0 S W s N L ps gb gl) {W1 : Nat} (hW : W.heap.size ≤ W1) (hb : Below W.heap.size W w1) {N' : RS} {ns : NS} (hX : LX W1 w1 N'.a N'.n N'.c ns) :
    UnitR S base M0 ⟨s.tx, s.nb, s.ng, s.now, ns, s.ls⟩ W (.returned (.tuple #[])) (w1.setCell ⟨S, 4, none⟩ (.slice N'.a N'.n N'.c)) := by
  obtain ⟨ps', g', r1, r2, r3, r4, r5⟩ := h.newNs (N' := N') hW hb hX
  exact ⟨⟨N', L, ps', g', gl, rfl, r1, r2.up (by rw [setC_size]; exact Nat.le_refl _), fun k hk => .inr (r4 k hk), fun k hk => .inl (h.m2 k hk), fun x hx k hk => .inr (r5 x hx k hk)⟩, r3.mono (fun k hk => .inl hk)⟩

set_option maxRecDepth 100000 in
set_option maxHeartbeats 4000000 in
theorem change_mkdir_no {base M0 S : Nat} {w : World} {s : Sp} {N L : RS} {ps : List NR} {gb : Nat} {gl : Option Nat} (h : Pre base M0 S w s N L ps gb gl) (e : Ed) (ea : Option Addr) (em eq : Nat) (hk : e.k = 1) (E : Int) (hc : ∀ W, Below w.heap.size w W → Calls Tryz.prog 43 #[.pointer (some ⟨S, 0, none⟩), ndV ((⟨e.p, true, -1, [], -1⟩ : Nd), noS)] W fun r w' => LeftR S base M0 E W r w') :
    Calls Tryz.prog 22 #[.pointer (some ⟨S, 0, none⟩), edV e ea em eq] w fun r w' => LeftR S base M0 E w r w' := by
  have CD : Hid (∀ W, Below w.heap.size w W → Calls Tryz.prog 43 #[.pointer (some ⟨S, 0, none⟩), ndV ((⟨e.p, true, -1, [], -1⟩ : Nd), noS)] W fun r w' => LeftR S base M0 E W r w') := hc
  have HPRE : Hid (Pre base M0 S w s N L ps gb gl) := h
  obtain ⟨k, p, t, cl, l, nn, ls⟩ := e
  simp only at hk
  subst hk
  unfold ndV noS at CD
  unfold edV
  simp only at CD ⊢
  have hst := run_store_str
  have hst2 : ∀ (w : World) (a : Addr) (x : Option Addr) (n c : Nat) (m : Mode), (store a (.slice x n c) m).run Tryz.prog w = stored Tryz.prog w a (.slice x n c) m := fun w a x n c m => run_store_any w a _ m rfl
  clear hc h
  go_enter Tryz.func22, Tryz.ntmps22
  go_wp2_with (first
    | (go_at_call 15; refine (newDir_val _ _).mono ?_; rintro e w1 ⟨rfl, c1⟩; obtain ⟨q1, q2, q3, q4, q5, q6⟩ := two_boxes c1; have y0 := q1 0 _ rfl; have y1 := q1 1 _ rfl; have y2 := q1 2 _ rfl; have y3 := q1 3 _ rfl; have y4 := q1 4 _ rfl; have y5 := q1 5 _ rfl; have y6 := q1 6 _ rfl; have B1 : Hid (Below w.heap.size w w1) := q5; have HAN : Hid (AnC w1 (w.heap.size + 1) 0 zeroB noS zeroX 0) := ⟨q3 0 _ rfl, q3 1 _ rfl, q3 2 _ rfl, q3 3 _ rfl, q3 4 _ rfl, q3 5 _ rfl, q3 6 _ rfl, q3 7 _ rfl, q3 8 _ rfl, q3 9 _ rfl, q3 10 _ rfl, q4⟩; have HSZ : Hid (w.heap.size + 2 ≤ w1.heap.size) := q6; clear c1 q1 q2 q3 q4 q5 q6; unfold ndV; simp only)
    | (go_at_call 43; refine (CD.out _ B1.out).mono ?_; rintro e w2 hL1; have HL : Hid _ := LeftR.after B1.out hL1; obtain ⟨rfl, _, _⟩ := hL1))
  exact left_post rfl HL.out

set_option maxRecDepth 100000 in
set_option maxHeartbeats 4000000 in
theorem change_mkdir {base M0 S : Nat} {w : World} {s : Sp} {N L : RS} {ps : List NR} {gb : Nat} {gl : Option Nat} (h : Pre base M0 S w s N L ps gb gl) (e : Ed) (ea : Option Addr) (em eq : Nat) (hk : e.k = 1) (u : Sp) (hc : ∀ W, Below w.heap.size w W → Calls Tryz.prog 43 #[.pointer (some ⟨S, 0, none⟩), ndV ((⟨e.p, true, -1, [], -1⟩ : Nd), noS)] W fun r w' => AddR S base u L gl W r w') :
    Calls Tryz.prog 22 #[.pointer (some ⟨S, 0, none⟩), edV e ea em eq] w fun r w' => DoneR S base M0 u zeroB zeroN w r w' := by
  have CD : Hid (∀ W, Below w.heap.size w W → Calls Tryz.prog 43 #[.pointer (some ⟨S, 0, none⟩), ndV ((⟨e.p, true, -1, [], -1⟩ : Nd), noS)] W fun r w' => AddR S base u L gl W r w') := hc
  have HPRE : Hid (Pre base M0 S w s N L ps gb gl) := h
  obtain ⟨k, p, t, cl, l, nn, ls⟩ := e
  simp only at hk
  subst hk
  unfold ndV noS at CD
  unfold edV
  simp only at CD ⊢
  have hst := run_store_str
  have hst2 : ∀ (w : World) (a : Addr) (x : Option Addr) (n c : Nat) (m : Mode), (store a (.slice x n c) m).run Tryz.prog w = stored Tryz.prog w a (.slice x n c) m := fun w a x n c m => run_store_any w a _ m rfl
  clear hc h
  go_enter Tryz.func22, Tryz.ntmps22
  go_wp2_with (first
    | (go_at_call 15; refine (newDir_val _ _).mono ?_; rintro e w1 ⟨rfl, c1⟩; obtain ⟨q1, q2, q3, q4, q5, q6⟩ := two_boxes c1; have y0 := q1 0 _ rfl; have y1 := q1 1 _ rfl; have y2 := q1 2 _ rfl; have y3 := q1 3 _ rfl; have y4 := q1 4 _ rfl; have y5 := q1 5 _ rfl; have y6 := q1 6 _ rfl; have B1 : Hid (Below w.heap.size w w1) := q5; have HAN : Hid (AnC w1 (w.heap.size + 1) 0 zeroB noS zeroX 0) := ⟨q3 0 _ rfl, q3 1 _ rfl, q3 2 _ rfl, q3 3 _ rfl, q3 4 _ rfl, q3 5 _ rfl, q3 6 _ rfl, q3 7 _ rfl, q3 8 _ rfl, q3 9 _ rfl, q3 10 _ rfl, q4⟩; have HSZ : Hid (w.heap.size + 2 ≤ w1.heap.size) := q6; clear c1 q1 q2 q3 q4 q5 q6; unfold ndV; simp only)
    | (go_at_call 43; refine (CD.out _ B1.out).mono ?_; rintro e w2 hD1; obtain ⟨rfl, hA1, hA2, hD2⟩ := unit_up HPRE.out HAN.out HSZ.out B1.out (hD1.unit (HPRE.out.below B1.out)); have HA1 : Hid _ := hA1; have HA2 : Hid _ := hA2; have HD : Hid _ := hD2; clear hA1 hA2 hD2 hD1; obtain ⟨a0, a1, a2, a3, a4, a5, a6, a7, a8, a9, a10, afr⟩ := HA1.out; unfold zeroB at a1 a2 a3; unfold noS at a4; unfold zeroX zeroN noS at a5 a6 a7 a8 a9; simp only at a1 a2 a3 a4 a5 a6 a7 a8 a9))
  have hA := HA2.out
  have hD := HD.out
  have k0 := hA.c0
  have k1 := hA.c1
  have k2 := hA.c2
  have k3 := hA.c3
  have k4 := hA.c4
  have k5 := hA.c5
  have k6 := hA.c6
  have k7 := hA.c7
  have k8 := hA.c8
  have k9 := hA.c9
  have k10 := hA.c10
  unfold put11 noS zeroN zeroB at k0 k1 k2 k3 k4 k5 k6 k7 k8 k9 k10 hD
  simp only [anV] at k0 k1 k2 k3 k4 k5 k6 k7 k8 k9 k10 hD
  refine bodyPost_ret ?_ rfl hD
  simp only [results, Tryz.results22]
  simp [go_sem, k0, k1, k2, k3, k4, k5, k6, k7, k8, k9, k10]

set_option maxRecDepth 100000 in
set_option maxHeartbeats 4000000 in
theorem change_delete_no {base M0 S : Nat} {w : World} {s : Sp} {N L : RS} {ps : List NR} {gb : Nat} {gl : Option Nat} (h : Pre base M0 S w s N L ps gb gl) (e : Ed) (ea : Option Addr) (em eq : Nat) (hk : e.k = 3) (hp : 0 < ps.length) (hs : e.p.size ≤ maxLen) (E : Int) (hM : RemE s.ns e.p E) (h0 : E ≠ 0) :
    Calls Tryz.prog 22 #[.pointer (some ⟨S, 0, none⟩), edV e ea em eq] w fun r w' => LeftR S base M0 E w r w' := by
  have HPRE : Hid (Pre base M0 S w s N L ps gb gl) := h
  have CM : Hid (∀ W, Below w.heap.size w W → Calls Tryz.prog 46 #[.slice (some ⟨gb, 0, none⟩) N.n N.c, .string e.p] W fun r w' => TwoR W.heap.size (remL s.ns e.p E) E r w' ∧ Below W.heap.size W w') := fun W hb => remove_val ((h.below hb).nl hp) e.p hs E hM
  have k4 := h.c4'
  have K4 : Hid (w.cell? ⟨S, 4, none⟩ = some (.slice (some ⟨gb, 0, none⟩) N.n N.c)) := k4
  have h0b : (E != 0) = true := by simpa using h0
  obtain ⟨k, p, t, cl, l, nn, ls⟩ := e
  simp only at hk
  subst hk
  unfold edV
  simp only at CM ⊢
  have hst := run_store_str
  have hst2 : ∀ (w : World) (a : Addr) (x : Option Addr) (n c : Nat) (m : Mode), (store a (.slice x n c) m).run Tryz.prog w = stored Tryz.prog w a (.slice x n c) m := fun w a x n c m => run_store_any w a _ m rfl
  clear h hp hs hM k4 h0
  go_enter Tryz.func22, Tryz.ntmps22
  go_wp2
  have ka := fun o1 o2 => cell_al (cell_al K4.out o1) o2
  refine wp_region_any (by kernel_rfl) ?_
  try (change wpAny _ _ _ _ _ _ _ (World.drew _))
  refine wpAny_take (i := 0) (v := ?_) rfl (by kernel_rfl) (by kernel_rfl) (by kernel_rfl) (fun _ _ _ h => h) (Or.inl ⟨by rfl, ?_⟩) ?_
  rotate_left
  · intro w; go_simp; first | done | with_reducible rfl
  refine wpAny_take (i := 1) (v := ?_) rfl (by kernel_rfl) (by kernel_rfl) (by kernel_rfl) (fun _ _ _ h => h) (Or.inl ⟨by rfl, ?_⟩) ?_
  rotate_left
  · intro w; go_simp; first | done | with_reducible rfl
  refine wpAny_take (i := 2) (v := ?_) rfl (by kernel_rfl) (by kernel_rfl) (by kernel_rfl) (fun _ _ _ h => h) (Or.inl ⟨by rfl, ?_⟩) ?_
  rotate_left
  · intro w; go_simp; first | done | with_reducible rfl
  refine wpAny_take (i := 3) (v := ?_) rfl (by kernel_rfl) (by kernel_rfl) (by kernel_rfl) (fun _ _ _ h => h) (Or.inl ⟨by rfl, ?_⟩) ?_
  rotate_left
  · intro w; go_simp; first | done | with_reducible rfl
  refine wpAny_take (i := 5) (v := ?_) rfl (by kernel_rfl) (by kernel_rfl) (by kernel_rfl) (fun _ _ _ h => h) (Or.inl ⟨by rfl, ?_⟩) ?_
  rotate_left
  · intro w; go_simp; first | done | with_reducible rfl
  refine wpAny_ready (rs := [4, 6]) (by kernel_rfl) (by simp) ?_
  refine AllReady.cons rfl (fun K hK => ?_) ?_
  · go_simp
    refine hK _ _ ?_
    clear hK K
    refine wpAny_ready (rs := [6]) (by kernel_rfl) (by simp) ?_
    refine AllReady.cons rfl (fun K hK => ?_) ?_
    · go_simp
      refine hK _ _ ?_
      clear hK K
      refine wpAny_ready (rs := [7]) (by kernel_rfl) (by simp) ?_
      refine AllReady.cons rfl (fun K hK => ?_) ?_
      · go_simp
        refine (CM.out _ (bel_tr (bel_tr (bel_al _ _) (bel_al _ _)) (bel_drewN _ 1))).mono ?_; rintro e w1 ⟨⟨na, n1, nc, rfl, hX⟩, c1⟩; have B1 : Hid (Below w.heap.size w w1) := bel_tr (bel_tr (bel_tr (bel_al _ _) (bel_al _ _)) (bel_drewN _ 1)) c1; have d4 := bel_cell B1.out K4.out; clear hX c1
        try go_simp
        refine hK _ _ ?_
        clear hK K
        refine wpAny_take (i := 8) (v := ?_) rfl (by kernel_rfl) (by kernel_rfl) (by kernel_rfl) (fun _ _ _ h => h) (Or.inl ⟨by rfl, ?_⟩) ?_
        rotate_left
        · intro w; go_simp; first | done | with_reducible rfl
        refine wpAny_take (i := 9) (v := ?_) rfl (by kernel_rfl) (by kernel_rfl) (by kernel_rfl) (fun _ _ _ h => h) (Or.inl ⟨by rfl, ?_⟩) ?_
        rotate_left
        · intro w; go_simp; first | done | with_reducible rfl
        refine wpAny_ready (rs := [10]) (by kernel_rfl) (by simp) ?_
        refine AllReady.cons rfl (fun K hK => ?_) ?_
        · go_simp
          refine (takenN_no _ h0b _).mono ?_; rintro e w2 ⟨rfl, hw2⟩; subst hw2; exact left_post rfl (LeftR.of B1.out)
        exact AllReady.nil
      exact AllReady.nil
    exact AllReady.nil
  refine AllReady.cons rfl (fun K hK => ?_) ?_
  · go_simp
    refine hK _ _ ?_
    clear hK K
    refine wpAny_ready (rs := [4]) (by kernel_rfl) (by simp) ?_
    refine AllReady.cons rfl (fun K hK => ?_) ?_
    · go_simp
      refine hK _ _ ?_
      clear hK K
      refine wpAny_ready (rs := [7]) (by kernel_rfl) (by simp) ?_
      refine AllReady.cons rfl (fun K hK => ?_) ?_
      · go_simp
        refine (CM.out _ (bel_tr (bel_tr (bel_al _ _) (bel_al _ _)) (bel_drewN _ 1))).mono ?_; rintro e w1 ⟨⟨na, n1, nc, rfl, hX⟩, c1⟩; have B1 : Hid (Below w.heap.size w w1) := bel_tr (bel_tr (bel_tr (bel_al _ _) (bel_al _ _)) (bel_drewN _ 1)) c1; have d4 := bel_cell B1.out K4.out; clear hX c1
        try go_simp
        refine hK _ _ ?_
        clear hK K
        refine wpAny_take (i := 8) (v := ?_) rfl (by kernel_rfl) (by kernel_rfl) (by kernel_rfl) (fun _ _ _ h => h) (Or.inl ⟨by rfl, ?_⟩) ?_
        rotate_left
        · intro w; go_simp; first | done | with_reducible rfl
        refine wpAny_take (i := 9) (v := ?_) rfl (by kernel_rfl) (by kernel_rfl) (by kernel_rfl) (fun _ _ _ h => h) (Or.inl ⟨by rfl, ?_⟩) ?_
        rotate_left
        · intro w; go_simp; first | done | with_reducible rfl
        refine wpAny_ready (rs := [10]) (by kernel_rfl) (by simp) ?_
        refine AllReady.cons rfl (fun K hK => ?_) ?_
        · go_simp
          refine (takenN_no _ h0b _).mono ?_; rintro e w2 ⟨rfl, hw2⟩; subst hw2; exact left_post rfl (LeftR.of B1.out)
        exact AllReady.nil
      exact AllReady.nil
    exact AllReady.nil
  exact AllReady.nil
set_option maxRecDepth 100000 in
set_option maxHeartbeats 4000000 in
theorem change_delete {base M0 S : Nat} {w : World} {s : Sp} {N L : RS} {ps : List NR} {gb : Nat} {gl : Option Nat} (h : Pre base M0 S w s N L ps gb gl) (e : Ed) (ea : Option Addr) (em eq : Nat) (hk : e.k = 3) (hp : 0 < ps.length) (hs : e.p.size ≤ maxLen) (hM : RemE s.ns e.p 0) :
    Calls Tryz.prog 22 #[.pointer (some ⟨S, 0, none⟩), edV e ea em eq] w fun r w' => DoneR S base M0 ⟨s.tx, s.nb, s.ng, s.now, leftL s.ns e.p, s.ls⟩ zeroB zeroN w r w' := by
  have HPRE : Hid (Pre base M0 S w s N L ps gb gl) := h
  have CM : Hid (∀ W, Below w.heap.size w W → Calls Tryz.prog 46 #[.slice (some ⟨gb, 0, none⟩) N.n N.c, .string e.p] W fun r w' => TwoR W.heap.size (remL s.ns e.p 0) 0 r w' ∧ Below W.heap.size W w') := fun W hb => remove_val ((h.below hb).nl hp) e.p hs 0 hM
  have k4 := h.c4'
  have K4 : Hid (w.cell? ⟨S, 4, none⟩ = some (.slice (some ⟨gb, 0, none⟩) N.n N.c)) := k4
  have HAL : Hid (remL s.ns e.p 0 = leftL s.ns e.p) := rfl
  have CT : Hid (∀ W a n c, Calls Tryz.prog 45 #[.slice a n c, .int .i64 0] W fun e w' => e = .returned (.slice a n c) ∧ W = w') := fun W a n c => (takenN_ok W).mono fun e w' ⟨h1, h2⟩ => ⟨h1, h2.symm⟩
  obtain ⟨k, p, t, cl, l, nn, ls⟩ := e
  simp only at hk
  subst hk
  unfold edV
  simp only at CM HAL ⊢
  have hst := run_store_str
  have hst2 : ∀ (w : World) (a : Addr) (x : Option Addr) (n c : Nat) (m : Mode), (store a (.slice x n c) m).run Tryz.prog w = stored Tryz.prog w a (.slice x n c) m := fun w a x n c m => run_store_any w a _ m rfl
  clear h hp hs hM k4
  go_enter Tryz.func22, Tryz.ntmps22
  go_wp2
  have ka := fun o1 o2 => cell_al (cell_al K4.out o1) o2
  refine wp_region_any (by kernel_rfl) ?_
  try (change wpAny _ _ _ _ _ _ _ (World.drew _))
  refine wpAny_take (i := 0) (v := ?_) rfl (by kernel_rfl) (by kernel_rfl) (by kernel_rfl) (fun _ _ _ h => h) (Or.inl ⟨by rfl, ?_⟩) ?_
  rotate_left
  · intro w; go_simp; first | done | with_reducible rfl
  refine wpAny_take (i := 1) (v := ?_) rfl (by kernel_rfl) (by kernel_rfl) (by kernel_rfl) (fun _ _ _ h => h) (Or.inl ⟨by rfl, ?_⟩) ?_
  rotate_left
  · intro w; go_simp; first | done | with_reducible rfl
  refine wpAny_take (i := 2) (v := ?_) rfl (by kernel_rfl) (by kernel_rfl) (by kernel_rfl) (fun _ _ _ h => h) (Or.inl ⟨by rfl, ?_⟩) ?_
  rotate_left
  · intro w; go_simp; first | done | with_reducible rfl
  refine wpAny_take (i := 3) (v := ?_) rfl (by kernel_rfl) (by kernel_rfl) (by kernel_rfl) (fun _ _ _ h => h) (Or.inl ⟨by rfl, ?_⟩) ?_
  rotate_left
  · intro w; go_simp; first | done | with_reducible rfl
  refine wpAny_take (i := 5) (v := ?_) rfl (by kernel_rfl) (by kernel_rfl) (by kernel_rfl) (fun _ _ _ h => h) (Or.inl ⟨by rfl, ?_⟩) ?_
  rotate_left
  · intro w; go_simp; first | done | with_reducible rfl
  refine wpAny_ready (rs := [4, 6]) (by kernel_rfl) (by simp) ?_
  refine AllReady.cons rfl (fun K hK => ?_) ?_
  · go_simp
    refine hK _ _ ?_
    clear hK K
    refine wpAny_ready (rs := [6]) (by kernel_rfl) (by simp) ?_
    refine AllReady.cons rfl (fun K hK => ?_) ?_
    · go_simp
      refine hK _ _ ?_
      clear hK K
      refine wpAny_ready (rs := [7]) (by kernel_rfl) (by simp) ?_
      refine AllReady.cons rfl (fun K hK => ?_) ?_
      · go_simp
        refine (CM.out _ (bel_tr (bel_tr (bel_al _ _) (bel_al _ _)) (bel_drewN _ 1))).mono ?_; rintro e w1 ⟨⟨na, n1, nc, rfl, hX⟩, c1⟩; have B1 : Hid (Below w.heap.size w w1) := bel_tr (bel_tr (bel_tr (bel_al _ _) (bel_al _ _)) (bel_drewN _ 1)) c1; have d4 := bel_cell B1.out K4.out; rw [HAL.out] at hX; obtain ⟨_, hA1, hA2, hD2⟩ := unit_up HPRE.out (anC_two _ _ _) (by simp) (bel_tr (bel_al _ _) (bel_al _ _)) (unit_ns (N' := ⟨na, n1, nc⟩) (HPRE.out.below (bel_tr (bel_al _ _) (bel_al _ _))) (Nat.le_refl _) (bel_tr (bel_drewN _ 1) c1) hX); have HA1 : Hid _ := hA1; have HA2 : Hid _ := hA2; have HD : Hid _ := hD2; have hfz := (HPRE.out.below B1.out).c.fr 4; clear hA1 hA2 hD2 hX c1
        try go_simp
        refine hK _ _ ?_
        clear hK K
        refine wpAny_take (i := 8) (v := ?_) rfl (by kernel_rfl) (by kernel_rfl) (by kernel_rfl) (fun _ _ _ h => h) (Or.inl ⟨by rfl, ?_⟩) ?_
        rotate_left
        · intro w; go_simp; first | done | with_reducible rfl
        refine wpAny_take (i := 9) (v := ?_) rfl (by kernel_rfl) (by kernel_rfl) (by kernel_rfl) (fun _ _ _ h => h) (Or.inl ⟨by rfl, ?_⟩) ?_
        rotate_left
        · intro w; go_simp; first | done | with_reducible rfl
        refine wpAny_ready (rs := [10]) (by kernel_rfl) (by simp) ?_
        refine AllReady.cons rfl (fun K hK => ?_) ?_
        · go_simp
          refine (CT.out _ _ _ _).mono ?_; rintro e w2 ⟨rfl, rfl⟩
          try go_simp
          refine hK _ _ ?_
          clear hK K
          refine wpAny_take (i := 11) (v := ?_) rfl (by kernel_rfl) (by kernel_rfl) (by kernel_rfl) (fun _ _ _ h => h) (Or.inl ⟨by rfl, ?_⟩) ?_
          rotate_left
          · intro w; go_simp; first | done | with_reducible rfl
          refine wpAny_take (i := 12) (v := ?_) rfl (by kernel_rfl) (by kernel_rfl) (by kernel_rfl) (fun _ _ _ h => h) (Or.inl ⟨by rfl, ?_⟩) ?_
          rotate_left
          · intro w; go_simp; first | done | with_reducible rfl
          refine wpAny_ready (rs := [13]) (by kernel_rfl) (by simp) ?_
          refine AllReady.cons rfl (fun K hK => ?_) ?_
          · go_simp
            refine hK _ _ ?_
            clear hK K
            refine wpAny_done (by kernel_rfl) ?_ _
            obtain ⟨a0, a1, a2, a3, a4, a5, a6, a7, a8, a9, a10, afr⟩ := HA1.out
            unfold zeroB at a1 a2 a3
            unfold noS at a4
            unfold zeroX zeroN noS at a5 a6 a7 a8 a9
            simp only at a1 a2 a3 a4 a5 a6 a7 a8 a9
            go_wp2
            have hA := HA2.out
            have hD := HD.out
            have k0 := hA.c0
            have k1 := hA.c1
            have k2 := hA.c2
            have k3 := hA.c3
            have k4 := hA.c4
            have k5 := hA.c5
            have k6 := hA.c6
            have k7 := hA.c7
            have k8 := hA.c8
            have k9 := hA.c9
            have k10 := hA.c10
            unfold put11 noS zeroN zeroB at k0 k1 k2 k3 k4 k5 k6 k7 k8 k9 k10 hD
            simp only [anV] at k0 k1 k2 k3 k4 k5 k6 k7 k8 k9 k10 hD
            refine bodyPost_ret ?_ rfl hD
            simp only [results, Tryz.results22]
            simp [go_sem, k0, k1, k2, k3, k4, k5, k6, k7, k8, k9, k10]
          exact AllReady.nil
        exact AllReady.nil
      exact AllReady.nil
    exact AllReady.nil
  refine AllReady.cons rfl (fun K hK => ?_) ?_
  · go_simp
    refine hK _ _ ?_
    clear hK K
    refine wpAny_ready (rs := [4]) (by kernel_rfl) (by simp) ?_
    refine AllReady.cons rfl (fun K hK => ?_) ?_
    · go_simp
      refine hK _ _ ?_
      clear hK K
      refine wpAny_ready (rs := [7]) (by kernel_rfl) (by simp) ?_
      refine AllReady.cons rfl (fun K hK => ?_) ?_
      · go_simp
        refine (CM.out _ (bel_tr (bel_tr (bel_al _ _) (bel_al _ _)) (bel_drewN _ 1))).mono ?_; rintro e w1 ⟨⟨na, n1, nc, rfl, hX⟩, c1⟩; have B1 : Hid (Below w.heap.size w w1) := bel_tr (bel_tr (bel_tr (bel_al _ _) (bel_al _ _)) (bel_drewN _ 1)) c1; have d4 := bel_cell B1.out K4.out; rw [HAL.out] at hX; obtain ⟨_, hA1, hA2, hD2⟩ := unit_up HPRE.out (anC_two _ _ _) (by simp) (bel_tr (bel_al _ _) (bel_al _ _)) (unit_ns (N' := ⟨na, n1, nc⟩) (HPRE.out.below (bel_tr (bel_al _ _) (bel_al _ _))) (Nat.le_refl _) (bel_tr (bel_drewN _ 1) c1) hX); have HA1 : Hid _ := hA1; have HA2 : Hid _ := hA2; have HD : Hid _ := hD2; have hfz := (HPRE.out.below B1.out).c.fr 4; clear hA1 hA2 hD2 hX c1
        try go_simp
        refine hK _ _ ?_
        clear hK K
        refine wpAny_take (i := 8) (v := ?_) rfl (by kernel_rfl) (by kernel_rfl) (by kernel_rfl) (fun _ _ _ h => h) (Or.inl ⟨by rfl, ?_⟩) ?_
        rotate_left
        · intro w; go_simp; first | done | with_reducible rfl
        refine wpAny_take (i := 9) (v := ?_) rfl (by kernel_rfl) (by kernel_rfl) (by kernel_rfl) (fun _ _ _ h => h) (Or.inl ⟨by rfl, ?_⟩) ?_
        rotate_left
        · intro w; go_simp; first | done | with_reducible rfl
        refine wpAny_ready (rs := [10]) (by kernel_rfl) (by simp) ?_
        refine AllReady.cons rfl (fun K hK => ?_) ?_
        · go_simp
          refine (CT.out _ _ _ _).mono ?_; rintro e w2 ⟨rfl, rfl⟩
          try go_simp
          refine hK _ _ ?_
          clear hK K
          refine wpAny_take (i := 11) (v := ?_) rfl (by kernel_rfl) (by kernel_rfl) (by kernel_rfl) (fun _ _ _ h => h) (Or.inl ⟨by rfl, ?_⟩) ?_
          rotate_left
          · intro w; go_simp; first | done | with_reducible rfl
          refine wpAny_take (i := 12) (v := ?_) rfl (by kernel_rfl) (by kernel_rfl) (by kernel_rfl) (fun _ _ _ h => h) (Or.inl ⟨by rfl, ?_⟩) ?_
          rotate_left
          · intro w; go_simp; first | done | with_reducible rfl
          refine wpAny_ready (rs := [13]) (by kernel_rfl) (by simp) ?_
          refine AllReady.cons rfl (fun K hK => ?_) ?_
          · go_simp
            refine hK _ _ ?_
            clear hK K
            refine wpAny_done (by kernel_rfl) ?_ _
            obtain ⟨a0, a1, a2, a3, a4, a5, a6, a7, a8, a9, a10, afr⟩ := HA1.out
            unfold zeroB at a1 a2 a3
            unfold noS at a4
            unfold zeroX zeroN noS at a5 a6 a7 a8 a9
            simp only at a1 a2 a3 a4 a5 a6 a7 a8 a9
            go_wp2
            have hA := HA2.out
            have hD := HD.out
            have k0 := hA.c0
            have k1 := hA.c1
            have k2 := hA.c2
            have k3 := hA.c3
            have k4 := hA.c4
            have k5 := hA.c5
            have k6 := hA.c6
            have k7 := hA.c7
            have k8 := hA.c8
            have k9 := hA.c9
            have k10 := hA.c10
            unfold put11 noS zeroN zeroB at k0 k1 k2 k3 k4 k5 k6 k7 k8 k9 k10 hD
            simp only [anV] at k0 k1 k2 k3 k4 k5 k6 k7 k8 k9 k10 hD
            refine bodyPost_ret ?_ rfl hD
            simp only [results, Tryz.results22]
            simp [go_sem, k0, k1, k2, k3, k4, k5, k6, k7, k8, k9, k10]
          exact AllReady.nil
        exact AllReady.nil
      exact AllReady.nil
    exact AllReady.nil
  exact AllReady.nil
end Go.Proofs.YticiihjkgiookaaGreat.Spa

/- The contract of space.change: an edit is made, or refused. -/
namespace Go.Proofs.YticiihjkgiookaaGreat.Spa
open Go.RowKit Go.Proofs.YticiihjkgiookaaGreat
open Go.Proofs.YticiihjkgiookaaGreat.Lea (LS Ls findX putL renX LL LO LsR lsC wideL)
open Go.Proofs.YticiihjkgiookaaGreat.Edi (Ed Nm EdAt edV)

/-- The space behind an edit, ahead of the count. -/
def doT (s : Sp) (e : Ed) : Sp := ⟨s.tx, (doS s e).nb, (doS s e).ng, (doS s e).now, (doS s e).ns, (doS s e).ls⟩
theorem new1 {e : Ed} (hk : e.k = 1) : newN e = ⟨e.p, true, -1, [], -1⟩ := by unfold newN; rw [if_neg (by omega), decide_eq_true hk]
theorem num9 {e : Ed} (he : Edi.Rt e) (hk : e.k = 9) : 0 ≤ e.n := by
  have := (Edi.inB_iff.1 he.num).1
  rw [hk] at this
  simpa [Edi.loN] using this
theorem Pre.pos {base M0 S : Nat} {w : World} {s : Sp} {N L : RS} {ps : List NR} {gb : Nat} {gl : Option Nat} (h : Pre base M0 S w s N L ps gb gl) (hR : RtS s) : 0 < ps.length := by
  have h1 := congrArg List.length h.own.map
  rw [List.length_map] at h1
  rw [h1]
  exact hR.tree.pos
theorem small_p {e : Ed} (he : Edi.Rt e) : e.p.size ≤ maxLen := Nat.le_trans he.path (by decide)
theorem small_t {e : Ed} (he : Edi.Rt e) : e.t.size ≤ maxLen := Nat.le_trans (Nat.le_trans he.to (Edi.toM_le _)) (by decide)
theorem eight {s : Sp} {e : Ed} (hR : RtS s) {i : Nat} {x : Nd} (hw : Wr s e i x) : x.bs.length ≤ 8 := (file_of (hR.tree.fit x hw.is.mem) hw.dir).2.2.2.2.1

theorem change_no {base M0 S : Nat} {w : World} {s : Sp} {N L : RS} {ps : List NR} {gb : Nat} {gl : Option Nat} (h : Pre base M0 S w s N L ps gb gl) (e : Ed) (ea : Option Addr) (em eq : Nat) (hn : Nm w ea em e.ls) (hnb : ∀ ad, ea = some ad → 0 < em → ad.block < base) (hR : RtS s) (he : Edi.Rt e) (E : Int) (hd : DoE s e E) (h0 : E ≠ 0) :
    Calls Tryz.prog 22 #[.pointer (some ⟨S, 0, none⟩), edV e ea em eq] w fun r w' => LeftR S base M0 E w r w' := by
  have hp := h.pos hR
  have hs := small_p he
  have ht := small_t he
  cases hd with
  | made k hm =>
    cases hm with
    | add _ hA _ =>
      rcases k with k | k
      · rw [new1 k] at hA
        exact change_mkdir_no h e ea em eq k E (fun W hb => add_no (h.below hb) hp _ (noS_ok W _ rfl hs) E hA h0)
      · exact change_create_no h e ea em eq k E (fun W hb => create_add (h.below hb) e ea em eq hp hs k E hA h0)
    | full hA hr =>
      rcases k with k | k
      · rw [new1 k] at hA
        exact change_mkdir_no h e ea em eq k 8 (fun W hb => add_full (h.below hb) hp _ (noS_ok W _ rfl hs) hA hR.tree hr)
      · exact change_create_no h e ea em eq k 8 (fun W hb => create_full (h.below hb) e ea em eq hp hs k hR.tree hA hr)
    | ok _ _ => exact absurd rfl h0
  | rem k hm => exact change_delete_no h e ea em eq k hp hs E hm h0
  | ren k hm =>
    cases hm with
    | mov _ hM _ => exact change_rename_no h e ea em eq k E (fun W hb => rename_mov (h.below hb) e ea em eq hp hs ht E hM h0)
    | full hM ho => exact change_rename_no h e ea em eq k 8 (fun W hb => rename_full (h.below hb) e ea em eq hp hs ht hM ho)
    | ok _ _ => exact absurd rfl h0
  | addb k hm =>
    cases hm with
    | writ _ hE _ => exact change_addBlock_no h e ea em eq k E (fun W hb => addBlock_writ (h.below hb) e ea em eq hs E hE h0 hp)
    | arg i x hw hl => exact change_addBlock_no h e ea em eq k 1 (fun W hb => addBlock_lens (h.below hb) e ea em eq (hn.below hb) hnb hs i x hw hl (eight hR hw))
    | long i x hw hl hx => exact change_addBlock_no h e ea em eq k 4 (fun W hb => addBlock_long (h.below hb) e ea em eq (hn.below hb) hnb hs i x hw hl (eight hR hw) hx)
    | ok _ _ _ _ _ _ _ => exact absurd rfl h0
  | comp k hm =>
    cases hm with
    | writ _ hE _ => exact change_complete_no h e ea em eq k E (fun W hb => complete_writ (h.below hb) e ea em eq hs E hE h0 hp)
    | arg i x hw hl => exact change_complete_no h e ea em eq k 1 (fun W hb => complete_lens (h.below hb) e ea em eq (hn.below hb) hnb hs i x hw hl (eight hR hw))
    | ok _ _ _ _ => exact absurd rfl h0
  | setq k hm =>
    cases hm with
    | node _ hE _ => exact change_setQuota_no h e ea em eq k E (fun W hb => setQuota_node (h.below hb) e ea em eq hs E hE h0 hp)
    | dir i x hi hd => exact change_setQuota_no h e ea em eq k 7 (fun W hb => setQuota_dir (h.below hb) e ea em eq hs i x hi hd)
    | full i x hi hd h1 h2 => exact change_setQuota_no h e ea em eq k 8 (fun W hb => setQuota_full (h.below hb) e ea em eq hs hR.tree i x hi hd h1 h2)
    | ok _ _ _ _ _ => exact absurd rfl h0
  | rnw k hm =>
    cases hm with
    | arg hx => exact change_renew_no h e ea em eq k 1 (fun W hb => renew_no (h.below hb) e ea em eq hx)
    | ok _ _ => exact absurd rfl h0
  | bump k hm =>
    have h9 := num9 he k
    cases hm with
    | writ _ hE _ => exact change_bump_no h e ea em eq k E (fun W hb => bump_writ (h.below hb) e ea em eq hs E hE h0 hp)
    | arg i x hw hl => exact change_bump_no h e ea em eq k 1 (fun W hb => bump_arg (h.below hb) e ea em eq hs i x hw hl)
    | long i x hw hl hg => exact change_bump_no h e ea em eq k 4 (fun W hb => bump_long (h.below hb) e ea em eq hs i x hw e.n.toNat (by omega) (by omega) hg)
    | ok _ _ _ _ _ => exact absurd rfl h0
  | reop k hm =>
    cases hm with
    | file _ hE _ => exact change_reopen_no h e ea em eq k E (fun W hb => reopen_file (h.below hb) e ea em eq hs E hE h0 hp)
    | lease i x hi hd hw => exact change_reopen_no h e ea em eq k 9 (fun W hb => reopen_lease (h.below hb) e ea em eq hs i x hi hd hw)
    | ok _ _ _ _ _ => exact absurd rfl h0

/-! ### what comes of each kind -/
theorem doT_made {s : Sp} {e : Ed} (k : e.k = 1) : doT s e = ⟨s.tx, s.nb, s.ng, s.now, sortN (s.ns ++ [newN e]), s.ls⟩ ∧ blkOf s e = zeroB ∧ ndOf s e = zeroN := by
  refine ⟨?_, ?_, ?_⟩
  · unfold doT doS lsOf nowOf nsOf
    simp only [k]
    simp
  · unfold blkOf; simp [k]
  · unfold ndOf; simp [k]
theorem doT_create {s : Sp} {e : Ed} (k : e.k = 2) : doT s e = ⟨s.tx, s.nb, s.ng, s.now, sortN (s.ns ++ [newN e]), (renX s.ls e.c s.now).1⟩ ∧ blkOf s e = zeroB ∧ ndOf s e = newN e := by
  refine ⟨?_, ?_, ?_⟩
  · unfold doT doS lsOf nowOf nsOf
    simp only [k]
    simp
  · unfold blkOf; simp [k]
  · unfold ndOf; simp [k]
theorem doT_rem {s : Sp} {e : Ed} (k : e.k = 3) : doT s e = ⟨s.tx, s.nb, s.ng, s.now, leftL s.ns e.p, s.ls⟩ ∧ blkOf s e = zeroB ∧ ndOf s e = zeroN := by
  refine ⟨?_, ?_, ?_⟩
  · unfold doT doS lsOf nowOf nsOf
    simp only [k]
    simp
  · unfold blkOf; simp [k]
  · unfold ndOf; simp [k]
theorem doT_ren {s : Sp} {e : Ed} (k : e.k = 4) : doT s e = ⟨s.tx, s.nb, s.ng, s.now, movL s.ns e.p e.t, s.ls⟩ ∧ blkOf s e = zeroB ∧ ndOf s e = zeroN := by
  refine ⟨?_, ?_, ?_⟩
  · unfold doT doS lsOf nowOf nsOf
    simp only [k]
    simp
  · unfold blkOf; simp [k]
  · unfold ndOf; simp [k]
theorem doT_addb {s : Sp} {e : Ed} (k : e.k = 5) {i : Nat} {x : Nd} (hi : Is s.ns e.p i x) : doT s e = ⟨s.tx, s.nb + 1, s.ng + 1, s.now, s.ns.set i (withBs x (setLens x.bs e.ls ++ [⟨s.nb, s.ng, 0⟩])), s.ls⟩ ∧ blkOf s e = ⟨s.nb, s.ng, 0⟩ ∧ ndOf s e = withBs x (setLens x.bs e.ls ++ [⟨s.nb, s.ng, 0⟩]) := by
  refine ⟨?_, ?_, ?_⟩
  · unfold doT doS lsOf nowOf nsOf
    rw [hi.upd]
    unfold onN
    simp only [k]
    simp
  · unfold blkOf; simp [k]
  · unfold ndOf onN; rw [hi.nodeOr]; simp [k]
theorem doT_comp {s : Sp} {e : Ed} (k : e.k = 6) {i : Nat} {x : Nd} (hi : Is s.ns e.p i x) : doT s e = ⟨s.tx, s.nb, s.ng, s.now, s.ns.set i (withWr (withBs x (setLens x.bs e.ls)) (-1)), s.ls⟩ ∧ blkOf s e = zeroB ∧ ndOf s e = withWr (withBs x (setLens x.bs e.ls)) (-1) := by
  refine ⟨?_, ?_, ?_⟩
  · unfold doT doS lsOf nowOf nsOf
    rw [hi.upd]
    unfold onN
    simp only [k]
    simp
  · unfold blkOf; simp [k]
  · unfold ndOf onN; rw [hi.nodeOr]; simp [k]
theorem doT_setq {s : Sp} {e : Ed} (k : e.k = 7) {i : Nat} {x : Nd} (hi : Is s.ns e.p i x) : doT s e = ⟨s.tx, s.nb, s.ng, s.now, s.ns.set i (withQu x e.n), s.ls⟩ ∧ blkOf s e = zeroB ∧ ndOf s e = zeroN := by
  refine ⟨?_, ?_, ?_⟩
  · unfold doT doS lsOf nowOf nsOf
    rw [hi.upd]
    unfold onN
    simp only [k]
    simp
  · unfold blkOf; simp [k]
  · unfold ndOf; simp [k]
theorem doT_rnw {s : Sp} {e : Ed} (k : e.k = 8) : doT s e = ⟨s.tx, s.nb, s.ng, e.n, s.ns, (renX s.ls e.c e.n).1⟩ ∧ blkOf s e = zeroB ∧ ndOf s e = zeroN := by
  have hu : updN s.ns e.p (onN s e) = s.ns := updN_self _ _ _ (fun x _ => by unfold onN; simp [k])
  refine ⟨?_, ?_, ?_⟩
  · unfold doT doS lsOf nowOf nsOf
    rw [hu]
    simp only [k]
    simp
  · unfold blkOf; simp [k]
  · unfold ndOf; simp [k]
theorem doT_bump {s : Sp} {e : Ed} (k : e.k = 9) {i : Nat} {x : Nd} (hi : Is s.ns e.p i x) (hl : e.n.toNat < x.bs.length) : doT s e = ⟨s.tx, s.nb, s.ng + 1, s.now, s.ns.set i (withBs x (setGen x.bs e.n.toNat s.ng)), s.ls⟩ ∧ blkOf s e = ⟨x.bs[e.n.toNat].id, s.ng, x.bs[e.n.toNat].len⟩ ∧ ndOf s e = withBs x (setGen x.bs e.n.toNat s.ng) := by
  refine ⟨?_, ?_, ?_⟩
  · unfold doT doS lsOf nowOf nsOf
    rw [hi.upd]
    unfold onN
    simp only [k]
    simp
  · unfold blkOf
    rw [hi.nodeOr, if_neg (by omega), if_pos k, setGen_set _ _ _ hl, List.getD_eq_getElem?_getD, List.getElem?_set_self hl]
    rfl
  · unfold ndOf onN; rw [hi.nodeOr]; simp [k]
theorem doT_reop {s : Sp} {e : Ed} (k : e.k = 10) {i : Nat} {x : Nd} (hi : Is s.ns e.p i x) : doT s e = ⟨s.tx, s.nb, s.ng, s.now, s.ns.set i (withWr x e.c), (renX s.ls e.c s.now).1⟩ ∧ blkOf s e = zeroB ∧ ndOf s e = withWr x e.c := by
  refine ⟨?_, ?_, ?_⟩
  · unfold doT doS lsOf nowOf nsOf
    rw [hi.upd]
    unfold onN
    simp only [k]
    simp
  · unfold blkOf; simp [k]
  · unfold ndOf onN; rw [hi.nodeOr]; simp [k]

theorem change_ok {base M0 S : Nat} {w : World} {s : Sp} {N L : RS} {ps : List NR} {gb : Nat} {gl : Option Nat} (h : Pre base M0 S w s N L ps gb gl) (e : Ed) (ea : Option Addr) (em eq : Nat) (hn : Nm w ea em e.ls) (hnb : ∀ ad, ea = some ad → 0 < em → ad.block < base) (hR : RtS s) (he : Edi.Rt e) (hrm : ∀ x ∈ ps, Rm w x.2) (hd : DoE s e 0) :
    Calls Tryz.prog 22 #[.pointer (some ⟨S, 0, none⟩), edV e ea em eq] w fun r w' => DoneR S base M0 (doT s e) (blkOf s e) (ndOf s e) w r w' := by
  have hp := h.pos hR
  have hs := small_p he
  have ht := small_t he
  have hc := client_of he
  cases hd with
  | made k hm =>
    cases hm with
    | add _ _ h0 => exact absurd rfl h0
    | ok hA hr =>
      rcases k with k | k
      · obtain ⟨e1, e2, e3⟩ := doT_made (s := s) k
        rw [e1, e2, e3]
        rw [new1 k] at hA ⊢
        exact change_mkdir h e ea em eq k _ (fun W hb => add_ok (h.below hb) hp _ (noS_ok W _ rfl hs) hA hR.tree hr)
      · obtain ⟨e1, e2, e3⟩ := doT_create (s := s) k
        rw [e1, e2, e3]
        exact change_create h e ea em eq k _ _ _ (fun W hb => create_ok (h.below hb) e ea em eq hp hs k hR.tree hA hr _ (rnw_of hR.ls hc hR.now.1 hR.now.2).eq)
  | rem k hm =>
    obtain ⟨e1, e2, e3⟩ := doT_rem (s := s) k
    rw [e1, e2, e3]
    exact change_delete h e ea em eq k hp hs hm
  | ren k hm =>
    cases hm with
    | mov _ _ h0 => exact absurd rfl h0
    | ok hM ho =>
      obtain ⟨e1, e2, e3⟩ := doT_ren (s := s) k
      rw [e1, e2, e3]
      exact change_rename h e ea em eq k _ (fun W hb => rename_ok (h.below hb) e ea em eq hp hs ht hM ho)
  | addb k hm =>
    cases hm with
    | writ _ _ h0 => exact absurd rfl h0
    | ok i x hw hl h8 h1 h2 =>
      obtain ⟨e1, e2, e3⟩ := doT_addb k hw.is
      have h88 := eight hR hw
      have hb1 := hR.nb
      have hb2 := hR.ng
      rw [e1, e2, e3]
      exact change_addBlock h e ea em eq k _ _ _ (fun W hb => addBlock_ok (h.below hb) e ea em eq (hn.below hb) hnb hs i x hw hl (by omega) (fun x hx => (hrm x hx).below hb) ⟨by omega, by omega⟩ ⟨by omega, by omega⟩)
  | comp k hm =>
    cases hm with
    | writ _ _ h0 => exact absurd rfl h0
    | ok i x hw hl =>
      obtain ⟨e1, e2, e3⟩ := doT_comp k hw.is
      rw [e1, e2, e3]
      exact change_complete h e ea em eq k _ _ _ (fun W hb => complete_ok (h.below hb) e ea em eq (hn.below hb) hnb hs i x hw hl (eight hR hw))
  | setq k hm =>
    cases hm with
    | node _ _ h0 => exact absurd rfl h0
    | ok i x hi hd hq =>
      obtain ⟨e1, e2, e3⟩ := doT_setq k hi
      rw [e1, e2, e3]
      exact change_setQuota h e ea em eq k _ (fun W hb => setQuota_ok (h.below hb) e ea em eq hs hR.tree i x hi hd hq)
  | rnw k hm =>
    cases hm with
    | ok h1 h2 =>
      obtain ⟨e1, e2, e3⟩ := doT_rnw (s := s) k
      have hnow := hR.now
      rw [e1, e2, e3]
      exact change_renew h e ea em eq k _ (fun W hb => renew_ok (h.below hb) e ea em eq h1 h2 _ (rnw_of hR.ls hc (by omega) h2).eq)
  | bump k hm =>
    have h9 := num9 he k
    cases hm with
    | writ _ _ h0 => exact absurd rfl h0
    | ok i x hw hl hg =>
      have hj : e.n.toNat < x.bs.length := by omega
      obtain ⟨e1, e2, e3⟩ := doT_bump k hw.is hj
      rw [e1, e2, e3]
      exact change_bump h e ea em eq k _ _ _ (fun W hb => bump_ok (h.below hb) e ea em eq hs i x hw (eight hR hw) e.n.toNat (by omega) hj hg hR.ng)
  | reop k hm =>
    cases hm with
    | file _ _ h0 => exact absurd rfl h0
    | ok i x hi hd hw =>
      obtain ⟨e1, e2, e3⟩ := doT_reop k hi
      rw [e1, e2, e3]
      exact change_reopen h e ea em eq k _ _ _ (fun W hb => reopen_ok (h.below hb) e ea em eq hs i x hi hd hw (file_of (hR.tree.fit x hi.mem) hd).2.2.2.2.1 _ (rnw_of hR.ls hc hR.now.1 hR.now.2).eq)

end Go.Proofs.YticiihjkgiookaaGreat.Spa

/- The contract of space.Apply: an edit that is refused. -/
namespace Go.Proofs.YticiihjkgiookaaGreat.Spa
open Go.RowKit Go.Proofs.YticiihjkgiookaaGreat
open Go.Proofs.YticiihjkgiookaaGreat.Lea (LS Ls findX putL renX LL LO LsR lsC wideL)
open Go.Proofs.YticiihjkgiookaaGreat.Edi (Ed Nm EdAt edV)

theorem four_boxes {w w1 : World} {cs ds fs gs : Array Value} {t1 t2 t3 t4 : TypeId} (hb : Below ((((w.alloc (.cells cs t1)).alloc (.cells ds t2)).alloc (.cells fs t3)).alloc (.cells gs t4)).heap.size ((((w.alloc (.cells cs t1)).alloc (.cells ds t2)).alloc (.cells fs t3)).alloc (.cells gs t4)) w1) :
    (∀ j v, cs[j]? = some v → w1.cell? ⟨w.heap.size, j, none⟩ = some v) ∧ (∀ j v, ds[j]? = some v → w1.cell? ⟨w.heap.size + 1, j, none⟩ = some v) ∧ (∀ j v, fs[j]? = some v → w1.cell? ⟨w.heap.size + 1 + 1, j, none⟩ = some v) ∧ (∀ j, w1.frozen? ⟨w.heap.size + 1 + 1, j, none⟩ = false) ∧ (∀ j v, gs[j]? = some v → w1.cell? ⟨w.heap.size + 1 + 1 + 1, j, none⟩ = some v) ∧ (∀ j, w1.frozen? ⟨w.heap.size + 1 + 1 + 1, j, none⟩ = false) ∧ Below w.heap.size w w1 ∧ w.heap.size + 4 ≤ w1.heap.size := by
  have hz : ((w.alloc (.cells cs t1)).alloc (.cells ds t2)).heap.size = w.heap.size + 1 + 1 := by simp
  obtain ⟨q1, q2, q3, q4, q5, q6⟩ := two_boxes hb
  obtain ⟨r1, r2, r3, r4, r5, r6⟩ := two_boxes q5
  rw [hz] at q1 q2 q3 q4 q6
  exact ⟨r1, r3, q1, q2, q3, q4, r5, by omega⟩

set_option maxRecDepth 100000 in
set_option maxHeartbeats 4000000 in
theorem apply_caught {w W : World} {E : Int} {s0 : Sp} {N0 L0 : RS} {E0 : Int} {b0 : Blk} {T0 : RS} {x0 : NR} {n0 : Int} {tmps : Array Value} (hR : SpC W (w.heap.size + 1 + 1) s0 N0 L0) (hA : AnC W (w.heap.size + 1 + 1 + 1) E0 b0 T0 x0 n0) (hb : Below w.heap.size w W) (h4 : tmps[4]? = some (.pointer (some ⟨w.heap.size + 1 + 1, 0, none⟩))) (h5 : tmps[5]? = some (.pointer (some ⟨w.heap.size + 1 + 1 + 1, 0, none⟩))) :
    Leaves Tryz.prog Tryz.f7 tmps (fun r w' => r = .returned (.tuple #[spV zeroS noS noS, anV E zeroB noS zeroX 0]) ∧ Below w.heap.size w w') [{ target := .fn (.func 16) #[.pointer (some ⟨w.heap.size + 1 + 1, 0, none⟩), .pointer (some ⟨w.heap.size + 1 + 1 + 1, 0, none⟩)], args := #[] }] (.panicking [{ v := .iface 29 (.int .i64 E), recovered := false }]) W := by
  refine leaves_cons (f := 16) (args := #[.pointer (some ⟨w.heap.size + 1 + 1, 0, none⟩), .pointer (some ⟨w.heap.size + 1 + 1 + 1, 0, none⟩)]) (by simp) (by simp [go_sem]) ?_
  refine (catch_panic hR hA (by omega) E []).mono ?_
  rintro e u' w' ⟨rfl, rfl, rfl⟩
  obtain ⟨p1, p2⟩ := put6_at hR zeroS noS noS
  obtain ⟨a1, a2⟩ := put11_at (hA.keep p2 (by omega)) E zeroB noS zeroX 0
  have p3 := p1.keep a2 (by omega)
  have hB : Below w.heap.size w (put11 (put6 W (w.heap.size + 1 + 1) zeroS noS noS) (w.heap.size + 1 + 1 + 1) E zeroB noS zeroX 0) := ((Stay.of_below (O := fun k => w.heap.size ≤ k) hb).then_same ((p2.mono (fun k hk => by omega)).then_same (a2.mono (fun k hk => by omega)))).below (Nat.le_refl _) (fun k hk => hk)
  have HB : Hid _ := hB
  clear hB a2 p2 p1 hR hA hb
  generalize put11 (put6 W (w.heap.size + 1 + 1) zeroS noS noS) (w.heap.size + 1 + 1 + 1) E zeroB noS zeroX 0 = W2 at *
  obtain ⟨k0, k1, k2, k3, k4, k5, k6, k7, k8, k9, k10, _⟩ := a1
  obtain ⟨j0, j1, j2, j3, j4, j5, _⟩ := p3
  unfold spV anV
  refine ⟨.tuple #[_, _], ?_, rfl, HB.out⟩
  simp only [results, Tryz.results7]
  simp [go_sem, h4, h5, k0, k1, k2, k3, k4, k5, k6, k7, k8, k9, k10, j0, j1, j2, j3, j4, j5]

set_option maxRecDepth 100000 in
set_option maxHeartbeats 4000000 in
theorem apply_arg {s : Sp} {N L : RS} {w : World} (h : SpIn w s N L) (e : Ed) (ea : Option Addr) (em eq : Nat) (hn : Nm w ea em e.ls) (hx : ¬ (RtS s ∧ Edi.Rt e)) :
    Calls Tryz.prog 7 #[spV s N L, edV e ea em eq] w fun r w' => r = .returned (.tuple #[spV zeroS noS noS, anV 1 zeroB noS zeroX 0]) ∧ Below w.heap.size w w' := by
  have hmf : ∀ (fn : Fn) (first cap : Array Value) (w : World), (Instr.makeFunc fn first cap).run Tryz.prog w = .ok (.func fn first cap) w := fun _ _ _ _ => rfl
  obtain ⟨u, hu⟩ : ∃ u : Bool, u = true ↔ RtS s := by classical exact ⟨decide (RtS s), decide_eq_true_iff⟩
  obtain ⟨v, hv⟩ : ∃ v : Bool, v = true ↔ Edi.Rt e := by classical exact ⟨decide (Edi.Rt e), decide_eq_true_iff⟩
  have CS : Hid (∀ W, Below w.heap.size w W → Calls Tryz.prog 19 #[spV s N L] W fun e w' => e = .returned (.bool u) ∧ Below W.heap.size W w') := fun W hb => rightS_val (h.below hb) u hu
  have CE : Hid (∀ W, Below w.heap.size w W → Calls Tryz.prog 20 #[edV e ea em eq] W fun x w' => x = .returned (.bool v) ∧ Below W.heap.size W w') := fun W hb => Edi.right_val (hn.below hb) v hv
  have hor : u = false ∨ (u = true ∧ v = false) := by
    cases u with
    | false => exact .inl rfl
    | true => cases v with
      | false => exact .inr ⟨rfl, rfl⟩
      | true => exact absurd ⟨hu.1 rfl, hv.1 rfl⟩ hx
  clear h hn hx hu hv
  obtain ⟨k, p, t, cl, l, nn, ls⟩ := e
  obtain ⟨tx, nb, ng, now, ns, lss⟩ := s
  unfold edV at CE ⊢
  unfold spV at CS
  rw [show spV ⟨tx, nb, ng, now, ns, lss⟩ N L = .agg #[.int .i64 tx, .int .i64 nb, .int .i64 ng, .int .i64 now, .slice N.a N.n N.c, .slice L.a L.n L.c] from rfl]
  simp only at CE CS ⊢
  have hst := run_store_str
  have hst2 : ∀ (w : World) (a : Addr) (x : Option Addr) (n c : Nat) (m : Mode), (store a (.slice x n c) m).run Tryz.prog w = stored Tryz.prog w a (.slice x n c) m := fun w a x n c m => run_store_any w a _ m rfl
  have CR : Hid (∀ E W, Calls Tryz.prog 18 #[.bool true, .int .i64 E] W fun e w' => e = leftV E ∧ W = w') := fun E W => (refuse_yes E W).mono fun e w' ⟨h1, h2⟩ => ⟨h1, h2.symm⟩
  rcases hor with rfl | ⟨rfl, rfl⟩
  · go_enter_defers Tryz.func7, Tryz.ntmps7
    go_wp2_with (first
      | (go_at_call 19; refine (CS.out _ (bel_tr (bel_tr (bel_al _ _) (bel_al _ _)) (bel_tr (bel_al _ _) (bel_al _ _)))).mono ?_; rintro e w1 ⟨rfl, c1⟩; obtain ⟨q1, q2, q3, q4, q5, q6, q7, q8⟩ := four_boxes c1; have y0 := q2 0 _ rfl; have y1 := q2 1 _ rfl; have y2 := q2 2 _ rfl; have y3 := q2 3 _ rfl; have y4 := q2 4 _ rfl; have y5 := q2 5 _ rfl; have y6 := q2 6 _ rfl; have z0 := q1 0 _ rfl; have z1 := q1 1 _ rfl; have z2 := q1 2 _ rfl; have z3 := q1 3 _ rfl; have z4 := q1 4 _ rfl; have z5 := q1 5 _ rfl; have B1 : Hid (Below w.heap.size w w1) := q7; have HSP : Hid (SpC w1 (w.heap.size + 1 + 1) zeroS noS noS) := ⟨q3 0 _ rfl, q3 1 _ rfl, q3 2 _ rfl, q3 3 _ rfl, q3 4 _ rfl, q3 5 _ rfl, q4⟩; have HAN : Hid (AnC w1 (w.heap.size + 1 + 1 + 1) 0 zeroB noS zeroX 0) := ⟨q5 0 _ rfl, q5 1 _ rfl, q5 2 _ rfl, q5 3 _ rfl, q5 4 _ rfl, q5 5 _ rfl, q5 6 _ rfl, q5 7 _ rfl, q5 8 _ rfl, q5 9 _ rfl, q5 10 _ rfl, q6⟩; have HSZ : Hid (w.heap.size + 4 ≤ w1.heap.size) := q8; clear c1 q1 q2 q3 q4 q5 q6 q7 q8)
      | (go_at_call 18; refine (CR.out _ _).mono ?_; rintro e w3 ⟨rfl, rfl⟩))
    exact apply_caught HSP.out HAN.out B1.out rfl rfl
  · go_enter_defers Tryz.func7, Tryz.ntmps7
    go_wp2_with (first
      | (go_at_call 19; refine (CS.out _ (bel_tr (bel_tr (bel_al _ _) (bel_al _ _)) (bel_tr (bel_al _ _) (bel_al _ _)))).mono ?_; rintro e w1 ⟨rfl, c1⟩; obtain ⟨q1, q2, q3, q4, q5, q6, q7, q8⟩ := four_boxes c1; have y0 := q2 0 _ rfl; have y1 := q2 1 _ rfl; have y2 := q2 2 _ rfl; have y3 := q2 3 _ rfl; have y4 := q2 4 _ rfl; have y5 := q2 5 _ rfl; have y6 := q2 6 _ rfl; have z0 := q1 0 _ rfl; have z1 := q1 1 _ rfl; have z2 := q1 2 _ rfl; have z3 := q1 3 _ rfl; have z4 := q1 4 _ rfl; have z5 := q1 5 _ rfl; have B1 : Hid (Below w.heap.size w w1) := q7; have HSP : Hid (SpC w1 (w.heap.size + 1 + 1) zeroS noS noS) := ⟨q3 0 _ rfl, q3 1 _ rfl, q3 2 _ rfl, q3 3 _ rfl, q3 4 _ rfl, q3 5 _ rfl, q4⟩; have HAN : Hid (AnC w1 (w.heap.size + 1 + 1 + 1) 0 zeroB noS zeroX 0) := ⟨q5 0 _ rfl, q5 1 _ rfl, q5 2 _ rfl, q5 3 _ rfl, q5 4 _ rfl, q5 5 _ rfl, q5 6 _ rfl, q5 7 _ rfl, q5 8 _ rfl, q5 9 _ rfl, q5 10 _ rfl, q6⟩; have HSZ : Hid (w.heap.size + 4 ≤ w1.heap.size) := q8; clear c1 q1 q2 q3 q4 q5 q6 q7 q8)
      | (go_at_call 20; refine (CE.out _ B1.out).mono ?_; rintro e w2 ⟨rfl, c2⟩; have B2 : Hid (Below w1.heap.size w1 w2) := c2; clear c2)
      | (go_at_call 18; refine (CR.out _ _).mono ?_; rintro e w3 ⟨rfl, rfl⟩))
    exact apply_caught (HSP.out.below B2.out) (HAN.out.below B2.out) (bel_tr B1.out B2.out) rfl rfl

end Go.Proofs.YticiihjkgiookaaGreat.Spa

/- The contract of space.Apply: an edit that is refused, further. -/
namespace Go.Proofs.YticiihjkgiookaaGreat.Spa
open Go.RowKit Go.Proofs.YticiihjkgiookaaGreat
open Go.Proofs.YticiihjkgiookaaGreat.Lea (LS Ls findX putL renX LL LO LsR lsC wideL)
open Go.Proofs.YticiihjkgiookaaGreat.Edi (Ed Nm EdAt edV)

theorem bs_few {x : Nd} (h : fitsB x = true) : x.bs.length ≤ 8 := by
  cases hd : x.dir with
  | false => exact (file_of h hd).2.2.2.2.1
  | true => rw [(dir_of h hd).2.1]; exact Nat.zero_le _
theorem copied_right {s : Sp} {N L : RS} {w : World} (h : SpIn w s N L) (hR : RtS s) : Calls Tryz.prog 21 #[spV s N L] w fun e w' => CopiedR w.heap.size s e w' ∧ Below w.heap.size w w' := by
  obtain ⟨b, off, ps, hm, hl, hn⟩ := h.nl.ex
  have h60 := hR.tree.few
  have hlen : ps.length = N.n := by rw [← hl, ← hm, List.length_map]
  have h4 := hR.ls.few
  have h4b := h.ll.len
  refine copied_space hn hm hlen h.nil h.ll ⟨by omega, by omega, fun x hx => ?_⟩
  have h1 := (hn.ok x hx).bs.len
  have h2 := bs_few (hR.tree.fit x.1 (by rw [← hm]; exact List.mem_map_of_mem hx))
  omega
theorem nm_lt {w : World} {a : Option Addr} {m : Nat} {zs : List Int} (h : Nm w a m zs) (ad : Addr) (ha : a = some ad) (hp : 0 < m) : ad.block < w.heap.size := by
  obtain ⟨b, off, h1, h2⟩ := h.at hp
  rw [ha] at h1
  cases h1
  exact World.block_lt_of_cell? _ _ (h2 0 (by rw [h.len]; exact hp))
theorem put6_below {w w3 : World} {s0 : Sp} {N0 L0 : RS} (hb : Below w.heap.size w w3) (hS : SpC w3 (w.heap.size + 1 + 1) s0 N0 L0) (s : Sp) (N L : RS) : Below w.heap.size w (put6 w3 (w.heap.size + 1 + 1) s N L) :=
  ((Stay.of_below (O := fun k => w.heap.size ≤ k) hb).then_same ((put6_at hS s N L).2.mono (fun k hk => by omega))).below (Nat.le_refl _) (fun k hk => hk)
/-- The space's copy, laid down, is one that an edit may be made in. -/
theorem pre_copied {w w2 w3 : World} {s s0 : Sp} {N0 L0 N L : RS} {ps : List NR} {g gl : Option Nat} (hR : RtS s) (hS : SpC w3 (w.heap.size + 1 + 1) s0 N0 L0) (h4 : w.heap.size + 4 ≤ w2.heap.size) (h23 : w2.heap.size ≤ w3.heap.size) (hO : Own w2.heap.size w3 s N L ps g gl) :
    ∃ gb, Pre w2.heap.size (put6 w3 (w.heap.size + 1 + 1) s N L).heap.size (w.heap.size + 1 + 1) (put6 w3 (w.heap.size + 1 + 1) s N L) s N L ps gb gl := by
  obtain ⟨p1, p2⟩ := put6_at hS s N L
  have h1 := congrArg List.length hO.map
  rw [List.length_map] at h1
  have hpos := hR.tree.pos
  have hlen := hO.lot.len
  obtain ⟨gb, ha, rfl⟩ := hO.lot.cel.at2 (by omega)
  have hO2 := hO.out p2 (fun k hk => by omega)
  exact ⟨gb, preOf p1 hO2 ha (by omega) (Nat.le_trans h23 p2.size)⟩

set_option maxRecDepth 100000 in
set_option maxHeartbeats 4000000 in
theorem apply_long {s : Sp} {N L : RS} {w : World} (h : SpIn w s N L) (e : Ed) (ea : Option Addr) (em eq : Nat) (hn : Nm w ea em e.ls) (hR : RtS s) (he : Edi.Rt e) (ht : s.tx = 300) :
    Calls Tryz.prog 7 #[spV s N L, edV e ea em eq] w fun r w' => r = .returned (.tuple #[spV zeroS noS noS, anV 4 zeroB noS zeroX 0]) ∧ Below w.heap.size w w' := by
  have hmf : ∀ (fn : Fn) (first cap : Array Value) (w : World), (Instr.makeFunc fn first cap).run Tryz.prog w = .ok (.func fn first cap) w := fun _ _ _ _ => rfl
  have CS : Hid (∀ W, Below w.heap.size w W → Calls Tryz.prog 19 #[spV s N L] W fun e w' => e = .returned (.bool true) ∧ Below W.heap.size W w') := fun W hb => rightS_val (h.below hb) true ⟨fun _ => hR, fun _ => rfl⟩
  have CE : Hid (∀ W, Below w.heap.size w W → Calls Tryz.prog 20 #[edV e ea em eq] W fun x w' => x = .returned (.bool true) ∧ Below W.heap.size W w') := fun W hb => Edi.right_val (hn.below hb) true ⟨fun _ => he, fun _ => rfl⟩
  have CF : Hid (∀ E W, Calls Tryz.prog 18 #[.bool false, .int .i64 E] W fun e w' => e = .returned (.tuple #[]) ∧ W = w') := fun E W => (refuse_no E W).mono fun e w' ⟨h1, h2⟩ => ⟨h1, h2.symm⟩
  have CR : Hid (∀ E W, Calls Tryz.prog 18 #[.bool true, .int .i64 E] W fun e w' => e = leftV E ∧ W = w') := fun E W => (refuse_yes E W).mono fun e w' ⟨h1, h2⟩ => ⟨h1, h2.symm⟩
  clear h hn hR he
  obtain ⟨k, p, t, cl, l, nn, ls⟩ := e
  obtain ⟨tx, nb, ng, now, ns, lss⟩ := s
  unfold edV at CE ⊢
  unfold spV at CS 
  rw [show spV ⟨tx, nb, ng, now, ns, lss⟩ N L = .agg #[.int .i64 tx, .int .i64 nb, .int .i64 ng, .int .i64 now, .slice N.a N.n N.c, .slice L.a L.n L.c] from rfl]
  simp only at CE CS ht ⊢
  have hst := run_store_str
  have hst2 : ∀ (w : World) (a : Addr) (x : Option Addr) (n c : Nat) (m : Mode), (store a (.slice x n c) m).run Tryz.prog w = stored Tryz.prog w a (.slice x n c) m := fun w a x n c m => run_store_any w a _ m rfl
  subst ht
  go_enter_defers Tryz.func7, Tryz.ntmps7
  go_wp2_with (first
    | (go_at_call 19; refine (CS.out _ (bel_tr (bel_tr (bel_al _ _) (bel_al _ _)) (bel_tr (bel_al _ _) (bel_al _ _)))).mono ?_; rintro e w1 ⟨rfl, c1⟩; obtain ⟨q1, q2, q3, q4, q5, q6, q7, q8⟩ := four_boxes c1; have y0 := q2 0 _ rfl; have y1 := q2 1 _ rfl; have y2 := q2 2 _ rfl; have y3 := q2 3 _ rfl; have y4 := q2 4 _ rfl; have y5 := q2 5 _ rfl; have y6 := q2 6 _ rfl; have z0 := q1 0 _ rfl; have z1 := q1 1 _ rfl; have z2 := q1 2 _ rfl; have z3 := q1 3 _ rfl; have z4 := q1 4 _ rfl; have z5 := q1 5 _ rfl; have B1 : Hid (Below w.heap.size w w1) := q7; have HSP : Hid (SpC w1 (w.heap.size + 1 + 1) zeroS noS noS) := ⟨q3 0 _ rfl, q3 1 _ rfl, q3 2 _ rfl, q3 3 _ rfl, q3 4 _ rfl, q3 5 _ rfl, q4⟩; have HAN : Hid (AnC w1 (w.heap.size + 1 + 1 + 1) 0 zeroB noS zeroX 0) := ⟨q5 0 _ rfl, q5 1 _ rfl, q5 2 _ rfl, q5 3 _ rfl, q5 4 _ rfl, q5 5 _ rfl, q5 6 _ rfl, q5 7 _ rfl, q5 8 _ rfl, q5 9 _ rfl, q5 10 _ rfl, q6⟩; have HSZ : Hid (w.heap.size + 4 ≤ w1.heap.size) := q8; clear c1 q1 q2 q3 q4 q5 q6 q7 q8)
    | (go_at_call 20; refine (CE.out _ B1.out).mono ?_; rintro e w2 ⟨rfl, c2⟩; have B2 : Hid (Below w1.heap.size w1 w2) := c2; have z0b := bel_cell c2 z0; have z1b := bel_cell c2 z1; have z2b := bel_cell c2 z2; have z3b := bel_cell c2 z3; have z4b := bel_cell c2 z4; have z5b := bel_cell c2 z5; clear c2)
    | (go_at_call 18; refine (CF.out _ _).mono ?_; rintro e wf ⟨rfl, rfl⟩)
    | (go_at_call 18; refine (CR.out _ _).mono ?_; rintro e w3 ⟨rfl, rfl⟩))
  exact apply_caught (HSP.out.below B2.out) (HAN.out.below B2.out) (bel_tr B1.out B2.out) rfl rfl

set_option maxRecDepth 100000 in
set_option maxHeartbeats 4000000 in
theorem apply_no {s : Sp} {N L : RS} {w : World} (h : SpIn w s N L) (e : Ed) (ea : Option Addr) (em eq : Nat) (hn : Nm w ea em e.ls) (hR : RtS s) (he : Edi.Rt e) (ht : s.tx ≠ 300) (E : Int) (hd : DoE s e E) (h0 : E ≠ 0) :
    Calls Tryz.prog 7 #[spV s N L, edV e ea em eq] w fun r w' => r = .returned (.tuple #[spV zeroS noS noS, anV E zeroB noS zeroX 0]) ∧ Below w.heap.size w w' := by
  have hmf : ∀ (fn : Fn) (first cap : Array Value) (w : World), (Instr.makeFunc fn first cap).run Tryz.prog w = .ok (.func fn first cap) w := fun _ _ _ _ => rfl
  have CS : Hid (∀ W, Below w.heap.size w W → Calls Tryz.prog 19 #[spV s N L] W fun e w' => e = .returned (.bool true) ∧ Below W.heap.size W w') := fun W hb => rightS_val (h.below hb) true ⟨fun _ => hR, fun _ => rfl⟩
  have CE : Hid (∀ W, Below w.heap.size w W → Calls Tryz.prog 20 #[edV e ea em eq] W fun x w' => x = .returned (.bool true) ∧ Below W.heap.size W w') := fun W hb => Edi.right_val (hn.below hb) true ⟨fun _ => he, fun _ => rfl⟩
  have CF : Hid (∀ E W, Calls Tryz.prog 18 #[.bool false, .int .i64 E] W fun e w' => e = .returned (.tuple #[]) ∧ W = w') := fun E W => (refuse_no E W).mono fun e w' ⟨h1, h2⟩ => ⟨h1, h2.symm⟩
  have CC : Hid (∀ W, Below w.heap.size w W → Calls Tryz.prog 21 #[spV s N L] W fun e w' => CopiedR W.heap.size s e w' ∧ Below W.heap.size W w') := fun W hb => copied_right (h.below hb) hR
  have CH : Hid (∀ base M0 S W N1 L1 ps gb gl, Pre base M0 S W s N1 L1 ps gb gl → w.heap.size ≤ base → Below w.heap.size w W → Calls Tryz.prog 22 #[.pointer (some ⟨S, 0, none⟩), edV e ea em eq] W fun r w' => LeftR S base M0 E W r w') := fun base M0 S W N1 L1 ps gb gl hP hwb hb => change_no hP e ea em eq (hn.below hb) (fun ad ha hp => Nat.lt_of_lt_of_le (nm_lt hn ad ha hp) hwb) hR he E hd h0
  have HRT : Hid (RtS s) := hR
  have htb : (s.tx == 300) = false := by simpa using ht
  clear h hn hR he hd h0
  obtain ⟨k, p, t, cl, l, nn, ls⟩ := e
  obtain ⟨tx, nb, ng, now, ns, lss⟩ := s
  unfold edV at CE CH ⊢
  unfold spV at CS CC 
  rw [show spV ⟨tx, nb, ng, now, ns, lss⟩ N L = .agg #[.int .i64 tx, .int .i64 nb, .int .i64 ng, .int .i64 now, .slice N.a N.n N.c, .slice L.a L.n L.c] from rfl]
  simp only at CE CS CH CC htb ht HRT ⊢
  have hst := run_store_str
  have hst2 : ∀ (w : World) (a : Addr) (x : Option Addr) (n c : Nat) (m : Mode), (store a (.slice x n c) m).run Tryz.prog w = stored Tryz.prog w a (.slice x n c) m := fun w a x n c m => run_store_any w a _ m rfl
  go_enter_defers Tryz.func7, Tryz.ntmps7
  go_wp2_with (first
    | (go_at_call 19; refine (CS.out _ (bel_tr (bel_tr (bel_al _ _) (bel_al _ _)) (bel_tr (bel_al _ _) (bel_al _ _)))).mono ?_; rintro e w1 ⟨rfl, c1⟩; obtain ⟨q1, q2, q3, q4, q5, q6, q7, q8⟩ := four_boxes c1; have y0 := q2 0 _ rfl; have y1 := q2 1 _ rfl; have y2 := q2 2 _ rfl; have y3 := q2 3 _ rfl; have y4 := q2 4 _ rfl; have y5 := q2 5 _ rfl; have y6 := q2 6 _ rfl; have z0 := q1 0 _ rfl; have z1 := q1 1 _ rfl; have z2 := q1 2 _ rfl; have z3 := q1 3 _ rfl; have z4 := q1 4 _ rfl; have z5 := q1 5 _ rfl; have B1 : Hid (Below w.heap.size w w1) := q7; have HSP : Hid (SpC w1 (w.heap.size + 1 + 1) zeroS noS noS) := ⟨q3 0 _ rfl, q3 1 _ rfl, q3 2 _ rfl, q3 3 _ rfl, q3 4 _ rfl, q3 5 _ rfl, q4⟩; have HAN : Hid (AnC w1 (w.heap.size + 1 + 1 + 1) 0 zeroB noS zeroX 0) := ⟨q5 0 _ rfl, q5 1 _ rfl, q5 2 _ rfl, q5 3 _ rfl, q5 4 _ rfl, q5 5 _ rfl, q5 6 _ rfl, q5 7 _ rfl, q5 8 _ rfl, q5 9 _ rfl, q5 10 _ rfl, q6⟩; have HSZ : Hid (w.heap.size + 4 ≤ w1.heap.size) := q8; clear c1 q1 q2 q3 q4 q5 q6 q7 q8)
    | (go_at_call 20; refine (CE.out _ B1.out).mono ?_; rintro e w2 ⟨rfl, c2⟩; have B2 : Hid (Below w1.heap.size w1 w2) := c2; have z0b := bel_cell c2 z0; have z1b := bel_cell c2 z1; have z2b := bel_cell c2 z2; have z3b := bel_cell c2 z3; have z4b := bel_cell c2 z4; have z5b := bel_cell c2 z5; clear c2)
    | (go_at_call 18; refine (CF.out _ _).mono ?_; rintro e wf ⟨rfl, rfl⟩)
    | (go_at_call 21; refine (CC.out _ (bel_tr B1.out B2.out)).mono ?_; rintro e w3 ⟨⟨N1, L1, ps1, g1, gl1, rfl, hO1, hr1, hz1⟩, c3⟩; have B3 : Hid (Below w2.heap.size w2 w3) := c3; obtain ⟨gb, hP⟩ := pre_copied HRT.out ((HSP.out.below B2.out).below c3) (Nat.le_trans HSZ.out B2.out.size) c3.size hO1; have HP : Hid _ := hP; have p := ((HSP.out.below B2.out).below c3); have p0 := p.c0; have p1 := p.c1; have p2 := p.c2; have p3 := p.c3; have p4 := p.c4; have p5 := p.c5; have pf := p.fr; unfold zeroS at p0 p1 p2 p3; unfold noS at p4 p5; have i0 := bel_cell (bel_tr B2.out c3) y0; have i1 := bel_cell (bel_tr B2.out c3) y1; have i2 := bel_cell (bel_tr B2.out c3) y2; have i3 := bel_cell (bel_tr B2.out c3) y3; have i4 := bel_cell (bel_tr B2.out c3) y4; have i5 := bel_cell (bel_tr B2.out c3) y5; have i6 := bel_cell (bel_tr B2.out c3) y6; unfold spV; simp only at p0 p1 p2 p3 p4 p5 ⊢; clear hP hO1 hr1 hz1 c3 p))
  have hsp := (HSP.out.below B2.out).below B3.out
  have hB3 := bel_tr (bel_tr B1.out B2.out) B3.out
  have h4 := HSZ.out
  have h5 := B2.out.size
  have h6 := B3.out.size
  refine (CH.out _ _ _ _ _ _ _ _ _ HP.out (by omega) (put6_below hB3 hsp _ N1 L1)).mono ?_
  rintro r w5 ⟨rfl, hst, hc⟩
  obtain ⟨s', N', L', hs'⟩ := hc _ _ _ HP.out.c
  refine apply_caught hs' ((((HAN.out.below B2.out).below B3.out).keep (put6_at hsp _ N1 L1).2 (by omega)).keep hst (fun e => ?_)) (((Stay.of_below (O := fun k => w.heap.size ≤ k) (put6_below hB3 hsp _ N1 L1)).then_same (hst.mono (fun k e => ?_))).below (Nat.le_refl _) (fun k hk => hk)) rfl rfl
  · rcases e with e | e
    · omega
    · omega
  · rcases e with e | e
    · omega
    · omega

end Go.Proofs.YticiihjkgiookaaGreat.Spa

/- The contract of space.Apply: an edit that is made. -/
namespace Go.Proofs.YticiihjkgiookaaGreat.Spa
open Go.RowKit Go.Proofs.YticiihjkgiookaaGreat
open Go.Proofs.YticiihjkgiookaaGreat.Lea (LS Ls findX putL renX LL LO LsR lsC wideL)
open Go.Proofs.YticiihjkgiookaaGreat.Edi (Ed Nm EdAt edV)

/-- An edit is applied: the new space and the answer lie in new memory. -/
structure AppliedR (B : Nat) (t : Sp) (b : Blk) (x : Nd) (r : Ending) (w' : World) : Prop where
  ex : ∃ N L ps g gl base M sx, r = .returned (.tuple #[spV t N L, anV 0 b noS (x, sx) 0]) ∧ OwnM base M w' t N L ps g gl ∧ Free M w' (x, sx) ∧ B ≤ base ∧ base ≤ M
theorem rm_put6 {w3 : World} {R : Nat} {s0 : Sp} {N0 L0 : RS} (hS : SpC w3 R s0 N0 L0) (s : Sp) (N L : RS) {r : RS} (h : Rm w3 r) (hne : r.blk ≠ some R) : Rm (put6 w3 R s N L) r :=
  h.keep fun k hk => (put6_at hS s N L).2.block k (h.lt k hk) (fun e => hne (by rw [hk, e]))

set_option maxRecDepth 100000 in
set_option maxHeartbeats 4000000 in
theorem apply_ok {s : Sp} {N L : RS} {w : World} (h : SpIn w s N L) (e : Ed) (ea : Option Addr) (em eq : Nat) (hn : Nm w ea em e.ls) (hR : RtS s) (he : Edi.Rt e) (ht : s.tx ≠ 300) (hd : DoE s e 0) :
    Calls Tryz.prog 7 #[spV s N L, edV e ea em eq] w fun r w' => AppliedR w.heap.size (doS s e) (blkOf s e) (ndOf s e) r w' ∧ Below w.heap.size w w' := by
  have hmf : ∀ (fn : Fn) (first cap : Array Value) (w : World), (Instr.makeFunc fn first cap).run Tryz.prog w = .ok (.func fn first cap) w := fun _ _ _ _ => rfl
  have CS : Hid (∀ W, Below w.heap.size w W → Calls Tryz.prog 19 #[spV s N L] W fun e w' => e = .returned (.bool true) ∧ Below W.heap.size W w') := fun W hb => rightS_val (h.below hb) true ⟨fun _ => hR, fun _ => rfl⟩
  have CE : Hid (∀ W, Below w.heap.size w W → Calls Tryz.prog 20 #[edV e ea em eq] W fun x w' => x = .returned (.bool true) ∧ Below W.heap.size W w') := fun W hb => Edi.right_val (hn.below hb) true ⟨fun _ => he, fun _ => rfl⟩
  have CF : Hid (∀ E W, Calls Tryz.prog 18 #[.bool false, .int .i64 E] W fun e w' => e = .returned (.tuple #[]) ∧ W = w') := fun E W => (refuse_no E W).mono fun e w' ⟨h1, h2⟩ => ⟨h1, h2.symm⟩
  have CC : Hid (∀ W, Below w.heap.size w W → Calls Tryz.prog 21 #[spV s N L] W fun e w' => CopiedR W.heap.size s e w' ∧ Below W.heap.size W w') := fun W hb => copied_right (h.below hb) hR
  have CH : Hid (∀ base M0 S W N1 L1 ps gb gl, Pre base M0 S W s N1 L1 ps gb gl → w.heap.size ≤ base → Below w.heap.size w W → (∀ x ∈ ps, Rm W x.2) → Calls Tryz.prog 22 #[.pointer (some ⟨S, 0, none⟩), edV e ea em eq] W fun r w' => DoneR S base M0 (doT s e) (blkOf s e) (ndOf s e) W r w') := fun base M0 S W N1 L1 ps gb gl hP hwb hb hrm => change_ok hP e ea em eq (hn.below hb) (fun ad ha hp => Nat.lt_of_lt_of_le (nm_lt hn ad ha hp) hwb) hR he hrm hd
  have HRT : Hid (RtS s) := hR
  have htb : (s.tx == 300) = false := by simpa using ht
  have hT : Hid (doS s e = ⟨s.tx + 1, (doT s e).nb, (doT s e).ng, (doT s e).now, (doT s e).ns, (doT s e).ls⟩ ∧ (doT s e).tx = s.tx) := ⟨rfl, rfl⟩
  have hb1 := hR.tx.1
  have hb2 := hR.tx.2
  generalize blkOf s e = bk at *
  generalize ndOf s e = nd at *
  generalize doS s e = dS at *
  generalize doT s e = dT at *
  clear h hn hR he hd
  obtain ⟨k, p, t, cl, l, nn, ls⟩ := e
  obtain ⟨tx, nb, ng, now, ns, lss⟩ := s
  unfold edV at CE CH ⊢
  unfold spV at CS CC 
  rw [show spV ⟨tx, nb, ng, now, ns, lss⟩ N L = .agg #[.int .i64 tx, .int .i64 nb, .int .i64 ng, .int .i64 now, .slice N.a N.n N.c, .slice L.a L.n L.c] from rfl]
  simp only at CE CS CH CC htb ht HRT hT hb1 hb2 ⊢
  have hst := run_store_str
  have hst2 : ∀ (w : World) (a : Addr) (x : Option Addr) (n c : Nat) (m : Mode), (store a (.slice x n c) m).run Tryz.prog w = stored Tryz.prog w a (.slice x n c) m := fun w a x n c m => run_store_any w a _ m rfl
  go_enter_defers Tryz.func7, Tryz.ntmps7
  go_wp2_with (first
    | (go_at_call 19; refine (CS.out _ (bel_tr (bel_tr (bel_al _ _) (bel_al _ _)) (bel_tr (bel_al _ _) (bel_al _ _)))).mono ?_; rintro e w1 ⟨rfl, c1⟩; obtain ⟨q1, q2, q3, q4, q5, q6, q7, q8⟩ := four_boxes c1; have y0 := q2 0 _ rfl; have y1 := q2 1 _ rfl; have y2 := q2 2 _ rfl; have y3 := q2 3 _ rfl; have y4 := q2 4 _ rfl; have y5 := q2 5 _ rfl; have y6 := q2 6 _ rfl; have z0 := q1 0 _ rfl; have z1 := q1 1 _ rfl; have z2 := q1 2 _ rfl; have z3 := q1 3 _ rfl; have z4 := q1 4 _ rfl; have z5 := q1 5 _ rfl; have B1 : Hid (Below w.heap.size w w1) := q7; have HSP : Hid (SpC w1 (w.heap.size + 1 + 1) zeroS noS noS) := ⟨q3 0 _ rfl, q3 1 _ rfl, q3 2 _ rfl, q3 3 _ rfl, q3 4 _ rfl, q3 5 _ rfl, q4⟩; have HAN : Hid (AnC w1 (w.heap.size + 1 + 1 + 1) 0 zeroB noS zeroX 0) := ⟨q5 0 _ rfl, q5 1 _ rfl, q5 2 _ rfl, q5 3 _ rfl, q5 4 _ rfl, q5 5 _ rfl, q5 6 _ rfl, q5 7 _ rfl, q5 8 _ rfl, q5 9 _ rfl, q5 10 _ rfl, q6⟩; have HSZ : Hid (w.heap.size + 4 ≤ w1.heap.size) := q8; clear c1 q1 q2 q3 q4 q5 q6 q7 q8)
    | (go_at_call 20; refine (CE.out _ B1.out).mono ?_; rintro e w2 ⟨rfl, c2⟩; have B2 : Hid (Below w1.heap.size w1 w2) := c2; have z0b := bel_cell c2 z0; have z1b := bel_cell c2 z1; have z2b := bel_cell c2 z2; have z3b := bel_cell c2 z3; have z4b := bel_cell c2 z4; have z5b := bel_cell c2 z5; clear c2)
    | (go_at_call 18; refine (CF.out _ _).mono ?_; rintro e wf ⟨rfl, rfl⟩)
    | (go_at_call 21; refine (CC.out _ (bel_tr B1.out B2.out)).mono ?_; rintro e w3 ⟨⟨N1, L1, ps1, g1, gl1, rfl, hO1, hr1, hz1⟩, c3⟩; have B3 : Hid (Below w2.heap.size w2 w3) := c3; obtain ⟨gb, hP⟩ := pre_copied HRT.out ((HSP.out.below B2.out).below c3) (Nat.le_trans HSZ.out B2.out.size) c3.size hO1; have HP : Hid _ := hP; have p := ((HSP.out.below B2.out).below c3); have p0 := p.c0; have p1 := p.c1; have p2 := p.c2; have p3 := p.c3; have p4 := p.c4; have p5 := p.c5; have pf := p.fr; unfold zeroS at p0 p1 p2 p3; unfold noS at p4 p5; have i0 := bel_cell (bel_tr B2.out c3) y0; have i1 := bel_cell (bel_tr B2.out c3) y1; have i2 := bel_cell (bel_tr B2.out c3) y2; have i3 := bel_cell (bel_tr B2.out c3) y3; have i4 := bel_cell (bel_tr B2.out c3) y4; have i5 := bel_cell (bel_tr B2.out c3) y5; have i6 := bel_cell (bel_tr B2.out c3) y6; unfold spV; simp only at p0 p1 p2 p3 p4 p5 ⊢; have HRM : Hid _ := hr1; have HOO : Hid _ := hO1; clear hP hO1 hr1 hz1 c3 p))
  have hsp := (HSP.out.below B2.out).below B3.out
  have hB3 := bel_tr (bel_tr B1.out B2.out) B3.out
  have h4 := HSZ.out
  have h5 := B2.out.size
  have h6 := B3.out.size
  refine (CH.out _ _ _ _ _ _ _ _ _ HP.out (by omega) (put6_below hB3 hsp _ N1 L1) (fun x hx => rm_put6 hsp _ N1 L1 (HRM.out x hx) (fun e => by have := (HOO.out.lot.ok x hx).blk_ge _ e; omega))).mono ?_
  rintro r w5 ⟨⟨N', L', ps', g', gl', M, sx, rfl, hC, hO, hF, hM, hNB, hsx⟩, hst⟩
  have HBL : Hid (Below w.heap.size w w5) := ((Stay.of_below (O := fun k => w.heap.size ≤ k) (put6_below hB3 hsp _ N1 L1)).then_same (hst.mono (fun k e => by (rcases e with e | e) <;> omega))).below (Nat.le_refl _) (fun k hk => hk)
  have HA5 : Hid (AnC w5 (w.heap.size + 1 + 1 + 1) 0 zeroB noS zeroX 0) := (((HAN.out.below B2.out).below B3.out).keep (put6_at hsp _ N1 L1).2 (by omega)).keep hst (fun e => by (rcases e with e | e) <;> omega)
  have HSS : Hid (w.heap.size + 4 ≤ w2.heap.size) := by (show _ ≤ _; omega)
  have HC5 : Hid _ := hC
  have HO5 : Hid _ := hO
  have HF5 : Hid _ := hF
  have HM5 : Hid _ := hM
  have HNB : Hid _ := hNB
  have HSX : Hid _ := hsx
  have c50 := hC.c0
  rw [hT.out.2] at c50
  have c5f := hC.fr 0
  obtain ⟨a0, a1, a2, a3, a4, a5, a6, a7, a8, a9, a10, afr⟩ := HA5.out
  unfold zeroB at a1 a2 a3
  unfold noS at a4
  unfold zeroX zeroN noS at a5 a6 a7 a8 a9
  unfold anV noS
  simp only at a1 a2 a3 a4 a5 a6 a7 a8 a9 ⊢
  clear hsp hB3 h4 h5 h6 hC hO hF hM hNB hsx hst
  go_wp2
  change Code.wp _ _ _ _ ((put11 w5 (w.heap.size + 1 + 1 + 1) 0 bk noS (nd, sx) 0).setCell ⟨w.heap.size + 1 + 1, 0, none⟩ (.int .i64 (tx + 1)))
  obtain ⟨kA, kS⟩ := put11_at HA5.out 0 bk noS (nd, sx) 0
  have hss := HSS.out
  have hM := HM5.out
  obtain ⟨hC7, hS7⟩ := (HC5.out.keep kS (by omega)).set0 (tx + 1)
  have HC7 : Hid (SpC ((put11 w5 (w.heap.size + 1 + 1 + 1) 0 bk noS (nd, sx) 0).setCell ⟨w.heap.size + 1 + 1, 0, none⟩ (.int .i64 (tx + 1))) (w.heap.size + 1 + 1) dS N' L') := by rw [hT.out.1]; exact hC7
  have HA7 : Hid (AnC ((put11 w5 (w.heap.size + 1 + 1 + 1) 0 bk noS (nd, sx) 0).setCell ⟨w.heap.size + 1 + 1, 0, none⟩ (.int .i64 (tx + 1))) (w.heap.size + 1 + 1 + 1) 0 bk noS (nd, sx) 0) := kA.keep hS7 (by omega)
  have hO7 := (HO5.out.out kS (fun k hk => .inl (by omega))).out hS7 (fun k hk => .inl (by omega))
  have HO7 : Hid (OwnM w2.heap.size M ((put11 w5 (w.heap.size + 1 + 1 + 1) 0 bk noS (nd, sx) 0).setCell ⟨w.heap.size + 1 + 1, 0, none⟩ (.int .i64 (tx + 1))) dS N' L' ps' g' gl') := by rw [hT.out.1]; exact ⟨hO7.lot, hO7.map, hO7.lo, hO7.gl1, hO7.gl2, hO7.lt1, hO7.lt2, hO7.lt3⟩
  have HF7 : Hid (Free M ((put11 w5 (w.heap.size + 1 + 1 + 1) 0 bk noS (nd, sx) 0).setCell ⟨w.heap.size + 1 + 1, 0, none⟩ (.int .i64 (tx + 1))) (nd, sx)) := Stay.free (Stay.free HF5.out kS (fun k hk e => by have := HF5.out.blk_ge k hk; omega)) hS7 (fun k hk e => by have := HF5.out.blk_ge k hk; omega)
  have HB7 : Hid (Below w.heap.size w ((put11 w5 (w.heap.size + 1 + 1 + 1) 0 bk noS (nd, sx) 0).setCell ⟨w.heap.size + 1 + 1, 0, none⟩ (.int .i64 (tx + 1)))) := (((Stay.of_below (O := fun k => w.heap.size ≤ k) HBL.out).then_same (kS.mono (fun k hk => by omega))).then_same (hS7.mono (fun k hk => by omega))).below (Nat.le_refl _) (fun k hk => hk)
  clear kA kS hC7 hS7 hO7 HO5 HF5 HC5 HA5 HBL a0 a1 a2 a3 a4 a5 a6 a7 a8 a9 a10 afr c50 c5f HNB HSX
  generalize ((put11 w5 (w.heap.size + 1 + 1 + 1) 0 bk noS (nd, sx) 0).setCell ⟨w.heap.size + 1 + 1, 0, none⟩ (.int .i64 (tx + 1))) = W7 at *
  obtain ⟨j0, j1, j2, j3, j4, j5, jf⟩ := HC7.out
  obtain ⟨k0, k1, k2, k3, k4, k5, k6, k7, k8, k9, k10, kf⟩ := HA7.out
  unfold noS at k4
  simp only at k1 k2 k3 k4 k5 k6 k7 k8 k9
  go_region
  change Exit.then _ _ Exit.normal _ (put11 (put6 W7 (w.heap.size + 1 + 1) dS N' L') (w.heap.size + 1 + 1 + 1) 0 bk noS (nd, sx) 0).drew
  obtain ⟨p1, p2⟩ := put6_at HC7.out dS N' L'
  obtain ⟨q1, q2⟩ := put11_at (HA7.out.keep p2 (by omega)) 0 bk noS (nd, sx) 0
  have bd := bel_drewN (put11 (put6 W7 (w.heap.size + 1 + 1) dS N' L') (w.heap.size + 1 + 1 + 1) 0 bk noS (nd, sx) 0) 1
  have HC8 : Hid (SpC (put11 (put6 W7 (w.heap.size + 1 + 1) dS N' L') (w.heap.size + 1 + 1 + 1) 0 bk noS (nd, sx) 0).drew (w.heap.size + 1 + 1) dS N' L') := (p1.keep q2 (by omega)).below bd
  have HA8 : Hid (AnC (put11 (put6 W7 (w.heap.size + 1 + 1) dS N' L') (w.heap.size + 1 + 1 + 1) 0 bk noS (nd, sx) 0).drew (w.heap.size + 1 + 1 + 1) 0 bk noS (nd, sx) 0) := q1.below bd
  have HO8 : Hid (OwnM w2.heap.size M (put11 (put6 W7 (w.heap.size + 1 + 1) dS N' L') (w.heap.size + 1 + 1 + 1) 0 bk noS (nd, sx) 0).drew dS N' L' ps' g' gl') := ((HO7.out.out p2 (fun k hk => .inl (by omega))).out q2 (fun k hk => .inl (by omega))).below bd
  have HF8 : Hid (Free M (put11 (put6 W7 (w.heap.size + 1 + 1) dS N' L') (w.heap.size + 1 + 1 + 1) 0 bk noS (nd, sx) 0).drew (nd, sx)) := (Stay.free (Stay.free HF7.out p2 (fun k hk e => by have := HF7.out.blk_ge k hk; omega)) q2 (fun k hk e => by have := HF7.out.blk_ge k hk; omega)).below bd
  have HB8 : Hid (Below w.heap.size w (put11 (put6 W7 (w.heap.size + 1 + 1) dS N' L') (w.heap.size + 1 + 1 + 1) 0 bk noS (nd, sx) 0).drew) := ((((Stay.of_below (O := fun k => w.heap.size ≤ k) HB7.out).then_same (p2.mono (fun k hk => by omega))).then_same (q2.mono (fun k hk => by omega))).then_below bd).below (Nat.le_refl _) (fun k hk => hk)
  clear p1 p2 q1 q2 bd HC7 HA7 HO7 HF7 HB7 j0 j1 j2 j3 j4 j5 jf k0 k1 k2 k3 k4 k5 k6 k7 k8 k9 k10 kf
  generalize (put11 (put6 W7 (w.heap.size + 1 + 1) dS N' L') (w.heap.size + 1 + 1 + 1) 0 bk noS (nd, sx) 0).drew = W8 at *
  go_wp2
  refine leaves_cons (f := 16) (args := #[.pointer (some ⟨w.heap.size + 1 + 1, 0, none⟩), .pointer (some ⟨w.heap.size + 1 + 1 + 1, 0, none⟩)]) (by simp) (by simp [go_sem]) ?_
  refine catch_idle.mono ?_
  rintro e u' w' ⟨rfl, rfl, rfl⟩
  refine ⟨.tuple #[spV dS N' L', anV 0 bk noS (nd, sx) 0], ?_, ⟨⟨N', L', ps', g', gl', w2.heap.size, M, sx, rfl, HO8.out, HF8.out, by omega, HM5.out⟩, HB8.out⟩⟩
  obtain ⟨j0, j1, j2, j3, j4, j5, _⟩ := HC8.out
  obtain ⟨k0, k1, k2, k3, k4, k5, k6, k7, k8, k9, k10, _⟩ := HA8.out
  unfold spV anV
  simp only [results, Tryz.results7]
  simp [go_sem, k0, k1, k2, k3, k4, k5, k6, k7, k8, k9, k10, j0, j1, j2, j3, j4, j5]

end Go.Proofs.YticiihjkgiookaaGreat.Spa

/- The contract of space.Apply, whatever becomes of the edit. -/
namespace Go.Proofs.YticiihjkgiookaaGreat.Spa
open Go.RowKit Go.Proofs.YticiihjkgiookaaGreat
open Go.Proofs.YticiihjkgiookaaGreat.Lea (LS Ls findX putL renX LL LO LsR lsC wideL)
open Go.Proofs.YticiihjkgiookaaGreat.Edi (Ed Nm EdAt edV)

theorem OwnM.spIn {base M : Nat} {w : World} {s : Sp} {N L : RS} {ps : List NR} {g gl : Option Nat} (h : OwnM base M w s N L ps g gl) : SpIn w s N L := by
  obtain ⟨b, hb⟩ := h.lot.nds
  refine ⟨⟨b, 0, ps, h.map, ?_, hb⟩, h.lo.ll, fun hn => ?_⟩
  · rw [← h.map, List.length_map]; exact h.lot.len
  · have hc := h.lot.cel
    cases hc with
    | nil e _ _ => injection e
    | row k cap e _ _ _ _ _ _ _ => injection e with e1 _ _; rw [hn] at e1; cases e1
theorem OwnM.zero (B M : Nat) (w : World) : OwnM B M w zeroS noS noS [] none none :=
  ⟨⟨.nil rfl rfl rfl, rfl, fun x hx => (by cases hx), fun x hx => (by cases hx)⟩, rfl, Lea.LO.none _ _, fun k hk => (by cases hk), fun x hx => (by cases hx), fun k hk => (by cases hk), fun k hk => (by cases hk), fun x hx => (by cases hx)⟩

def appB (s : Sp) (e : Ed) (E : Int) : Blk := if E = 0 then blkOf s e else zeroB
def appN (s : Sp) (e : Ed) (E : Int) : Nd := if E = 0 then ndOf s e else zeroN
/-- What Apply tells: a space in new memory, and an answer in new memory. -/
structure AppR (B : Nat) (s : Sp) (e : Ed) (E : Int) (r : Ending) (w' : World) : Prop where
  ex : ∃ N L ps g gl base M sx, r = .returned (.tuple #[spV (appS s e E) N L, anV E (appB s e E) noS (appN s e E, sx) 0]) ∧ OwnM base M w' (appS s e E) N L ps g gl ∧ Free M w' (appN s e E, sx) ∧ B ≤ base ∧ base ≤ M
theorem appR_no {B : Nat} {s : Sp} {e : Ed} {E : Int} {r : Ending} {w' : World} (h0 : E ≠ 0) (hr : r = .returned (.tuple #[spV zeroS noS noS, anV E zeroB noS zeroX 0])) : AppR B s e E r w' := by
  have e1 : appS s e E = zeroS := if_neg h0
  have e2 : appB s e E = zeroB := if_neg h0
  have e3 : appN s e E = zeroN := if_neg h0
  refine ⟨noS, noS, [], none, none, B, B, noS, ?_, ?_, ?_, Nat.le_refl _, Nat.le_refl _⟩
  · rw [e1, e2, e3]; exact hr
  · rw [e1]; exact OwnM.zero _ _ _
  · rw [e3]; exact free_no _ _ zeroN rfl (by decide)

theorem apply_val {s : Sp} {N L : RS} {w : World} (h : SpIn w s N L) (e : Ed) (ea : Option Addr) (em eq : Nat) (hn : Nm w ea em e.ls) (E : Int) (hE : AppE s e E) :
    Calls Tryz.prog 7 #[spV s N L, edV e ea em eq] w fun r w' => AppR w.heap.size s e E r w' ∧ Below w.heap.size w w' := by
  cases hE with
  | arg hx => exact (apply_arg h e ea em eq hn hx).mono fun r w' h => ⟨appR_no (by decide) h.1, h.2⟩
  | long hR he ht => exact (apply_long h e ea em eq hn hR he ht).mono fun r w' h => ⟨appR_no (by decide) h.1, h.2⟩
  | does _ hR he ht hd =>
    by_cases h0 : E = 0
    · subst h0
      refine (apply_ok h e ea em eq hn hR he ht hd).mono fun r w' h => ⟨?_, h.2⟩
      obtain ⟨N, L, ps, g, gl, base, M, sx, h1, h2, h3, h4, h5⟩ := h.1.ex
      exact ⟨N, L, ps, g, gl, base, M, sx, h1, h2, h3, h4, h5⟩
    · exact (apply_no h e ea em eq hn hR he ht E hd h0).mono fun r w' h => ⟨appR_no h0 h.1, h.2⟩

end Go.Proofs.YticiihjkgiookaaGreat.Spa

/- The contract of space.Stat. -/
namespace Go.Proofs.YticiihjkgiookaaGreat.Spa
open Go.RowKit Go.Proofs.YticiihjkgiookaaGreat
open Go.Proofs.YticiihjkgiookaaGreat.Lea (LS Ls findX putL renX LL LO LsR lsC wideL)
open Go.Proofs.YticiihjkgiookaaGreat.Edi (Ed Nm EdAt edV)

set_option maxRecDepth 100000 in
set_option maxHeartbeats 4000000 in
theorem stat_arg {s : Sp} {N L : RS} {w : World} (h : SpIn w s N L) (p : ByteArray) (hR : ¬ RtS s) :
    Calls Tryz.prog 14 #[spV s N L, .string p] w fun e w' => e = .returned (anV 1 zeroB noS zeroX 0) ∧ Below w.heap.size w w' := by
  have CS : Hid (∀ W, Below w.heap.size w W → Calls Tryz.prog 19 #[spV s N L] W fun e w' => e = .returned (.bool false) ∧ Below W.heap.size W w') := fun W hb => rightS_val (h.below hb) false ⟨fun e => Bool.noConfusion e, fun e => absurd e hR⟩
  unfold spV at CS ⊢
  have hst := run_store_str
  have hst2 : ∀ (w : World) (a : Addr) (x : Option Addr) (n c : Nat) (m : Mode), (store a (.slice x n c) m).run Tryz.prog w = stored Tryz.prog w a (.slice x n c) m := fun w a x n c m => run_store_any w a _ m rfl
  clear h hR
  go_enter Tryz.func14, Tryz.ntmps14
  go_wp2_with (go_at_call 19; refine (CS.out _ (bel_tr (bel_al _ _) (bel_al _ _))).mono ?_; rintro e w1 ⟨rfl, c1⟩; obtain ⟨q1, q2, q3, q4, q5, q6⟩ := two_boxes c1; have y4 := q1 4 _ rfl; have B1 : Hid (Below w.heap.size w w1) := q5; have HAN : Hid (AnC w1 (w.heap.size + 1) 0 zeroB noS zeroX 0) := ⟨q3 0 _ rfl, q3 1 _ rfl, q3 2 _ rfl, q3 3 _ rfl, q3 4 _ rfl, q3 5 _ rfl, q3 6 _ rfl, q3 7 _ rfl, q3 8 _ rfl, q3 9 _ rfl, q3 10 _ rfl, q4⟩; obtain ⟨a0, a1, a2, a3, a4, a5, a6, a7, a8, a9, a10, afr⟩ := HAN.out; unfold zeroB at a1 a2 a3; unfold noS at a4; unfold zeroX zeroN noS at a5 a6 a7 a8 a9; simp only at a1 a2 a3 a4 a5 a6 a7 a8 a9; clear c1 q1 q2 q3 q4 q5 q6)
  obtain ⟨kA, kS⟩ := put11_at HAN.out 1 zeroB noS zeroX 0
  have hB : Below w.heap.size w (put11 w1 (w.heap.size + 1) 1 zeroB noS zeroX 0) := ((Stay.of_below (O := fun k => w.heap.size ≤ k) B1.out).then_same (kS.mono (fun k hk => by omega))).below (Nat.le_refl _) (fun k hk => hk)
  obtain ⟨k0, k1, k2, k3, k4, k5, k6, k7, k8, k9, k10, _⟩ := kA
  unfold put11 noS zeroB zeroX zeroN noS at k0 k1 k2 k3 k4 k5 k6 k7 k8 k9 k10 hB
  simp only at k0 k1 k2 k3 k4 k5 k6 k7 k8 k9 k10 hB
  refine bodyPost_ret (v := anV 1 zeroB noS zeroX 0) ?_ rfl ⟨rfl, hB⟩
  unfold anV noS zeroB zeroX zeroN noS
  simp only [results, Tryz.results14]
  simp [go_sem, k0, k1, k2, k3, k4, k5, k6, k7, k8, k9, k10]

set_option maxRecDepth 100000 in
set_option maxHeartbeats 4000000 in
theorem stat_no {s : Sp} {N L : RS} {w : World} (h : SpIn w s N L) (p : ByteArray) (hp : p.size ≤ maxLen) (hR : RtS s) (I E : Int) (hE : FindR s.ns p I E) (h0 : E ≠ 0) :
    Calls Tryz.prog 14 #[spV s N L, .string p] w fun e w' => e = .returned (anV E zeroB noS zeroX 0) ∧ Below w.heap.size w w' := by
  have CS : Hid (∀ W, Below w.heap.size w W → Calls Tryz.prog 19 #[spV s N L] W fun e w' => e = .returned (.bool true) ∧ Below W.heap.size W w') := fun W hb => rightS_val (h.below hb) true ⟨fun _ => hR, fun _ => rfl⟩
  have CI : Hid (∀ W, Below w.heap.size w W → Calls Tryz.prog 30 #[.slice N.a N.n N.c, .string p] W fun e w' => e = .returned (.tuple #[.int .i64 I, .int .i64 E]) ∧ Below W.heap.size W w') := fun W hb => find_is (h.nl.below hb) p hp I E hE
  have h0b : (E != 0) = true := by simpa using h0
  unfold spV at CS ⊢
  have hst := run_store_str
  have hst2 : ∀ (w : World) (a : Addr) (x : Option Addr) (n c : Nat) (m : Mode), (store a (.slice x n c) m).run Tryz.prog w = stored Tryz.prog w a (.slice x n c) m := fun w a x n c m => run_store_any w a _ m rfl
  clear h hR hE h0 hp
  go_enter Tryz.func14, Tryz.ntmps14
  go_wp2_with (first
    | (go_at_call 19; refine (CS.out _ (bel_tr (bel_al _ _) (bel_al _ _))).mono ?_; rintro e w1 ⟨rfl, c1⟩; obtain ⟨q1, q2, q3, q4, q5, q6⟩ := two_boxes c1; have y4 := q1 4 _ rfl; have B1 : Hid (Below w.heap.size w w1) := q5; have HAN : Hid (AnC w1 (w.heap.size + 1) 0 zeroB noS zeroX 0) := ⟨q3 0 _ rfl, q3 1 _ rfl, q3 2 _ rfl, q3 3 _ rfl, q3 4 _ rfl, q3 5 _ rfl, q3 6 _ rfl, q3 7 _ rfl, q3 8 _ rfl, q3 9 _ rfl, q3 10 _ rfl, q4⟩; obtain ⟨a0, a1, a2, a3, a4, a5, a6, a7, a8, a9, a10, afr⟩ := HAN.out; unfold zeroB at a1 a2 a3; unfold noS at a4; unfold zeroX zeroN noS at a5 a6 a7 a8 a9; simp only at a1 a2 a3 a4 a5 a6 a7 a8 a9; clear c1 q1 q2 q3 q4 q5 q6)
    | (go_at_call 30; refine (CI.out _ B1.out).mono ?_; rintro e w2 ⟨rfl, c2⟩; have B2 : Hid (Below w1.heap.size w1 w2) := c2; have HAN2 : Hid (AnC w2 (w.heap.size + 1) 0 zeroB noS zeroX 0) := HAN.out.below c2; clear a0 a1 a2 a3 a4 a5 a6 a7 a8 a9 a10 afr; obtain ⟨a0, a1, a2, a3, a4, a5, a6, a7, a8, a9, a10, afr⟩ := HAN2.out; unfold zeroB at a1 a2 a3; unfold noS at a4; unfold zeroX zeroN noS at a5 a6 a7 a8 a9; simp only at a1 a2 a3 a4 a5 a6 a7 a8 a9; clear c2))
  obtain ⟨kA, kS⟩ := put11_at HAN2.out E zeroB noS zeroX 0
  have hB : Below w.heap.size w (put11 w2 (w.heap.size + 1) E zeroB noS zeroX 0) := ((Stay.of_below (O := fun k => w.heap.size ≤ k) (bel_tr B1.out B2.out)).then_same (kS.mono (fun k hk => by omega))).below (Nat.le_refl _) (fun k hk => hk)
  obtain ⟨k0, k1, k2, k3, k4, k5, k6, k7, k8, k9, k10, _⟩ := kA
  unfold put11 noS zeroB zeroX zeroN noS at k0 k1 k2 k3 k4 k5 k6 k7 k8 k9 k10 hB
  simp only at k0 k1 k2 k3 k4 k5 k6 k7 k8 k9 k10 hB
  refine bodyPost_ret (v := anV E zeroB noS zeroX 0) ?_ rfl ⟨rfl, hB⟩
  unfold anV noS zeroB zeroX zeroN noS
  simp only [results, Tryz.results14]
  simp [go_sem, k0, k1, k2, k3, k4, k5, k6, k7, k8, k9, k10]

set_option maxRecDepth 100000 in
set_option maxHeartbeats 4000000 in
theorem stat_ok {s : Sp} {N L : RS} {w : World} (h : SpIn w s N L) (p : ByteArray) (hp : p.size ≤ maxLen) (hR : RtS s) (i : Nat) (x : Nd) (hi : Is s.ns p i x) :
    Calls Tryz.prog 14 #[spV s N L, .string p] w fun e w' => (∃ M sx, w.heap.size ≤ M ∧ e = .returned (anV 0 zeroB noS (x, sx) 0) ∧ Free M w' (x, sx)) ∧ Below w.heap.size w w' := by
  have CS : Hid (∀ W, Below w.heap.size w W → Calls Tryz.prog 19 #[spV s N L] W fun e w' => e = .returned (.bool true) ∧ Below W.heap.size W w') := fun W hb => rightS_val (h.below hb) true ⟨fun _ => hR, fun _ => rfl⟩
  have CI : Hid (∀ W, Below w.heap.size w W → Calls Tryz.prog 30 #[.slice N.a N.n N.c, .string p] W fun e w' => e = .returned (.tuple #[.int .i64 (i : Int), .int .i64 0]) ∧ Below W.heap.size W w') := fun W hb => find_is (h.nl.below hb) p hp i 0 (.ok i x hi)
  obtain ⟨b, off, ps, hm, hl, hN⟩ := h.nl.ex
  have hip : Is (ps.map (·.1)) p i x := by rw [hm]; exact hi
  obtain ⟨r, hX⟩ := is_at' hip
  obtain ⟨hil, hXe⟩ := List.getElem?_eq_some_iff.1 hX
  have hin : i < N.n := by rw [← hl, ← hm, List.length_map]; exact hil
  have ha := hN.addr (by omega)
  have hok : NdOk w (x, r) := hN.ok _ (List.mem_of_getElem? hX)
  have h8 : x.bs.length ≤ 8 := by
    have hf := hR.tree.fit x hi.mem
    cases hd : x.dir with
    | false => exact (file_of hf hd).2.2.2.2.1
    | true => rw [(dir_of hf hd).2.1]; exact Nat.zero_le _
  have hlen : x.bs.length = r.n := hok.bs.len
  have CC : Hid (∀ W, Below w.heap.size w W → Calls Tryz.prog 31 #[ndV (x, r)] W fun e w' => CopyR W.heap.size x e w' ∧ Below W.heap.size W w') := fun W hb => copiedNode_val (x, r) W (hok.below hb) (by show r.n * 24 ≤ _; omega)
  have HCE : Hid (∀ W, Below w.heap.size w W → W.cell? ⟨b, off + i * 5, none⟩ = some (.string x.path) ∧ W.cell? ⟨b, off + i * 5 + 1, none⟩ = some (.bool x.dir) ∧ W.cell? ⟨b, off + i * 5 + 2, none⟩ = some (.int .i64 x.quota) ∧ W.cell? ⟨b, off + i * 5 + 3, none⟩ = some (.slice r.a r.n r.c) ∧ W.cell? ⟨b, off + i * 5 + 4, none⟩ = some (.int .i64 x.wr)) := fun W hb => by
    have hc := hN.cell i hil
    rw [hXe] at hc
    exact ⟨bel_cell hb (hc 0 _ rfl), bel_cell hb (hc 1 _ rfl), bel_cell hb (hc 2 _ rfl), bel_cell hb (hc 3 _ rfl), bel_cell hb (hc 4 _ rfl)⟩
  obtain ⟨na, nn, nc⟩ := N
  simp only at ha hin CI
  subst ha
  unfold ndV at CC
  unfold spV at CS ⊢
  simp only at CC CS ⊢
  have hst := run_store_str
  have hst2 : ∀ (w : World) (a : Addr) (x : Option Addr) (n c : Nat) (m : Mode), (store a (.slice x n c) m).run Tryz.prog w = stored Tryz.prog w a (.slice x n c) m := fun w a x n c m => run_store_any w a _ m rfl
  clear h hR hp hi hm hl hN hip hX hXe hil hok h8 hlen
  go_enter Tryz.func14, Tryz.ntmps14
  go_wp2_with (first
    | (go_at_call 19; refine (CS.out _ (bel_tr (bel_al _ _) (bel_al _ _))).mono ?_; rintro e w1 ⟨rfl, c1⟩; obtain ⟨q1, q2, q3, q4, q5, q6⟩ := two_boxes c1; have y4 := q1 4 _ rfl; have B1 : Hid (Below w.heap.size w w1) := q5; have HAN : Hid (AnC w1 (w.heap.size + 1) 0 zeroB noS zeroX 0) := ⟨q3 0 _ rfl, q3 1 _ rfl, q3 2 _ rfl, q3 3 _ rfl, q3 4 _ rfl, q3 5 _ rfl, q3 6 _ rfl, q3 7 _ rfl, q3 8 _ rfl, q3 9 _ rfl, q3 10 _ rfl, q4⟩; obtain ⟨a0, a1, a2, a3, a4, a5, a6, a7, a8, a9, a10, afr⟩ := HAN.out; unfold zeroB at a1 a2 a3; unfold noS at a4; unfold zeroX zeroN noS at a5 a6 a7 a8 a9; simp only at a1 a2 a3 a4 a5 a6 a7 a8 a9; clear c1 q1 q2 q3 q4 q5 q6)
    | (go_at_call 30; refine (CI.out _ B1.out).mono ?_; rintro e w2 ⟨rfl, c2⟩; have B2 : Hid (Below w1.heap.size w1 w2) := c2; have y4b := bel_cell c2 y4; obtain ⟨x0, x1, x2, x3, x4⟩ := HCE.out w2 (bel_tr B1.out c2); clear c2)
    | (go_at_call 31; refine (CC.out _ (bel_tr B1.out B2.out)).mono ?_; rintro e w4 ⟨⟨sx, rfl, hF4⟩, c4⟩; have B4 : Hid (Below w2.heap.size w2 w4) := c4; have HF4 : Hid _ := hF4; have HAN4 : Hid (AnC w4 (w.heap.size + 1) 0 zeroB noS zeroX 0) := (HAN.out.below B2.out).below c4; clear a0 a1 a2 a3 a4 a5 a6 a7 a8 a9 a10 afr; obtain ⟨a0, a1, a2, a3, a4, a5, a6, a7, a8, a9, a10, afr⟩ := HAN4.out; unfold ndV; unfold zeroB at a1 a2 a3; unfold noS at a4; unfold zeroX zeroN noS at a5 a6 a7 a8 a9; simp only at a1 a2 a3 a4 a5 a6 a7 a8 a9 ⊢; clear c4 hF4))
  obtain ⟨kA, kS⟩ := put11_at HAN4.out 0 zeroB noS (x, sx) 0
  have hl1 := World.block_lt_of_cell? _ _ HAN.out.c0
  simp only at hl1
  have hs2 := B2.out.size
  have hs1 := B1.out.size
  have hB : Below w.heap.size w (put11 w4 (w.heap.size + 1) 0 zeroB noS (x, sx) 0) := ((Stay.of_below (O := fun k => w.heap.size ≤ k) (bel_tr (bel_tr B1.out B2.out) B4.out)).then_same (kS.mono (fun k hk => by omega))).below (Nat.le_refl _) (fun k hk => hk)
  have hF : Free w2.heap.size (put11 w4 (w.heap.size + 1) 0 zeroB noS (x, sx) 0) (x, sx) := Stay.free HF4.out kS (fun k hk e => by have := HF4.out.blk_ge k hk; omega)
  obtain ⟨k0, k1, k2, k3, k4, k5, k6, k7, k8, k9, k10, _⟩ := kA
  unfold put11 noS zeroB at k0 k1 k2 k3 k4 k5 k6 k7 k8 k9 k10 hB hF
  simp only at k0 k1 k2 k3 k4 k5 k6 k7 k8 k9 k10 hB hF
  refine bodyPost_ret (v := anV 0 zeroB noS (x, sx) 0) ?_ rfl ⟨⟨_, sx, by omega, rfl, hF⟩, hB⟩
  unfold anV noS zeroB
  simp only [results, Tryz.results14]
  simp [go_sem, k0, k1, k2, k3, k4, k5, k6, k7, k8, k9, k10]

end Go.Proofs.YticiihjkgiookaaGreat.Spa

/- The contract of space.New. -/
namespace Go.Proofs.YticiihjkgiookaaGreat.Spa
open Go.RowKit Go.Proofs.YticiihjkgiookaaGreat
open Go.Proofs.YticiihjkgiookaaGreat.Lea (LS Ls findX putL renX LL LO LsR lsC wideL)
open Go.Proofs.YticiihjkgiookaaGreat.Edi (Ed Nm EdAt edV)

theorem lot_root (base : Nat) (w : World) (hb : base ≤ w.heap.size) : OwnM base (w.heap.size + 1) (w.alloc (.cells #[.string rootP, .bool true, .int .i64 (-1), .slice none 0 0, .int .i64 (-1)] 35)) newS ⟨some ⟨w.heap.size, 0, none⟩, 1, 1⟩ noS [(rootN, noS)] (some w.heap.size) none := by
  have hc := World.cell?_alloc_new w #[.string rootP, .bool true, .int .i64 (-1), .slice none 0 0, .int .i64 (-1)] 35
  have hz : (w.alloc (.cells #[.string rootP, .bool true, .int .i64 (-1), .slice none 0 0, .int .i64 (-1)] 35)).heap.size = w.heap.size + 1 := by simp
  refine ⟨⟨.row w.heap.size 1 rfl rfl hb (by omega) (Nat.le_refl _) (by decide) (fun j hj => ?_) (fun j hj => ?_), rfl, fun x hx => ?_, fun x hx k hk => ?_⟩, rfl, Lea.LO.none _ _, fun k hk => (by simp), fun x hx k hk => (by simp), fun k hk => (by cases hk; omega), fun k hk => (by cases hk), fun x hx k hk => ?_⟩
  · have hj5 : j < 5 := hj
    rw [hc j]
    match j, hj5 with
    | 0, _ => rfl
    | 1, _ => rfl
    | 2, _ => rfl
    | 3, _ => rfl
    | 4, _ => rfl
  · have hj5 : j < 5 := hj
    refine ⟨?_, World.frozen?_alloc_new w _ _ j⟩
    rw [hc j]
    match j, hj5 with
    | 0, _ => rfl
    | 1, _ => rfl
    | 2, _ => rfl
    | 3, _ => rfl
    | 4, _ => rfl
  · cases List.mem_singleton.1 hx
    exact free_no _ _ rootN rfl (by decide)
  · cases List.mem_singleton.1 hx
    unfold noS RS.blk
    simp
  · cases List.mem_singleton.1 hx
    unfold noS RS.blk at hk
    simp at hk

set_option maxRecDepth 100000 in
set_option maxHeartbeats 4000000 in
theorem new_val (w : World) :
    Calls Tryz.prog 6 #[] w fun r w' => (∃ N L ps g gl base M, w.heap.size ≤ base ∧ r = .returned (spV newS N L) ∧ OwnM base M w' newS N L ps g gl) ∧ Below w.heap.size w w' := by
  have hst := run_store_str
  have hst2 : ∀ (w : World) (a : Addr) (x : Option Addr) (n c : Nat) (m : Mode), (store a (.slice x n c) m).run Tryz.prog w = stored Tryz.prog w a (.slice x n c) m := fun w a x n c m => run_store_any w a _ m rfl
  go_enter Tryz.func6, Tryz.ntmps6
  go_wp2_with (go_at_call 15; refine (newDir_val _ _).mono ?_; rintro e w1 ⟨rfl, c1⟩; have B1 : Hid (Below w.heap.size w w1) := bel_tr (bel_al _ _) c1; have HS1 : Hid (SpC w1 w.heap.size zeroS noS noS) := (SpC.new w 27 zeroS noS noS).below c1; have p := fun o => HS1.out.below (bel_al w1 o); have p0 := fun o => (p o).c0; have p1 := fun o => (p o).c1; have p2 := fun o => (p o).c2; have p3 := fun o => (p o).c3; have p4 := fun o => (p o).c4; have p5 := fun o => (p o).c5; have pf := fun o => (p o).fr; simp only [zeroS, noS] at p0 p1 p2 p3 p4 p5; unfold ndV; simp only; clear c1 p)
  have hl := World.block_lt_of_cell? _ _ HS1.out.c0
  simp only at hl
  obtain ⟨q1, q2⟩ := put6_at (HS1.out.below (bel_al w1 (.cells #[.string rootP, .bool true, .int .i64 (-1), .slice none 0 0, .int .i64 (-1)] 35))) newS ⟨some ⟨w1.heap.size, 0, none⟩, 1, 1⟩ noS
  have hO := (lot_root (w.heap.size + 1) w1 hl).out q2 (fun k hk => .inl (by omega))
  have hB : Below w.heap.size w (put6 (w1.alloc (.cells #[.string rootP, .bool true, .int .i64 (-1), .slice none 0 0, .int .i64 (-1)] 35)) w.heap.size newS ⟨some ⟨w1.heap.size, 0, none⟩, 1, 1⟩ noS) := ((Stay.of_below (O := fun k => w.heap.size ≤ k) (bel_tr B1.out (bel_al _ _))).then_same (q2.mono (fun k hk => by omega))).below (Nat.le_refl _) (fun k hk => hk)
  change bodyPost _ _ _ _ _ (put6 (w1.alloc (.cells #[.string rootP, .bool true, .int .i64 (-1), .slice none 0 0, .int .i64 (-1)] 35)) w.heap.size newS ⟨some ⟨w1.heap.size, 0, none⟩, 1, 1⟩ noS)
  clear p0 p1 p2 p3 p4 p5 pf q2
  generalize put6 (w1.alloc (.cells #[.string rootP, .bool true, .int .i64 (-1), .slice none 0 0, .int .i64 (-1)] 35)) w.heap.size newS ⟨some ⟨w1.heap.size, 0, none⟩, 1, 1⟩ noS = W at *
  refine bodyPost_ret (v := spV newS ⟨some ⟨w1.heap.size, 0, none⟩, 1, 1⟩ noS) ?_ rfl ⟨⟨_, _, _, _, _, w.heap.size + 1, _, by omega, rfl, hO⟩, hB⟩
  obtain ⟨j0, j1, j2, j3, j4, j5, _⟩ := q1
  unfold spV
  simp only [results, Tryz.results6]
  simp [go_sem, j0, j1, j2, j3, j4, j5]

end Go.Proofs.YticiihjkgiookaaGreat.Spa

/- The contract of the statements' examples. -/
namespace Go.Proofs.YticiihjkgiookaaGreat.Spa
open Go.RowKit Go.Proofs.YticiihjkgiookaaGreat
open Go.Proofs.YticiihjkgiookaaGreat.Lea (LS Ls findX putL renX LL LO LsR lsC wideL)
open Go.Proofs.YticiihjkgiookaaGreat.Edi (Ed Nm EdAt edV)

theorem apply_yes {s : Sp} {N L : RS} {w : World} (h : SpIn w s N L) (e : Ed) (ea : Option Addr) (em eq : Nat) (hn : Nm w ea em e.ls) (hE : AppE s e 0) :
    Calls Tryz.prog 7 #[spV s N L, edV e ea em eq] w fun r w' => AppliedR w.heap.size (doS s e) (blkOf s e) (ndOf s e) r w' ∧ Below w.heap.size w w' := by
  cases hE with
  | does _ hR he ht hd => exact apply_ok h e ea em eq hn hR he ht hd
theorem apply_refused {s : Sp} {N L : RS} {w : World} (h : SpIn w s N L) (e : Ed) (ea : Option Addr) (em eq : Nat) (hn : Nm w ea em e.ls) (E : Int) (hE : AppE s e E) (h0 : E ≠ 0) :
    Calls Tryz.prog 7 #[spV s N L, edV e ea em eq] w fun r w' => r = .returned (.tuple #[spV zeroS noS noS, anV E zeroB noS zeroX 0]) ∧ Below w.heap.size w w' := by
  cases hE with
  | arg hx => exact apply_arg h e ea em eq hn hx
  | long hR he ht => exact apply_long h e ea em eq hn hR he ht
  | does _ hR he ht hd => exact apply_no h e ea em eq hn hR he ht E hd h0

theorem nm5 (w : World) (o p : Obj) (t : TypeId) : Nm (((w.alloc o).alloc p).alloc (.cells #[.int .i64 5] t)) (some ⟨w.heap.size + 1 + 1, 0, none⟩) 1 [5] :=
  ⟨rfl, by decide, fun _ => ⟨w.heap.size + 1 + 1, 0, rfl, fun j hj => by
    have hj1 : j < 1 := hj
    obtain rfl : j = 0 := by omega
    have h := World.cell?_alloc_new ((w.alloc o).alloc p) #[.int .i64 5] t 0
    rw [show ((w.alloc o).alloc p).heap.size = w.heap.size + 1 + 1 by simp] at h
    exact h⟩⟩

theorem cell_al2 {w : World} {a : Addr} {v : Value} (h : w.cell? a = some v) (o p : Obj) : ((w.alloc o).alloc p).cell? a = some v := bel_cell (bel_tr (bel_al _ _) (bel_al _ _)) h

set_option maxRecDepth 100000 in
set_option maxHeartbeats 4000000 in
theorem examples_val (w : World) :
    Calls Tryz.prog 5 #[] w fun e w' => e = .returned (.bool true) ∧ Below w.heap.size w w' := by
  have C1 : Hid (∀ W N L, SpIn W newS N L → Calls Tryz.prog 7 #[spV newS N L, edV ex1 none 0 0] W fun r w' => AppliedR W.heap.size S1 zeroB (ndOf newS ex1) r w' ∧ Below W.heap.size W w') := fun W N L h => apply_yes h ex1 none 0 0 (Edi.Nm.nil _) a1
  have C2 : Hid (∀ W N L, SpIn W S1 N L → Calls Tryz.prog 7 #[spV S1 N L, edV ex2 none 0 0] W fun r w' => AppliedR W.heap.size S2 ⟨1, 1, 0⟩ (ndOf S1 ex2) r w' ∧ Below W.heap.size W w') := fun W N L h => apply_yes h ex2 none 0 0 (Edi.Nm.nil _) a2
  have C3 : Hid (∀ W N L, SpIn W S1 N L → Calls Tryz.prog 7 #[spV S1 N L, edV ex3 none 0 0] W fun r w' => r = .returned (.tuple #[spV zeroS noS noS, anV 9 zeroB noS zeroX 0]) ∧ Below W.heap.size W w') := fun W N L h => apply_refused h ex3 none 0 0 (Edi.Nm.nil _) 9 a3 (by decide)
  have C4 : Hid (∀ W N L a m q, SpIn W S2 N L → Nm W a m [5] → Calls Tryz.prog 7 #[spV S2 N L, edV ex4 a m q] W fun r w' => AppliedR W.heap.size S3 zeroB (ndOf S2 ex4) r w' ∧ Below W.heap.size W w') := fun W N L a m q h hn => apply_yes h ex4 a m q hn a4
  have C5 : Hid (∀ W N L, SpIn W S3 N L → Calls Tryz.prog 7 #[spV S3 N L, edV ex5 none 0 0] W fun r w' => AppliedR W.heap.size S4 zeroB (ndOf S3 ex5) r w' ∧ Below W.heap.size W w') := fun W N L h => apply_yes h ex5 none 0 0 (Edi.Nm.nil _) a5
  have C6 : Hid (∀ W N L, SpIn W S4 N L → Calls Tryz.prog 14 #[spV S4 N L, .string ⟨#[47, 102]⟩] W fun e w' => (∃ M sx, W.heap.size ≤ M ∧ e = .returned (anV 0 zeroB noS (fN [⟨1, 1, 5⟩] 2, sx) 0) ∧ Free M w' (fN [⟨1, 1, 5⟩] 2, sx)) ∧ Below W.heap.size W w') := fun W N L h => stat_ok h pF (by decide) r4 1 _ i4
  generalize ndOf newS ex1 = d1 at *
  generalize ndOf S1 ex2 = d2 at *
  generalize ndOf S2 ex4 = d4 at *
  generalize ndOf S3 ex5 = d5 at *
  unfold edV ex1 at C1
  unfold edV ex2 at C2
  unfold edV ex3 at C3
  unfold edV ex4 at C4
  unfold edV ex5 at C5
  unfold pF at C1 C2 C3 C4 C5
  unfold spV at C2 C3 C4 C5 C6
  simp only at C1 C2 C3 C4 C5
  generalize S1 = s1 at *
  generalize S2 = s2 at *
  generalize S3 = s3 at *
  generalize S4 = s4 at *
  have hst := run_store_str
  have hst2 : ∀ (w : World) (a : Addr) (x : Option Addr) (n c : Nat) (m : Mode), (store a (.slice x n c) m).run Tryz.prog w = stored Tryz.prog w a (.slice x n c) m := fun w a x n c m => run_store_any w a _ m rfl
  go_enter Tryz.func5, Tryz.ntmps5
  go_wp2_with fail
  refine (new_val _).mono ?_
  rintro e w1 ⟨⟨N0, L0, p0, g0, gl0, b0, M0, _, rfl, hO0⟩, c1⟩
  have B1 : Hid (Below w.heap.size w w1) := c1
  have H1 : Hid (SpIn w1 newS N0 L0) := hO0.spIn
  clear c1 hO0
  go_wp2_with fail
  refine (C1.out _ N0 L0 H1.out).mono ?_
  rintro e w2 ⟨⟨N1, L1, p1, g1, gl1, b1, M1, x1, rfl, hO1, _, _, _⟩, c2⟩
  have B2 : Hid (Below w.heap.size w w2) := bel_tr B1.out c2
  have H2 : Hid (SpIn w2 s1 N1 L1) := hO1.spIn
  clear c2 hO1 H1 B1
  unfold spV anV zeroB noS
  simp only
  go_wp2_with fail
  refine (C2.out _ N1 L1 (H2.out.below (bel_tr (bel_al _ _) (bel_al _ _)))).mono ?_
  rintro e w3 ⟨⟨N2, L2, p2, g2, gl2, b2, M2, x2, rfl, hO2, _, _, _⟩, c3⟩
  obtain ⟨k1, k2, k3, k4, k5, k6⟩ := two_boxes c3
  have B3 : Hid (Below w.heap.size w w3) := bel_tr B2.out k5
  have H3 : Hid (SpIn w3 s2 N2 L2) := hO2.spIn
  have H2b : Hid (SpIn w3 s1 N1 L1) := H2.out.below k5
  have FA : Hid (w3.cell? ⟨w2.heap.size + 1, 0, none⟩ = some (.int .i64 0)) := k3 0 _ rfl
  have y0 := cell_al2 (k1 0 _ rfl)
  have y1 := cell_al2 (k1 1 _ rfl)
  have y2 := cell_al2 (k1 2 _ rfl)
  have y3 := cell_al2 (k1 3 _ rfl)
  have y4 := cell_al2 (k1 4 _ rfl)
  have y5 := cell_al2 (k1 5 _ rfl)
  clear c3 hO2 k1 k2 k3 k4 k5 k6 H2 B2
  unfold spV anV noS
  simp only
  go_wp2_with fail
  refine (C3.out _ N1 L1 (H2b.out.below (bel_tr (bel_al _ _) (bel_al _ _)))).mono ?_
  rintro e w4 ⟨rfl, c4⟩
  obtain ⟨k1, k2, k3, k4, k5, k6⟩ := two_boxes c4
  have B4 : Hid (Below w.heap.size w w4) := bel_tr B3.out k5
  have H4 : Hid (SpIn w4 s2 N2 L2) := H3.out.below k5
  have FA4 : Hid (w4.cell? ⟨w2.heap.size + 1, 0, none⟩ = some (.int .i64 0)) := bel_cell k5 FA.out
  have FB1 : Hid (w4.cell? ⟨w3.heap.size + 1, 1, none⟩ = some (.int .i64 1)) := k3 1 _ rfl
  have FB2 : Hid (w4.cell? ⟨w3.heap.size + 1, 2, none⟩ = some (.int .i64 1)) := k3 2 _ rfl
  have FB3 : Hid (w4.cell? ⟨w3.heap.size + 1, 3, none⟩ = some (.int .i64 0)) := k3 3 _ rfl
  clear y0 y1 y2 y3 y4 y5
  have y0 := cell_al2 (k1 0 _ rfl)
  have y1 := cell_al2 (k1 1 _ rfl)
  have y2 := cell_al2 (k1 2 _ rfl)
  have y3 := cell_al2 (k1 3 _ rfl)
  have y4 := cell_al2 (k1 4 _ rfl)
  have y5 := cell_al2 (k1 5 _ rfl)
  clear c4 k1 k2 k3 k4 k5 k6 H2b H3 B3 FA
  unfold anV noS zeroB zeroX zeroN noS zeroS
  simp only
  go_wp2_with fail
  refine (C4.out _ N2 L2 (some ⟨w4.heap.size + 1 + 1, 0, none⟩) 1 1 (H4.out.below (bel_tr (bel_tr (bel_al _ _) (bel_al _ _)) (bel_al _ _))) (nm5 _ _ _ _)).mono ?_
  rintro e w5 ⟨⟨N3, L3, p3, g3, gl3, b3, M3, x3, rfl, hO3, _, _, _⟩, c5⟩
  have c5b := bel_tr (bel_al _ _) c5
  obtain ⟨k1, k2, k3, k4, k5, k6⟩ := two_boxes c5b
  have B5 : Hid (Below w.heap.size w w5) := bel_tr B4.out k5
  have H5 : Hid (SpIn w5 s3 N3 L3) := hO3.spIn
  have FA5 : Hid (w5.cell? ⟨w2.heap.size + 1, 0, none⟩ = some (.int .i64 0)) := bel_cell k5 FA4.out
  have FB1b : Hid (w5.cell? ⟨w3.heap.size + 1, 1, none⟩ = some (.int .i64 1)) := bel_cell k5 FB1.out
  have FB2b : Hid (w5.cell? ⟨w3.heap.size + 1, 2, none⟩ = some (.int .i64 1)) := bel_cell k5 FB2.out
  have FB3b : Hid (w5.cell? ⟨w3.heap.size + 1, 3, none⟩ = some (.int .i64 0)) := bel_cell k5 FB3.out
  have FC : Hid (w5.cell? ⟨w4.heap.size + 1, 0, none⟩ = some (.int .i64 9)) := k3 0 _ rfl
  clear c5 c5b hO3 k1 k2 k3 k4 k5 k6 H4 B4 FA4 FB1 FB2 FB3 y0 y1 y2 y3 y4 y5
  unfold spV anV noS zeroB
  simp only
  go_wp2_with fail
  refine (C5.out _ N3 L3 (H5.out.below (bel_tr (bel_al _ _) (bel_al _ _)))).mono ?_
  rintro e w6 ⟨⟨N4, L4, p4, g4, gl4, b4, M4, x4, rfl, hO4, _, _, _⟩, c6⟩
  obtain ⟨k1, k2, k3, k4, k5, k6⟩ := two_boxes c6
  have B6 : Hid (Below w.heap.size w w6) := bel_tr B5.out k5
  have H6 : Hid (SpIn w6 s4 N4 L4) := hO4.spIn
  have FA6 : Hid (w6.cell? ⟨w2.heap.size + 1, 0, none⟩ = some (.int .i64 0)) := bel_cell k5 FA5.out
  have FB1 : Hid (w6.cell? ⟨w3.heap.size + 1, 1, none⟩ = some (.int .i64 1)) := bel_cell k5 FB1b.out
  have FB2 : Hid (w6.cell? ⟨w3.heap.size + 1, 2, none⟩ = some (.int .i64 1)) := bel_cell k5 FB2b.out
  have FB3 : Hid (w6.cell? ⟨w3.heap.size + 1, 3, none⟩ = some (.int .i64 0)) := bel_cell k5 FB3b.out
  have FC6 : Hid (w6.cell? ⟨w4.heap.size + 1, 0, none⟩ = some (.int .i64 9)) := bel_cell k5 FC.out
  have FD : Hid (w6.cell? ⟨w5.heap.size + 1, 0, none⟩ = some (.int .i64 0)) := k3 0 _ rfl
  clear c6 hO4 k1 k2 k3 k4 k5 k6 H5 B5 FA5 FB1b FB2b FB3b FC
  unfold spV anV noS zeroB
  simp only
  go_wp2_with fail
  refine (C6.out _ N4 L4 (H6.out.below (bel_tr (bel_al _ _) (bel_al _ _)))).mono ?_
  rintro e w7 ⟨⟨M7, sx, hM7, rfl, hF7⟩, c7⟩
  obtain ⟨k1, k2, k3, k4, k5, k6⟩ := two_boxes c7
  have B7 : Hid (Below w.heap.size w w7) := bel_tr B6.out k5
  have f1 := cell_al (bel_cell k5 FA6.out)
  have f2 := cell_al (bel_cell k5 FB1.out)
  have f3 := cell_al (bel_cell k5 FB2.out)
  have f4 := cell_al (bel_cell k5 FB3.out)
  have f5 := cell_al (bel_cell k5 FC6.out)
  have f6 := cell_al (bel_cell k5 FD.out)
  have f7a : w7.cell? ⟨w6.heap.size + 1, 0, none⟩ = some (.int .i64 0) := k3 0 _ rfl
  have f7 := cell_al f7a
  have hn : sx.n = 1 := hF7.ok.bs.len.symm
  obtain ⟨fb, foff, hsa, hce⟩ := hF7.ok.bs.cells (by show 0 < sx.n; omega)
  have f8a : w7.cell? ⟨fb, foff + 2, none⟩ = some (.int .i64 5) := hce 0 (Nat.zero_lt_one) 2 _ rfl
  have f8 := cell_al f8a
  clear c7 hF7 hce f7a f8a k1 k2 k3 k4 k5 k6 H6 B6 FA6 FB1 FB2 FB3 FC6 FD hM7
  obtain ⟨sa, sn, sc⟩ := sx
  simp only at hn hsa
  subst hn hsa
  unfold anV noS zeroB fN
  simp only
  go_wp2
  go_ret
  exact ⟨rfl, bel_tr B7.out (bel_al _ _)⟩

end Go.Proofs.YticiihjkgiookaaGreat.Spa

/- Two spaces that are the same, in whatever memory. -/
namespace Go.Proofs.YticiihjkgiookaaGreat.Spa
open Go.RowKit Go.Proofs.YticiihjkgiookaaGreat
open Go.Proofs.YticiihjkgiookaaGreat.Lea (LS Ls LL)

set_option maxRecDepth 100000 in
set_option maxHeartbeats 2000000 in
theorem sameN_val {r r2 : RS} {xs : NS} {w : World} (h : NL w r.a r.n xs) (h2 : NL w r2.a r2.n xs) :
    Calls Tryz.prog 29 #[.slice r.a r.n r.c, .slice r2.a r2.n r2.c] w fun e w' => e = .returned (.bool true) ∧ Below w.heap.size w w' := by
  obtain ⟨b, off, ps, hm, hl, hN⟩ := h.ex
  obtain ⟨b2, off2, ps2, hm2, hl2, hN2⟩ := h2.ex
  have hlid := h.lid
  unfold maxLen at hlid
  obtain ⟨a, n, c⟩ := r
  obtain ⟨a2, n2, c2⟩ := r2
  simp only at hl hl2 hN hN2 hlid
  obtain rfl : n2 = n := by omega
  have HN : Hid (Nds w a b off ps) := hN
  have HN2 : Hid (Nds w a2 b2 off2 ps2) := hN2
  have HP : Hid (ps.length = n2) := by rw [← hl, ← hm, List.length_map]; exact rfl
  have HP2 : Hid (ps2.length = n2) := by rw [← hl2, ← hm2, List.length_map]; exact rfl
  have HE : Hid (∀ i (hi : i < ps.length) (hi2 : i < ps2.length), ps2[i].1 = ps[i].1) := fun i hi hi2 => by
    have h1 : xs[i]? = some ps[i].1 := by rw [← hm, List.getElem?_map, List.getElem?_eq_getElem hi]; rfl
    have h3 : xs[i]? = some ps2[i].1 := by rw [← hm2, List.getElem?_map, List.getElem?_eq_getElem hi2]; rfl
    rw [h1] at h3
    exact (Option.some.inj h3).symm
  clear h h2 hm hm2 hl hl2 hN hN2
  have hst := run_store_str
  have hst2 : ∀ (w : World) (a : Addr) (x : Option Addr) (n c : Nat) (m : Mode), (store a (.slice x n c) m).run Tryz.prog w = stored Tryz.prog w a (.slice x n c) m := fun w a x n c m => run_store_any w a _ m rfl
  go_enter Tryz.func29, Tryz.ntmps29
  go_wp2
  go_loopg [5] n2 (fun g v wi => ∃ i : Nat, i + g = n2 ∧ v = .int .i64 i ∧ Below w.heap.size w wi)
  case atStart => exact ⟨0, by omega, rfl, Below.refl _ _⟩
  case round =>
    obtain ⟨i, hig, rfl, hb⟩ := hrel
    have HB : Hid (Below w.heap.size w wr) := hb
    by_cases hlt : i < n2
    · have hip : i < ps.length := by rw [HP.out]; exact hlt
      have hip2 : i < ps2.length := by rw [HP2.out]; exact hlt
      have hK := HN.out.below hb
      have hK2 := HN2.out.below hb
      have hok := hK.ok _ (List.getElem_mem hip)
      have hok2 := hK2.ok _ (List.getElem_mem hip2)
      obtain ⟨e0, e1, e2, e3, e4⟩ := hK.at hip
      obtain ⟨d0, d1, d2, d3, d4⟩ := hK2.at hip2
      obtain rfl := hK.addr (by omega)
      obtain rfl := hK2.addr (by omega)
      have hsame := HE.out i hip hip2
      rw [hsame] at d0 d1 d2 d4
      have hok2b : Blks wr ps2[i].2 ps[i].1.bs := hsame ▸ hok2.bs
      have HK1 : Hid (Blks wr ps[i].2 ps[i].1.bs) := hok.bs
      have HK2 : Hid (Blks wr ps2[i].2 ps[i].1.bs) := hok2b
      clear hsame hok hok2 hok2b hK hK2 hb
      generalize ps2[i].2 = y at *
      generalize ps[i] = x at *
      obtain ⟨⟨p, d, q, bs, wb⟩, ⟨sa, sn, sc⟩⟩ := x
      obtain ⟨ya, yn, yc⟩ := y
      simp only at e0 e1 e2 e3 e4 d0 d1 d2 d3 d4 HK1 HK2
      have hs := HK1.out.len
      have hy := HK2.out.len
      have hsl := HK1.out.lid
      unfold maxLen at hsl
      simp only at hs hy hsl
      obtain rfl : yn = sn := by omega
      have HS : Hid (bs.length = yn) := hs
      have f0 := cell_al d0
      have f1 := cell_al d1
      have f2 := cell_al d2
      have f3 := cell_al d3
      have f4 := cell_al d4
      clear hs hy d0 d1 d2 d3 d4 hip hip2
      go_wp2
      generalize hW : (wr.alloc (.cells #[.string p, .bool d, .int .i64 q, .slice sa yn sc, .int .i64 wb] 35)).alloc (.cells #[.string p, .bool d, .int .i64 q, .slice ya yn yc, .int .i64 wb] 35) = W at *
      obtain ⟨k1, k2, k3, k4, k5, k6⟩ := two_boxes (w2 := W) (by rw [← hW]; exact Below.refl _ _)
      have X3 : Hid (W.cell? ⟨wr.heap.size, 3, none⟩ = some (.slice sa yn sc)) := k1 3 _ rfl
      have Y3 : Hid (W.cell? ⟨wr.heap.size + 1, 3, none⟩ = some (.slice ya yn yc)) := k3 3 _ rfl
      have BW : Hid (Below wr.heap.size wr W) := k5
      clear k1 k2 k3 k4 k5 k6 hW f0 f1 f2 f3 f4 e0 e1 e2 e3 e4
      rename World => wo
      go_loopg [8] yn (fun g v wi => ∃ j : Nat, j + g = yn ∧ v = .int .i64 j ∧ Below wo.heap.size wo wi)
      case atStart => exact ⟨0, by omega, rfl, Below.refl _ _⟩
      case round =>
        obtain ⟨j, hjg, rfl, hbj⟩ := hrel
        have HBJ : Hid (Below wo.heap.size wo wr) := hbj
        have x3 := bel_cell hbj X3.out
        have y3 := bel_cell hbj Y3.out
        by_cases hj : j < yn
        · have hjb : j < bs.length := by rw [HS.out]; exact hj
          obtain ⟨c1, o1, ha1, hc1⟩ := (HK1.out.below (bel_tr BW.out hbj)).cells (by show 0 < yn; omega)
          obtain ⟨c2, o2, ha2, hc2⟩ := (HK2.out.below (bel_tr BW.out hbj)).cells (by show 0 < yn; omega)
          simp only at ha1 ha2
          subst ha1 ha2
          have b0 : wr.cell? ⟨c1, o1 + j * 3, none⟩ = some (.int .i64 bs[j].id) := hc1 j hjb 0 _ rfl
          have b1 := hc1 j hjb 1 _ rfl
          have b2 := hc1 j hjb 2 _ rfl
          have d0 : wr.cell? ⟨c2, o2 + j * 3, none⟩ = some (.int .i64 bs[j].id) := hc2 j hjb 0 _ rfl
          have d1 := hc2 j hjb 1 _ rfl
          have d2 := hc2 j hjb 2 _ rfl
          clear hc1 hc2 hbj
          generalize bs[j].id = m0 at *
          generalize bs[j].gen = m1 at *
          generalize bs[j].len = m2 at *
          clear hjb
          go_wp2
          go_quiet (fail)
          go_wp2
          go_roundg (yn - (j + 1))
          case measure => omega
          case rel => exact ⟨j + 1, by omega, by go_num, bel_tr HBJ.out (bel_drewN _ _)⟩
        · obtain rfl : j = yn := by omega
          have hgd : decide ((j : Int) < (j : Int)) = false := decide_eq_false (by omega)
          clear hbj
          go_wp2
          go_roundg (n2 - (i + 1))
          case measure => omega
          case rel => exact ⟨i + 1, by omega, by go_num, bel_tr HB.out (bel_tr BW.out HBJ.out)⟩
    · obtain rfl : i = n2 := by omega
      have hgd : decide ((i : Int) < (i : Int)) = false := decide_eq_false (by omega)
      clear hb hlt
      go_wp2
      go_ret
      exact ⟨rfl, HB.out⟩

set_option maxRecDepth 100000 in
set_option maxHeartbeats 2000000 in
theorem sameS_val {s : Sp} {N L N2 L2 : RS} {w : World} (h : SpIn w s N L) (h2 : SpIn w s N2 L2) :
    Calls Tryz.prog 13 #[spV s N L, spV s N2 L2] w fun e w' => e = .returned (.bool true) ∧ Below w.heap.size w w' := by
  have CN : Hid (∀ W, Below w.heap.size w W → Calls Tryz.prog 29 #[.slice N.a N.n N.c, .slice N2.a N2.n N2.c] W fun e w' => e = .returned (.bool true) ∧ Below W.heap.size W w') := fun W hb => sameN_val (h.nl.below hb) (h2.nl.below hb)
  have HL : Hid (LL w L.a L.n L.c s.ls) := h.ll
  have HL2 : Hid (LL w L2.a L2.n L2.c s.ls) := h2.ll
  have e1 := h.ll.len
  have e2 := h2.ll.len
  have hlid : L.n ≤ 9223372036854775807 := by have h3 := h.ll.room; have h4 := h.ll.lid; unfold maxLen at h4; omega
  clear h h2
  obtain ⟨tx, nb, ng, now, ns, ls⟩ := s
  obtain ⟨na, nn, nc⟩ := N
  obtain ⟨na2, nn2, nc2⟩ := N2
  obtain ⟨la, ln, lc⟩ := L
  obtain ⟨la2, ln2, lc2⟩ := L2
  simp only at e1 e2 hlid HL HL2 CN
  obtain rfl : ln2 = ln := by omega
  have HS : Hid (ls.length = ln2) := e1
  clear e1 e2
  unfold spV
  simp only
  have hst2 : ∀ (w : World) (a : Addr) (x : Option Addr) (n c : Nat) (m : Mode), (store a (.slice x n c) m).run Tryz.prog w = stored Tryz.prog w a (.slice x n c) m := fun w a x n c m => run_store_any w a _ m rfl
  go_enter Tryz.func13, Tryz.ntmps13
  go_wp2
  generalize hW : (w.alloc (.cells #[.int .i64 tx, .int .i64 nb, .int .i64 ng, .int .i64 now, .slice na nn nc, .slice la ln2 lc] 27)).alloc (.cells #[.int .i64 tx, .int .i64 nb, .int .i64 ng, .int .i64 now, .slice na2 nn2 nc2, .slice la2 ln2 lc2] 27) = W at *
  obtain ⟨k1, k2, k3, k4, k5, k6⟩ := two_boxes (w2 := W) (by rw [← hW]; exact Below.refl _ _)
  have X4 : Hid (W.cell? ⟨w.heap.size, 4, none⟩ = some (.slice na nn nc)) := k1 4 _ rfl
  have X5 : Hid (W.cell? ⟨w.heap.size, 5, none⟩ = some (.slice la ln2 lc)) := k1 5 _ rfl
  have Y4 : Hid (W.cell? ⟨w.heap.size + 1, 4, none⟩ = some (.slice na2 nn2 nc2)) := k3 4 _ rfl
  have Y5 : Hid (W.cell? ⟨w.heap.size + 1, 5, none⟩ = some (.slice la2 ln2 lc2)) := k3 5 _ rfl
  have BW : Hid (Below w.heap.size w W) := k5
  clear k1 k2 k3 k4 k5 k6 hW
  go_loopg [5] ln2 (fun g v wi => ∃ j : Nat, j + g = ln2 ∧ v = .int .i64 j ∧ Below W.heap.size W wi)
  case atStart => exact ⟨0, by omega, rfl, Below.refl _ _⟩
  case round =>
    obtain ⟨j, hjg, rfl, hbj⟩ := hrel
    have HBJ : Hid (Below W.heap.size W wr) := hbj
    have x4 := bel_cell hbj X4.out
    have x5 := bel_cell hbj X5.out
    have y4 := bel_cell hbj Y4.out
    have y5 := bel_cell hbj Y5.out
    by_cases hj : j < ln2
    · have hjb : j < ls.length := by rw [HS.out]; exact hj
      obtain ⟨c1, o1, ha1, hc1⟩ := (HL.out.below (bel_tr BW.out hbj)).at (by omega)
      obtain ⟨c2, o2, ha2, hc2⟩ := (HL2.out.below (bel_tr BW.out hbj)).at (by omega)
      subst ha1 ha2
      obtain ⟨b0, b1⟩ := hc1 j hjb
      obtain ⟨d0, d1⟩ := hc2 j hjb
      clear hc1 hc2 hbj
      generalize ls[j].c = m0 at *
      generalize ls[j].u = m1 at *
      clear hjb
      go_wp2
      go_quiet (fail)
      go_wp2
      go_roundg (ln2 - (j + 1))
      case measure => omega
      case rel => exact ⟨j + 1, by omega, by go_num, bel_tr HBJ.out (bel_drewN _ _)⟩
    · obtain rfl : j = ln2 := by omega
      have hgd : decide ((j : Int) < (j : Int)) = false := decide_eq_false (by omega)
      clear hbj
      go_wp2_with fail
      refine (CN.out _ (bel_tr BW.out HBJ.out)).mono ?_
      rintro e w6 ⟨rfl, c6⟩
      have B6 : Hid _ := c6
      clear c6
      go_wp2
      go_ret
      exact ⟨rfl, bel_tr BW.out (bel_tr HBJ.out B6.out)⟩
set_option maxRecDepth 100000 in
theorem same_val {s : Sp} {N L N2 L2 : RS} {w : World} (h : SpIn w s N L) (h2 : SpIn w s N2 L2) :
    Calls Tryz.prog 9 #[spV s N L, spV s N2 L2] w fun e w' => e = .returned (.bool true) ∧ Below w.heap.size w w' := by
  have CS : Hid (∀ W, Below w.heap.size w W → Calls Tryz.prog 13 #[spV s N L, spV s N2 L2] W fun e w' => e = .returned (.bool true) ∧ Below W.heap.size W w') := fun W hb => sameS_val (h.below hb) (h2.below hb)
  clear h h2
  unfold spV at *
  have hst2 : ∀ (w : World) (a : Addr) (x : Option Addr) (n c : Nat) (m : Mode), (store a (.slice x n c) m).run Tryz.prog w = stored Tryz.prog w a (.slice x n c) m := fun w a x n c m => run_store_any w a _ m rfl
  go_enter Tryz.func9, Tryz.ntmps9
  go_wp2_with fail
  refine (CS.out _ (bel_tr (bel_al _ _) (bel_al _ _))).mono ?_
  rintro e w1 ⟨rfl, c1⟩
  have B1 : Hid (Below w.heap.size w w1) := bel_tr (bel_tr (bel_al _ _) (bel_al _ _)) c1
  clear c1
  go_wp2
  go_ret
  exact ⟨rfl, B1.out⟩

end Go.Proofs.YticiihjkgiookaaGreat.Spa
