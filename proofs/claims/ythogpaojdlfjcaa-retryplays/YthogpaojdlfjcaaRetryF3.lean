/- The contract of retry.dropOldest. -/
import Derived.Test.YthogpaojdlfjcaaRetryF2
import Derived.Deep.RegionLaw
namespace Go.Proofs.Ythogpaojdlfjcaa.Rty
open Go.RowKit Go.Proofs.Ythogpaojdlfjcaa Go.Proofs.Ythogpaojdlfjcaa.Edi
set_option linter.unusedVariables false

theorem mkV_inj {x y : KV} (h : mkV x = mkV y) : x = y := by
  obtain ⟨b, e, i, g, l, a1, n1, c1, p, d, q, a2, n2, c2, wr, n, t⟩ := x
  obtain ⟨b', e', i', g', l', a1', n1', c1', p', d', q', a2', n2', c2', wr', n', t'⟩ := y
  unfold mkV at h
  simp at h
  simp only [KV.mk.injEq]
  grind

/-- What comes up in a loop over the map is one of the calls. -/
theorem came {D : DataW Value} {S : List Ent} (hT : Tells D S) (hg : Good S) {x : Int × Int} {c : KV} {l : Lit} {y1 : DataW Value} {y2 : List MemPlace} (hkey : keyOf Try.prog 61 (mkI x) = some l) (hv : rv (mkV c) = some (y1, y2)) (hat : ∀ z, D.atKey l z = y1) :
    ∃ e ∈ S, x = (e.ed.c, e.ed.l) ∧ c = kvE e ∧ l = kl e.ed.c e.ed.l := by
  obtain ⟨e, he, h1, rfl⟩ := hT.of hat
  refine ⟨e, he, ?_, mkV_inj (rv_held hv), h1.symm⟩
  have := lawI.inj (hkey.trans (by rw [← h1])) (keyI (hg.fit e he).1 (hg.fit e he).2)
  unfold mkI at this
  simp at this
  exact Prod.ext this.1 this.2

/-- delete, as one step of a region that draws. -/
theorem step_delete {P : Program} {ops : Array Oper} {o : Oper} {a : Act} {w : World} {K : Act → World → Prop} {Q : Exit → Act → World → Prop} {E : Prop}
    (hgd : o.guard = none) (m x : Operand) (t k : TypeId) (ho : o.op = Op.call { callee := Callee.builtin Builtin.delete, args := #[m, x], argTypes := #[t, k] })
    (e : TypeId) (KK : Maps.Keyed P k) (ht : P.underlying t = some (.map k e)) (R : Value → Option (DataW Value × List MemPlace)) (b n : Nat) (D : DataW Value)
    (hm : a.eval m = .map (some b)) (hown : w.ownsMap P k R b n D) (key : Value) (kl : Lit) (hx : a.eval x = key) (hkey : keyOf P k key = some kl)
    (hK : ∀ w', w'.ownsMap P k R b n (D.del kl) → w.mapTurned w' b → K (a.put o.dst (.tuple #[])) w') :
    if Region.wanted o (yielded ops a.tmps) = true then Oper.wp P o a w K Q else E := by
  have hw : Region.wanted o (yielded ops a.tmps) = true := by simp [Region.wanted, hgd]
  rw [if_pos hw]
  obtain ⟨w', hrun, r1, r2⟩ := hown.drop KK ht hkey o.type
  unfold Oper.wp
  simp [execOp, ho, resolve, invoke, builtin, hm, hx, hrun, Result.andThen]
  exact hK w' r1 r2

theorem grown_set (w : World) (a : Addr) (v : Value) : w.grownBy (w.setCell a v) (some a.block) :=
  ⟨rfl, rfl, rfl, by simp [World.setCell], fun k hk hn => Below.heap_setCell _ _ _ _ (fun e => hn (by rw [e]))⟩

/-- What has been found so far: the oldest of those that have come up. -/
structure Sofar (S : List Ent) (t : Nat) (left : Lit → Bool) (l : Nat) (o1 o2 : Int) : Prop where
  ex : ((∀ e ∈ S, left (kl e.ed.c e.ed.l) = true) ∧ l = t ∧ o1 = 0 ∧ o2 = 0) ∨ ∃ e ∈ S, e.ed.c = o1 ∧ e.ed.l = o2 ∧ e.t = l ∧ ∀ f ∈ S, left (kl f.ed.c f.ed.l) = false → l ≤ f.t

theorem left_kl {S : List Ent} (hg : Good S) {left : Lit → Bool} {e f : Ent} (he : e ∈ S) (hf : f ∈ S) (h : (left (kl f.ed.c f.ed.l) && !(kl f.ed.c f.ed.l).sameKey (kl e.ed.c e.ed.l)) = false) : left (kl f.ed.c f.ed.l) = false ∨ f = e := by
  cases h1 : left (kl f.ed.c f.ed.l) with
  | false => exact .inl rfl
  | true =>
    rw [h1] at h
    simp at h
    have := kl_inj (hg.fit f hf).1 (hg.fit f hf).2 (hg.fit e he).1 (hg.fit e he).2 (WideAt.sameKey_eq h)
    exact .inr (one_of hg hf he this)

theorem Sofar.less {S : List Ent} {t : Nat} {left : Lit → Bool} {l : Nat} {o1 o2 : Int} (h : Sofar S t left l o1 o2) (hg : Good S) (ht : ∀ e ∈ S, e.t ≤ t) {e : Ent} (he : e ∈ S) (hle : e.t ≤ l) : Sofar S t (fun z => left z && !z.sameKey (kl e.ed.c e.ed.l)) e.t e.ed.c e.ed.l := by
  refine ⟨.inr ⟨e, he, rfl, rfl, rfl, fun f hf hl => ?_⟩⟩
  rcases left_kl hg he hf hl with h1 | rfl
  · rcases h.ex with ⟨h2, _⟩ | ⟨_, _, _, _, _, h2⟩
    · rw [h2 f hf] at h1; cases h1
    · exact Nat.le_trans hle (h2 f hf h1)
  · exact Nat.le_refl _
theorem Sofar.more {S : List Ent} {t : Nat} {left : Lit → Bool} {l : Nat} {o1 o2 : Int} (h : Sofar S t left l o1 o2) (hg : Good S) (ht : ∀ e ∈ S, e.t ≤ t) {e : Ent} (he : e ∈ S) (hle : ¬ e.t ≤ l) : Sofar S t (fun z => left z && !z.sameKey (kl e.ed.c e.ed.l)) l o1 o2 := by
  rcases h.ex with ⟨_, h2, _⟩ | ⟨e0, h1, h2, h3, h4, h5⟩
  · rw [h2] at hle; exact absurd (ht e he) hle
  · refine ⟨.inr ⟨e0, h1, h2, h3, h4, fun f hf hl => ?_⟩⟩
    rcases left_kl hg he hf hl with h6 | rfl
    · exact h5 f hf h6
    · omega
theorem Sofar.done {e0 : Ent} {r : List Ent} {t : Nat} {left : Lit → Bool} {l : Nat} {o1 o2 : Int} (h : Sofar (e0 :: r) t left l o1 o2) (ho : (e0 :: r).Pairwise (fun a b => a.t < b.t)) (hl : ∀ z, left z = false) : o1 = e0.ed.c ∧ o2 = e0.ed.l := by
  rcases h.ex with ⟨h1, _⟩ | ⟨e, h1, h2, h3, h4, h5⟩
  · have := h1 e0 (List.mem_cons_self ..); rw [hl] at this; cases this
  · have h6 := h5 e0 (List.mem_cons_self ..) (hl _)
    rcases List.mem_cons.1 h1 with rfl | h7
    · exact ⟨h2.symm, h3.symm⟩
    · have := (List.pairwise_cons.1 ho).1 e h7
      omega
theorem first_gone {e0 : Ent} {r : List Ent} (hg : Good (e0 :: r)) : (e0 :: r).filter (fun e => !e.is e0.ed.c e0.ed.l) = r := by
  rw [List.filter_cons_of_neg (by simp [Ent.is])]
  apply List.filter_eq_self.2
  intro e he
  simp only [Bool.not_eq_true', Ent.is, decide_eq_false_iff_not]
  intro h
  exact (List.pairwise_cons.1 hg.apart).1 e he ⟨h.1.symm, h.2.symm⟩

/-- .. whatever else is new. -/
theorem CAt.rest {O : Nat → Prop} {w w' : World} {cb mb : Nat} {S S' : List Ent} {t : Nat} {D' : DataW Value} (h : CAt O w cb mb S t) (hst : Stay (fun k => k = mb) w w') {n : Nat} (ho : w'.ownsMap Try.prog 61 rv mb n D') (hT : Tells D' S') (hsub : S'.Sublist S) : CAt O w' cb mb S' t ∧ Stay O w w' := by
  have hb : ∀ k, O k → k ≠ mb → w'.heap[k]? = w.heap[k]? := fun k hk hn => hst.block k (h.lt k hk) hn
  refine ⟨{ h with lt := fun k hk => Nat.lt_of_lt_of_le (h.lt k hk) hst.size, c0 := (World.cell?_of_block (a := ⟨cb, 0, none⟩) (hb cb h.oC h.ne)).trans h.c0, c1 := (World.cell?_of_block (a := ⟨cb, 1, none⟩) (hb cb h.oC h.ne)).trans h.c1, f1 := (World.frozen?_of_block (a := ⟨cb, 1, none⟩) (hb cb h.oC h.ne)).trans h.f1, own := ⟨D', ?_, hT⟩, good := ⟨h.good.apart.sublist hsub, fun e he => h.good.rt e (hsub.subset he)⟩, most := Nat.le_trans hsub.length_le h.most, old := h.old.sublist hsub, top := fun e he => h.top e (hsub.subset he), rows := fun e he => (h.rows e (hsub.subset he)).stay hst (fun k hk => hk.2.2) }, hst.mono (fun k hk => hk ▸ h.oM)⟩
  have := ownsMap_tight ho
  rwa [hT.size] at this

/-- The map's block alone is written, and the calls are others, of those that were there. -/
theorem CAt.turn {O : Nat → Prop} {w w' : World} {cb mb : Nat} {S S' : List Ent} {t : Nat} {D' : DataW Value} (h : CAt O w cb mb S t) (ht : w.mapTurned w' mb) {n : Nat} (ho : w'.ownsMap Try.prog 61 rv mb n D') (hT : Tells D' S') (hsub : S'.Sublist S) : CAt O w' cb mb S' t ∧ Stay O w w' := by
  have hgr := ht.grown
  have hst : Stay (fun k => k = mb) w w' := Stay.of_grown hgr (fun k hk => by cases hk; rfl)
  have hb : ∀ k, O k → k ≠ mb → w'.heap[k]? = w.heap[k]? := fun k hk hn => hst.block k (h.lt k hk) hn
  refine ⟨{ h with lt := fun k hk => Nat.lt_of_lt_of_le (h.lt k hk) hst.size, c0 := (World.cell?_of_block (a := ⟨cb, 0, none⟩) (hb cb h.oC h.ne)).trans h.c0, c1 := (World.cell?_of_block (a := ⟨cb, 1, none⟩) (hb cb h.oC h.ne)).trans h.c1, f1 := (World.frozen?_of_block (a := ⟨cb, 1, none⟩) (hb cb h.oC h.ne)).trans h.f1, own := ⟨D', ?_, hT⟩, good := ⟨h.good.apart.sublist hsub, fun e he => h.good.rt e (hsub.subset he)⟩, most := Nat.le_trans hsub.length_le h.most, old := h.old.sublist hsub, top := fun e he => h.top e (hsub.subset he), rows := fun e he => (h.rows e (hsub.subset he)).stay hst (fun k hk => hk.2.2) }, hst.mono (fun k hk => hk ▸ h.oM)⟩
  have := ownsMap_tight ho
  rwa [hT.size] at this

set_option maxRecDepth 100000 in
set_option maxHeartbeats 8000000 in
theorem dropOldest_val {O : Nat → Prop} {w : World} {cb mb : Nat} {e0 : Ent} {r : List Ent} {t : Nat} (h : CAt O w cb mb (e0 :: r) t) (ht : t ≤ 1000000) :
    Calls Try.prog 17 #[.pointer (some ⟨cb, 0, none⟩)] w fun e w' => e = .returned (.tuple #[]) ∧ CAt O w' cb mb r t ∧ Stay O w w' := by
  obtain ⟨D, ho, hT⟩ := h.own
  have HH : Hid (CAt O w cb mb (e0 :: r) t) := h
  have HT : Hid (Tells D (e0 :: r)) := hT
  have HO : Hid (w.ownsMap Try.prog 61 rv mb (e0 :: r).length D) := ho
  have c0 := h.c0
  have c1 := h.c1
  have c0' : ∀ o, (w.alloc o).cell? ⟨cb, 0, none⟩ = some (.map (some mb)) := fun o => bel_cell (bel_al w o) c0
  have c1' : ∀ o, (w.alloc o).cell? ⟨cb, 1, none⟩ = some (.int .i64 (t : Int)) := fun o => bel_cell (bel_al w o) c1
  have HC : Hid (w.cell? ⟨cb, 0, none⟩ = some (.map (some mb))) := c0
  clear h hT ho c0 c1
  generalize hS : e0 :: r = S at *
  have HS : Hid (e0 :: r = S) := hS
  clear hS
  go_enter Try.func17, Try.ntmps17
  go_wp2_with (at_range; refine wpList_range_own _ rfl _ 55 rfl 61 63 lawI Try.underlying55 rv mb _ D rfl (HO.out.alloc _) ?_; intro w0 hrg0 hg0 hs0)
  have e1 : (w.alloc (.cells #[.int .i64 0, .int .i64 0] 61)).heap.size = w.heap.size + 1 := by simp
  rw [e1] at hrg0 ⊢
  have K0 : Hid (Cells w0 w.heap.size [.int .i64 0, .int .i64 0]) := (Cells.new w 61 [.int .i64 0, .int .i64 0]).stay (O := fun _ => False) (Stay.of_grown hg0 (fun k hk => by cases hk)) id
  have B0 : Hid (Below w.heap.size w w0) := bel_tr (bel_al w (.cells #[.int .i64 0, .int .i64 0] 61)) ⟨hg0.os, hg0.tape, hg0.output, hg0.size, fun k hk => hg0.block k hk (by simp)⟩
  have R0 : Hid (w0.ranges Try.prog 61 rv mb (w.heap.size + 1) S.length D (Maps.has D) (Maps.size D)) := hrg0
  have S0 : Hid (Sofar S t (Maps.has D) t 0 0) := ⟨.inl ⟨fun e he => by rw [HT.out.has HH.out.good (HH.out.good.fit e he).1 (HH.out.good.fit e he).2, look_of HH.out.good he]; rfl, rfl, rfl, rfl⟩⟩
  clear hrg0 hg0 hs0 e1 c0' c1'
  go_frame
  go_loopw [3] (fun v3 wr => ∃ (l : Nat) (o1 o2 : Int) (left : Lit → Bool) (cnt : Nat), v3 = .int .i64 (l : Int) ∧ l ≤ 1000000 ∧ wr.ranges Try.prog 61 rv mb (w.heap.size + 1) S.length D left cnt ∧ Cells wr w.heap.size [.int .i64 o1, .int .i64 o2] ∧ Below w.heap.size w wr ∧ Sofar S t left l o1 o2) (fun _ wr => wr.rangeLeft mb (w.heap.size + 1))
  case atStart => exact ⟨t, 0, 0, _, _, rfl, ht, R0.out, K0.out, B0.out, S0.out⟩
  case round =>
    obtain ⟨l, o1, o2, left, cnt, rfl, hl6, hrg, hK, hb, hso⟩ := hrel
    clear R0 K0 B0 S0
    go_wp2_with (at_next; refine wpList_next_ranges _ rfl _ rfl 61 lawI rv mkI mkV invI invV_rv mb (w.heap.size + 1) _ _ left cnt rfl hrg ?_ ?_)
    · intro _ hl0
      have hs := HS.out
      subst hs
      obtain ⟨rfl, rfl⟩ := hso.done HH.out.old hl0
      have hO := hrg.owns
      have HB : Hid (Below w.heap.size w wr) := hb
      have c0 := bel_cell hb HC.out
      have q0 := hK.val 0 _ rfl
      have q1 := hK.val 1 _ rfl
      have hmem : e0 ∈ e0 :: r := List.mem_cons_self ..
      have hkey := keyI (HH.out.good.fit e0 hmem).1 (HH.out.good.fit e0 hmem).2
      have HT' : Hid (Tells (D.del (Rty.kl e0.ed.c e0.ed.l)) r) := by
        have := HT.out.del HH.out.good (HH.out.good.fit e0 hmem).1 (HH.out.good.fit e0 hmem).2
        rw [first_gone HH.out.good] at this
        exact this
      have HO' : Hid (∀ W, Below wr.heap.size wr W → W.ownsMap Try.prog 61 rv mb (e0 :: r).length D) := fun W hb => by
        obtain ⟨es, clock, h1, h2⟩ := hO
        exact ⟨es, clock, (hb.block mb (Array.getElem?_eq_some_iff.1 h1).1).trans h1, h2⟩
      clear hrg hl0 hso hK hb hmem hO
      generalize e0.ed.c = kc at *
      generalize e0.ed.l = kk at *
      go_wp2
      go_region_law (refine step_delete rfl (.tmp 30) (.tmp 31) 55 61 rfl 63 lawI Try.underlying55 rv mb _ D (by simp [Act.eval]) (HO'.out _ (by first | exact bel_drew _ | exact bel_tr (bel_drew _) (bel_drew _))) _ _ (by simp [Act.eval]) hkey ?_; intro w2 ho2 ht2)
      all_goals
        refine bodyPost_end (results_none rfl _ _ _) rfl ?_
        have hA : CAt O wr.drew cb mb (e0 :: r) t := HH.out.stay (O2 := fun k => w.heap.size ≤ k) (Stay.of_below (HB.out.trans ((bel_drew wr).mono HB.out.size))) (fun k hk => by have := HH.out.lt k hk; omega)
        have hZ := hA.turn ht2 ho2 HT'.out (List.sublist_cons_self ..)
        exact ⟨rfl, hZ.1, (Stay.of_below (HB.out.trans ((bel_drew wr).mono HB.out.size))).then_same hZ.2⟩
    · intro x1 x2 c kl y1 y2 w1 cnt1 hkey hlx hv hat hrg1 hlt hg1 hs1 hen
      obtain ⟨e, he, hx, hc, rfl⟩ := came (x := (x1, x2)) HT.out HH.out.good hkey hv hat
      have hte : c.t = (e.t : Int) := by rw [hc]; rfl
      have het : e.t ≤ 1000000 := Nat.le_trans (HH.out.top e he) ht
      have HX : Hid ((x1, x2) = (e.ed.c, e.ed.l)) := hx
      have HR1 : Hid (w1.ranges Try.prog 61 rv mb (w.heap.size + 1) S.length D (fun z => left z && !z.sameKey (Rty.kl e.ed.c e.ed.l)) cnt1) := hrg1
      have HLT : Hid (∀ o o2, ((w1.alloc o).alloc o2).rangeLeft mb (w.heap.size + 1) < wr.rangeLeft mb (w.heap.size + 1)) := fun o o2 => by rw [((hrg1.alloc o).alloc o2).left_eq, hrg.left_eq]; exact hlt
      have HK1 : Hid (Cells w1 w.heap.size [.int .i64 o1, .int .i64 o2]) := hK.stay (O := fun k => k = w.heap.size + 1) (Stay.of_grown hg1 (fun k hk => by cases hk; rfl)) (by omega)
      have HB1 : Hid (Below w.heap.size w w1) := hb.trans ⟨hg1.os, hg1.tape, hg1.output, hg1.size, fun k hk => hg1.block k (Nat.lt_of_lt_of_le hk hb.size) (by simp; omega)⟩
      have HSO : Hid (Sofar S t left l o1 o2) := hso
      have HE : Hid (e ∈ S) := he
      obtain ⟨xb, xe, xi, xg, xl, a1, n1, c1, xp, xd, xq, a2, n2, c2, xwr, xn, xt⟩ := c
      simp only at hte
      subst hte
      have hk0 := (((HK1.out.below (bel_al w1 (.cells #[.int .i64 x1, .int .i64 x2] 61))).below (bel_al _ (.cells #[.string xb, .int .i64 xe, .int .i64 xi, .int .i64 xg, .int .i64 xl, .slice a1 n1 c1, .string xp, .bool xd, .int .i64 xq, .slice a2 n2 c2, .int .i64 xwr, .int .i64 xn, .int .i64 (e.t : Int)] 63))))
      have HK2 : Hid _ := hk0
      clear hrg1 hrg hlt hg1 hs1 hK hb hso hkey hlx hv hat hx hc he hk0
      unfold mkI mkV at hen ⊢
      simp only at hen ⊢
      have sz1 : w1.heap.size ≠ w.heap.size := by have := HK1.out.lt; omega
      have HT1 : Hid (e.t ≤ 1000000) := het
      by_cases hle : e.t ≤ l
      · have hleb : decide ((e.t : Int) ≤ (l : Int)) = true := decide_eq_true (by omega)
        have q0 := HK2.out.val 0 _ rfl
        have q1 := HK2.out.val 1 _ rfl
        have g0 := HK2.out.fr 0
        have g1 := HK2.out.fr 1
        have HLE : Hid (e.t ≤ l) := hle
        clear hle
        have hMN : Hid (mb ≠ w.heap.size) := by have := HH.out.lt mb HH.out.oM; show mb ≠ w.heap.size; omega
        have HBB : Hid (∀ o o2, Below w.heap.size w ((w1.alloc o).alloc o2)) := fun o o2 => bel_tr (bel_tr HB1.out (bel_al _ _)) (bel_al _ _)
        have HW : Hid (∀ W, Below w.heap.size w W → Cells W w.heap.size [.int .i64 o1, .int .i64 o2] → Cells ((W.setCell ⟨w.heap.size, 0, none⟩ (.int .i64 x1)).setCell ⟨w.heap.size, 1, none⟩ (.int .i64 x2)) w.heap.size [.int .i64 x1, .int .i64 x2]) := fun W _ hc => (hc.set 0 _ (by simp)).set 1 _ (by simp)
        go_wp2
        go_region
        all_goals
          go_roundw
          case rel =>
            refine ⟨_, _, _, _, _, _, _, _, _, _, _, _, _, _, _, ⟨e.t, x1, x2, (fun z => left z && !z.sameKey (Rty.kl e.ed.c e.ed.l)), cnt1, rfl, HT1.out, ?_, ?_, ?_, ?_⟩, rfl⟩
            · have hh := (((HR1.out.alloc (.cells #[.int .i64 x1, .int .i64 x2] 61)).alloc (.cells #[.string xb, .int .i64 xe, .int .i64 xi, .int .i64 xg, .int .i64 xl, .slice a1 n1 c1, .string xp, .bool xd, .int .i64 xq, .slice a2 n2 c2, .int .i64 xwr, .int .i64 xn, .int .i64 (e.t : Int)] 63)).kept (grown_set _ ⟨w.heap.size, 0, none⟩ (.int .i64 x1)) (by simpa using hMN.out) (by simp)).kept (grown_set _ ⟨w.heap.size, 1, none⟩ (.int .i64 x2)) (by simpa using hMN.out) (by simp)
              exact hh
            · exact (HW.out _ (HBB.out _ _) HK2.out).below (bel_drew _)
            · exact bel_tr (((HBB.out _ _).setCell (p := ⟨w.heap.size, 0, none⟩) (Nat.le_refl _) _).setCell (p := ⟨w.heap.size, 1, none⟩) (Nat.le_refl _) _) (bel_drew _)
            · rw [show x1 = e.ed.c from congrArg Prod.fst HX.out, show x2 = e.ed.l from congrArg Prod.snd HX.out]
              exact HSO.out.less HH.out.good HH.out.top HE.out HLE.out
          case measure =>
            have h1 := ((((HR1.out.alloc (.cells #[.int .i64 x1, .int .i64 x2] 61)).alloc (.cells #[.string xb, .int .i64 xe, .int .i64 xi, .int .i64 xg, .int .i64 xl, .slice a1 n1 c1, .string xp, .bool xd, .int .i64 xq, .slice a2 n2 c2, .int .i64 xwr, .int .i64 xn, .int .i64 (e.t : Int)] 63)).kept (grown_set _ ⟨w.heap.size, 0, none⟩ (.int .i64 x1)) (by simpa using hMN.out) (by simp)).kept (grown_set _ ⟨w.heap.size, 1, none⟩ (.int .i64 x2)) (by simpa using hMN.out) (by simp)).left_eq
            have h2 := HLT.out (.cells #[.int .i64 x1, .int .i64 x2] 61) (.cells #[.string xb, .int .i64 xe, .int .i64 xi, .int .i64 xg, .int .i64 xl, .slice a1 n1 c1, .string xp, .bool xd, .int .i64 xq, .slice a2 n2 c2, .int .i64 xwr, .int .i64 xn, .int .i64 (e.t : Int)] 63)
            rw [((HR1.out.alloc _).alloc _).left_eq, ← h1] at h2
            exact h2
      · have hleb : decide ((e.t : Int) ≤ (l : Int)) = false := decide_eq_false (by omega)
        have HLE : Hid (¬ e.t ≤ l) := hle
        clear hle
        go_wp2
        go_roundw
        case rel => exact ⟨l, o1, o2, _, cnt1, rfl, hl6, (HR1.out.alloc _).alloc _, HK2.out, bel_tr (bel_tr HB1.out (bel_al _ _)) (bel_al _ _), HSO.out.more HH.out.good HH.out.top HE.out HLE.out⟩
        case measure => exact HLT.out _ _

end Go.Proofs.Ythogpaojdlfjcaa.Rty
