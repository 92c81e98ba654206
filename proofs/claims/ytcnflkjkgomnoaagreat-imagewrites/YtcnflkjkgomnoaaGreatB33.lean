/- Part 33 of the proof: ImageF7, ImageG3, ImageG4. -/
import Derived.Test.YtcnflkjkgomnoaaGreatB27
import Derived.Test.YtcnflkjkgomnoaaGreatB28
import Derived.Test.YtcnflkjkgomnoaaGreatB32
set_option maxRecDepth 100000
set_option maxHeartbeats 8000000
namespace Go.Proofs.YtcnflkjkgomnoaaGreat.Img
open Go.RowKit Go.Proofs.YtcnflkjkgomnoaaGreat Go.Proofs.YtcnflkjkgomnoaaGreat.Smm
open Go.Proofs.YtcnflkjkgomnoaaGreat.Lea (LS Ls LL LO lsRow lsC src_ls1 bel_al2)
open Go.Proofs.YtcnflkjkgomnoaaGreat.Edi (bel_tr bel_al bel_cell)
structure AllL (base : Nat) (ps : List ByteArray) (n : Nat) (e : Ending) (w' : World) : Prop where
  ex : (∃ (xs : LS) (a : Option Addr) (c : Nat) (g : Option Nat), e = .returned (.tuple #[.slice a n c, .bool true]) ∧ LO base w' a n c xs g ∧ ps = xs.map leaseP ∧ ∀ x ∈ xs, FitL x) ∨ (e = .returned (.tuple #[.slice none 0 0, .bool false]) ∧ ∀ xs : LS, (∀ x ∈ xs, FitL x) → ps ≠ xs.map leaseP)
theorem readLeases_val {a : Option Addr} {b off n c : Nat} {ps : List ByteArray} {w : World} (h : Strs w a b off ps) (hn : ps.length = n) (hk : n ≤ 1000000000) (hsm : ∀ p ∈ ps, p.size ≤ maxLen) :
    Calls Tryz.prog 77 #[.slice a n c, .func (.func 78) #[] #[]] w fun e w' => AllL w.heap.size ps n e w' ∧ Below w.heap.size w w' := by
  obtain ⟨ti, hi1, hi2, hi3, hi4⟩ := lsRow
  have HS : Hid (Strs w a b off ps) := h
  have HN : Hid (ps.length = n) := hn
  have HM : Hid (∀ p ∈ ps, p.size ≤ maxLen) := hsm
  clear h hn hsm; go_enter Tryz.func77, Tryz.ntmps77; go_wp2; go_loopw [6, 13] (fun v6 v13 wr => ∃ (i : Nat) (fa : Option Addr) (fc : Nat) (xs : LS) (g : Option Nat), i ≤ n ∧ v13 = .int .i64 i ∧ v6 = .slice fa i fc ∧ LO w.heap.size wr fa i fc xs g ∧ ps.take i = xs.map leaseP ∧ (∀ x ∈ xs, FitL x) ∧ Below w.heap.size w wr) (fun _ v13 _ => n - (intOf v13).toNat)
  case atStart => exact ⟨0, none, 0, [], none, by omega, rfl, rfl, LO.none _ _, by simp, fun x hx => (by cases hx), Below.refl _ _⟩
  case round =>
    obtain ⟨i, fa, fc, xs, g, hi, rfl, rfl, hO, hx, hf, hb⟩ := hrel
    have HB : Hid (Below w.heap.size w wr) := hb
    have HO : Hid (LO w.heap.size wr fa i fc xs g) := hO
    have HX : Hid (ps.take i = xs.map leaseP) := hx
    have HF : Hid (∀ x ∈ xs, FitL x) := hf
    clear hO hx hf; by_cases hlt : i < n
    · have hip : i < ps.length := by rw [HN.out]; exact hlt
      obtain rfl := HS.out.addr (by omega)
      have hcell : wr.cell? ⟨b, off + i, none⟩ = some (.string ps[i]) := (hb.cell (p := ⟨b, off + i, none⟩) (HS.out.lt (by omega))).trans (HS.out.cell i hip)
      have HT : Hid (ps.take (i + 1) = ps.take i ++ [ps[i]]) := List.take_succ_eq_append_getElem hip
      have HG : Hid (ps[i] ∈ ps) := List.getElem_mem hip
      have HGE : Hid (ps[i]? = some ps[i]) := List.getElem?_eq_getElem hip
      generalize ps[i] = p at *
      clear hb hip; go_wp2_with fail
      refine (readLease_val p _ (HM.out p HG.out)).mono ?_
      rintro e w1 ⟨⟨cc, uu, v, rfl, hy, hno⟩, b1⟩; have B1 : Hid (Below wr.heap.size wr w1) := b1
      have HY : Hid (v = true → p = leaseP ⟨cc, uu⟩ ∧ FitL ⟨cc, uu⟩) := hy
      have HNO : Hid (v = false → ∀ l, FitL l → p ≠ leaseP l) := hno
      clear b1 hy hno hcell; cases v with
      | false =>
        have HN2 : Hid (∀ l, FitL l → p ≠ leaseP l) := HNO.out rfl
        clear HNO; go_wp2; go_ret2; refine ⟨⟨.inr ⟨rfl, fun ys hys e => ?_⟩⟩, bel_tr HB.out (bel_tr B1.out (bel_al _ _))⟩
        have h1 := HGE.out
        rw [e, List.getElem?_map] at h1
        cases hq : ys[i]? with
        | none => rw [hq] at h1; cases h1
        | some y =>
          rw [hq] at h1
          exact HN2.out y (hys y (List.mem_of_getElem? hq)) (Option.some.inj h1).symm
      | true =>
        obtain ⟨hp1, hp2⟩ := HY.out rfl
        have HP1 : Hid (p = leaseP ⟨cc, uu⟩) := hp1
        have HP2 : Hid (FitL ⟨cc, uu⟩) := hp2
        clear hp1 hp2; go_wp2_with (at_builtin; refine wpList_append_cel _ rfl _ _ 25 25 rfl 69 ti _ 2 16 Tryz.underlying25 hi1 hi2 hi3 hi4 rfl (O := fun k => w.heap.size ≤ k) _ i _ g rfl ((HO.out.below B1.out).below (bel_al2 _ _ _)).cel _ 1 (rowC lsC [(⟨cc, uu⟩ : Ls)]) rfl (src_ls1 w1 _ ⟨cc, uu⟩) (by unfold maxLen; omega) (by omega) ?_; intro a2 c2 w2 g2 hC2 hS2 hg2; have A2 : Hid _ := ((HO.out.below B1.out).below (bel_al2 _ _ _)).app (ys := [(⟨cc, uu⟩ : Ls)]) rfl hC2 (by have := HB.out.size; have := B1.out.size; simp; omega); have B2 : Hid _ := ((HO.out.below B1.out).below (bel_al2 _ _ _)).appBelow hS2 (by have := HB.out.size; have := B1.out.size; simp; omega); clear hC2 hS2 hg2)
        go_roundw
        case rel => exact ⟨i + 1, a2, c2, xs ++ [⟨cc, uu⟩], g2, by omega, by go_num, rfl, A2.out, by rw [HT.out, HX.out, HP1.out, List.map_append]; rfl, fun x hx => (List.mem_append.1 hx).elim (HF.out x) (fun e => by rw [List.mem_singleton.1 e]; exact HP2.out), (bel_tr HB.out (bel_tr B1.out (bel_al2 _ _ _))).trans B2.out⟩
        case measure => simp [intOf]; omega
    · obtain rfl : i = n := by omega
      have hgd : decide ((i : Int) < (i : Int)) = false := decide_eq_false (by omega)
      have HXX : Hid (ps = xs.map leaseP) := by rw [← HX.out, ← HN.out, List.take_length]; exact rfl
      clear hb hlt; go_wp2; go_ret2; exact ⟨⟨.inl ⟨xs, fa, fc, g, rfl, HO.out, HXX.out, HF.out⟩⟩, HB.out⟩
open Go.Proofs.YtcnflkjkgomnoaaGreat.Spa (Sp RtS zeroS newS spV SpIn SpC put6 put6_at put6_def noS bel_put6)
open Go.Proofs.YtcnflkjkgomnoaaGreat.Lea (LS Ls LL LO)
open Go.Proofs.YtcnflkjkgomnoaaGreat.Edi (bel_tr bel_al bel_cell bel_drew)
theorem lx_nil {base : Nat} {w : World} {a : Option Addr} {n c : Nat} {xs : NS} (h : LX base w a n c xs) : a = none → c = 0 := by
  obtain ⟨ps, g, _, hL⟩ := h.ex
  intro ha
  cases hL.cel with
  | nil h1 h2 h3 => cases h1; rfl
  | row g cap h1 hl h2 h3 h4 h5 h6 h7 => cases h1; cases ha
theorem lx_keep {O : Nat → Prop} {base : Nat} {w w' : World} {a : Option Addr} {n c : Nat} {xs : NS} (h : LX base w a n c xs) (hs : Stay O w w') (hO : ∀ k, O k → k < base) : LX base w' a n c xs := by
  obtain ⟨ps, g, h1, hL⟩ := h.ex
  refine ⟨ps, g, h1, hL.stay hs.size (fun k hk => ?_) (fun x hx k hk => ?_)⟩
  · have hc := hL.cel
    rw [hk] at hc
    exact hs.block k hc.lt.1 (fun e => by have := hO k e; have := hc.lt.2; omega)
  · exact hs.block k ((hL.ok x hx).ok.bs.lt k hk) (fun e => by have := hO k e; have := (hL.ok x hx).blk_ge k hk; omega)
theorem lo_keep {O : Nat → Prop} {base : Nat} {w w' : World} {a : Option Addr} {n c : Nat} {xs : LS} {g : Option Nat} (h : LO base w a n c xs g) (hs : Stay O w w') (hO : ∀ k, O k → k < base) : LO base w' a n c xs g :=
  ⟨h.cel.stay hs.size (fun k hk => hs.block k (h.own k hk).1 (fun e => by have := hO k e; have := (h.own k hk).2; omega)) (fun _ e => e), h.len⟩
structure SpOwn (base : Nat) (w : World) (s : Sp) (N L : RS) : Prop where
  lx : LX base w N.a N.n N.c s.ns
  lo : ∃ g, LO base w L.a L.n L.c s.ls g
theorem SpOwn.spIn {base : Nat} {w : World} {s : Sp} {N L : RS} (h : SpOwn base w s N L) : SpIn w s N L := by
  obtain ⟨g, hg⟩ := h.lo
  exact ⟨h.lx.nl, hg.ll, lx_nil h.lx⟩
theorem SpOwn.keep {O : Nat → Prop} {base : Nat} {w w' : World} {s : Sp} {N L : RS} (h : SpOwn base w s N L) (hs : Stay O w w') (hO : ∀ k, O k → k < base) : SpOwn base w' s N L :=
  ⟨lx_keep h.lx hs hO, h.lo.elim fun g hg => ⟨g, lo_keep hg hs hO⟩⟩
theorem SpOwn.below {base : Nat} {w w' : World} {s : Sp} {N L : RS} (h : SpOwn base w s N L) (hb : Below w.heap.size w w') : SpOwn base w' s N L :=
  ⟨h.lx.below hb, h.lo.elim fun g hg => ⟨g, hg.below hb⟩⟩
theorem SpOwn.mono {b1 b2 : Nat} {w : World} {s : Sp} {N L : RS} (h : SpOwn b1 w s N L) (hb : b2 ≤ b1) : SpOwn b2 w s N L :=
  ⟨h.lx.mono hb, h.lo.elim fun g hg => ⟨g, hg.mono hb⟩⟩
structure ReadR (base : Nat) (ps : List ByteArray) (e : Ending) (w' : World) : Prop where
  ex : ∃ (s : Sp) (N L : RS) (v : Bool), e = .returned (.tuple #[spV s N L, .bool v]) ∧ SpOwn base w' s N L ∧ (v = true → ps = partsS s ∧ FitS s) ∧ (v = false → ∀ t, FitS t → ps ≠ partsS t)
theorem spOwn_no (base : Nat) (w : World) (z0 z1 z2 z3 : Int) : SpOwn base w ⟨z0, z1, z2, z3, [], []⟩ noS noS := ⟨LX.no base w, ⟨none, LO.none base w⟩⟩
theorem read_head {p : ByteArray} {qs : List ByteArray} {zs : List Int} (h6 : zs.length = 6) (hp : p = headL zs) {t : Sp} (e : p :: qs = partsS t) : headZ t = zs ∧ qs = t.ns.map nodeP ++ t.ls.map leaseP := by
  unfold partsS at e; simp only [List.cons.injEq] at e
  refine ⟨?_, e.2⟩
  exact (headL_inj (a := headZ t) (b := zs) (r := []) (r' := []) (by rw [h6]; rfl) (by rw [← e.1, hp])).1
theorem read_none {a : Option Addr} {c : Nat} {w : World} :
    Calls Tryz.prog 35 #[.slice a 0 c] w fun e w' => ReadR w.heap.size [] e w' ∧ Below w.heap.size w w' := by
  have HI : Hid (∀ W, ReadR w.heap.size [] (.returned (.tuple #[spV zeroS noS noS, .bool false])) W) := fun W => ⟨zeroS, noS, noS, false, rfl, spOwn_no _ W 0 0 0 0, fun e => (by cases e), fun _ t _ e => by unfold partsS at e; cases e⟩
  have hst2 := sto2
  go_enter Tryz.func35, Tryz.ntmps35; go_wp2; obtain ⟨q0, q1, q2, q3, q4, q5, _⟩ := SpC.new w 27 zeroS noS noS
  simp only [zeroS, noS] at q0 q1 q2 q3 q4 q5
  refine bodyPost_ret (v := .tuple #[spV zeroS noS noS, .bool false]) ?_ rfl ⟨HI.out _, bel_al _ _⟩
  unfold spV zeroS noS; simp only [results, Tryz.results35]
  simp [go_sem, q0, q1, q2, q3, q4, q5]
structure OutN (base : Nat) (w : World) (ps : List ByteArray) (N : RS) (xs : NS) (v : Bool) : Prop where
  lx : LX base w N.a N.n N.c xs
  yes : v = true → ps = xs.map nodeP ∧ ∀ x ∈ xs, FitX x
  no : v = false → ∀ ys : NS, (∀ x ∈ ys, FitX x) → ps ≠ ys.map nodeP
structure OutL (base : Nat) (w : World) (ps : List ByteArray) (L : RS) (xs : LS) (v : Bool) : Prop where
  lo : ∃ g, LO base w L.a L.n L.c xs g
  yes : v = true → ps = xs.map leaseP ∧ ∀ x ∈ xs, FitL x
  no : v = false → ∀ ys : LS, (∀ x ∈ ys, FitL x) → ps ≠ ys.map leaseP
theorem AllN.out {base : Nat} {ps : List ByteArray} {n : Nat} {e : Ending} {w : World} (h : AllN base ps n e w) : ∃ N xs v, e = .returned (.tuple #[.slice N.a N.n N.c, .bool v]) ∧ OutN base w ps N xs v := by
  rcases h.ex with ⟨xs, a, c, rfl, hL, h1, h2⟩ | ⟨rfl, h1⟩
  · exact ⟨⟨a, n, c⟩, xs, true, rfl, hL, fun _ => ⟨h1, h2⟩, fun e => (by cases e)⟩
  · exact ⟨noS, [], false, rfl, LX.no base w, fun e => (by cases e), fun _ => h1⟩
theorem AllL.out {base : Nat} {ps : List ByteArray} {n : Nat} {e : Ending} {w : World} (h : AllL base ps n e w) : ∃ L xs v, e = .returned (.tuple #[.slice L.a L.n L.c, .bool v]) ∧ OutL base w ps L xs v := by
  rcases h.ex with ⟨xs, a, c, g, rfl, hL, h1, h2⟩ | ⟨rfl, h1⟩
  · exact ⟨⟨a, n, c⟩, xs, true, rfl, ⟨g, hL⟩, fun _ => ⟨h1, h2⟩, fun e => (by cases e)⟩
  · exact ⟨noS, [], false, rfl, ⟨none, LO.none base w⟩, fun e => (by cases e), fun _ => h1⟩
theorem OutN.keep {O : Nat → Prop} {base : Nat} {w w' : World} {ps : List ByteArray} {N : RS} {xs : NS} {v : Bool} (h : OutN base w ps N xs v) (hs : Stay O w w') (hO : ∀ k, O k → k < base) : OutN base w' ps N xs v := ⟨lx_keep h.lx hs hO, h.yes, h.no⟩
theorem OutN.below {base : Nat} {w w' : World} {ps : List ByteArray} {N : RS} {xs : NS} {v : Bool} (h : OutN base w ps N xs v) (hb : Below w.heap.size w w') : OutN base w' ps N xs v := ⟨h.lx.below hb, h.yes, h.no⟩
theorem OutL.keep {O : Nat → Prop} {base : Nat} {w w' : World} {ps : List ByteArray} {L : RS} {xs : LS} {v : Bool} (h : OutL base w ps L xs v) (hs : Stay O w w') (hO : ∀ k, O k → k < base) : OutL base w' ps L xs v := ⟨h.lo.elim fun g hg => ⟨g, lo_keep hg hs hO⟩, h.yes, h.no⟩
theorem SpC.nodes {w : World} {b : Nat} {s : Sp} {N L : RS} (h : SpC w b s N L) (xs : NS) (M : RS) : SpC (w.setCell ⟨b, 4, none⟩ (.slice M.a M.n M.c)) b ⟨s.tx, s.nb, s.ng, s.now, xs, s.ls⟩ M L :=
  ⟨(oth (by omega)).trans h.c0, (oth (by omega)).trans h.c1, (oth (by omega)).trans h.c2, (oth (by omega)).trans h.c3, World.cell?_setCell_same _ _ _ h.c4, (oth (by omega)).trans h.c5, fun j => frz.trans (h.fr j)⟩
theorem SpC.leases {w : World} {b : Nat} {s : Sp} {N L : RS} (h : SpC w b s N L) (xs : LS) (M : RS) : SpC (w.setCell ⟨b, 5, none⟩ (.slice M.a M.n M.c)) b ⟨s.tx, s.nb, s.ng, s.now, s.ns, xs⟩ N M :=
  ⟨(oth (by omega)).trans h.c0, (oth (by omega)).trans h.c1, (oth (by omega)).trans h.c2, (oth (by omega)).trans h.c3, (oth (by omega)).trans h.c4, World.cell?_setCell_same _ _ _ h.c5, fun j => frz.trans (h.fr j)⟩
theorem Strs.part {w : World} {b off k : Nat} {qs : List ByteArray} (h : Strs w (some ⟨b, off, none⟩) b off qs) : Strs w (some ⟨b, off, none⟩) b off (qs.take k) :=
  ⟨fun _ => rfl, fun j hj => by
    rw [List.length_take] at hj
    rw [List.getElem_take]
    exact h.cell j (by omega), fun s hs => h.small s (List.mem_of_mem_take hs), by rw [List.length_take]; have := h.len; omega⟩
theorem Strs.rest {w : World} {b off k e : Nat} {qs : List ByteArray} (h : Strs w (some ⟨b, off, none⟩) b off qs) (hk : k ≤ qs.length) (he : qs.length ≤ k + e) : Strs w (if e = 0 then some ⟨b, off, none⟩ else some ⟨b, off + k, none⟩) b (off + k) (qs.drop k) := by
  refine ⟨fun hp => ?_, fun j hj => ?_, fun s hs => h.small s (List.mem_of_mem_drop hs), by rw [List.length_drop]; have := h.len; omega⟩
  · rw [List.length_drop] at hp
    rw [if_neg (by omega)]
  · rw [List.length_drop] at hj
    rw [List.getElem_drop]
    have := h.cell (k + j) (by omega)
    rwa [← Nat.add_assoc] at this
theorem read_yes {p : ByteArray} {qs : List ByteArray} {z0 z1 z2 z3 : Int} {k d : Nat} (hq : qs.length = k + d) (hk : k + d ≤ 900000000) {xs : NS} {ls : LS} (hp : p = headL [z0, z1, z2, z3, (k : Int), (d : Int)]) (hz : ∀ z ∈ [z0, z1, z2, z3, (k : Int), (d : Int)], I64 z) (h1 : qs.take k = xs.map nodeP) (f1 : ∀ x ∈ xs, FitX x) (h2 : qs.drop k = ls.map leaseP) (f2 : ∀ x ∈ ls, FitL x) : p :: qs = partsS ⟨z0, z1, z2, z3, xs, ls⟩ ∧ FitS ⟨z0, z1, z2, z3, xs, ls⟩ := by
  have l1 : xs.length = k := by have := congrArg List.length h1; rw [List.length_take, List.length_map] at this; omega
  have l2 : ls.length = d := by have := congrArg List.length h2; rw [List.length_drop, List.length_map] at this; omega
  refine ⟨?_, hz z0 (by simp), hz z1 (by simp), hz z2 (by simp), hz z3 (by simp), f1, f2, by simp only; omega, by simp only; omega⟩
  unfold partsS headZ; simp only
  rw [l1, l2, ← hp, ← h1, ← h2, List.take_append_drop]
theorem read_bad {p : ByteArray} {qs : List ByteArray} {z0 z1 z2 z3 : Int} {k d : Nat} (hp : p = headL [z0, z1, z2, z3, (k : Int), (d : Int)]) {t : Sp} (e : p :: qs = partsS t) : qs.take k = t.ns.map nodeP ∧ qs.drop k = t.ls.map leaseP := by
  obtain ⟨h1, h2⟩ := read_head rfl hp e
  simp only [headZ, List.cons.injEq, and_true] at h1
  have hl : (t.ns.map nodeP).length = k := by rw [List.length_map]; omega
  rw [h2]
  exact ⟨by rw [← hl, List.take_left], by rw [← hl, List.drop_left]⟩
theorem read_some {b n c : Nat} {p : ByteArray} {qs : List ByteArray} {w : World} (h : Strs w (some ⟨b, 0, none⟩) b 0 (p :: qs)) (hn : qs.length = n) (hc : n ≤ c) (hcm : 1 + c ≤ maxLen) (hk : n ≤ 900000000) :
    Calls Tryz.prog 35 #[.slice (some ⟨b, 0, none⟩) (1 + n) (1 + c)] w fun e w' => ReadR w.heap.size (p :: qs) e w' ∧ Below w.heap.size w w' := by
  have hx : 1 + c ≤ 9223372036854775807 := by unfold maxLen at hcm; omega
  have c0 : w.cell? ⟨b, 0, none⟩ = some (.string p) := h.cell 0 (by simp)
  have hst2 := sto2
  have c0a := cell_al c0
  go_enter Tryz.func35, Tryz.ntmps35; go_wp2_with fail
  refine (readHead_val p _ (h.small p (List.mem_cons_self ..))).mono ?_
  rintro e w1 ⟨⟨z0, z1, z2, z3, z4, z5, v, rfl, hy, hno⟩, b1⟩; have HQ0 : Hid (Strs w1 (if c = 0 then some ⟨b, 0, none⟩ else some ⟨b, 1, none⟩) b 1 qs) := by
    have h1 := (h.below (bel_tr (bel_al _ _) b1))
    have h2 := Strs.rest (k := 1) (e := c) h1 (by simp) (by simp; omega)
    exact h2
  have HBW : Hid (qs ≠ [] → b < w.heap.size) := fun _ => h.lt (by simp)
  have hsz : ∀ o : Obj, (w.alloc o).heap.size = w.heap.size + 1 := fun o => by simp
  have hw1 := b1.size
  rw [hsz] at hw1
  have RB : Hid (SpC w1 w.heap.size zeroS noS noS) := (SpC.new w 27 zeroS noS noS).below b1
  have B1 : Hid (Below w.heap.size w w1) := bel_tr (bel_al _ _) b1
  have HY : Hid (v = true → p = headL [z0, z1, z2, z3, z4, z5] ∧ ∀ z ∈ [z0, z1, z2, z3, z4, z5], I64 z) := hy
  have HNO : Hid (v = false → ∀ zs : List Int, zs.length = 6 → (∀ z ∈ zs, I64 z) → p ≠ headL zs) := hno
  have HQL : Hid (qs.length = n) := hn
  clear b1 hy hno h c0 c0a hsz hn; have HZ : Hid (∀ W, SpC W w.heap.size zeroS noS noS → Below w.heap.size w W → (∀ t, FitS t → p :: qs ≠ partsS t) → SpC (Spa.put6 W w.heap.size zeroS noS noS) w.heap.size zeroS noS noS ∧ ReadR w.heap.size (p :: qs) (.returned (.tuple #[spV zeroS noS noS, .bool false])) (Spa.put6 W w.heap.size zeroS noS noS) ∧ Below w.heap.size w (Spa.put6 W w.heap.size zeroS noS noS)) := fun W h1 h2 h3 => ⟨(put6_at h1 _ _ _).1, ⟨zeroS, noS, noS, false, rfl, spOwn_no _ _ 0 0 0 0, fun e => (by cases e), fun _ => h3⟩, bel_put6 h2 h1 (Nat.le_refl _) _ _ _⟩
  unfold spV noS; go_upto_region 5 with fail
  have RB2 : Hid (SpC (w1.alloc (.cells #[.int .i64 z0, .int .i64 z1, .int .i64 z2, .int .i64 z3, .slice none 0 0, .slice none 0 0] 27)) w.heap.size zeroS noS noS) := RB.out.below (bel_al _ _)
  have QB2 : Hid (SpC (w1.alloc (.cells #[.int .i64 z0, .int .i64 z1, .int .i64 z2, .int .i64 z3, .slice none 0 0, .slice none 0 0] 27)) w1.heap.size ⟨z0, z1, z2, z3, [], []⟩ noS noS) := SpC.new w1 27 ⟨z0, z1, z2, z3, [], []⟩ noS noS
  have B2 : Hid (Below w.heap.size w (w1.alloc (.cells #[.int .i64 z0, .int .i64 z1, .int .i64 z2, .int .i64 z3, .slice none 0 0, .slice none 0 0] 27))) := bel_tr B1.out (bel_al _ _)
  have HQ2 : Hid (Strs (w1.alloc (.cells #[.int .i64 z0, .int .i64 z1, .int .i64 z2, .int .i64 z3, .slice none 0 0, .slice none 0 0] 27)) (if c = 0 then some ⟨b, 0, none⟩ else some ⟨b, 1, none⟩) b 1 qs) := HQ0.out.below (bel_al _ _)
  have hQ1 : w.heap.size < w1.heap.size := by omega
  generalize w1.alloc (.cells #[.int .i64 z0, .int .i64 z1, .int .i64 z2, .int .i64 z3, .slice none 0 0, .slice none 0 0] 27) = W2 at *
  generalize w1.heap.size = Q at *
  clear RB B1 HQ0 hw1; obtain ⟨off, hoff, HQ3⟩ : ∃ off, (if c = 0 then some (⟨b, 0, none⟩ : Addr) else some ⟨b, 1, none⟩) = some ⟨b, off, none⟩ ∧ Hid (Strs W2 (some ⟨b, off, none⟩) b off qs) := by
    by_cases h0 : c = 0
    · have hq0 : qs = [] := List.length_eq_zero_iff.1 (by rw [HQL.out]; omega)
      refine ⟨0, by rw [if_pos h0], ?_⟩
      show Strs W2 (some ⟨b, 0, none⟩) b 0 qs
      rw [hq0]
      exact ⟨fun hp => by simp at hp, fun j hj => by simp at hj, by simp, by simp⟩
    · refine ⟨1, by rw [if_neg h0], ?_⟩
      have h1 := HQ2.out
      rw [if_neg h0] at h1
      exact h1
  rw [hoff]
  clear HQ2 hoff; cases v with
  | false =>
    have hz := HZ.out W2 RB2.out B2.out (fun t ht e => by
      unfold partsS at e; simp only [List.cons.injEq] at e
      exact HNO.out rfl (headZ t) rfl ht.hz e.1)
    have HP : Hid _ := hz
    clear hz HZ HY HNO HQ3 QB2; rw [put6_def] at HP
    unfold noS zeroS spV at HP; simp only at HP
    obtain ⟨r0, r1, r2, r3, r4, r5, rf⟩ := RB2.out
    simp only [zeroS, noS] at r0 r1 r2 r3 r4 r5
    go_wp2; obtain ⟨q0, q1, q2, q3, q4, q5, _⟩ := HP.out.1
    refine bodyPost_ret (v := .tuple #[.agg #[.int .i64 0, .int .i64 0, .int .i64 0, .int .i64 0, .slice none 0 0, .slice none 0 0], .bool false]) ?_ rfl ⟨HP.out.2.1, HP.out.2.2⟩
    simp only [results, Tryz.results35]
    simp [go_sem, q0, q1, q2, q3, q4, q5]
  | true =>
    obtain ⟨hp, hz⟩ := HY.out rfl
    have HP : Hid (p = headL [z0, z1, z2, z3, z4, z5]) := hp
    have HZZ : Hid (∀ z ∈ [z0, z1, z2, z3, z4, z5], I64 z) := hz
    clear hp hz HY HNO; by_cases hk4 : 0 ≤ z4 ∧ z4 ≤ (n : Int)
    · obtain ⟨k, rfl⟩ : ∃ k : Nat, z4 = (k : Int) := ⟨z4.toNat, by omega⟩
      obtain ⟨d, rfl⟩ : ∃ d, n = k + d := ⟨n - k, by omega⟩
      obtain ⟨q, rfl⟩ : ∃ q, c = k + q := ⟨c - k, by omega⟩
      have G1 : Hid ((decide ((0 : Int) ≤ (k : Int)) && decide ((k : Int) ≤ ((k + d : Nat) : Int))) = true) := by
        show (_ && _) = true
        rw [decide_eq_true (by omega), decide_eq_true (by omega)]; rfl
      by_cases hk5 : z5 = (d : Int)
      · subst hk5
        clear HZ hk4; have hdq : d ≤ q := by omega
        by_cases hq0 : q = 0
        · subst hq0
          obtain ⟨y0, y1, y2, y3, y4, y5, yf⟩ := QB2.out
          simp only [noS] at y4 y5
          have C1 : Hid (∀ W, Below W2.heap.size W2 W → Calls Tryz.prog 75 #[.slice (some ⟨b, off, none⟩) k (k), .func (.func 76) #[] #[]] W fun e w' => AllN W.heap.size (qs.take k) k e w' ∧ Below W.heap.size W w') := fun W hb => readNodes_val (Strs.part (HQ3.out.below hb)) (by rw [List.length_take, HQL.out]; omega) (by omega) (fun p hp => HQ3.out.small p (List.mem_of_mem_take hp))
          have C2 : Hid (∀ W, Strs W (some ⟨b, off, none⟩) b off qs → Calls Tryz.prog 77 #[.slice (some ⟨b, off, none⟩) d 0, .func (.func 78) #[] #[]] W fun e w' => AllL W.heap.size (qs.drop k) d e w' ∧ Below W.heap.size W w') := fun W hb => readLeases_val (by have h9 := Strs.rest (e := 0) (k := k) hb (by rw [HQL.out]; omega) (by rw [HQL.out]; omega); rw [if_pos rfl] at h9; exact h9) (by rw [List.length_drop, HQL.out]; omega) (by omega) (fun p hp => HQ3.out.small p (List.mem_of_mem_drop hp))
          have hQ2 := World.block_lt_of_cell? _ _ QB2.out.c0
          have hbw : qs = [] ∨ b < w.heap.size := by
            by_cases hq0 : qs = []
            · exact .inl hq0
            · exact .inr (HBW.out hq0)
          go_wp2_with (go_at_call 74; refine (within_i _ 0 _ true _ G1.out).mono ?_; rintro e wq ⟨rfl, hwq⟩; subst wq)
          refine (C1.out _ (Below.refl _ _)).mono ?_
          rintro e w3 ⟨ho, b3⟩; obtain ⟨⟨Na, Nn, Nc⟩, xs, v1, rfl, hON⟩ := ho.out
          have ON : Hid (OutN W2.heap.size w3 (qs.take k) ⟨Na, Nn, Nc⟩ xs v1) := hON
          have Q3 : Hid (SpC w3 Q ⟨z0, z1, z2, z3, [], []⟩ noS noS) := QB2.out.below b3
          have R3 : Hid (SpC w3 w.heap.size zeroS noS noS) := RB2.out.below b3
          have B3 : Hid (Below w.heap.size w w3) := bel_tr B2.out b3
          have S3 : Hid (Strs w3 (some ⟨b, off, none⟩) b off qs) := HQ3.out.below b3
          have hs3 := b3.size
          clear ho hON b3 y0 y1 y2 y3 y4 y5 yf QB2 RB2 B2; have sN : Stay (fun i => i = Q) w3 (w3.setCell ⟨Q, 4, none⟩ (.slice Na Nn Nc)) := Stay.setCell _ _ _ rfl
          have ON4 : Hid (OutN W2.heap.size (w3.setCell ⟨Q, 4, none⟩ (.slice Na Nn Nc)) (qs.take k) ⟨Na, Nn, Nc⟩ xs v1) := ON.out.keep sN (fun i hi => by rw [hi]; exact hQ2)
          have Q4 : Hid (SpC (w3.setCell ⟨Q, 4, none⟩ (.slice Na Nn Nc)) Q ⟨z0, z1, z2, z3, xs, []⟩ ⟨Na, Nn, Nc⟩ noS) := SpC.nodes Q3.out xs ⟨Na, Nn, Nc⟩
          have R4 : Hid (SpC (w3.setCell ⟨Q, 4, none⟩ (.slice Na Nn Nc)) w.heap.size zeroS noS noS) := R3.out.keep sN (by omega)
          have B4 : Hid (Below w.heap.size w (w3.setCell ⟨Q, 4, none⟩ (.slice Na Nn Nc))) := bel_stay B3.out sN (fun i hi => by rw [hi]; omega)
          have S4 : Hid (Strs (w3.setCell ⟨Q, 4, none⟩ (.slice Na Nn Nc)) (some ⟨b, off, none⟩) b off qs) := by
            refine ⟨fun _ => rfl, fun j hj => ?_, S3.out.small, S3.out.len⟩
            refine Stay.cell sN (S3.out.cell j hj) ?_
            show ¬ b = Q
            rcases hbw with h0 | h0
            · rw [h0] at hj; simp at hj
            · omega
          have hs4 : W2.heap.size ≤ (w3.setCell ⟨Q, 4, none⟩ (.slice Na Nn Nc)).heap.size := Nat.le_trans hs3 sN.size
          obtain ⟨_, _, _, _, y4, _, yf⟩ := Q3.out
          have yf4 := yf 4
          simp only [noS] at y4
          clear sN ON Q3 R3 B3 S3 hs3; go_wp2_with fail
          generalize w3.setCell ⟨Q, 4, none⟩ (.slice Na Nn Nc) = w4 at *
          clear y4 yf yf4; refine (C2.out _ S4.out).mono ?_
          rintro e w5 ⟨ho, b5⟩; obtain ⟨⟨La, Ln, Lc⟩, ls, v2, rfl, hOL⟩ := ho.out
          have OL : Hid (OutL w4.heap.size w5 (qs.drop k) ⟨La, Ln, Lc⟩ ls v2) := hOL
          have sL : Stay (fun i => i = Q) w5 (w5.setCell ⟨Q, 5, none⟩ (.slice La Ln Lc)) := Stay.setCell _ _ _ rfl
          have hQ4 : Q < w4.heap.size := World.block_lt_of_cell? _ _ Q4.out.c0
          have hR4 : w.heap.size < w4.heap.size := by omega
          have ON6 : Hid (OutN W2.heap.size (w5.setCell ⟨Q, 5, none⟩ (.slice La Ln Lc)) (qs.take k) ⟨Na, Nn, Nc⟩ xs v1) := (ON4.out.below b5).keep sL (fun i hi => by rw [hi]; exact hQ2)
          have OL6 : Hid (OutL w4.heap.size (w5.setCell ⟨Q, 5, none⟩ (.slice La Ln Lc)) (qs.drop k) ⟨La, Ln, Lc⟩ ls v2) := OL.out.keep sL (fun i hi => by rw [hi]; exact hQ4)
          have Q6 : Hid (SpC (w5.setCell ⟨Q, 5, none⟩ (.slice La Ln Lc)) Q ⟨z0, z1, z2, z3, xs, ls⟩ ⟨Na, Nn, Nc⟩ ⟨La, Ln, Lc⟩) := SpC.leases (Q4.out.below b5) ls ⟨La, Ln, Lc⟩
          have R6 : Hid (SpC (w5.setCell ⟨Q, 5, none⟩ (.slice La Ln Lc)) w.heap.size zeroS noS noS) := (R4.out.below b5).keep sL (by omega)
          have B6 : Hid (Below w.heap.size w (w5.setCell ⟨Q, 5, none⟩ (.slice La Ln Lc))) := bel_stay (bel_tr B4.out b5) sL (fun i hi => by rw [hi]; omega)
          obtain ⟨_, _, _, _, _, y5, yf⟩ := Q4.out.below b5
          have yf5 := yf 5
          simp only [noS] at y5
          clear ho hOL b5 OL sL ON4 Q4 R4 B4 S4; go_upto_region 10 with fail
          generalize w5.setCell ⟨Q, 5, none⟩ (.slice La Ln Lc) = w6 at *
          clear y5 yf yf5; have pR := put6_at R6.out ⟨z0, z1, z2, z3, xs, ls⟩ ⟨Na, Nn, Nc⟩ ⟨La, Ln, Lc⟩
          have HFIN : Hid (SpC (Spa.put6 w6 w.heap.size ⟨z0, z1, z2, z3, xs, ls⟩ ⟨Na, Nn, Nc⟩ ⟨La, Ln, Lc⟩) w.heap.size ⟨z0, z1, z2, z3, xs, ls⟩ ⟨Na, Nn, Nc⟩ ⟨La, Ln, Lc⟩ ∧ Below w.heap.size w (Spa.put6 w6 w.heap.size ⟨z0, z1, z2, z3, xs, ls⟩ ⟨Na, Nn, Nc⟩ ⟨La, Ln, Lc⟩) ∧ SpOwn w.heap.size (Spa.put6 w6 w.heap.size ⟨z0, z1, z2, z3, xs, ls⟩ ⟨Na, Nn, Nc⟩ ⟨La, Ln, Lc⟩) ⟨z0, z1, z2, z3, xs, ls⟩ ⟨Na, Nn, Nc⟩ ⟨La, Ln, Lc⟩) := by
            have n7 := ON6.out.keep pR.2 (fun i hi => by rw [hi]; omega)
            obtain ⟨g, hg⟩ := (OL6.out.keep pR.2 (fun i hi => by rw [hi]; omega)).lo
            exact ⟨pR.1, bel_put6 B6.out R6.out (Nat.le_refl _) _ _ _, n7.lx.mono (by omega), ⟨g, hg.mono (by omega)⟩⟩
          have HVV : Hid ((v1 = true → v2 = true → p :: qs = partsS ⟨z0, z1, z2, z3, xs, ls⟩ ∧ FitS ⟨z0, z1, z2, z3, xs, ls⟩) ∧ ((v1 = false ∨ v2 = false) → ∀ t, FitS t → p :: qs ≠ partsS t)) := by
            refine ⟨fun e1 e2 => ?_, fun e t ht et => ?_⟩
            · obtain ⟨a1, a2⟩ := ON6.out.yes e1
              obtain ⟨a3, a4⟩ := OL6.out.yes e2
              exact read_yes HQL.out hk HP.out HZZ.out a1 a2 a3 a4
            · obtain ⟨a1, a2⟩ := read_bad HP.out et
              rcases e with e | e
              · exact ON6.out.no e t.ns ht.ns a1
              · exact OL6.out.no e t.ls ht.ls a2
          rw [put6_def] at HFIN
          simp only at HFIN
          obtain ⟨n0, n1, n2, n3, n4, n5, _⟩ := Q6.out
          obtain ⟨r0, r1, r2, r3, r4, r5, rf⟩ := R6.out
          simp only [zeroS, noS] at r0 r1 r2 r3 r4 r5 n0 n1 n2 n3 n4 n5
          clear pR ON6 OL6 Q6 R6 B6 C1 C2 HQ3; cases v1 with
          | false =>
            have H9 : Hid (∀ t, FitS t → p :: qs ≠ partsS t) := HVV.out.2 (.inl rfl)
            clear HVV; go_wp2; obtain ⟨q0, q1, q2, q3, q4, q5, _⟩ := HFIN.out.1
            refine bodyPost_ret (v := .tuple #[spV ⟨z0, z1, z2, z3, xs, ls⟩ ⟨Na, Nn, Nc⟩ ⟨La, Ln, Lc⟩, .bool false]) ?_ rfl ⟨⟨⟨z0, z1, z2, z3, xs, ls⟩, ⟨Na, Nn, Nc⟩, ⟨La, Ln, Lc⟩, false, rfl, HFIN.out.2.2, fun e => (by cases e), fun _ => H9.out⟩, HFIN.out.2.1⟩
            unfold spV; simp only [results, Tryz.results35]
            simp [go_sem, q0, q1, q2, q3, q4, q5]
          | true =>
            have H8 : Hid (v2 = true → p :: qs = partsS ⟨z0, z1, z2, z3, xs, ls⟩ ∧ FitS ⟨z0, z1, z2, z3, xs, ls⟩) := fun e => HVV.out.1 rfl e
            have H9 : Hid (v2 = false → ∀ t, FitS t → p :: qs ≠ partsS t) := fun e => HVV.out.2 (.inr e)
            clear HVV; go_wp2; obtain ⟨q0, q1, q2, q3, q4, q5, _⟩ := HFIN.out.1
            refine bodyPost_ret (v := .tuple #[spV ⟨z0, z1, z2, z3, xs, ls⟩ ⟨Na, Nn, Nc⟩ ⟨La, Ln, Lc⟩, .bool v2]) ?_ rfl ⟨⟨⟨z0, z1, z2, z3, xs, ls⟩, ⟨Na, Nn, Nc⟩, ⟨La, Ln, Lc⟩, v2, rfl, HFIN.out.2.2, H8.out, H9.out⟩, HFIN.out.2.1⟩
            unfold spV; simp only [results, Tryz.results35]
            simp [go_sem, q0, q1, q2, q3, q4, q5]
        · obtain ⟨y0, y1, y2, y3, y4, y5, yf⟩ := QB2.out
          simp only [noS] at y4 y5
          have C1 : Hid (∀ W, Below W2.heap.size W2 W → Calls Tryz.prog 75 #[.slice (some ⟨b, off, none⟩) k (k + q), .func (.func 76) #[] #[]] W fun e w' => AllN W.heap.size (qs.take k) k e w' ∧ Below W.heap.size W w') := fun W hb => readNodes_val (Strs.part (HQ3.out.below hb)) (by rw [List.length_take, HQL.out]; omega) (by omega) (fun p hp => HQ3.out.small p (List.mem_of_mem_take hp))
          have C2 : Hid (∀ W, Strs W (some ⟨b, off, none⟩) b off qs → Calls Tryz.prog 77 #[.slice (some ⟨b, off + k, none⟩) d q, .func (.func 78) #[] #[]] W fun e w' => AllL W.heap.size (qs.drop k) d e w' ∧ Below W.heap.size W w') := fun W hb => readLeases_val (by have h9 := Strs.rest (e := q) (k := k) hb (by rw [HQL.out]; omega) (by rw [HQL.out]; omega); rw [if_neg hq0] at h9; exact h9) (by rw [List.length_drop, HQL.out]; omega) (by omega) (fun p hp => HQ3.out.small p (List.mem_of_mem_drop hp))
          have hQ2 := World.block_lt_of_cell? _ _ QB2.out.c0
          have hbw : qs = [] ∨ b < w.heap.size := by
            by_cases hq0 : qs = []
            · exact .inl hq0
            · exact .inr (HBW.out hq0)
          go_wp2_with (go_at_call 74; refine (within_i _ 0 _ true _ G1.out).mono ?_; rintro e wq ⟨rfl, hwq⟩; subst wq)
          refine (C1.out _ (Below.refl _ _)).mono ?_
          rintro e w3 ⟨ho, b3⟩; obtain ⟨⟨Na, Nn, Nc⟩, xs, v1, rfl, hON⟩ := ho.out
          have ON : Hid (OutN W2.heap.size w3 (qs.take k) ⟨Na, Nn, Nc⟩ xs v1) := hON
          have Q3 : Hid (SpC w3 Q ⟨z0, z1, z2, z3, [], []⟩ noS noS) := QB2.out.below b3
          have R3 : Hid (SpC w3 w.heap.size zeroS noS noS) := RB2.out.below b3
          have B3 : Hid (Below w.heap.size w w3) := bel_tr B2.out b3
          have S3 : Hid (Strs w3 (some ⟨b, off, none⟩) b off qs) := HQ3.out.below b3
          have hs3 := b3.size
          clear ho hON b3 y0 y1 y2 y3 y4 y5 yf QB2 RB2 B2; have sN : Stay (fun i => i = Q) w3 (w3.setCell ⟨Q, 4, none⟩ (.slice Na Nn Nc)) := Stay.setCell _ _ _ rfl
          have ON4 : Hid (OutN W2.heap.size (w3.setCell ⟨Q, 4, none⟩ (.slice Na Nn Nc)) (qs.take k) ⟨Na, Nn, Nc⟩ xs v1) := ON.out.keep sN (fun i hi => by rw [hi]; exact hQ2)
          have Q4 : Hid (SpC (w3.setCell ⟨Q, 4, none⟩ (.slice Na Nn Nc)) Q ⟨z0, z1, z2, z3, xs, []⟩ ⟨Na, Nn, Nc⟩ noS) := SpC.nodes Q3.out xs ⟨Na, Nn, Nc⟩
          have R4 : Hid (SpC (w3.setCell ⟨Q, 4, none⟩ (.slice Na Nn Nc)) w.heap.size zeroS noS noS) := R3.out.keep sN (by omega)
          have B4 : Hid (Below w.heap.size w (w3.setCell ⟨Q, 4, none⟩ (.slice Na Nn Nc))) := bel_stay B3.out sN (fun i hi => by rw [hi]; omega)
          have S4 : Hid (Strs (w3.setCell ⟨Q, 4, none⟩ (.slice Na Nn Nc)) (some ⟨b, off, none⟩) b off qs) := by
            refine ⟨fun _ => rfl, fun j hj => ?_, S3.out.small, S3.out.len⟩
            refine Stay.cell sN (S3.out.cell j hj) ?_
            show ¬ b = Q
            rcases hbw with h0 | h0
            · rw [h0] at hj; simp at hj
            · omega
          have hs4 : W2.heap.size ≤ (w3.setCell ⟨Q, 4, none⟩ (.slice Na Nn Nc)).heap.size := Nat.le_trans hs3 sN.size
          obtain ⟨_, _, _, _, y4, _, yf⟩ := Q3.out
          have yf4 := yf 4
          simp only [noS] at y4
          clear sN ON Q3 R3 B3 S3 hs3; go_wp2_with fail
          generalize w3.setCell ⟨Q, 4, none⟩ (.slice Na Nn Nc) = w4 at *
          clear y4 yf yf4; refine (C2.out _ S4.out).mono ?_
          rintro e w5 ⟨ho, b5⟩; obtain ⟨⟨La, Ln, Lc⟩, ls, v2, rfl, hOL⟩ := ho.out
          have OL : Hid (OutL w4.heap.size w5 (qs.drop k) ⟨La, Ln, Lc⟩ ls v2) := hOL
          have sL : Stay (fun i => i = Q) w5 (w5.setCell ⟨Q, 5, none⟩ (.slice La Ln Lc)) := Stay.setCell _ _ _ rfl
          have hQ4 : Q < w4.heap.size := World.block_lt_of_cell? _ _ Q4.out.c0
          have hR4 : w.heap.size < w4.heap.size := by omega
          have ON6 : Hid (OutN W2.heap.size (w5.setCell ⟨Q, 5, none⟩ (.slice La Ln Lc)) (qs.take k) ⟨Na, Nn, Nc⟩ xs v1) := (ON4.out.below b5).keep sL (fun i hi => by rw [hi]; exact hQ2)
          have OL6 : Hid (OutL w4.heap.size (w5.setCell ⟨Q, 5, none⟩ (.slice La Ln Lc)) (qs.drop k) ⟨La, Ln, Lc⟩ ls v2) := OL.out.keep sL (fun i hi => by rw [hi]; exact hQ4)
          have Q6 : Hid (SpC (w5.setCell ⟨Q, 5, none⟩ (.slice La Ln Lc)) Q ⟨z0, z1, z2, z3, xs, ls⟩ ⟨Na, Nn, Nc⟩ ⟨La, Ln, Lc⟩) := SpC.leases (Q4.out.below b5) ls ⟨La, Ln, Lc⟩
          have R6 : Hid (SpC (w5.setCell ⟨Q, 5, none⟩ (.slice La Ln Lc)) w.heap.size zeroS noS noS) := (R4.out.below b5).keep sL (by omega)
          have B6 : Hid (Below w.heap.size w (w5.setCell ⟨Q, 5, none⟩ (.slice La Ln Lc))) := bel_stay (bel_tr B4.out b5) sL (fun i hi => by rw [hi]; omega)
          obtain ⟨_, _, _, _, _, y5, yf⟩ := Q4.out.below b5
          have yf5 := yf 5
          simp only [noS] at y5
          clear ho hOL b5 OL sL ON4 Q4 R4 B4 S4; go_upto_region 10 with fail
          generalize w5.setCell ⟨Q, 5, none⟩ (.slice La Ln Lc) = w6 at *
          clear y5 yf yf5; have pR := put6_at R6.out ⟨z0, z1, z2, z3, xs, ls⟩ ⟨Na, Nn, Nc⟩ ⟨La, Ln, Lc⟩
          have HFIN : Hid (SpC (Spa.put6 w6 w.heap.size ⟨z0, z1, z2, z3, xs, ls⟩ ⟨Na, Nn, Nc⟩ ⟨La, Ln, Lc⟩) w.heap.size ⟨z0, z1, z2, z3, xs, ls⟩ ⟨Na, Nn, Nc⟩ ⟨La, Ln, Lc⟩ ∧ Below w.heap.size w (Spa.put6 w6 w.heap.size ⟨z0, z1, z2, z3, xs, ls⟩ ⟨Na, Nn, Nc⟩ ⟨La, Ln, Lc⟩) ∧ SpOwn w.heap.size (Spa.put6 w6 w.heap.size ⟨z0, z1, z2, z3, xs, ls⟩ ⟨Na, Nn, Nc⟩ ⟨La, Ln, Lc⟩) ⟨z0, z1, z2, z3, xs, ls⟩ ⟨Na, Nn, Nc⟩ ⟨La, Ln, Lc⟩) := by
            have n7 := ON6.out.keep pR.2 (fun i hi => by rw [hi]; omega)
            obtain ⟨g, hg⟩ := (OL6.out.keep pR.2 (fun i hi => by rw [hi]; omega)).lo
            exact ⟨pR.1, bel_put6 B6.out R6.out (Nat.le_refl _) _ _ _, n7.lx.mono (by omega), ⟨g, hg.mono (by omega)⟩⟩
          have HVV : Hid ((v1 = true → v2 = true → p :: qs = partsS ⟨z0, z1, z2, z3, xs, ls⟩ ∧ FitS ⟨z0, z1, z2, z3, xs, ls⟩) ∧ ((v1 = false ∨ v2 = false) → ∀ t, FitS t → p :: qs ≠ partsS t)) := by
            refine ⟨fun e1 e2 => ?_, fun e t ht et => ?_⟩
            · obtain ⟨a1, a2⟩ := ON6.out.yes e1
              obtain ⟨a3, a4⟩ := OL6.out.yes e2
              exact read_yes HQL.out hk HP.out HZZ.out a1 a2 a3 a4
            · obtain ⟨a1, a2⟩ := read_bad HP.out et
              rcases e with e | e
              · exact ON6.out.no e t.ns ht.ns a1
              · exact OL6.out.no e t.ls ht.ls a2
          rw [put6_def] at HFIN
          simp only at HFIN
          obtain ⟨n0, n1, n2, n3, n4, n5, _⟩ := Q6.out
          obtain ⟨r0, r1, r2, r3, r4, r5, rf⟩ := R6.out
          simp only [zeroS, noS] at r0 r1 r2 r3 r4 r5 n0 n1 n2 n3 n4 n5
          clear pR ON6 OL6 Q6 R6 B6 C1 C2 HQ3; cases v1 with
          | false =>
            have H9 : Hid (∀ t, FitS t → p :: qs ≠ partsS t) := HVV.out.2 (.inl rfl)
            clear HVV; go_wp2; obtain ⟨q0, q1, q2, q3, q4, q5, _⟩ := HFIN.out.1
            refine bodyPost_ret (v := .tuple #[spV ⟨z0, z1, z2, z3, xs, ls⟩ ⟨Na, Nn, Nc⟩ ⟨La, Ln, Lc⟩, .bool false]) ?_ rfl ⟨⟨⟨z0, z1, z2, z3, xs, ls⟩, ⟨Na, Nn, Nc⟩, ⟨La, Ln, Lc⟩, false, rfl, HFIN.out.2.2, fun e => (by cases e), fun _ => H9.out⟩, HFIN.out.2.1⟩
            unfold spV; simp only [results, Tryz.results35]
            simp [go_sem, q0, q1, q2, q3, q4, q5]
          | true =>
            have H8 : Hid (v2 = true → p :: qs = partsS ⟨z0, z1, z2, z3, xs, ls⟩ ∧ FitS ⟨z0, z1, z2, z3, xs, ls⟩) := fun e => HVV.out.1 rfl e
            have H9 : Hid (v2 = false → ∀ t, FitS t → p :: qs ≠ partsS t) := fun e => HVV.out.2 (.inr e)
            clear HVV; go_wp2; obtain ⟨q0, q1, q2, q3, q4, q5, _⟩ := HFIN.out.1
            refine bodyPost_ret (v := .tuple #[spV ⟨z0, z1, z2, z3, xs, ls⟩ ⟨Na, Nn, Nc⟩ ⟨La, Ln, Lc⟩, .bool v2]) ?_ rfl ⟨⟨⟨z0, z1, z2, z3, xs, ls⟩, ⟨Na, Nn, Nc⟩, ⟨La, Ln, Lc⟩, v2, rfl, HFIN.out.2.2, H8.out, H9.out⟩, HFIN.out.2.1⟩
            unfold spV; simp only [results, Tryz.results35]
            simp [go_sem, q0, q1, q2, q3, q4, q5]
      · have hne5 : (z5 != (d : Int)) = true := by simpa using hk5
        have hz := HZ.out W2 RB2.out B2.out (fun t ht e => by
          obtain ⟨h1, h2⟩ := read_head rfl HP.out e
          have hl := congrArg List.length h2
          simp only [headZ, List.cons.injEq, and_true] at h1
          rw [List.length_append, List.length_map, List.length_map, HQL.out] at hl
          omega)
        have HPP : Hid _ := hz
        clear hz HZ HQ3 QB2; rw [put6_def] at HPP
        unfold noS zeroS spV at HPP; simp only at HPP
        obtain ⟨r0, r1, r2, r3, r4, r5, rf⟩ := RB2.out
        simp only [zeroS, noS] at r0 r1 r2 r3 r4 r5
        go_wp2_with (go_at_call 74; refine (within_i _ 0 _ true _ G1.out).mono ?_; rintro e wq ⟨rfl, hwq⟩; subst wq)
        obtain ⟨q0, q1, q2, q3, q4, q5, _⟩ := HPP.out.1
        refine bodyPost_ret (v := .tuple #[.agg #[.int .i64 0, .int .i64 0, .int .i64 0, .int .i64 0, .slice none 0 0, .slice none 0 0], .bool false]) ?_ rfl ⟨HPP.out.2.1, HPP.out.2.2⟩
        simp only [results, Tryz.results35]
        simp [go_sem, q0, q1, q2, q3, q4, q5]
    · have G1 : Hid ((decide ((0 : Int) ≤ z4) && decide (z4 ≤ (n : Int))) = false) := by
        show (_ && _) = false
        rw [Bool.eq_false_iff]
        intro e
        simp only [Bool.and_eq_true, decide_eq_true_eq] at e
        exact hk4 e
      have hz := HZ.out W2 RB2.out B2.out (fun t ht e => by
        obtain ⟨h1, h2⟩ := read_head rfl HP.out e
        have hl := congrArg List.length h2
        simp only [headZ, List.cons.injEq, and_true] at h1
        rw [List.length_append, List.length_map, List.length_map, HQL.out] at hl
        omega)
      have HPP : Hid _ := hz
      clear hz HZ HQ3 QB2; rw [put6_def] at HPP
      unfold noS zeroS spV at HPP; simp only at HPP
      obtain ⟨r0, r1, r2, r3, r4, r5, rf⟩ := RB2.out
      simp only [zeroS, noS] at r0 r1 r2 r3 r4 r5
      go_wp2_with (go_at_call 74; refine (within_i _ 0 _ false _ G1.out).mono ?_; rintro e wq ⟨rfl, hwq⟩; subst wq)
      obtain ⟨q0, q1, q2, q3, q4, q5, _⟩ := HPP.out.1
      refine bodyPost_ret (v := .tuple #[.agg #[.int .i64 0, .int .i64 0, .int .i64 0, .int .i64 0, .slice none 0 0, .slice none 0 0], .bool false]) ?_ rfl ⟨HPP.out.2.1, HPP.out.2.2⟩
      simp only [results, Tryz.results35]
      simp [go_sem, q0, q1, q2, q3, q4, q5]
open Go.Proofs.YtcnflkjkgomnoaaGreat.Spa (Sp RtS zeroS newS spV SpIn SpC put6 put6_at put6_def noS bel_put6 rightS_val)
open Go.Proofs.YtcnflkjkgomnoaaGreat.Wir (app_size app_list size_list)
open Go.WideShapes (bytes_inj)
theorem read_any {a : Option Addr} {b n c : Nat} {ps : List ByteArray} {w : World} (h : Strs w a b 0 ps) (hn : ps.length = n) (hc : n ≤ c) (hcm : c ≤ maxLen) (hk : n ≤ 900000000) :
    Calls Tryz.prog 35 #[.slice a n c] w fun e w' => ReadR w.heap.size ps e w' ∧ Below w.heap.size w w' := by
  cases ps with
  | nil =>
    obtain rfl : n = 0 := by rw [← hn]; rfl
    exact read_none
  | cons p qs =>
    obtain ⟨m, rfl⟩ : ∃ m, n = 1 + m := ⟨n - 1, by rw [List.length_cons] at hn; omega⟩
    obtain ⟨d, rfl⟩ : ∃ d, c = 1 + d := ⟨c - 1, by omega⟩
    obtain rfl := h.addr (by simp)
    exact read_some h (by rw [List.length_cons] at hn; omega) (by omega) hcm (by omega)
structure DecR (base : Nat) (s : Sp) (E : Int) (e : Ending) (w' : World) : Prop where
  ex : ∃ N L, e = .returned (.tuple #[spV s N L, .int .i64 E]) ∧ SpOwn base w' s N L
theorem parts_many (ps : List ByteArray) : 5 * ps.length ≤ (joinL ps).length := by
  induction ps with
  | nil => simp [joinL]
  | cons p ps ih =>
    have := sealB_pos p
    rw [joinL_cons, List.length_append, size_list, List.length_cons]
    omega
theorem decode_bad {b : ByteArray} {w : World} {ps : List ByteArray} {r : ByteArray} {E : Nat} (hb : b.size ≤ 4000000000) (hS : Small ps) (hbd : BadAt r E) (hj : b = joinP ps ++ r) :
    Calls Tryz.prog 14 #[.string b] w fun e w' => DecR w.heap.size zeroS (E : Int) e w' ∧ Below w.heap.size w w' := by
  have hne := hbd.ne
  have hcnt := parts_many ps
  have hl : (joinL ps).length ≤ b.size := by rw [hj, app_size]; unfold joinP; rw [mk_sz2]; omega
  have CO : Hid (∀ W, Calls Tryz.prog 34 #[.string b] W fun e w' => OpenedR [] E e w' ∧ Below W.heap.size W w') := fun W => by
    have h := opened_val (r := r) hS b hj W (by unfold maxLen; omega) (by omega) E (.inr hbd)
    rw [if_neg hne] at h
    exact h
  have HI : Hid (∀ W, DecR w.heap.size zeroS (E : Int) (.returned (.tuple #[spV zeroS noS noS, .int .i64 (E : Int)])) W) := fun W => ⟨noS, noS, rfl, spOwn_no _ W 0 0 0 0⟩
  have hneB : (E == 0) = false := by simpa using hne
  have hneI : ((E : Int) != 0) = true := by simp; omega
  clear hj hcnt hl hb hS hbd; have hst2 := sto2
  go_enter Tryz.func14, Tryz.ntmps14; go_wp2_with fail
  refine (CO.out _).mono ?_
  rintro e w1 ⟨⟨a1, b1, n1, c1, rfl, _, _, _, _⟩, bb⟩; have RB := (SpC.new w 27 zeroS noS noS).below bb
  have B1 : Hid (Below w.heap.size w w1) := bel_tr (bel_al _ _) bb
  have HP : Hid (SpC (Spa.put6 w1 w.heap.size zeroS noS noS) w.heap.size zeroS noS noS ∧ Below w.heap.size w (Spa.put6 w1 w.heap.size zeroS noS noS)) := ⟨(put6_at RB _ _ _).1, bel_put6 B1.out RB (Nat.le_refl _) _ _ _⟩
  rw [put6_def] at HP
  unfold noS zeroS at HP; simp only at HP
  obtain ⟨r0, r1, r2, r3, r4, r5, rf⟩ := RB
  simp only [zeroS, noS] at r0 r1 r2 r3 r4 r5
  clear bb CO; go_wp2; obtain ⟨q0, q1, q2, q3, q4, q5, _⟩ := HP.out.1
  refine bodyPost_ret (v := .tuple #[spV zeroS noS noS, .int .i64 (E : Int)]) ?_ rfl ⟨HI.out _, HP.out.2⟩
  unfold spV noS zeroS; simp only [results, Tryz.results14]
  simp [go_sem, q0, q1, q2, q3, q4, q5]
theorem decode_ok {b : ByteArray} {w : World} {ps : List ByteArray} (hb : b.size ≤ 4000000000) (hS : Small ps) (hj : b = joinP ps) (s : Sp) (E : Int) (hD : (E = 0 ∧ RtS s ∧ ps = partsS s) ∨ (E = 2 ∧ s = zeroS ∧ ∀ t, RtS t → ps ≠ partsS t)) :
    Calls Tryz.prog 14 #[.string b] w fun e w' => DecR w.heap.size s E e w' ∧ Below w.heap.size w w' := by
  have hcnt := parts_many ps
  have hl : (joinL ps).length ≤ b.size := by rw [hj]; unfold joinP; rw [mk_sz2]; omega
  have CO : Hid (∀ W, Calls Tryz.prog 34 #[.string b] W fun e w' => OpenedR ps 0 e w' ∧ Below W.heap.size W w') := fun W => by
    have h := opened_val (r := ⟨#[]⟩) hS b (by rw [hj]; unfold restP; exact bytes_inj (by rw [app_list]; simp)) W (by unfold maxLen; omega) (by omega) 0 (.inl ⟨rfl, rfl⟩)
    rw [if_pos rfl] at h
    exact h
  have hk : ps.length ≤ 900000000 := by omega
  have HD : Hid ((E = 0 ∧ RtS s ∧ ps = partsS s) ∨ (E = 2 ∧ s = zeroS ∧ ∀ t, RtS t → ps ≠ partsS t)) := hD
  have HI : Hid (∀ W, DecR w.heap.size zeroS 2 (.returned (.tuple #[spV zeroS noS noS, .int .i64 2])) W) := fun W => ⟨noS, noS, rfl, spOwn_no _ W 0 0 0 0⟩
  clear hj hcnt hl hb hS hD; have hst2 := sto2
  go_enter Tryz.func14, Tryz.ntmps14; go_wp2_with fail
  refine (CO.out _).mono ?_
  rintro e w1 ⟨⟨a1, b1, n1, c1, rfl, hn1, hnc, hcm, hst⟩, bb⟩; have R1 : Hid (SpC w1 w.heap.size zeroS noS noS) := (SpC.new w 27 zeroS noS noS).below bb
  have B1 : Hid (Below w.heap.size w w1) := bel_tr (bel_al _ _) bb
  have hw1 : w.heap.size < w1.heap.size := by have := bb.size; simp at this; omega
  have CRd : Hid (Calls Tryz.prog 35 #[.slice a1 n1 c1] w1 fun e w' => ReadR w1.heap.size ps e w' ∧ Below w1.heap.size w1 w') := read_any hst hn1 hnc hcm (by omega)
  clear bb CO hst hnc hcm; go_wp2_with fail
  refine CRd.out.mono ?_
  rintro e w2 ⟨⟨t, N, L, v, rfl, hin, hy, hno⟩, b2⟩; have IN2 : Hid (SpOwn w1.heap.size w2 t N L) := hin
  have R2 : Hid (SpC w2 w.heap.size zeroS noS noS) := R1.out.below b2
  have B2 : Hid (Below w.heap.size w w2) := bel_tr B1.out b2
  have hw2 : w.heap.size < w2.heap.size := by have := b2.size; omega
  have HY : Hid (v = true → ps = partsS t ∧ FitS t) := hy
  have HNO : Hid (v = false → ∀ t, FitS t → ps ≠ partsS t) := hno
  clear hin b2 hy hno CRd R1 B1; have HRT : Hid (∀ W u, Below w2.heap.size w2 W → (u = true ↔ RtS t) → Calls Tryz.prog 22 #[spV t N L] W fun e w' => e = .returned (.bool u) ∧ Below W.heap.size W w') := fun W u hb hu => rightS_val (IN2.out.spIn.below hb) u hu
  have QBX : Hid (∀ ty : TypeId, SpC (w2.alloc (.cells #[.int .i64 t.tx, .int .i64 t.nb, .int .i64 t.ng, .int .i64 t.now, .slice N.a N.n N.c, .slice L.a L.n L.c] ty)) w2.heap.size t N L) := fun ty => SpC.new w2 ty t N L
  obtain ⟨tx, nb, ng, now, tns, tls⟩ := t
  obtain ⟨Na, Nn, Nc⟩ := N
  obtain ⟨La, Ln, Lc⟩ := L
  unfold spV at HRT ⊢
  simp only at HRT QBX ⊢
  have R3 : Hid (∀ o, SpC (w2.alloc o) w.heap.size zeroS noS noS) := fun o => R2.out.below (bel_al _ _)
  have HFO : Hid (∀ W, SpC W w.heap.size zeroS noS noS → Below w.heap.size w W → SpC (Spa.put6 W w.heap.size zeroS noS noS) w.heap.size zeroS noS noS ∧ Below w.heap.size w (Spa.put6 W w.heap.size zeroS noS noS)) := fun W h1 h2 => ⟨(put6_at h1 _ _ _).1, bel_put6 h2 h1 (Nat.le_refl _) _ _ _⟩
  cases v with
  | false =>
    have HE : Hid (E = 2 ∧ s = zeroS) := by
      rcases HD.out with ⟨_, h2, h3⟩ | ⟨h1, h2, _⟩
      · exact (HNO.out rfl s (rts_fit h2) h3).elim
      · exact ⟨h1, h2⟩
    obtain ⟨rfl, rfl⟩ := HE.out
    clear HE HNO HY HD HRT; obtain ⟨r0, r1, r2, r3, r4, r5, rf⟩ := R3.out (.cells #[.int .i64 tx, .int .i64 nb, .int .i64 ng, .int .i64 now, .slice Na Nn Nc, .slice La Ln Lc] 27)
    have HP : Hid _ := HFO.out _ (R3.out (.cells #[.int .i64 tx, .int .i64 nb, .int .i64 ng, .int .i64 now, .slice Na Nn Nc, .slice La Ln Lc] 27)) (bel_tr B2.out (bel_al _ _))
    rw [put6_def] at HP
    unfold noS zeroS at HP; simp only at HP
    simp only [zeroS, noS] at r0 r1 r2 r3 r4 r5
    go_upto_region 5 with fail
    generalize w2.alloc (.cells #[.int .i64 tx, .int .i64 nb, .int .i64 ng, .int .i64 now, .slice Na Nn Nc, .slice La Ln Lc] 27) = W3 at *
    go_wp2; obtain ⟨q0, q1, q2, q3, q4, q5, _⟩ := HP.out.1
    refine bodyPost_ret (v := .tuple #[.agg #[.int .i64 0, .int .i64 0, .int .i64 0, .int .i64 0, .slice none 0 0, .slice none 0 0], .int .i64 2]) ?_ rfl ⟨HI.out _, HP.out.2⟩
    simp only [results, Tryz.results14]
    simp [go_sem, q0, q1, q2, q3, q4, q5]
  | true =>
    obtain ⟨hp1, hp2⟩ := HY.out rfl
    have Q3 : Hid (SpC (w2.alloc (.cells #[.int .i64 tx, .int .i64 nb, .int .i64 ng, .int .i64 now, .slice Na Nn Nc, .slice La Ln Lc] 27)) w2.heap.size ⟨tx, nb, ng, now, tns, tls⟩ ⟨Na, Nn, Nc⟩ ⟨La, Ln, Lc⟩) := QBX.out _
    have R3b : Hid (SpC (w2.alloc (.cells #[.int .i64 tx, .int .i64 nb, .int .i64 ng, .int .i64 now, .slice Na Nn Nc, .slice La Ln Lc] 27)) w.heap.size zeroS noS noS) := R3.out _
    have B3 : Hid (Below w2.heap.size w2 (w2.alloc (.cells #[.int .i64 tx, .int .i64 nb, .int .i64 ng, .int .i64 now, .slice Na Nn Nc, .slice La Ln Lc] 27))) := bel_al _ _
    go_upto_region 5 with fail
    generalize w2.alloc (.cells #[.int .i64 tx, .int .i64 nb, .int .i64 ng, .int .i64 now, .slice Na Nn Nc, .slice La Ln Lc] 27) = W3 at *
    generalize hQQ : w2.heap.size = Q at *
    have B4 : Hid (Below w.heap.size w W3) := by
      have h := B3.out
      rw [← hQQ] at h
      exact bel_tr B2.out h
    have B3' : Hid (Below w2.heap.size w2 W3) := by rw [hQQ]; exact B3.out
    obtain ⟨y0, y1, y2, y3, y4, y5, yf⟩ := Q3.out
    simp only at y0 y1 y2 y3 y4 y5
    by_cases hR : RtS ⟨tx, nb, ng, now, tns, tls⟩
    · have HE : Hid (E = 0 ∧ s = ⟨tx, nb, ng, now, tns, tls⟩) := by
        rcases HD.out with ⟨h1, _, h3⟩ | ⟨_, _, h3⟩
        · exact ⟨h1, partsS_inj (h3.symm.trans hp1)⟩
        · exact (h3 _ hR hp1).elim
      obtain ⟨rfl, rfl⟩ := HE.out
      have CR : Hid (Calls Tryz.prog 22 #[.agg #[.int .i64 tx, .int .i64 nb, .int .i64 ng, .int .i64 now, .slice Na Nn Nc, .slice La Ln Lc]] W3 fun e w' => e = .returned (.bool true) ∧ Below W3.heap.size W3 w') := HRT.out W3 true B3.out ⟨fun _ => hR, fun _ => rfl⟩
      clear HE HNO HY HD HRT hp1 hp2; go_wp2_with fail
      refine CR.out.mono ?_
      rintro e w4 ⟨rfl, b4⟩; have INN : Hid (SpOwn w1.heap.size w4 ⟨tx, nb, ng, now, tns, tls⟩ ⟨Na, Nn, Nc⟩ ⟨La, Ln, Lc⟩) := (IN2.out.below B3'.out).below b4
      have R4 : Hid (SpC w4 w.heap.size zeroS noS noS) := R3b.out.below b4
      obtain ⟨x0, x1, x2, x3, x4, x5, _⟩ := Q3.out.below b4
      simp only at x0 x1 x2 x3 x4 x5
      have B5 : Hid (Below w.heap.size w w4) := bel_tr B4.out b4
      have pR := put6_at R4.out ⟨tx, nb, ng, now, tns, tls⟩ ⟨Na, Nn, Nc⟩ ⟨La, Ln, Lc⟩
      have HP : Hid (SpC (Spa.put6 w4 w.heap.size ⟨tx, nb, ng, now, tns, tls⟩ ⟨Na, Nn, Nc⟩ ⟨La, Ln, Lc⟩) w.heap.size ⟨tx, nb, ng, now, tns, tls⟩ ⟨Na, Nn, Nc⟩ ⟨La, Ln, Lc⟩ ∧ Below w.heap.size w (Spa.put6 w4 w.heap.size ⟨tx, nb, ng, now, tns, tls⟩ ⟨Na, Nn, Nc⟩ ⟨La, Ln, Lc⟩) ∧ SpOwn w.heap.size (Spa.put6 w4 w.heap.size ⟨tx, nb, ng, now, tns, tls⟩ ⟨Na, Nn, Nc⟩ ⟨La, Ln, Lc⟩) ⟨tx, nb, ng, now, tns, tls⟩ ⟨Na, Nn, Nc⟩ ⟨La, Ln, Lc⟩) := ⟨pR.1, bel_put6 B5.out R4.out (Nat.le_refl _) _ _ _, (INN.out.keep pR.2 (fun k hk => by rw [hk]; exact hw1)).mono (Nat.le_of_lt hw1)⟩
      rw [put6_def] at HP
      simp only at HP
      obtain ⟨r0, r1, r2, r3, r4, r5, rf⟩ := R4.out
      simp only [zeroS, noS] at r0 r1 r2 r3 r4 r5
      clear pR b4 y0 y1 y2 y3 y4 y5 yf CR; go_wp2; obtain ⟨q0, q1, q2, q3, q4, q5, _⟩ := HP.out.1
      refine bodyPost_ret (v := .tuple #[spV ⟨tx, nb, ng, now, tns, tls⟩ ⟨Na, Nn, Nc⟩ ⟨La, Ln, Lc⟩, .int .i64 0]) ?_ rfl ⟨⟨⟨Na, Nn, Nc⟩, ⟨La, Ln, Lc⟩, rfl, HP.out.2.2⟩, HP.out.2.1⟩
      unfold spV; simp only [results, Tryz.results14]
      simp [go_sem, q0, q1, q2, q3, q4, q5]
    · have HE : Hid (E = 2 ∧ s = zeroS) := by
        rcases HD.out with ⟨_, h2, h3⟩ | ⟨h1, h2, _⟩
        · exact absurd ((partsS_inj (h3.symm.trans hp1)) ▸ h2) hR
        · exact ⟨h1, h2⟩
      obtain ⟨rfl, rfl⟩ := HE.out
      have CR : Hid (Calls Tryz.prog 22 #[.agg #[.int .i64 tx, .int .i64 nb, .int .i64 ng, .int .i64 now, .slice Na Nn Nc, .slice La Ln Lc]] W3 fun e w' => e = .returned (.bool false) ∧ Below W3.heap.size W3 w') := HRT.out W3 false B3.out ⟨fun e => (by cases e), fun e => absurd e hR⟩
      clear HE HNO HY HD HRT hp1 hp2 hR; go_wp2_with fail
      refine CR.out.mono ?_
      rintro e w4 ⟨rfl, b4⟩; have R4 : Hid (SpC w4 w.heap.size zeroS noS noS) := R3b.out.below b4
      have HP : Hid _ := HFO.out _ R4.out (bel_tr B4.out b4)
      rw [put6_def] at HP
      unfold noS zeroS at HP; simp only at HP
      obtain ⟨r0, r1, r2, r3, r4, r5, rf⟩ := R4.out
      simp only [zeroS, noS] at r0 r1 r2 r3 r4 r5
      clear b4 CR y0 y1 y2 y3 y4 y5 yf; go_wp2; obtain ⟨q0, q1, q2, q3, q4, q5, _⟩ := HP.out.1
      refine bodyPost_ret (v := .tuple #[.agg #[.int .i64 0, .int .i64 0, .int .i64 0, .int .i64 0, .slice none 0 0, .slice none 0 0], .int .i64 2]) ?_ rfl ⟨HI.out _, HP.out.2⟩
      simp only [results, Tryz.results14]
      simp [go_sem, q0, q1, q2, q3, q4, q5]
theorem decode_val {b : ByteArray} {w : World} (hb : b.size ≤ 4000000000) (s : Sp) (E : Int) (h : DecI b s E) :
    Calls Tryz.prog 14 #[.string b] w fun e w' => DecR w.heap.size s E e w' ∧ Below w.heap.size w w' := by
  cases h with
  | ok _ h1 h2 h3 => exact decode_ok hb h2 h3 s 0 (.inl ⟨rfl, h1, rfl⟩)
  | form ps h1 h2 h3 => exact decode_ok hb h1 h2 zeroS 2 (.inr ⟨rfl, rfl, h3⟩)
  | bad ps r e h1 h2 h3 => exact decode_bad hb h1 h2 h3
end Go.Proofs.YtcnflkjkgomnoaaGreat.Img
