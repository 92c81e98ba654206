/- Part 35 of the proof: JrnD9. -/
import Derived.Test.YtfmhmokbbkliaaaGreatB33
import Derived.Lib.SliceRun

/- The contracts of Open, Promised, Dead, Log. -/
namespace Go.Proofs.YtfmhmokbbkliaaaGreat.Jrn
open Go.RowKit Go.Proofs.YtfmhmokbbkliaaaGreat Go.Proofs.YtfmhmokbbkliaaaGreat.Wir Go.Proofs.YtfmhmokbbkliaaaGreat.Lgg Go.Proofs.YtfmhmokbbkliaaaGreat.Sep
set_option linter.unusedVariables false

theorem ldL_ok (ds : DS) : RtL (ldL ds).2.1 := by
  obtain ⟨⟨l, wh, er⟩, hl⟩ : ∃ x, loadS (rdT ds lgN.data.toList) (rdE ds lgN.data.toList) = x := ⟨_, rfl⟩
  have h := loadS_ok hl
  unfold ldL
  rw [hl]
  simp only
  split
  · exact rt_none
  · split
    · split
      · exact h
      · split
        · exact h
        · exact rt_none
    · exact rt_none
theorem ldP_ok (ds : DS) : epOk (ldP ds).2 = true := by
  obtain ⟨⟨l, wh, er⟩, hl⟩ : ∃ x, loadS (rdT ds prN.data.toList) (rdE ds prN.data.toList) = x := ⟨_, rfl⟩
  have h := loadS_ok hl
  unfold ldP
  rw [hl]
  simp only
  split
  · rfl
  · split
    · split
      · exact h.1
      · rfl
    · rfl
theorem openQ_ok (ds : DS) : NdOk (openQ ds).2.2 := by
  unfold openQ
  split
  · split
    · exact ⟨ldL_ok ds, ldP_ok ds, fun e => by cases e⟩
    · exact dead_ok
  · exact dead_ok

/-- A disk on which a node is opened: what becomes of it. -/
structure OpnR (w : World) (O : Nat → Prop) (pd : Nat) (ds : DS) (nd : Nd) (er : Int) (e : Ending) (w' : World) : Prop where
  yes : er = 0 → ∃ jp, e = .returned (.tuple #[.pointer (some ⟨jp, 0, none⟩), .int .i64 0]) ∧ Hz w O [jr jp pd ds nd] w'
  no : er ≠ 0 → e = .returned (.tuple #[.pointer none, .int .i64 er]) ∧ Hz w O [dsk pd ds] w'

set_option maxRecDepth 100000 in
set_option maxHeartbeats 2000000 in
theorem open_val {O : Nat → Prop} {w : World} {pd : Nat} {ds : DS} (h : (dsk pd ds).A O w) :
    Calls Tryz.prog 21 #[.pointer (some ⟨pd, 0, none⟩)] w fun e w' => OpnR w O pd (openQ ds).2.1 (openQ ds).2.2 (openQ ds).1 e w' := by
  have hz0 : Hz w O [dsk pd ds] w := Hz.start ⟨O, fun _ => False, h, fun _ e => e.elim, fun _ _ e => e, fun _ e => e, fun _ e => e.elim, (dsk pd ds).lt h⟩
  have HZ : Hid (Hz w O [dsk pd ds] w) := hz0
  have CP : Hid (Calls Tryz.prog 57 #[.pointer (some ⟨pd, 0, none⟩)] w fun e w' => e = .returned (.tuple #[.int .i64 (ldP ds).2, .int .i64 (ldP ds).1]) ∧ Below w.heap.size w w') := loadPromise_val h
  have CL : Hid (∀ w1, Below w.heap.size w w1 → Calls Tryz.prog 58 #[.pointer (some ⟨pd, 0, none⟩)] w1 fun e w' => ∃ a c g, e = .returned (.tuple #[.agg #[.int .i64 (ldL ds).2.1.ep, .slice a (ldL ds).2.1.es.length c], .int .i64 (ldL ds).1]) ∧ Hz w O [celT 2 (.slice a (ldL ds).2.1.es.length c) (ldL ds).2.1.es.length (rowC enC (ldL ds).2.1.es) g, dsk pd (ldL ds).2.2] w') := fun w1 hb => by
    obtain ⟨O1, k1, k2, k3⟩ := (HZ.out.below hb).out 0 rfl
    refine (loadLog_val k1).mono ?_
    rintro e w' ⟨a, c, g, h1, h2⟩
    refine ⟨a, c, g, h1, ?_⟩
    have h4 := k3 (all [celT 2 (.slice a (ldL ds).2.1.es.length c) (ldL ds).2.1.es.length (rowC enC (ldL ds).2.1.es) g, dsk pd (ldL ds).2.2]) w' h2.stars h2.stay
    exact Hz.unfold (L := [celT 2 (.slice a (ldL ds).2.1.es.length c) (ldL ds).2.1.es.length (rowC enC (ldL ds).2.1.es) g, dsk pd (ldL ds).2.2]) (M := []) h4
  have hq : openQ ds = if (ldP ds).1 = 0 then (if (ldL ds).1 = 0 then (0, (ldL ds).2.2, ⟨(ldP ds).2, (ldL ds).2.1, false⟩) else ((ldL ds).1, (ldL ds).2.2, deadN)) else ((ldP ds).1, ds, deadN) := rfl
  obtain ⟨⟨pe, pp⟩, hP⟩ : ∃ x, ldP ds = x := ⟨_, rfl⟩
  obtain ⟨⟨le, ll, ds2⟩, hL⟩ : ∃ x, ldL ds = x := ⟨_, rfl⟩
  rw [hP, hL] at hq
  rw [hP] at CP
  rw [hL] at CL
  simp only at CP CL hq
  clear hP hL h hz0
  obtain ⟨ep, es⟩ := ll
  simp only at CL
  obtain ⟨n, hn⟩ : ∃ n, es.length = n := ⟨_, rfl⟩
  rw [hn] at CL
  have HN : Hid (es.length = n) := hn
  clear hn
  by_cases hp0 : pe = 0
  · subst hp0
    rw [if_pos rfl] at hq
    by_cases hl0 : le = 0
    · subst hl0
      have HFIN : Hid (openQ ds = (0, ds2, ⟨pp, ⟨ep, es⟩, false⟩)) := by show _ = _; rw [hq]; rfl
      clear hq
      go_enter Tryz.func21, Tryz.ntmps21
      go_wp2_with (first
        | (go_at_call 57; refine CP.out.mono ?_; rintro e w1 ⟨rfl, b1⟩; have B1 : Hid (Below w.heap.size w w1) := b1; clear b1)
        | (go_at_call 58; refine (CL.out _ B1.out).mono ?_; rintro e w2 ⟨a, c, g, rfl, hz2⟩; have HZ2 : Hid (Hz w O [celT 2 (.slice a n c) n (rowC enC es) g, dsk pd ds2] w2) := hz2; clear hz2))
      go_ret2
      rw [HFIN.out]
      refine ⟨fun _ => ⟨_, rfl, ?_⟩, fun e => absurd rfl e⟩
      have hn := HN.out
      subst hn
      have h3 := (HZ2.out.below (bel_al w2 (.cells #[.int .i64 ep, .slice a es.length c] 34))).box [.pointer (some ⟨pd, 0, none⟩), .int .i64 pp, .int .i64 ep, .slice a es.length c, .bool false] 102
      have h4 := h3.swap2
      rw [show (w2.alloc (.cells #[.int .i64 ep, .slice a es.length c] 34)).heap.size = w2.heap.size + 1 by simp] at h4
      exact jr_fold (j := ⟨pp, ⟨ep, es⟩, false⟩) (a := a) (c := c) (g := g) (M := []) h4
    · have HFIN : Hid (openQ ds = (le, ds2, deadN)) := by show _ = _; rw [hq, if_neg hl0]
      have hb0 : (le == 0) = false := beq_eq_false_iff_ne.2 hl0
      clear hq
      go_enter Tryz.func21, Tryz.ntmps21
      go_wp2_with (first
        | (go_at_call 57; refine CP.out.mono ?_; rintro e w1 ⟨rfl, b1⟩; have B1 : Hid (Below w.heap.size w w1) := b1; clear b1)
        | (go_at_call 58; refine (CL.out _ B1.out).mono ?_; rintro e w2 ⟨a, c, g, rfl, hz2⟩; have HZ2 : Hid (Hz w O [celT 2 (.slice a n c) n (rowC enC es) g, dsk pd ds2] w2) := hz2; clear hz2))
      go_ret2
      rw [HFIN.out]
      exact ⟨fun e => absurd e hl0, fun _ => ⟨rfl, (HZ2.out.less.below (bel_al _ _))⟩⟩
  · have HFIN : Hid (openQ ds = (pe, ds, deadN)) := by show _ = _; rw [hq, if_neg hp0]
    have hb0 : (pe == 0) = false := beq_eq_false_iff_ne.2 hp0
    clear hq
    go_enter Tryz.func21, Tryz.ntmps21
    go_wp2_with (first
      | (go_at_call 57; refine CP.out.mono ?_; rintro e w1 ⟨rfl, b1⟩; have B1 : Hid (Below w.heap.size w w1) := b1; clear b1))
    go_ret2
    rw [HFIN.out]
    exact ⟨fun e => absurd e hp0, fun _ => ⟨rfl, HZ.out.below B1.out⟩⟩

set_option maxRecDepth 100000 in
theorem promised_val {w : World} {jp : Nat} {p : Int} (h : w.cell? ⟨jp, 1, none⟩ = some (.int .i64 p)) : Calls Tryz.prog 39 #[.pointer (some ⟨jp, 0, none⟩)] w fun e w' => e = .returned (.int .i64 p) ∧ w' = w := by
  go_enter Tryz.func39, Tryz.ntmps39
  go_wp2
  go_ret
  exact ⟨rfl, rfl⟩
set_option maxRecDepth 100000 in
theorem dead_val {w : World} {jp : Nat} {v : Bool} (h : w.cell? ⟨jp, 4, none⟩ = some (.bool v)) : Calls Tryz.prog 38 #[.pointer (some ⟨jp, 0, none⟩)] w fun e w' => e = .returned (.bool v) ∧ w' = w := by
  go_enter Tryz.func38, Tryz.ntmps38
  go_wp2
  go_ret
  exact ⟨rfl, rfl⟩

theorem nilEns (w : World) (a : Option Addr) (n c : Nat) : (binOp .eql 22 (.slice a n c) (.slice none 0 0)).run Tryz.prog w = .ok (.bool a.isNone) w := Lib.run_eql_slice_nil w 22 24 a n c 0 0 Tryz.underlying22
theorem cel_none (w : World) (base : Nat) (hb : base ≤ w.heap.size) (T : TypeId) (k : Nat) : Cel (fun q => base ≤ q) (w.alloc (.cells #[] T)) k (.slice (some ⟨w.heap.size, 0, none⟩) 0 0) 0 [] (some w.heap.size) :=
  .row _ 0 rfl (by simp) hb (by simp) (Nat.le_refl _) (Nat.zero_le _) (fun j hj => by simp at hj) (fun j hj => by simp at hj)
set_option maxRecDepth 100000 in
set_option maxHeartbeats 1000000 in
theorem clone_val {O : Nat → Prop} {w : World} {a : Option Addr} {es : List En} (h : Lie enC O w a es) (ha : a = none → es = []) (n c : Nat) (hn : es.length = n) (hn2 : n ≤ 1000) :
    Calls Tryz.prog 86 #[.slice a n c] w fun e w' => EnsR w.heap.size es e w' ∧ Below w.heap.size w w' := by
  cases a with
  | none =>
    obtain rfl := ha rfl
    obtain rfl : n = 0 := by simpa using hn.symm
    clear h
    have hnil := nilEns
    go_enter Tryz.func86, Tryz.ntmps86
    go_wp2
    go_ret
    exact ⟨⟨none, 0, none, rfl, .nil rfl rfl rfl⟩, Below.refl _ _⟩
  | some ad =>
    obtain ⟨ti, hi1, hi2, hi3, hi4⟩ := info_e
    have SW : Hid (Src Tryz.prog 2 22 (.slice (some ad) n c) n (rowC enC es) (w.alloc (.cells #[] 24))) := src_lie Tryz.underlying22 wideN (h.below (bel_al _ _)) n c hn
    have CW : Hid (Cel (fun q => w.heap.size ≤ q) (w.alloc (.cells #[] 24)) 2 (.slice (some ⟨w.heap.size, 0, none⟩) 0 0) 0 (rowC enC []) (some w.heap.size)) := cel_none w _ (Nat.le_refl _) _ 2
    have HN : Hid (es.length = n) := hn
    have hnil := nilEns
    clear h hn
    go_enter Tryz.func86, Tryz.ntmps86
    go_wp2_with (at_builtin; refine wpList_append_cel _ rfl _ _ 22 22 rfl 24 ti _ 2 24 Tryz.underlying22 hi1 hi2 hi3 hi4 rfl (O := fun q => w.heap.size ≤ q) (.slice (some ⟨w.heap.size, 0, none⟩) 0 0) 0 _ _ rfl CW.out _ n (rowC enC es) rfl SW.out (by unfold maxLen; omega) (by omega) ?_; intro a7 c7 w7 g7 hC7 hS7 hg7; have H7 : Hid (Cel (fun q => w.heap.size ≤ q) w7 2 (.slice a7 (0 + n) c7) (0 + n) (rowC enC [] ++ rowC enC es) g7 ∧ Below w.heap.size w w7) := cel_app (bel_al _ _) CW.out hC7 hS7; clear hC7 hS7 hg7)
    go_ret
    obtain ⟨k1, k2⟩ := H7.out
    rw [Nat.zero_add] at k1
    have hn := HN.out
    subst hn
    exact ⟨⟨a7, c7, g7, by first | rfl | (rw [Nat.zero_add]; rfl), k1⟩, k2⟩

/-- A log in new memory. -/
structure LogC (base : Nat) (l : Lg) (e : Ending) (w' : World) : Prop where
  ex : ∃ a c g, e = .returned (.agg #[.int .i64 l.ep, .slice a l.es.length c]) ∧ Cel (fun q => base ≤ q) w' 2 (.slice a l.es.length c) l.es.length (rowC enC l.es) g

set_option maxRecDepth 100000 in
set_option maxHeartbeats 2000000 in
theorem log_val {O : Nat → Prop} {w : World} {jp : Nat} {a : Option Addr} {n c : Nat} {l : Lg} (c2 : w.cell? ⟨jp, 2, none⟩ = some (.int .i64 l.ep)) (c3 : w.cell? ⟨jp, 3, none⟩ = some (.slice a n c)) (h : Lie enC O w a l.es) (ha : a = none → l.es = []) (hn : l.es.length = n) (hn2 : n ≤ 1000) :
    Calls Tryz.prog 37 #[.pointer (some ⟨jp, 0, none⟩)] w fun e w' => LogC w.heap.size l e w' ∧ Below w.heap.size w w' := by
  obtain ⟨ep, es⟩ := l
  simp only at c2 h ha hn
  have CC : Hid (∀ W, Below w.heap.size w W → Calls Tryz.prog 86 #[.slice a n c] W fun e w' => EnsR W.heap.size es e w' ∧ Below W.heap.size W w') := fun W hb => clone_val (h.below hb) ha n c hn hn2
  have HN : Hid (es.length = n) := hn
  have hst2 : ∀ (w : World) (a : Addr) (x : Option Addr) (n c : Nat) (m : Mode), (store a (.slice x n c) m).run Tryz.prog w = stored Tryz.prog w a (.slice x n c) m := fun w a x n c m => run_store (P := Tryz.prog) w a _ m rfl
  have d2 := bel_cell (bel_al w (.cells #[.int .i64 0, .slice none 0 0] 34)) c2
  have d3 := bel_cell (bel_al w (.cells #[.int .i64 0, .slice none 0 0] 34)) c3
  obtain ⟨q0, q1, f0, f1⟩ := cells2 w (.int .i64 0) (.slice none 0 0) 34
  have B1 : Hid (Below w.heap.size w (w.alloc (.cells #[.int .i64 0, .slice none 0 0] 34))) := bel_al _ _
  have hz1 : (w.alloc (.cells #[.int .i64 0, .slice none 0 0] 34)).heap.size = w.heap.size + 1 := by simp
  clear h ha hn
  go_enter Tryz.func37, Tryz.ntmps37
  go_upto_region 1 with fail
  generalize w.alloc (.cells #[.int .i64 0, .slice none 0 0] 34) = W1 at *
  have HZ1 : Hid (W1.heap.size = w.heap.size + 1) := hz1
  have c2' := c2
  clear c2 c3 hz1
  have HJ : Hid (jp < w.heap.size) := World.block_lt_of_cell? _ _ c2'
  obtain ⟨RB, hRB⟩ : ∃ RB, w.heap.size = RB := ⟨_, rfl⟩
  have HNE : Hid (jp ≠ RB) := (by have := HJ.out; show jp ≠ RB; omega)
  have HRB : Hid (w.heap.size = RB) := hRB
  simp only [hRB] at q0 q1 f0 f1 ⊢
  clear hRB
  go_region_held3 (fun w' => w'.cell? ⟨jp, 2, none⟩ = some (.int .i64 ep) ∧ w'.cell? ⟨jp, 3, none⟩ = some (.slice a n c))
    (first | (refine ⟨bel_cell B2.out d2, bel_cell B2.out d3⟩; done) | (refine ⟨other HNE.out (other HNE.out (bel_cell B2.out d2)), other HNE.out (other HNE.out (bel_cell B2.out d3))⟩; done) | go_keep)
    (first | (go_at_call 86; refine (CC.out _ (by first | exact bel_tr B1.out (bel_dr1' _) | exact B1.out)).mono ?_; rintro x w2 ⟨⟨a7, c7, g7, hx, hC⟩, b2⟩; rw [HN.out] at hx hC; subst hx; have B2 : Hid (Below W1.heap.size W1 w2) := (by first | exact bel_tr (bel_dr1' _) b2 | exact b2); have HC : Hid (Cel (fun q => W1.heap.size ≤ q) w2 2 (.slice a7 n c7) n (rowC enC es) g7) := hC; have y0 := bel_cell B2.out q0; have y1 := bel_cell B2.out q1; have g0 := (World.frozen?_of_block (a := ⟨RB, 0, none⟩) (B2.out.block RB (World.block_lt_of_cell? _ _ q0))).trans f0; have g1 := (World.frozen?_of_block (a := ⟨RB, 1, none⟩) (B2.out.block RB (World.block_lt_of_cell? _ _ q0))).trans f1; clear b2 hC))
  go_wp2
  obtain ⟨z0, z1⟩ := two_set (u' := .int .i64 ep) (v' := .slice a7 n c7) y0 y1
  have hs : Stay (fun q => q = RB) w2 ((w2.setCell ⟨RB, 0, none⟩ (.int .i64 ep)).setCell ⟨RB, 1, none⟩ (.slice a7 n c7)) := (stay_set w2 RB 0 _).then_same (stay_set _ RB 1 _)
  have hb2 := bel_tr B1.out B2.out
  have h1 := HZ1.out
  have h2 := HRB.out
  have hC : Cel (fun q => w.heap.size ≤ q) ((w2.setCell ⟨RB, 0, none⟩ (.int .i64 ep)).setCell ⟨RB, 1, none⟩ (.slice a7 n c7)) 2 (.slice a7 n c7) n (rowC enC es) g7 :=
    HC.out.stay hs.size (fun q hq => hs.block q (by have h9 := HC.out; rw [hq] at h9; exact h9.lt.1) (fun e => by have h9 := HC.out; rw [hq] at h9; have h8 : W1.heap.size ≤ q := h9.lt.2; omega)) (fun q hq => by have h9 : W1.heap.size ≤ q := hq; show w.heap.size ≤ q; omega)
  have hbf : Below w.heap.size w ((w2.setCell ⟨RB, 0, none⟩ (.int .i64 ep)).setCell ⟨RB, 1, none⟩ (.slice a7 n c7)) := hb2.trans (hs.below hb2.size (fun q hq => by omega))
  refine bodyPost_ret (v := .agg #[.int .i64 ep, .slice a7 n c7]) ?_ rfl ⟨⟨a7, c7, g7, by simp only [HN.out], by simp only [HN.out]; exact hC⟩, hbf⟩
  simp only [results, Tryz.results37]
  simp [go_sem, z0, z1]

end Go.Proofs.YtfmhmokbbkliaaaGreat.Jrn
