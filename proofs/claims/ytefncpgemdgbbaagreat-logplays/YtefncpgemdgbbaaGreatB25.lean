/- Part 25 of the proof: LogQ3, LogY4. -/
import Derived.Test.YtefncpgemdgbbaaGreatB10
import Derived.Test.YtefncpgemdgbbaaGreatB12
import Derived.Test.YtefncpgemdgbbaaGreatB23
import Derived.Test.YtefncpgemdgbbaaGreatB24
import Derived.Deep.Cut

/- Load and the reference's Load, each in one contract. -/
namespace Go.Proofs.YtefncpgemdgbbaaGreat.Lgg
open Go.RowKit Go.Proofs.YtefncpgemdgbbaaGreat
set_option linter.unusedVariables false

/-- What Load tells of a file's bytes, and of Read's error. -/
def loadS (b : ByteArray) (q : Int) : Lg × Bool × Int := if q = 0 then (match parseL b with | some (l, R) => (l, decide (R.size = 0), 0) | none => (⟨0, []⟩, false, 2)) else (⟨0, []⟩, false, q)

/-- A log, is it whole, the error: the log's row lies in new memory. -/
structure LdR (base : Nat) (l : Lg) (wh : Bool) (q : Int) (e : Ending) (w' : World) : Prop where
  ex : ∃ a c, e = .returned (.tuple #[.agg #[.int .i64 l.ep, .slice a l.es.length c], .bool wh, .int .i64 q]) ∧ Lie enC (fun k => base ≤ k) w' a l.es

set_option maxRecDepth 100000 in
set_option maxHeartbeats 2000000 in
theorem load_err {w0 w : World} {K : Nat → Prop} {pd : Nat} {ds : DS} (h : Dk w0 K w pd ds) (s : ByteArray) (hs : s.size ≤ maxLen) (b : ByteArray) (ht : rdT ds s.data.toList = b) (q : Int) (hq : rdE ds s.data.toList = q) (hq0 : ¬ q = 0) :
    Calls Tryz.prog 16 #[.pointer (some ⟨pd, 0, none⟩), .string s] w fun e w' => e = .returned (.tuple #[.agg #[.int .i64 0, .slice none 0 0], .bool false, .int .i64 q]) ∧ Below w.heap.size w w' := by
  have HR : Hid (∀ W, Below w.heap.size w W → Calls Tryz.prog 29 #[.pointer (some ⟨pd, 0, none⟩), .string s] W fun e w' => e = .returned (.tuple #[.string b, .int .i64 q]) ∧ Below W.heap.size W w') := fun W hb => dk_read (h.below hb) s hs b q ht hq
  have hst := fun (w : World) (a : Addr) (x : ByteArray) (m : Mode) => run_store (P := Tryz.prog) w a (.string x) m rfl
  have hst2 : ∀ (w : World) (a : Addr) (x : Option Addr) (n c : Nat) (m : Mode), (store a (.slice x n c) m).run Tryz.prog w = stored Tryz.prog w a (.slice x n c) m := fun w a x n c m => run_store (P := Tryz.prog) w a _ m rfl
  have hqb : (q == 0) = false := beq_eq_false_iff_ne.2 hq0
  clear h ht hq
  go_enter Tryz.func16, Tryz.ntmps16
  go_wp2_with fail
  refine (HR.out _ (bel_al _ _)).mono ?_
  rintro e w1 ⟨rfl, b1⟩
  have bb := bel_tr b1 (bel_al w1 (.cells #[.string b] 9))
  have y0 : (w1.alloc (.cells #[.string b] 9)).cell? ⟨w.heap.size, 0, none⟩ = some (.int .i64 0) := bel_cell bb (World.cell?_alloc_new w _ _ 0)
  have y1 : (w1.alloc (.cells #[.string b] 9)).cell? ⟨w.heap.size, 1, none⟩ = some (.slice none 0 0) := bel_cell bb (World.cell?_alloc_new w _ _ 1)
  have f0 : (w1.alloc (.cells #[.string b] 9)).frozen? ⟨w.heap.size, 0, none⟩ = false := (World.frozen?_of_block (a := ⟨w.heap.size, 0, none⟩) (bb.block w.heap.size (by simp))).trans (World.frozen?_alloc_new w _ _ 0)
  have f1 : (w1.alloc (.cells #[.string b] 9)).frozen? ⟨w.heap.size, 1, none⟩ = false := (World.frozen?_of_block (a := ⟨w.heap.size, 1, none⟩) (bb.block w.heap.size (by simp))).trans (World.frozen?_alloc_new w _ _ 1)
  have B1 : Hid (Below w.heap.size w (w1.alloc (.cells #[.string b] 9))) := bel_tr (bel_al _ _) bb
  clear b1 HR bb
  go_upto_region 2 with fail
  generalize w1.alloc (.cells #[.string b] 9) = W1 at *
  go_wp2
  obtain ⟨z0, z1⟩ := two_set (u' := .int .i64 0) (v' := .slice none 0 0) y0 y1
  refine bodyPost_ret (v := .tuple #[.agg #[.int .i64 0, .slice none 0 0], .bool false, .int .i64 q]) ?_ rfl ⟨rfl, Below.setCell (Below.setCell B1.out (Nat.le_refl _) _) (Nat.le_refl _) _⟩
  simp only [results, Tryz.results16]
  simp [go_sem, z0, z1]

theorem load_any {w0 w : World} {K : Nat → Prop} {pd : Nat} {ds : DS} (h : Dk w0 K w pd ds) (s : ByteArray) (hs : s.size ≤ maxLen) (b : ByteArray) (hbm : b.size ≤ maxLen) (ht : rdT ds s.data.toList = b) (q : Int) (hq : rdE ds s.data.toList = q) (l : Lg) (wh : Bool) (er : Int) (hl : loadS b q = (l, wh, er)) :
    Calls Tryz.prog 16 #[.pointer (some ⟨pd, 0, none⟩), .string s] w fun e w' => LdR w.heap.size l wh er e w' ∧ Below w.heap.size w w' := by
  unfold loadS at hl
  by_cases h0 : q = 0
  · rw [if_pos h0] at hl
    subst h0
    cases hp : parseL b with
    | none =>
      rw [hp] at hl
      cases hl
      have hE : epochP b = none := by
        unfold parseL at hp
        cases hE : epochP b with
        | none => rfl
        | some p => rw [hE] at hp; cases hp
      refine (load_form h s hs b hbm ht hq hE).mono ?_
      rintro e w' ⟨k1, k2⟩
      exact ⟨⟨none, 0, k1, Lie.nil _ _ _ _⟩, k2⟩
    | some p =>
      obtain ⟨l', R⟩ := p
      rw [hp] at hl
      cases hl
      refine (load_yes h s hs b hbm ht hq l R hp _ rfl).mono ?_
      rintro e w' ⟨⟨a, c, g, k1, k2⟩, k3⟩
      exact ⟨⟨a, c, k1, Lie.of_cel wideN k2⟩, k3⟩
  · rw [if_neg h0] at hl
    cases hl
    refine (load_err h s hs b ht q hq h0).mono ?_
    rintro e w' ⟨k1, k2⟩
    exact ⟨⟨none, 0, k1, Lie.nil _ _ _ _⟩, k2⟩

set_option maxRecDepth 100000 in
set_option maxHeartbeats 4000000 in
theorem refLoad_any {O : Nat → Prop} {w : World} {px : Nat} {xa : Option Addr} {xc : Nat} {xg : Option Nat} {ds : DS} (h : RAt O w px xa xc xg ds) (hf : Fit ds) (s : ByteArray) (b : ByteArray) (hbm : b.size ≤ maxLen) (ht : rdT ds s.data.toList = b) (q : Int) (hq : rdE ds s.data.toList = q) (l : Lg) (wh : Bool) (er : Int) (hl : loadS b q = (l, wh, er)) :
    Calls Tryz.prog 17 #[.pointer (some ⟨px, 0, none⟩), .string s] w fun e w' => LdR w.heap.size l wh er e w' ∧ Below w.heap.size w w' := by
  have HR : Hid (∀ W, Below w.heap.size w W → Calls Tryz.prog 31 #[.pointer (some ⟨px, 0, none⟩), .string s] W fun e w' => e = .returned (.tuple #[.string b, .int .i64 q]) ∧ W = w') := fun W hb => (refRead_val (h.below hb) hf s.data.toList b q ht hq).mono fun e w' ⟨k1, k2⟩ => ⟨k1, k2.symm⟩
  have hst2 : ∀ (w : World) (a : Addr) (x : Option Addr) (n c : Nat) (m : Mode), (store a (.slice x n c) m).run Tryz.prog w = stored Tryz.prog w a (.slice x n c) m := fun w a x n c m => run_store (P := Tryz.prog) w a _ m rfl
  have y0 : (w.alloc (.cells #[.int .i64 0, .slice none 0 0] 30)).cell? ⟨w.heap.size, 0, none⟩ = some (.int .i64 0) := World.cell?_alloc_new w _ _ 0
  have y1 : (w.alloc (.cells #[.int .i64 0, .slice none 0 0] 30)).cell? ⟨w.heap.size, 1, none⟩ = some (.slice none 0 0) := World.cell?_alloc_new w _ _ 1
  have fz : ∀ j, (w.alloc (.cells #[.int .i64 0, .slice none 0 0] 30)).frozen? ⟨w.heap.size, j, none⟩ = false := fun j => World.frozen?_alloc_new w _ _ j
  have B0 : Hid (Below w.heap.size w (w.alloc (.cells #[.int .i64 0, .slice none 0 0] 30)) ∧ w.heap.size < (w.alloc (.cells #[.int .i64 0, .slice none 0 0] 30)).heap.size) := ⟨bel_al _ _, by simp⟩
  clear h hf ht hq
  unfold loadS at hl
  by_cases h0 : q = 0
  · rw [if_pos h0] at hl
    subst h0
    cases hp : parseL b with
    | none =>
      rw [hp] at hl
      simp only [Prod.mk.injEq] at hl
      obtain ⟨rfl, rfl, rfl⟩ := hl
      have hE : epochP b = none := by
        unfold parseL at hp
        cases hE : epochP b with
        | none => rfl
        | some p => rw [hE] at hp; cases hp
      have HP : Hid (∀ W, Calls Tryz.prog 42 #[.string b] W fun e w' => e = .returned (.tuple #[.agg #[.int .i64 0, .slice none 0 0], .bool false, .bool false]) ∧ Below W.heap.size W w') := fun W => refParse_no b hbm hE W
      clear hE hp hbm
      go_enter Tryz.func17, Tryz.ntmps17
      go_wp2_with (first
        | (go_at_call 31; refine (HR.out _ B0.out.1).mono ?_; rintro e wr ⟨rfl, rfl⟩)
        | fail)
      generalize w.alloc (.cells #[.int .i64 0, .slice none 0 0] 30) = W1 at *
      refine (HP.out _).mono ?_
      rintro e w2 ⟨rfl, b2⟩
      have bb : ∀ o, Below W1.heap.size W1 (w2.alloc o) := fun o => bel_tr b2 (bel_al _ _)
      have u0 := fun o => bel_cell (bb o) y0
      have u1 := fun o => bel_cell (bb o) y1
      have g0 := fun o => (World.frozen?_of_block (a := ⟨w.heap.size, 0, none⟩) ((bb o).block w.heap.size B0.out.2)).trans (fz 0)
      have g1 := fun o => (World.frozen?_of_block (a := ⟨w.heap.size, 1, none⟩) ((bb o).block w.heap.size B0.out.2)).trans (fz 1)
      have B2 : Hid (∀ o, Below w.heap.size w (w2.alloc o)) := fun o => bel_tr B0.out.1 (bb o)
      clear b2 bb y0 y1 fz
      go_wp2
      obtain ⟨z0, z1⟩ := two_set (u' := .int .i64 0) (v' := .slice none 0 0) (u0 (.cells #[.int .i64 0, .slice none 0 0] 30)) (u1 (.cells #[.int .i64 0, .slice none 0 0] 30))
      refine bodyPost_ret (v := .tuple #[.agg #[.int .i64 0, .slice none 0 0], .bool false, .int .i64 2]) ?_ rfl ⟨⟨none, 0, rfl, Lie.nil _ _ _ _⟩, Below.setCell (Below.setCell (B2.out _) (Nat.le_refl _) _) (Nat.le_refl _) _⟩
      simp only [results, Tryz.results17]
      simp [go_sem, z0, z1]
    | some p =>
      obtain ⟨l', R⟩ := p
      rw [hp] at hl
      simp only [Prod.mk.injEq] at hl
      obtain ⟨rfl, hwh, rfl⟩ := hl
      have HP : Hid (∀ W, Calls Tryz.prog 42 #[.string b] W fun e w' => ParR W.heap.size l' wh e w' ∧ Below W.heap.size W w') := fun W => refParse_yes b hbm l' R hp wh hwh W
      clear hp hbm hwh
      go_enter Tryz.func17, Tryz.ntmps17
      go_wp2_with (first
        | (go_at_call 31; refine (HR.out _ B0.out.1).mono ?_; rintro e wr ⟨rfl, rfl⟩)
        | fail)
      generalize w.alloc (.cells #[.int .i64 0, .slice none 0 0] 30) = W1 at *
      refine (HP.out _).mono ?_
      rintro e w2 ⟨⟨a, c, g, rfl, hC⟩, b2⟩
      obtain ⟨n, hn⟩ : ∃ n, l'.es.length = n := ⟨_, rfl⟩
      rw [hn] at hC ⊢
      have HN : Hid (l'.es.length = n) := hn
      have bb := bel_tr b2 (bel_al w2 (.cells #[.int .i64 l'.ep, .slice a n c] 30))
      have u0 := bel_cell bb y0
      have u1 := bel_cell bb y1
      have g0 := (World.frozen?_of_block (a := ⟨w.heap.size, 0, none⟩) (bb.block w.heap.size B0.out.2)).trans (fz 0)
      have g1 := (World.frozen?_of_block (a := ⟨w.heap.size, 1, none⟩) (bb.block w.heap.size B0.out.2)).trans (fz 1)
      obtain ⟨v0, v1, _, _⟩ := cells2 w2 (.int .i64 l'.ep) (.slice a n c) 30
      have B2 : Hid (Below w.heap.size w (w2.alloc (.cells #[.int .i64 l'.ep, .slice a n c] 30))) := bel_tr B0.out.1 bb
      have HC2 : Hid (Cel (fun k => W1.heap.size ≤ k) (w2.alloc (.cells #[.int .i64 l'.ep, .slice a n c] 30)) 2 (.slice a n c) n (rowC enC l'.es) g) := hC.below (bel_al _ _)
      have hlt : ¬ w2.heap.size = w.heap.size := by have h9 := b2.size; have h10 := B0.out.2; omega
      have hlt2 : ¬ w.heap.size = w2.heap.size := fun e => hlt e.symm
      clear hC b2 bb y0 y1 fz hn
      obtain ⟨z0, z1⟩ := two_set (u' := .int .i64 l'.ep) (v' := .slice a n c) u0 u1
      have HF : Hid (LdR w.heap.size l' wh 0 (.returned (.tuple #[.agg #[.int .i64 l'.ep, .slice a n c], .bool wh, .int .i64 0])) (((w2.alloc (.cells #[.int .i64 l'.ep, .slice a n c] 30)).setCell ⟨w.heap.size, 0, none⟩ (.int .i64 l'.ep)).setCell ⟨w.heap.size, 1, none⟩ (.slice a n c))) := by
        have h8 := HC2.out
        have hne : g ≠ some w.heap.size := fun e => by rw [e] at h8; have h9 : W1.heap.size ≤ w.heap.size := h8.lt.2; have := B0.out.2; omega
        have h7 := (h8.setOut ⟨w.heap.size, 0, none⟩ (.int .i64 l'.ep) hne).setOut ⟨w.heap.size, 1, none⟩ (.slice a n c) hne
        have h6 : Cel (fun k => w.heap.size ≤ k) (((w2.alloc (.cells #[.int .i64 l'.ep, .slice a n c] 30)).setCell ⟨w.heap.size, 0, none⟩ (.int .i64 l'.ep)).setCell ⟨w.heap.size, 1, none⟩ (.slice a n c)) 2 (.slice a l'.es.length c) l'.es.length (rowC enC l'.es) g := by
          rw [HN.out]
          exact h7.stay (Nat.le_refl _) (fun _ _ => rfl) (fun k hk => by have h9 : W1.heap.size ≤ k := hk; have := B0.out.2; omega)
        exact ⟨a, c, by rw [HN.out], Lie.of_cel wideN h6⟩
      clear HC2
      go_wp2
      refine bodyPost_ret (v := .tuple #[.agg #[.int .i64 l'.ep, .slice a n c], .bool wh, .int .i64 0]) ?_ rfl ⟨HF.out, Below.setCell (Below.setCell B2.out (Nat.le_refl _) _) (Nat.le_refl _) _⟩
      simp only [results, Tryz.results17]
      simp [go_sem, z0, z1]
  · rw [if_neg h0] at hl
    simp only [Prod.mk.injEq] at hl
    obtain ⟨rfl, rfl, rfl⟩ := hl
    have hqb : (q == 0) = false := beq_eq_false_iff_ne.2 h0
    go_enter Tryz.func17, Tryz.ntmps17
    have f0 := fz 0
    have f1 := fz 1
    go_wp2_with (go_at_call 31; refine (HR.out _ B0.out.1).mono ?_; rintro e wr ⟨rfl, rfl⟩)
    refine bodyPost_ret (v := .tuple #[.agg #[.int .i64 0, .slice none 0 0], .bool false, .int .i64 q]) ?_ rfl ⟨⟨none, 0, rfl, Lie.nil _ _ _ _⟩, B0.out.1⟩
    simp only [results, Tryz.results17]
    simp [go_sem]

end Go.Proofs.YtefncpgemdgbbaaGreat.Lgg

/- The disk and the document's side by side, under calls of log. -/
namespace Go.Proofs.YtefncpgemdgbbaaGreat.Lgg
open Go.RowKit Go.Proofs.YtefncpgemdgbbaaGreat
set_option linter.unusedVariables false

section
variable {w0 w : World} {pf : Option Nat} {B : Option Obj} {pd px : Nat} {ds ds' d1 d2 : DS}
/-- The program's disk does something. -/
theorem half_d {F : Nat} {args : Array Value} {r : Ending} (h : Half w0 pf B w pd px ds d2) (c : ∀ K, Dk w0 K w pd ds → Calls Tryz.prog F args w fun e w' => e = r ∧ Dk w0 K w' pd ds' ∧ Stay (fun k => ¬ K k) w w') :
    Calls Tryz.prog F args w fun e w' => e = r ∧ Half w0 pf B w' pd px ds' d2 := by
  obtain ⟨O1, O2, h1, ⟨a, c', g, h2⟩, hf, h3, h4, h5, h6, hp⟩ := h.out
  refine (c (fun k => O2 k ∨ pf = some k) ⟨O1, h1, fun k hk => ⟨h4 k hk, fun e => e.elim (h3 k hk) (fun e => (hp k e).1 hk)⟩, h6, fun k hk => hk.elim (h2.lt k) (fun e => (hp k e).2.2.1)⟩).mono fun e w' ⟨e1, e2, e3⟩ => ⟨e1, ?_⟩
  obtain ⟨O', k1, k2, k3, k4⟩ := e2.ex
  refine ⟨O', O2, k1, ⟨a, c', g, h2.stay e3 (fun k hk e => e (.inl hk))⟩, hf, fun k hk e => (k2 k hk).2 (.inl e), fun k hk => (k2 k hk).1, h5, k3, fun k hk => ?_⟩
  obtain ⟨n1, n2, n3, n4⟩ := hp k hk
  exact ⟨fun e => (k2 k e).2 (.inr hk), n2, Nat.lt_of_lt_of_le n3 e3.size, (e3.block k n3 (fun e => e (.inr hk))).trans n4⟩
/-- The document's does the same. -/
theorem half_x {F : Nat} {args : Array Value} {r : Ending} (h : Half w0 pf B w pd px ds' ds) (c : ∀ K, Xk w0 K w px ds → Calls Tryz.prog F args w fun e w' => e = r ∧ Xk w0 K w' px ds' ∧ Stay (fun k => ¬ K k) w w') :
    Calls Tryz.prog F args w fun e w' => e = r ∧ Half w0 pf B w' pd px ds' ds' := by
  obtain ⟨O1, O2, h1, ⟨a, c', g, h2⟩, hf, h3, h4, h5, h6, hp⟩ := h.out
  refine (c (fun k => O1 k ∨ pf = some k) ⟨⟨O2, a, c', g, h2, fun k hk => ⟨h5 k hk, fun e => e.elim (fun e => h3 k e hk) (fun e => (hp k e).2.1 hk)⟩, h6, fun k hk => hk.elim (lt_of h1 k) (fun e => (hp k e).2.2.1)⟩, hf⟩).mono fun e w' ⟨e1, e2, e3⟩ => ⟨e1, ?_⟩
  obtain ⟨O', a', c2, g', k1, k2, k3, k4⟩ := e2.ex
  refine ⟨O1, O', h1.stay e3 (fun k hk e => e (.inl hk)), ⟨a', c2, g', k1⟩, e2.fit, fun k hk e => (k2 k e).2 (.inl hk), h4, fun k hk => (k2 k hk).1, k3, fun k hk => ?_⟩
  obtain ⟨n1, n2, n3, n4⟩ := hp k hk
  exact ⟨n1, fun e => (k2 k e).2 (.inr hk), Nat.lt_of_lt_of_le n3 e3.size, (e3.block k n3 (fun e => e (.inr hk))).trans n4⟩
theorem half_fit (h : Half w0 pf B w pd px d1 d2) : Fit d2 := by obtain ⟨O1, O2, h1, _, hf, _⟩ := h.out; exact hf
theorem rd_size {ds : DS} (h : Fit ds) (n : List UInt8) : (rdT ds n).size ≤ maxLen := by
  unfold rdT maxLen
  split
  · show (0 : Nat) ≤ _; omega
  · show (fdat ds.S n).toArray.size ≤ _
    rw [List.size_toArray]
    unfold fdat
    cases hg : fget ds.S n with
    | none => simp
    | some f => have := (h.data _ (fget_mem hg)).1; simp at this ⊢; omega
theorem half_load (h : Half w0 pf B w pd px ds ds) (s : ByteArray) (hs : s.size ≤ maxLen) (l : Lg) (wh : Bool) (er : Int) (hl : loadS (rdT ds s.data.toList) (rdE ds s.data.toList) = (l, wh, er)) :
    Calls Tryz.prog 16 #[.pointer (some ⟨pd, 0, none⟩), .string s] w fun e w' => LdR w.heap.size l wh er e w' ∧ Below w.heap.size w w' := by
  have hf := half_fit h
  obtain ⟨O1, O2, h1, ⟨a, c', g, h2⟩, _, h3, h4, h5, h6, hp⟩ := h.out
  exact load_any (w0 := w0) (K := fun _ => False) ⟨O1, h1, fun k hk => ⟨h4 k hk, id⟩, h6, fun k hk => hk.elim⟩ s hs _ (rd_size hf _) rfl _ rfl l wh er hl
theorem half_refLoad (h : Half w0 pf B w pd px ds ds) (s : ByteArray) (l : Lg) (wh : Bool) (er : Int) (hl : loadS (rdT ds s.data.toList) (rdE ds s.data.toList) = (l, wh, er)) :
    Calls Tryz.prog 17 #[.pointer (some ⟨px, 0, none⟩), .string s] w fun e w' => LdR w.heap.size l wh er e w' ∧ Below w.heap.size w w' := by
  have hf := half_fit h
  obtain ⟨O1, O2, h1, ⟨a, c', g, h2⟩, _, h3, h4, h5, h6, hp⟩ := h.out
  exact refLoad_any h2 hf s _ (rd_size hf _) rfl _ rfl l wh er hl
end

end Go.Proofs.YtefncpgemdgbbaaGreat.Lgg
