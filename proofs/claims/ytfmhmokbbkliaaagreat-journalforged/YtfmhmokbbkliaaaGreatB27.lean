/- Part 27 of the proof: LogQ3, JrnM, JrnP, JrnS, JrnF1, JrnF2, JrnF3, JrnD1, JrnD2. -/
import Derived.Test.YtfmhmokbbkliaaaGreatB05
import Derived.Test.YtfmhmokbbkliaaaGreatB09
import Derived.Test.YtfmhmokbbkliaaaGreatB20
import Derived.Test.YtfmhmokbbkliaaaGreatB23
import Derived.Test.YtfmhmokbbkliaaaGreatB26
import Derived.BigQuiet
import Derived.Deep.Cut
import Derived.Deep.RegionHeld3
import Derived.Lib.MinMax

/- Load and the reference's Load, each in one contract. -/
namespace Go.Proofs.YtfmhmokbbkliaaaGreat.Lgg
open Go.RowKit Go.Proofs.YtfmhmokbbkliaaaGreat
set_option linter.unusedVariables false

/-- What Load tells of a file's bytes, and of Read's error. -/
def loadS (b : ByteArray) (q : Int) : Lg × Bool × Int := if q = 0 then (match parseL b with | some (l, R) => (l, decide (R.size = 0), 0) | none => (⟨0, []⟩, false, 2)) else (⟨0, []⟩, false, q)

/-- A log, is it whole, the error: the log's row lies in new memory. -/
structure LdR (base : Nat) (l : Lg) (wh : Bool) (q : Int) (e : Ending) (w' : World) : Prop where
  ex : ∃ a c, e = .returned (.tuple #[.agg #[.int .i64 l.ep, .slice a l.es.length c], .bool wh, .int .i64 q]) ∧ Lie enC (fun k => base ≤ k) w' a l.es

set_option maxRecDepth 100000 in
set_option maxHeartbeats 2000000 in
theorem load_err {w0 w : World} {K : Nat → Prop} {pd : Nat} {ds : DS} (h : Dk w0 K w pd ds) (s : ByteArray) (hs : s.size ≤ maxLen) (b : ByteArray) (ht : rdT ds s.data.toList = b) (q : Int) (hq : rdE ds s.data.toList = q) (hq0 : ¬ q = 0) :
    Calls Tryz.prog 102 #[.pointer (some ⟨pd, 0, none⟩), .string s] w fun e w' => e = .returned (.tuple #[.agg #[.int .i64 0, .slice none 0 0], .bool false, .int .i64 q]) ∧ Below w.heap.size w w' := by
  have HR : Hid (∀ W, Below w.heap.size w W → Calls Tryz.prog 77 #[.pointer (some ⟨pd, 0, none⟩), .string s] W fun e w' => e = .returned (.tuple #[.string b, .int .i64 q]) ∧ Below W.heap.size W w') := fun W hb => dk_read (h.below hb) s hs b q ht hq
  have hst := fun (w : World) (a : Addr) (x : ByteArray) (m : Mode) => run_store (P := Tryz.prog) w a (.string x) m rfl
  have hst2 : ∀ (w : World) (a : Addr) (x : Option Addr) (n c : Nat) (m : Mode), (store a (.slice x n c) m).run Tryz.prog w = stored Tryz.prog w a (.slice x n c) m := fun w a x n c m => run_store (P := Tryz.prog) w a _ m rfl
  have hqb : (q == 0) = false := beq_eq_false_iff_ne.2 hq0
  clear h ht hq
  go_enter Tryz.func102, Tryz.ntmps102
  go_wp2_with fail
  refine (HR.out _ (bel_al _ _)).mono ?_
  rintro e w1 ⟨rfl, b1⟩
  have bb := bel_tr b1 (bel_al w1 (.cells #[.string b] 9))
  have y0 : (w1.alloc (.cells #[.string b] 9)).cell? ⟨w.heap.size, 0, none⟩ = some (.int .i64 0) := bel_cell bb (World.cell?_alloc_new w _ _ 0)
  have y1 : (w1.alloc (.cells #[.string b] 9)).cell? ⟨w.heap.size, 1, none⟩ = some (.slice none 0 0) := bel_cell bb (World.cell?_alloc_new w _ _ 1)
  have f0 : (w1.alloc (.cells #[.string b] 9)).frozen? ⟨w.heap.size, 0, none⟩ = false := (World.frozen?_of_block (a := ⟨w.heap.size, 0, none⟩) (bb.block w.heap.size (by simp))).trans (World.frozen?_alloc_new w _ _ 0)
  have f1 : (w1.alloc (.cells #[.string b] 9)).frozen? ⟨w.heap.size, 1, none⟩ = false := (World.frozen?_of_block (a := ⟨w.heap.size, 1, none⟩) (bb.block w.heap.size (by simp))).trans (World.frozen?_alloc_new w _ _ 1)
  have B1 : Hid (Below w.heap.size w (w1.alloc (.cells #[.string b] 9))) := bel_tr (bel_al _ _) bb
  clear b1 HR bb
  go_upto_region 2 with fail
  generalize w1.alloc (.cells #[.string b] 9) = W1 at *
  go_wp2
  obtain ⟨z0, z1⟩ := two_set (u' := .int .i64 0) (v' := .slice none 0 0) y0 y1
  refine bodyPost_ret (v := .tuple #[.agg #[.int .i64 0, .slice none 0 0], .bool false, .int .i64 q]) ?_ rfl ⟨rfl, Below.setCell (Below.setCell B1.out (Nat.le_refl _) _) (Nat.le_refl _) _⟩
  simp only [results, Tryz.results102]
  simp [go_sem, z0, z1]

theorem load_any {w0 w : World} {K : Nat → Prop} {pd : Nat} {ds : DS} (h : Dk w0 K w pd ds) (s : ByteArray) (hs : s.size ≤ maxLen) (b : ByteArray) (hbm : b.size ≤ maxLen) (ht : rdT ds s.data.toList = b) (q : Int) (hq : rdE ds s.data.toList = q) (l : Lg) (wh : Bool) (er : Int) (hl : loadS b q = (l, wh, er)) :
    Calls Tryz.prog 102 #[.pointer (some ⟨pd, 0, none⟩), .string s] w fun e w' => LdR w.heap.size l wh er e w' ∧ Below w.heap.size w w' := by
  unfold loadS at hl
  by_cases h0 : q = 0
  · rw [if_pos h0] at hl
    subst h0
    cases hp : parseL b with
    | none =>
      rw [hp] at hl
      cases hl
      have hE : epochP b = none := by
        unfold parseL at hp
        cases hE : epochP b with
        | none => rfl
        | some p => rw [hE] at hp; cases hp
      refine (load_form h s hs b hbm ht hq hE).mono ?_
      rintro e w' ⟨k1, k2⟩
      exact ⟨⟨none, 0, k1, Lie.nil _ _ _ _⟩, k2⟩
    | some p =>
      obtain ⟨l', R⟩ := p
      rw [hp] at hl
      cases hl
      refine (load_yes h s hs b hbm ht hq l R hp _ rfl).mono ?_
      rintro e w' ⟨⟨a, c, g, k1, k2⟩, k3⟩
      exact ⟨⟨a, c, k1, Lie.of_cel wideN k2⟩, k3⟩
  · rw [if_neg h0] at hl
    cases hl
    refine (load_err h s hs b ht q hq h0).mono ?_
    rintro e w' ⟨k1, k2⟩
    exact ⟨⟨none, 0, k1, Lie.nil _ _ _ _⟩, k2⟩

set_option maxRecDepth 100000 in
set_option maxHeartbeats 4000000 in
theorem refLoad_any {O : Nat → Prop} {w : World} {px : Nat} {xa : Option Addr} {xc : Nat} {xg : Option Nat} {ds : DS} (h : RAt O w px xa xc xg ds) (hf : Fit ds) (s : ByteArray) (b : ByteArray) (hbm : b.size ≤ maxLen) (ht : rdT ds s.data.toList = b) (q : Int) (hq : rdE ds s.data.toList = q) (l : Lg) (wh : Bool) (er : Int) (hl : loadS b q = (l, wh, er)) :
    Calls Tryz.prog 61 #[.pointer (some ⟨px, 0, none⟩), .string s] w fun e w' => LdR w.heap.size l wh er e w' ∧ Below w.heap.size w w' := by
  have HR : Hid (∀ W, Below w.heap.size w W → Calls Tryz.prog 59 #[.pointer (some ⟨px, 0, none⟩), .string s] W fun e w' => e = .returned (.tuple #[.string b, .int .i64 q]) ∧ W = w') := fun W hb => (refRead_val (h.below hb) hf s.data.toList b q ht hq).mono fun e w' ⟨k1, k2⟩ => ⟨k1, k2.symm⟩
  have hst2 : ∀ (w : World) (a : Addr) (x : Option Addr) (n c : Nat) (m : Mode), (store a (.slice x n c) m).run Tryz.prog w = stored Tryz.prog w a (.slice x n c) m := fun w a x n c m => run_store (P := Tryz.prog) w a _ m rfl
  have y0 : (w.alloc (.cells #[.int .i64 0, .slice none 0 0] 34)).cell? ⟨w.heap.size, 0, none⟩ = some (.int .i64 0) := World.cell?_alloc_new w _ _ 0
  have y1 : (w.alloc (.cells #[.int .i64 0, .slice none 0 0] 34)).cell? ⟨w.heap.size, 1, none⟩ = some (.slice none 0 0) := World.cell?_alloc_new w _ _ 1
  have fz : ∀ j, (w.alloc (.cells #[.int .i64 0, .slice none 0 0] 34)).frozen? ⟨w.heap.size, j, none⟩ = false := fun j => World.frozen?_alloc_new w _ _ j
  have B0 : Hid (Below w.heap.size w (w.alloc (.cells #[.int .i64 0, .slice none 0 0] 34)) ∧ w.heap.size < (w.alloc (.cells #[.int .i64 0, .slice none 0 0] 34)).heap.size) := ⟨bel_al _ _, by simp⟩
  clear h hf ht hq
  unfold loadS at hl
  by_cases h0 : q = 0
  · rw [if_pos h0] at hl
    subst h0
    cases hp : parseL b with
    | none =>
      rw [hp] at hl
      simp only [Prod.mk.injEq] at hl
      obtain ⟨rfl, rfl, rfl⟩ := hl
      have hE : epochP b = none := by
        unfold parseL at hp
        cases hE : epochP b with
        | none => rfl
        | some p => rw [hE] at hp; cases hp
      have HP : Hid (∀ W, Calls Tryz.prog 54 #[.string b] W fun e w' => e = .returned (.tuple #[.agg #[.int .i64 0, .slice none 0 0], .bool false, .bool false]) ∧ Below W.heap.size W w') := fun W => refParse_no b hbm hE W
      clear hE hp hbm
      go_enter Tryz.func61, Tryz.ntmps61
      go_wp2_with (first
        | (go_at_call 59; refine (HR.out _ B0.out.1).mono ?_; rintro e wr ⟨rfl, rfl⟩)
        | fail)
      generalize w.alloc (.cells #[.int .i64 0, .slice none 0 0] 34) = W1 at *
      refine (HP.out _).mono ?_
      rintro e w2 ⟨rfl, b2⟩
      have bb : ∀ o, Below W1.heap.size W1 (w2.alloc o) := fun o => bel_tr b2 (bel_al _ _)
      have u0 := fun o => bel_cell (bb o) y0
      have u1 := fun o => bel_cell (bb o) y1
      have g0 := fun o => (World.frozen?_of_block (a := ⟨w.heap.size, 0, none⟩) ((bb o).block w.heap.size B0.out.2)).trans (fz 0)
      have g1 := fun o => (World.frozen?_of_block (a := ⟨w.heap.size, 1, none⟩) ((bb o).block w.heap.size B0.out.2)).trans (fz 1)
      have B2 : Hid (∀ o, Below w.heap.size w (w2.alloc o)) := fun o => bel_tr B0.out.1 (bb o)
      clear b2 bb y0 y1 fz
      go_wp2
      obtain ⟨z0, z1⟩ := two_set (u' := .int .i64 0) (v' := .slice none 0 0) (u0 (.cells #[.int .i64 0, .slice none 0 0] 34)) (u1 (.cells #[.int .i64 0, .slice none 0 0] 34))
      refine bodyPost_ret (v := .tuple #[.agg #[.int .i64 0, .slice none 0 0], .bool false, .int .i64 2]) ?_ rfl ⟨⟨none, 0, rfl, Lie.nil _ _ _ _⟩, Below.setCell (Below.setCell (B2.out _) (Nat.le_refl _) _) (Nat.le_refl _) _⟩
      simp only [results, Tryz.results61]
      simp [go_sem, z0, z1]
    | some p =>
      obtain ⟨l', R⟩ := p
      rw [hp] at hl
      simp only [Prod.mk.injEq] at hl
      obtain ⟨rfl, hwh, rfl⟩ := hl
      have HP : Hid (∀ W, Calls Tryz.prog 54 #[.string b] W fun e w' => ParR W.heap.size l' wh e w' ∧ Below W.heap.size W w') := fun W => refParse_yes b hbm l' R hp wh hwh W
      clear hp hbm hwh
      go_enter Tryz.func61, Tryz.ntmps61
      go_wp2_with (first
        | (go_at_call 59; refine (HR.out _ B0.out.1).mono ?_; rintro e wr ⟨rfl, rfl⟩)
        | fail)
      generalize w.alloc (.cells #[.int .i64 0, .slice none 0 0] 34) = W1 at *
      refine (HP.out _).mono ?_
      rintro e w2 ⟨⟨a, c, g, rfl, hC⟩, b2⟩
      obtain ⟨n, hn⟩ : ∃ n, l'.es.length = n := ⟨_, rfl⟩
      rw [hn] at hC ⊢
      have HN : Hid (l'.es.length = n) := hn
      have bb := bel_tr b2 (bel_al w2 (.cells #[.int .i64 l'.ep, .slice a n c] 34))
      have u0 := bel_cell bb y0
      have u1 := bel_cell bb y1
      have g0 := (World.frozen?_of_block (a := ⟨w.heap.size, 0, none⟩) (bb.block w.heap.size B0.out.2)).trans (fz 0)
      have g1 := (World.frozen?_of_block (a := ⟨w.heap.size, 1, none⟩) (bb.block w.heap.size B0.out.2)).trans (fz 1)
      obtain ⟨v0, v1, _, _⟩ := cells2 w2 (.int .i64 l'.ep) (.slice a n c) 34
      have B2 : Hid (Below w.heap.size w (w2.alloc (.cells #[.int .i64 l'.ep, .slice a n c] 34))) := bel_tr B0.out.1 bb
      have HC2 : Hid (Cel (fun k => W1.heap.size ≤ k) (w2.alloc (.cells #[.int .i64 l'.ep, .slice a n c] 34)) 2 (.slice a n c) n (rowC enC l'.es) g) := hC.below (bel_al _ _)
      have hlt : ¬ w2.heap.size = w.heap.size := by have h9 := b2.size; have h10 := B0.out.2; omega
      have hlt2 : ¬ w.heap.size = w2.heap.size := fun e => hlt e.symm
      clear hC b2 bb y0 y1 fz hn
      obtain ⟨z0, z1⟩ := two_set (u' := .int .i64 l'.ep) (v' := .slice a n c) u0 u1
      have HF : Hid (LdR w.heap.size l' wh 0 (.returned (.tuple #[.agg #[.int .i64 l'.ep, .slice a n c], .bool wh, .int .i64 0])) (((w2.alloc (.cells #[.int .i64 l'.ep, .slice a n c] 34)).setCell ⟨w.heap.size, 0, none⟩ (.int .i64 l'.ep)).setCell ⟨w.heap.size, 1, none⟩ (.slice a n c))) := by
        have h8 := HC2.out
        have hne : g ≠ some w.heap.size := fun e => by rw [e] at h8; have h9 : W1.heap.size ≤ w.heap.size := h8.lt.2; have := B0.out.2; omega
        have h7 := (h8.setOut ⟨w.heap.size, 0, none⟩ (.int .i64 l'.ep) hne).setOut ⟨w.heap.size, 1, none⟩ (.slice a n c) hne
        have h6 : Cel (fun k => w.heap.size ≤ k) (((w2.alloc (.cells #[.int .i64 l'.ep, .slice a n c] 34)).setCell ⟨w.heap.size, 0, none⟩ (.int .i64 l'.ep)).setCell ⟨w.heap.size, 1, none⟩ (.slice a n c)) 2 (.slice a l'.es.length c) l'.es.length (rowC enC l'.es) g := by
          rw [HN.out]
          exact h7.stay (Nat.le_refl _) (fun _ _ => rfl) (fun k hk => by have h9 : W1.heap.size ≤ k := hk; have := B0.out.2; omega)
        exact ⟨a, c, by rw [HN.out], Lie.of_cel wideN h6⟩
      clear HC2
      go_wp2
      refine bodyPost_ret (v := .tuple #[.agg #[.int .i64 l'.ep, .slice a n c], .bool wh, .int .i64 0]) ?_ rfl ⟨HF.out, Below.setCell (Below.setCell B2.out (Nat.le_refl _) _) (Nat.le_refl _) _⟩
      simp only [results, Tryz.results61]
      simp [go_sem, z0, z1]
  · rw [if_neg h0] at hl
    simp only [Prod.mk.injEq] at hl
    obtain ⟨rfl, rfl, rfl⟩ := hl
    have hqb : (q == 0) = false := beq_eq_false_iff_ne.2 h0
    go_enter Tryz.func61, Tryz.ntmps61
    have f0 := fz 0
    have f1 := fz 1
    go_wp2_with (go_at_call 59; refine (HR.out _ B0.out.1).mono ?_; rintro e wr ⟨rfl, rfl⟩)
    refine bodyPost_ret (v := .tuple #[.agg #[.int .i64 0, .slice none 0 0], .bool false, .int .i64 q]) ?_ rfl ⟨⟨none, 0, rfl, Lie.nil _ _ _ _⟩, B0.out.1⟩
    simp only [results, Tryz.results61]
    simp [go_sem]

end Go.Proofs.YtfmhmokbbkliaaaGreat.Lgg

/- Plain: what a journal node is; its requests, its answers; what it does. -/
namespace Go.Proofs.YtfmhmokbbkliaaaGreat.Jrn
open Go.Proofs.YtfmhmokbbkliaaaGreat Go.Proofs.YtfmhmokbbkliaaaGreat.Wir Go.Proofs.YtfmhmokbbkliaaaGreat.Lgg
set_option linter.unusedVariables false

def pT : ByteArray := ⟨#[112]⟩
def aT : ByteArray := ⟨#[97]⟩
def wT : ByteArray := ⟨#[119]⟩
def prN : ByteArray := ⟨#[112, 114, 111, 109, 105, 115, 101]⟩
def lgN : ByteArray := ⟨#[108, 111, 103]⟩
theorem pr_ok : nmOk prN = true := by decide
theorem lg_ok : nmOk lgN = true := by decide
theorem pr_small : prN.size ≤ maxLen := by show 7 ≤ maxLen; unfold maxLen; omega
theorem lg_small : lgN.size ≤ maxLen := by show 3 ≤ maxLen; unfold maxLen; omega

/-- Texts, joined; nothing, if they may not be. -/
def joinT (ss : List ByteArray) : ByteArray := if joinOk ss = true then ⟨(joinB ss).toArray⟩ else ⟨#[]⟩
/-- The number that is all of b. -/
def numP (b : ByteArray) : Option Int := match takeZ 0 0 b.data.toList with
  | some (z, k) => if (b.extract k b.size).size = 0 then some (Lib.unzigzag z) else none
  | none => none
/-- The entries with these texts, from 1 on. -/
def numd (ds : List ByteArray) : List En := ds.zipIdx.map fun p => ⟨((p.2 + 1 : Nat) : Int), p.1⟩
def smallB (ds : List ByteArray) : Bool := decide (ds.length ≤ 300) && ds.all fun d => decide (d.size ≤ 600)
def epR (n : Int) : Bool := decide (1 ≤ n) && decide (n ≤ maxN)
def addR1 (x : En) : Bool := decide (1 ≤ x.tx) && decide (x.tx ≤ 300) && decide (x.d.size ≤ 600)

inductive Rq where
  | prom (ep : Int)
  | acc (ep : Int) (es : List En)
  | add (ep : Int) (x : En)
def wQ (ep : Int) (rest : List ByteArray) : Option Rq := match rest with
  | [t, d] => (match numP t with
    | some tx => if addR1 ⟨tx, d⟩ = true then some (.add ep ⟨tx, d⟩) else none
    | none => none)
  | _ => none
theorem wQ_not {ep : Int} {rest : List ByteArray} (h : rest.length ≠ 2) : wQ ep rest = none := by
  unfold wQ
  split
  · simp at h
  · rfl
def kindQ (k : ByteArray) (ep : Int) (rest : List ByteArray) : Option Rq :=
  if k = pT then (if rest.length = 0 then some (.prom ep) else none)
  else if k = aT then (if smallB rest = true then some (.acc ep (numd rest)) else none)
  else if k = wT then wQ ep rest
  else none
def textsQ (ts : List ByteArray) : Option Rq := match ts with
  | k :: e :: rest => (match numP e with
    | some ep => if epR ep = true then kindQ k ep rest else none
    | none => none)
  | _ => none
def readQ (s : ByteArray) : Option Rq := match splitL s with
  | some ts => textsQ ts
  | none => none

/-- A node: what it promised, its log, is it dead? -/
structure Nd where
  p : Int
  l : Lg
  gone : Bool
def deadN : Nd := ⟨0, ⟨0, []⟩, true⟩
/-- How a call ends: its error, the disk, the node. -/
structure Out where
  e : Int
  ds : DS
  j : Nd
def promQ (ds : DS) (j : Nd) (ep : Int) : Out :=
  if ep ≤ j.p then ⟨10, ds, j⟩
  else if (stoR ds prN (encL ⟨ep, []⟩)).1 = 0 then ⟨0, (stoR ds prN (encL ⟨ep, []⟩)).2, ⟨ep, j.l, j.gone⟩⟩
  else ⟨12, (stoR ds prN (encL ⟨ep, []⟩)).2, deadN⟩
def fresh (ds : DS) (j : Nd) (ep : Int) (es : List En) : Out :=
  if (stoR ds lgN (encL ⟨ep, es⟩)).1 = 0 then ⟨0, (stoR ds lgN (encL ⟨ep, es⟩)).2, ⟨j.p, ⟨ep, es⟩, j.gone⟩⟩
  else ⟨12, (stoR ds lgN (encL ⟨ep, es⟩)).2, deadN⟩
/-- Does the second list begin with the first one? -/
def begB (es fs : List En) : Bool := decide (fs.take es.length = es)
def accQ (ds : DS) (j : Nd) (ep : Int) (es : List En) : Out :=
  if ep < j.p then ⟨10, ds, j⟩
  else if ep = j.l.ep then ⟨if begB es j.l.es = true then 0 else 11, ds, j⟩
  else if j.p < ep then (if (promQ ds j ep).e = 0 then fresh (promQ ds j ep).ds (promQ ds j ep).j ep es else promQ ds j ep)
  else fresh ds j ep es
def addQ (ds : DS) (j : Nd) (ep : Int) (x : En) : Out :=
  if ep ≠ j.p ∨ ep ≠ j.l.ep then ⟨10, ds, j⟩
  else if ((j.l.es.length : Nat) : Int) + 1 < x.tx then ⟨11, ds, j⟩
  else if x.tx ≤ (j.l.es.length : Nat) then ⟨if j.l.es[x.tx.toNat - 1]? = some x then 0 else 11, ds, j⟩
  else if (addR ds lgN (encE x)).1 = 0 then ⟨0, (addR ds lgN (encE x)).2, ⟨j.p, ⟨j.l.ep, j.l.es ++ [x]⟩, j.gone⟩⟩
  else ⟨12, (addR ds lgN (encE x)).2, deadN⟩
def doQ (ds : DS) (j : Nd) : Rq → Out
  | .prom ep => promQ ds j ep
  | .acc ep es => accQ ds j ep es
  | .add ep x => addQ ds j ep x

/-- A text in pieces of 4000 bytes. -/
def piecesN : Nat → ByteArray → List ByteArray
  | 0, _ => []
  | f + 1, b => if b.size = 0 then [] else b.extract 0 (min b.size 4000) :: piecesN f (b.extract (min b.size 4000) b.size)
def piecesL (b : ByteArray) : List ByteArray := piecesN b.size b
def ansT (e : Int) (ps : List ByteArray) : ByteArray := joinT (numT e :: ps)
def isP : Rq → Bool
  | .prom _ => true
  | _ => false
/-- What Handle answers, and what is there then. -/
structure Ans where
  t : ByteArray
  ds : DS
  j : Nd
def handQ (ds : DS) (j : Nd) (s : ByteArray) : Ans :=
  if j.gone = true then ⟨ansT 12 [], ds, j⟩
  else match readQ s with
  | none => ⟨ansT 2 [], ds, j⟩
  | some r => ⟨ansT (doQ ds j r).e (if (doQ ds j r).e = 0 ∧ isP r = true then piecesL (encL (doQ ds j r).j.l) else []), (doQ ds j r).ds, (doQ ds j r).j⟩

/-- What stands in the file of the promise: the error, the epoch. -/
def ldP (ds : DS) : Int × Int := match loadS (rdT ds prN.data.toList) (rdE ds prN.data.toList) with
  | (l, wh, e) => if e = 5 then (0, 0) else if e = 0 then (if wh = true ∧ l.es.length = 0 ∧ 1 ≤ l.ep then (0, l.ep) else (2, 0)) else (e, 0)
/-- What stands in the file of the log, which is whole then: the error, the log, the disk. -/
def ldL (ds : DS) : Int × Lg × DS := match loadS (rdT ds lgN.data.toList) (rdE ds lgN.data.toList) with
  | (l, wh, e) => if e = 5 then (0, ⟨0, []⟩, ds) else if e = 0 then (if wh = true then (0, l, ds) else if (stoR ds lgN (encL l)).1 = 0 then (0, l, (stoR ds lgN (encL l)).2) else ((stoR ds lgN (encL l)).1, ⟨0, []⟩, (stoR ds lgN (encL l)).2)) else (e, ⟨0, []⟩, ds)
/-- Open: the error, the disk, the node. -/
def openQ (ds : DS) : Int × DS × Nd :=
  if (ldP ds).1 = 0 then (if (ldL ds).1 = 0 then (0, (ldL ds).2.2, ⟨(ldP ds).2, (ldL ds).2.1, false⟩) else ((ldL ds).1, (ldL ds).2.2, deadN)) else ((ldP ds).1, ds, deadN)

/-! ### what is right stays right -/
theorem epR_iff (n : Int) : epR n = true ↔ 1 ≤ n ∧ n ≤ maxN := by unfold epR; simp
theorem epR_ok {n : Int} (h : epR n = true) : epOk n = true := by
  have := (epR_iff n).1 h
  unfold epOk; simp; omega
theorem smallB_iff (ds : List ByteArray) : smallB ds = true ↔ ds.length ≤ 300 ∧ ∀ d ∈ ds, d.size ≤ 600 := by unfold smallB; simp
theorem addR1_iff (x : En) : addR1 x = true ↔ 1 ≤ x.tx ∧ x.tx ≤ 300 ∧ x.d.size ≤ 600 := by unfold addR1; simp [and_assoc]
theorem numd_len (ds : List ByteArray) : (numd ds).length = ds.length := by unfold numd; simp
theorem numd_at (ds : List ByteArray) (i : Nat) (h : i < (numd ds).length) : (numd ds)[i] = ⟨((i + 1 : Nat) : Int), ds[i]'(by rw [numd_len] at h; exact h)⟩ := by unfold numd; simp
theorem numd_snoc (ds : List ByteArray) (d : ByteArray) : numd (ds ++ [d]) = numd ds ++ [⟨((ds.length + 1 : Nat) : Int), d⟩] := by unfold numd; simp [List.zipIdx_append]
theorem numd_take (ds : List ByteArray) (k : Nat) (h : k < ds.length) : numd (ds.take (k + 1)) = numd (ds.take k) ++ [⟨((k + 1 : Nat) : Int), ds[k]⟩] := by
  rw [List.take_succ_eq_append_getElem h, numd_snoc, List.length_take, Nat.min_eq_left (by omega)]
theorem numd_right {ep : Int} {ds : List ByteArray} (h1 : epOk ep = true) (h2 : smallB ds = true) : RtL ⟨ep, numd ds⟩ := by
  obtain ⟨k1, k2⟩ := (smallB_iff ds).1 h2
  refine ⟨h1, by simp only [numd_len]; exact k1, fun i hi => ?_⟩
  rw [numd_at]
  exact ⟨rfl, k2 _ (List.getElem_mem _)⟩
theorem numd_not {ep : Int} {ds : List ByteArray} (h : RtL ⟨ep, numd ds⟩) : epOk ep = true ∧ smallB ds = true := by
  obtain ⟨h1, h2, h3⟩ := h
  refine ⟨h1, (smallB_iff ds).2 ⟨by simpa [numd_len] using h2, fun d hd => ?_⟩⟩
  obtain ⟨i, hi, rfl⟩ := List.getElem_of_mem hd
  have := h3 i (by simpa [numd_len] using hi)
  simp only [numd_at] at this
  exact this.2
/-- Is a request right? -/
def RqOk : Rq → Prop
  | .prom ep => epR ep = true
  | .acc ep es => epR ep = true ∧ RtL ⟨ep, es⟩
  | .add ep x => epR ep = true ∧ addR1 x = true
theorem kindQ_ok {k : ByteArray} {ep : Int} {rest : List ByteArray} {r : Rq} (he : epR ep = true) (h : kindQ k ep rest = some r) : RqOk r := by
  unfold kindQ at h
  split at h
  · split at h
    · cases h; exact he
    · cases h
  · split at h
    · split at h
      · rename_i h2
        cases h
        exact ⟨he, numd_right (epR_ok he) h2⟩
      · cases h
    · split at h
      · unfold wQ at h
        split at h
        · split at h
          · split at h
            · rename_i h2
              cases h
              exact ⟨he, h2⟩
            · cases h
          · cases h
        · cases h
      · cases h
theorem readQ_ok {s : ByteArray} {r : Rq} (h : readQ s = some r) : RqOk r := by
  unfold readQ at h
  split at h
  · unfold textsQ at h
    split at h
    · split at h
      · split at h
        · rename_i h2
          exact kindQ_ok h2 h
        · cases h
      · cases h
    · cases h
  · cases h
/-- A node that may be. -/
structure NdOk (j : Nd) : Prop where
  log : RtL j.l
  p : epOk j.p = true
  dead : j.gone = true → j = deadN
theorem rt_none : RtL ⟨0, []⟩ := ⟨rfl, by simp, fun i h => by simp at h⟩
theorem dead_ok : NdOk deadN := ⟨rt_none, rfl, fun _ => rfl⟩
theorem promQ_ok {ds : DS} {j : Nd} {ep : Int} (h : NdOk j) (hg : j.gone = false) (he : epR ep = true) : NdOk (promQ ds j ep).j := by
  unfold promQ
  split
  · exact h
  · split
    · exact ⟨h.log, epR_ok he, fun e => by simp only at e; rw [hg] at e; cases e⟩
    · exact dead_ok
theorem fresh_ok {ds : DS} {j : Nd} {ep : Int} {es : List En} (h : NdOk j) (hg : j.gone = false) (he : RtL ⟨ep, es⟩) : NdOk (fresh ds j ep es).j := by
  unfold fresh
  split
  · exact ⟨he, h.p, fun e => by simp only at e; rw [hg] at e; cases e⟩
  · exact dead_ok
theorem promQ_on {ds : DS} {j : Nd} {ep : Int} (hg : j.gone = false) (h : (promQ ds j ep).e = 0) : (promQ ds j ep).j = ⟨ep, j.l, false⟩ := by
  unfold promQ at h ⊢
  split at h
  · cases h
  · rename_i h1
    rw [if_neg h1]
    split at h
    · rename_i h2; rw [if_pos h2, hg]
    · cases h
theorem accQ_ok {ds : DS} {j : Nd} {ep : Int} {es : List En} (h : NdOk j) (hg : j.gone = false) (hp : epR ep = true) (he : RtL ⟨ep, es⟩) : NdOk (accQ ds j ep es).j := by
  unfold accQ
  split
  · exact h
  · split
    · exact h
    · split
      · split
        · rename_i h3
          exact fresh_ok (promQ_ok h hg hp) (by rw [promQ_on hg h3]) he
        · exact promQ_ok h hg hp
      · exact fresh_ok h hg he
theorem addQ_ok {ds : DS} {j : Nd} {ep : Int} {x : En} (h : NdOk j) (hg : j.gone = false) (hx : addR1 x = true) : NdOk (addQ ds j ep x).j := by
  obtain ⟨x1, x2, x3⟩ := (addR1_iff x).1 hx
  unfold addQ
  split
  · exact h
  · split
    · exact h
    · split
      · exact h
      · rename_i h1 h2
        split
        · refine ⟨?_, h.p, fun e => by simp only at e; rw [hg] at e; cases e⟩
          have e : x = ⟨((j.l.es.length + 1 : Nat) : Int), x.d⟩ := by
            cases x; simp only [En.mk.injEq, and_true]; simp only at h1 h2; omega
          have hl : j.l.es.length < 300 := by omega
          rw [e]
          exact RtL.snoc h.log hl _ x3
        · exact dead_ok
theorem doQ_ok {ds : DS} {j : Nd} {r : Rq} (h : NdOk j) (hg : j.gone = false) (hr : RqOk r) : NdOk (doQ ds j r).j := by
  cases r with
  | prom ep => exact promQ_ok h hg hr
  | acc ep es => exact accQ_ok h hg hr.1 hr.2
  | add ep x => exact addQ_ok h hg hr.2
theorem handQ_ok {ds : DS} {j : Nd} (h : NdOk j) (s : ByteArray) : NdOk (handQ ds j s).j := by
  unfold handQ
  split
  · exact h
  · rename_i hg
    split
    · exact h
    · rename_i r hr
      exact doQ_ok h (by simpa using hg) (readQ_ok hr)
end Go.Proofs.YtfmhmokbbkliaaaGreat.Jrn

/- Plain: what is read of bytes is a log that is right. -/
namespace Go.Proofs.YtfmhmokbbkliaaaGreat.Jrn
open Go.Proofs.YtfmhmokbbkliaaaGreat Go.Proofs.YtfmhmokbbkliaaaGreat.Wir Go.Proofs.YtfmhmokbbkliaaaGreat.Lgg
set_option linter.unusedVariables false

theorem entryP_d {b d r : ByteArray} {i : Int} (h : entryP b i = some (d, r)) : d.size ≤ 600 := (entryP_size h).1
theorem goL_right : ∀ (f : Nat) (es : List En) (b : ByteArray), RtE es → RtE (goL f es b).1
  | 0, es, b, h => by unfold goL; exact h
  | f + 1, es, b, h => by
    unfold goL
    split
    · rename_i d r hP
      refine goL_right f _ r (fun i hi => ?_)
      rcases Nat.lt_or_ge i es.length with h1 | h1
      · rw [List.getElem_append_left h1]; exact h i h1
      · simp at hi
        obtain rfl : i = es.length := by omega
        rw [List.getElem_append_right (Nat.le_refl _)]
        simp only [Nat.sub_self, List.getElem_cons_zero]
        exact ⟨rfl, entryP_d hP⟩
    · exact h
theorem epochP_ok {b r : ByteArray} {n : Int} (h : epochP b = some (n, r)) : epOk n = true := by
  unfold epochP at h
  split at h
  · split at h
    · rename_i hc; cases h; exact hc.1
    · cases h
  · cases h
theorem parse_right {b R : ByteArray} {l : Lg} (h : parseL b = some (l, R)) : RtL l := by
  unfold parseL at h
  split at h
  · rename_i n r hE
    cases h
    refine ⟨epochP_ok hE, ?_, goL_right 300 [] r (fun i hi => by simp at hi)⟩
    have := goL_len 300 [] r
    simpa using this
  · cases h

end Go.Proofs.YtfmhmokbbkliaaaGreat.Jrn

/- Plain: what Store and Add do with a disk, whenever the power goes. -/
namespace Go.Proofs.YtfmhmokbbkliaaaGreat.Jrn
open Go.Proofs.YtfmhmokbbkliaaaGreat Go.Proofs.YtfmhmokbbkliaaaGreat.Wir Go.Proofs.YtfmhmokbbkliaaaGreat.Lgg
set_option linter.unusedVariables false

/-- The new file's name. -/
def nwN (n : List UInt8) : List UInt8 := n ++ [46, 110, 101, 119]
theorem nw_ne (n : List UInt8) : n ≠ nwN n := app_ne n
/-- A change that is made. -/
theorem beg_two (room f : Int) (S : FS) (F : FS → FS) (hf : 0 ≤ f) : (begE ⟨room, f, false, S⟩ 0 = 0 ∧ (f = 0 ∨ 2 ≤ f) ∧ ∃ f', 0 ≤ f' ∧ (f = 0 → f' = 0) ∧ doD ⟨room, f, false, S⟩ 0 F = ⟨room, f', false, F S⟩) ∨ (f = 1 ∧ begE ⟨room, f, false, S⟩ 0 = 12 ∧ doD ⟨room, f, false, S⟩ 0 F = ⟨room, 0, true, S⟩) := by
  by_cases h1 : f = 1
  · subst h1
    exact .inr ⟨rfl, beg_off room S F⟩
  · have h2 : f = 0 ∨ 2 ≤ f := by omega
    obtain ⟨k1, k2⟩ := beg_ok room f S F h2
    refine .inl ⟨k1, h2, dec1 f, ?_, fun e => ?_, k2⟩
    · unfold dec1; split <;> omega
    · unfold dec1; rw [if_pos e]

/-- What is left of a disk when the power has gone: only the new file may be another one. -/
structure Gone (S : FS) (new b : List UInt8) (S' : FS) : Prop where
  rise : Rise S'
  rest : ∀ n, n ≠ new → fget S' n = fget S n
  new : fget S' new = fget S new ∨ fget S' new = none ∨ ∃ k, k ≤ b.length ∧ fget S' new = some (b, k)
/-- What Store does. -/
structure Sto (ds : DS) (n b : List UInt8) (e : Int) (ds' : DS) : Prop where
  room : ds'.room = ds.room
  ways : (e = 0 ∧ ds'.down = false ∧ 0 ≤ ds'.fuse ∧ (ds.fuse = 0 → ds'.fuse = 0) ∧ Rise ds'.S ∧ fget ds'.S n = some (b, b.length) ∧ fget ds'.S (nwN n) = none ∧ ∀ m, m ≠ n → m ≠ nwN n → fget ds'.S m = fget ds.S m) ∨ (e = 12 ∧ ds.fuse ≠ 0 ∧ ds'.down = true ∧ Gone ds.S (nwN n) b ds'.S)

section
variable {room f : Int} {S : FS} {s : ByteArray} {b : ByteArray}
/-- What is appended to a file that is not there, and synced. -/
theorem aps_gen {n : List UInt8} (hS : Rise S) (hf : 0 ≤ f) (hn : nameOk n = true) (hno : fget S n = none) (hl : S.length < 20) (hb : b.size ≤ 400000) (hr : ((tot S + b.size : Nat) : Int) ≤ room) :
    ∃ e ds', apsR ⟨room, f, false, S⟩ n b.data.toList = (e, ds') ∧ ds'.room = room ∧ ((e = 0 ∧ ∃ f', 0 ≤ f' ∧ (f = 0 → f' = 0) ∧ ds' = ⟨room, f', false, fput S n (b.data.toList, b.data.toList.length)⟩) ∨ (e = 12 ∧ f ≠ 0 ∧ ds'.down = true ∧ (ds'.S = S ∨ ds'.S = fput S n (b.data.toList, 0)))) := by
  have hbl : b.data.toList.length = b.size := Wir.size_list b
  have hA : refA ⟨room, f, false, S⟩ n b.data.toList = 0 := refA_ok hn (by rw [hno]; show 0 + _ ≤ _; omega) (.inr hl) (by rw [hbl]; exact hr)
  have hap : fapp n b.data.toList S = fput S n (b.data.toList, 0) := by unfold fapp; rw [hno]
  unfold apsR
  rw [hA]
  rcases beg_two room f S (fapp n b.data.toList) hf with ⟨k1, k2, f1, k3, k4, k5⟩ | ⟨k1, k2, k3⟩
  · rw [if_pos k1, k5, hap]
    have hg : fget (fput S n (b.data.toList, 0)) n = some (b.data.toList, 0) := fget_fput_same hS n _
    have hM : refM (fput S n (b.data.toList, 0)) n = 0 := refM_some hg
    have hsy : fsyn n (fput S n (b.data.toList, 0)) = fput S n (b.data.toList, b.data.toList.length) := by
      unfold fsyn; rw [hg]
      simp only
      unfold fput
      congr 1
      show fdel (fput S n (b.data.toList, 0)) n = fdel S n
      unfold fput
      rw [fdel_of_none hno]
      have : ∀ T : FS, (∀ p ∈ T, p.1 ≠ n) → fdel (fins (n, (b.data.toList, 0)) T) n = T := by
        intro T
        induction T with
        | nil => intro _; show fdel [(n, (b.data.toList, 0))] n = []; rw [fdel_cons, if_pos rfl]; rfl
        | cons p T ih =>
          intro h
          unfold fins
          split
          · rw [fdel_cons, if_pos rfl]
            exact fdel_of_none (fget_none_iff.2 h)
          · rw [fdel_cons, if_neg (h p (by simp)), ih (fun q hq => h q (by simp [hq]))]
      exact this S (fget_none_iff.1 hno)
    simp only [hM]
    rcases beg_two room f1 (fput S n (b.data.toList, 0)) (fsyn n) k3 with ⟨j1, j2, f2, j3, j4, j5⟩ | ⟨j1, j2, j3⟩
    · rw [j1, j5, hsy]
      exact ⟨0, _, rfl, rfl, .inl ⟨rfl, f2, j3, fun e => j4 (k4 e), rfl⟩⟩
    · rw [j2, j3]
      exact ⟨12, _, rfl, rfl, .inr ⟨rfl, fun e => by have := k4 e; omega, rfl, .inr rfl⟩⟩
  · rw [k2, if_neg (by omega), k3]
    exact ⟨12, _, rfl, rfl, .inr ⟨rfl, by omega, rfl, .inl rfl⟩⟩

theorem sto_gen (hS : Rise S) (hf : 0 ≤ f) (hs : nmOk s = true) (hl : S.length < 20) (hb : b.size ≤ 400000) (hr : ((tot (fdel S (nwN s.data.toList)) + b.size : Nat) : Int) ≤ room) :
    ∃ e ds', stoR ⟨room, f, false, S⟩ s b = (e, ds') ∧ Sto ⟨room, f, false, S⟩ s.data.toList b.data.toList e ds' := by
  have hs2 := (mk_nm s).1 hs
  have hsl : s.data.toList.length = s.size := Wir.size_list s
  obtain ⟨hn1, hn2⟩ := nm_new (n := s.data.toList) (by omega)
  have hnw : (newN s).data.toList = nwN s.data.toList := new_list s
  have hne := nw_ne s.data.toList
  unfold stoR
  rw [hnw]
  -- what the deletion leaves
  have hdel : ∃ e1 d1, delR ⟨room, f, false, S⟩ (nwN s.data.toList) = (e1, d1) ∧ ((e1 = 0 ∧ ∃ f', 0 ≤ f' ∧ (f = 0 → f' = 0) ∧ d1 = ⟨room, f', false, fdel S (nwN s.data.toList)⟩) ∨ (e1 = 12 ∧ f ≠ 0 ∧ d1 = ⟨room, 0, true, S⟩)) := by
    cases hg : fget S (nwN s.data.toList) with
    | none =>
      exact ⟨0, _, del_no hg, .inl ⟨rfl, f, hf, id, by rw [fdel_of_none hg]⟩⟩
    | some F =>
      unfold delR
      have hE : rdE ⟨room, f, false, S⟩ (nwN s.data.toList) = 0 := by rw [rdE_eq _ rfl]; exact refM_some hg
      have hM : refM S (nwN s.data.toList) = 0 := refM_some hg
      rw [hE, if_neg (by omega), if_pos rfl]
      simp only [hM]
      rcases beg_two room f S (fun S => fdel S (nwN s.data.toList)) hf with ⟨k1, k2, f1, k3, k4, k5⟩ | ⟨k1, k2, k3⟩
      · exact ⟨_, _, rfl, .inl ⟨k1, f1, k3, k4, k5⟩⟩
      · exact ⟨_, _, rfl, .inr ⟨k2, by omega, k3⟩⟩
  obtain ⟨e1, d1, hd1, hways⟩ := hdel
  rw [hd1]
  rcases hways with ⟨rfl, f1, hf1, hz1, rfl⟩ | ⟨rfl, hf0, rfl⟩
  · simp only [if_true]
    have hS1 := rise_fdel hS (nwN s.data.toList)
    have ht1 := tot_fdel hS (nwN s.data.toList)
    have hl1 := len_fdel hS (nwN s.data.toList)
    have hl2 : (fdel S (nwN s.data.toList)).length ≤ S.length := by split at hl1 <;> omega
    obtain ⟨e2, d2, ha, hr2, hw2⟩ := aps_gen (n := nwN s.data.toList) (f := f1) (b := b) (room := room) hS1 hf1 hn1 (fget_fdel_same S _) (by omega) hb (by omega)
    rw [ha]
    rcases hw2 with ⟨rfl, f2, hf2, hz2, rfl⟩ | ⟨rfl, hz2, hdn, hSS⟩
    · simp only [if_true]
      have hg3 : fget (fput (fdel S (nwN s.data.toList)) (nwN s.data.toList) (b.data.toList, b.data.toList.length)) (nwN s.data.toList) = some (b.data.toList, b.data.toList.length) := fget_fput_same hS1 _ _
      have hS3 := rise_fput hS1 (nwN s.data.toList) (b.data.toList, b.data.toList.length)
      have hR : refR (fput (fdel S (nwN s.data.toList)) (nwN s.data.toList) (b.data.toList, b.data.toList.length)) (nwN s.data.toList) s.data.toList = 0 := by unfold refR; rw [if_pos hn2]; exact refM_some hg3
      simp only [hR]
      rcases beg_two room f2 (fput (fdel S (nwN s.data.toList)) (nwN s.data.toList) (b.data.toList, b.data.toList.length)) (fren (nwN s.data.toList) s.data.toList) hf2 with ⟨k1, k2, f3, k3, k4, k5⟩ | ⟨k1, k2, k3⟩
      · rw [k1, k5]
        refine ⟨0, _, rfl, rfl, .inl ⟨rfl, rfl, k3, fun e => k4 (hz2 (hz1 e)), ?_, ?_, ?_, ?_⟩⟩
        · unfold fren; rw [hg3]; exact rise_fput (rise_fdel hS3 _) _ _
        · unfold fren; rw [hg3]; exact fget_fput_same (rise_fdel hS3 _) _ _
        · unfold fren; rw [hg3]
          simp only
          rw [fget_fput_other (rise_fdel hS3 _) _ hne.symm]
          exact fget_fdel_same _ _
        · intro m h1 h2
          unfold fren; rw [hg3]
          simp only
          rw [fget_fput_other (rise_fdel hS3 _) _ h1, fget_fdel_other hS3 h2, fget_fput_other hS1 _ h2, fget_fdel_other hS h2]
      · rw [k2, k3]
        refine ⟨12, _, rfl, rfl, .inr ⟨rfl, fun e => by have := hz2 (hz1 e); omega, rfl, hS3, fun m h => ?_, .inr (.inr ⟨b.data.toList.length, Nat.le_refl _, hg3⟩)⟩⟩
        rw [fget_fput_other hS1 _ h, fget_fdel_other hS h]
    · simp only [show ¬ (12 : Int) = 0 by omega, if_false]
      refine ⟨12, d2, rfl, hr2, .inr ⟨rfl, fun e => hz2 (hz1 e), hdn, ?_⟩⟩
      rcases hSS with hSS | hSS
      · rw [hSS]
        exact ⟨hS1, fun m h => fget_fdel_other hS h, .inr (.inl (fget_fdel_same _ _))⟩
      · rw [hSS]
        exact ⟨rise_fput hS1 _ _, fun m h => by rw [fget_fput_other hS1 _ h, fget_fdel_other hS h], .inr (.inr ⟨0, Nat.zero_le _, fget_fput_same hS1 _ _⟩)⟩
  · simp only [show ¬ (12 : Int) = 0 by omega, if_false]
    exact ⟨12, _, rfl, rfl, .inr ⟨rfl, hf0, rfl, hS, fun _ _ => rfl, .inl rfl⟩⟩
end

end Go.Proofs.YtfmhmokbbkliaaaGreat.Jrn

/- The contracts of journal's small functions. -/
namespace Go.Proofs.YtfmhmokbbkliaaaGreat.Jrn
open Go.RowKit Go.Proofs.YtfmhmokbbkliaaaGreat Go.Proofs.YtfmhmokbbkliaaaGreat.Wir Go.Proofs.YtfmhmokbbkliaaaGreat.Lgg
set_option linter.unusedVariables false

theorem strs_new (w : World) (ss : List ByteArray) (T : TypeId) (hs : ∀ s ∈ ss, s.size ≤ maxLen) (hl : ss.length ≤ maxLen) : Strs (w.alloc (.cells (ss.map Value.string).toArray T)) (some ⟨w.heap.size, 0, none⟩) w.heap.size 0 ss := by
  refine ⟨fun _ => rfl, fun j hj => ?_, hs, hl⟩
  rw [Nat.zero_add, World.cell?_alloc_new w _ _ j]
  simp [hj]
theorem len_ok {ss : List ByteArray} (h : ss.length ≤ 1000) : ss.length ≤ maxLen := by unfold maxLen; omega
theorem joinV_is (ss : List ByteArray) : ∃ q : Int, joinV ss = .tuple #[.string (joinT ss), .int .i64 q] := by
  cases h : joinOk ss with
  | true => exact ⟨0, by rw [joinV_yes h]; unfold joinT; rw [if_pos h]⟩
  | false => exact ⟨4, by rw [joinV_no h]; unfold joinT; rw [h]; rfl⟩

set_option maxRecDepth 100000 in
theorem joined_val {w : World} {a : Option Addr} {b off : Nat} {ss : List ByteArray} (h : Strs w a b off ss) (n c : Nat) (hn : ss.length = n) (J : ByteArray) (hJ : joinT ss = J) :
    Calls Tryz.prog 45 #[.slice a n c] w fun e w' => e = .returned (.string J) ∧ Below w.heap.size w w' := by
  subst hn hJ
  obtain ⟨q, hq⟩ := joinV_is ss
  have HJ : Hid (Calls Tryz.prog 89 #[.slice a ss.length c] w fun e w' => e = .returned (.tuple #[.string (joinT ss), .int .i64 q]) ∧ Below w.heap.size w w') := by
    have h1 := join_any a b off c ss w h
    rw [hq] at h1
    exact h1
  clear hq h
  generalize joinT ss = J at *
  generalize ss.length = n at *
  go_enter Tryz.func45, Tryz.ntmps45
  go_wp2_with fail
  refine HJ.out.mono ?_
  rintro e w1 ⟨rfl, b1⟩
  go_wp2
  go_ret
  exact ⟨rfl, b1⟩

set_option maxRecDepth 100000 in
theorem promise_val (ep : Int) (h0 : -9223372036854775808 ≤ ep) (h1 : ep ≤ 9223372036854775807) (w : World) (J : ByteArray) (hJ : joinT [pT, numT ep] = J) :
    Calls Tryz.prog 17 #[.int .i64 ep] w fun e w' => e = .returned (.string J) ∧ Below w.heap.size w w' := by
  have HN : Hid (Calls Tryz.prog 35 #[.int .i64 ep] w fun e w' => e = .returned (.string (numT ep)) ∧ Below w.heap.size w w') := num_val ep _ w h0 h1 rfl
  have HJ : Hid (∀ (W : World) (b : Nat), Strs W (some ⟨b, 0, none⟩) b 0 [pT, numT ep] → Calls Tryz.prog 45 #[.slice (some ⟨b, 0, none⟩) 2 2] W fun e w' => e = .returned (.string J) ∧ Below W.heap.size W w') := fun W b hS => joined_val hS 2 2 rfl J hJ
  have HSM : Hid (∀ s ∈ [pT, numT ep], s.size ≤ maxLen) := by
    have h2 := numT_size h0 h1
    intro s hs
    simp at hs
    rcases hs with rfl | rfl
    · show 1 ≤ maxLen; unfold maxLen; omega
    · unfold maxLen; omega
  clear hJ h0 h1
  generalize numT ep = X at *
  go_enter Tryz.func17, Tryz.ntmps17
  go_wp2_with fail
  refine HN.out.mono ?_
  rintro e w1 ⟨rfl, b1⟩
  have B1 : Hid (Below w.heap.size w w1) := b1
  clear b1
  go_wp2_with fail
  refine (HJ.out _ _ (strs_new w1 [pT, X] _ HSM.out (len_ok (by simp)))).mono ?_
  rintro e w2 ⟨rfl, b2⟩
  go_wp2
  go_ret
  exact ⟨rfl, bel_tr B1.out (bel_tr (bel_al _ _) b2)⟩

set_option maxRecDepth 100000 in
theorem mayBeAdded_val (x : En) (hs : x.d.size ≤ maxLen) (v : Bool) (hv : addR1 x = v) (w : World) :
    Calls Tryz.prog 49 #[.agg #[.int .i64 x.tx, .string x.d]] w fun e w' => e = .returned (.bool v) ∧ Below w.heap.size w w' := by
  obtain ⟨tx, d⟩ := x
  unfold addR1 at hv
  simp only at hs hv ⊢
  unfold maxLen at hs
  obtain ⟨z, hz⟩ : ∃ z : Int, (d.size : Int) = z := ⟨_, rfl⟩
  have e2 : decide (d.size ≤ 600) = decide (z ≤ 600) := decide_eq_decide.2 (by omega)
  rw [e2] at hv
  subst hv
  by_cases h : 1 ≤ tx
  · have h1 : decide (1 ≤ tx) = true := decide_eq_true h
    by_cases k : tx ≤ 300
    · have k1 : decide (tx ≤ 300) = true := decide_eq_true k
      rw [h1, k1, Bool.true_and, Bool.true_and]
      go_enter Tryz.func49, Tryz.ntmps49
      go_wp2
      go_ret
      exact ⟨rfl, bel_al _ _⟩
    · have k1 : decide (tx ≤ 300) = false := decide_eq_false k
      rw [h1, k1, Bool.true_and, Bool.false_and]
      go_enter Tryz.func49, Tryz.ntmps49
      go_wp2
      go_ret
      exact ⟨rfl, bel_al _ _⟩
  · have h1 : decide (1 ≤ tx) = false := decide_eq_false h
    rw [h1, Bool.false_and, Bool.false_and]
    go_enter Tryz.func49, Tryz.ntmps49
    go_wp2
    go_ret
    exact ⟨rfl, bel_al _ _⟩

set_option maxRecDepth 100000 in
theorem add_no (ep : Int) (x : En) (hs : x.d.size ≤ maxLen) (hv : addR1 x = false) (w : World) :
    Calls Tryz.prog 12 #[.int .i64 ep, .agg #[.int .i64 x.tx, .string x.d]] w fun e w' => e = .returned (.tuple #[.string ⟨#[]⟩, .int .i64 1]) ∧ Below w.heap.size w w' := by
  obtain ⟨tx, d⟩ := x
  have HM : Hid (∀ W, Calls Tryz.prog 49 #[.agg #[.int .i64 tx, .string d]] W fun e w' => e = .returned (.bool false) ∧ Below W.heap.size W w') := fun W => mayBeAdded_val ⟨tx, d⟩ hs false hv W
  clear hs hv
  go_enter Tryz.func12, Tryz.ntmps12
  go_wp2_with (go_at_call 49; refine (HM.out _).mono ?_; rintro e w1 ⟨rfl, b1⟩)
  go_ret2
  exact ⟨rfl, bel_tr (bel_al _ _) b1⟩

set_option maxRecDepth 100000 in
set_option maxHeartbeats 2000000 in
theorem add_yes (ep : Int) (h0 : -9223372036854775808 ≤ ep) (h1 : ep ≤ 9223372036854775807) (x : En) (hv : addR1 x = true) (w : World) (J : ByteArray) (hJ : joinT [wT, numT ep, numT x.tx, x.d] = J) :
    Calls Tryz.prog 12 #[.int .i64 ep, .agg #[.int .i64 x.tx, .string x.d]] w fun e w' => e = .returned (.tuple #[.string J, .int .i64 0]) ∧ Below w.heap.size w w' := by
  obtain ⟨k1, k2, k3⟩ := (addR1_iff x).1 hv
  have HM0 := fun W => mayBeAdded_val x (by unfold maxLen; omega) true hv W
  obtain ⟨tx, d⟩ := x
  simp only at k1 k2 k3 HM0 hJ ⊢
  have HM : Hid (∀ W, Calls Tryz.prog 49 #[.agg #[.int .i64 tx, .string d]] W fun e w' => e = .returned (.bool true) ∧ Below W.heap.size W w') := HM0
  have HN : Hid (∀ W, Calls Tryz.prog 35 #[.int .i64 ep] W fun e w' => e = .returned (.string (numT ep)) ∧ Below W.heap.size W w') := fun W => num_val ep _ W h0 h1 rfl
  have HT : Hid (∀ W, Calls Tryz.prog 35 #[.int .i64 tx] W fun e w' => e = .returned (.string (numT tx)) ∧ Below W.heap.size W w') := fun W => num_val tx _ W (by omega) (by omega) rfl
  have HJ : Hid (∀ (W : World) (b : Nat), Strs W (some ⟨b, 0, none⟩) b 0 [wT, numT ep, numT tx, d] → Calls Tryz.prog 45 #[.slice (some ⟨b, 0, none⟩) 4 4] W fun e w' => e = .returned (.string J) ∧ Below W.heap.size W w') := fun W b hS => joined_val hS 4 4 rfl J hJ
  have HSM : Hid (∀ s ∈ [wT, numT ep, numT tx, d], s.size ≤ maxLen) := by
    have h2 := numT_size h0 h1
    have h3 := numT_size (n := tx) (by omega) (by omega)
    intro s hs
    simp at hs
    rcases hs with rfl | rfl | rfl | rfl
    · show 1 ≤ maxLen; unfold maxLen; omega
    · unfold maxLen; omega
    · unfold maxLen; omega
    · unfold maxLen; omega
  clear hJ h0 h1 HM0 k1 k2 k3 hv
  generalize numT ep = X at *
  generalize numT tx = Y at *
  obtain ⟨q0, q1, _, _⟩ := cells2 w (.int .i64 tx) (.string d) 24
  have B0 : Hid (Below w.heap.size w (w.alloc (.cells #[.int .i64 tx, .string d] 24))) := bel_al _ _
  obtain ⟨R, hR⟩ : ∃ R, w.heap.size = R := ⟨_, rfl⟩
  rw [hR] at q0 q1
  have HR : Hid (w.heap.size = R) := hR
  go_enter Tryz.func12, Tryz.ntmps12
  go_wp2_with fail
  clear hR
  generalize w.alloc (.cells #[.int .i64 tx, .string d] 24) = W1 at *
  refine (HM.out _).mono ?_
  rintro e w1 ⟨rfl, b1⟩
  have p0 := bel_cell b1 q0
  have p1 := bel_cell b1 q1
  have B1 : Hid (Below w.heap.size w w1) := bel_tr B0.out b1
  clear b1 q0 q1 B0 HM
  go_wp2_with fail
  have M1 : Hid True := trivial
  go_region_held3 (fun w' => w'.cell? ⟨R, 0, none⟩ = some (.int .i64 tx) ∧ w'.cell? ⟨R, 1, none⟩ = some (.string d))
    (first | (refine ⟨bel_cell KB.out p0, bel_cell KB.out p1⟩; done) | go_keep)
    (first
      | (go_at_call 35; have m1 := M1.out; refine (HN.out _).mono ?_; rintro x w2 ⟨rfl, b2⟩; (first | (have KC : Below w1.heap.size w1 w2 := b2) | (have KC := Lgg.kb1 b2)); have KB : Hid (Below w1.heap.size w1 w2) := KC; have M2 : Hid True := trivial; clear b2 KC m1 M1)
      | (go_at_call 35; have m2 := M2.out; refine (HT.out _).mono ?_; rintro x w3 ⟨rfl, b3⟩; (first | (have KC := bel_tr KB.out b3) | (have KC := Lgg.kb3 KB.out b3)); clear KB; have KB : Hid (Below w1.heap.size w1 w3) := KC; have M3 : Hid True := trivial; clear b3 KC m2 M2)
      | (go_at_call 45; refine (HJ.out _ _ (strs_new _ [wT, X, Y, d] _ HSM.out (len_ok (by simp)))).mono ?_; rintro x w4 ⟨rfl, b4⟩; have KC := bel_tr KB.out (bel_tr (bel_al _ _) b4); clear KB; have KB : Hid (Below w1.heap.size w1 w4) := KC; clear b4 KC))
  all_goals
    go_wp2
    go_ret2
    exact ⟨rfl, bel_tr B1.out KB.out⟩

set_option maxRecDepth 100000 in
theorem need_yes (w : World) : Calls Tryz.prog 94 #[.bool true] w fun e w' => e = .returned (.tuple #[]) ∧ w' = w := by
  go_enter Tryz.func94, Tryz.ntmps94
  go_wp2
  first | go_end0 | refine bodyPost_ret (results_none rfl _ _ _) rfl ?_
  exact ⟨rfl, rfl⟩
set_option maxRecDepth 100000 in
theorem need_no (w : World) : Calls Tryz.prog 94 #[.bool false] w fun e w' => e = leftV ∧ w' = w := by
  go_enter Tryz.func94, Tryz.ntmps94
  go_wp2
  exact ⟨rfl, rfl, rfl⟩

set_option maxRecDepth 100000 in
set_option maxHeartbeats 1000000 in
theorem takeNumber_yes (b : ByteArray) (hb : b.size ≤ maxLen) (n : Int) (h : numP b = some n) (w : World) :
    Calls Tryz.prog 95 #[.string b] w fun e w' => e = .returned (.int .i64 n) ∧ Below w.heap.size w w' := by
  unfold numP at h
  split at h
  · rename_i z k hz
    split at h
    · rename_i h0
      cases h
      have hie : (b.extract k b.size).toList.isEmpty = true := is_empty (decide_eq_true h0)
      have HT : Hid (Calls Tryz.prog 124 #[.string b] w fun e w' => e = .returned (.tuple #[.int .i64 (Lib.unzigzag z), .string (b.extract k b.size), .int .i64 0]) ∧ Below w.heap.size w w') := takeNum_val b _ w hb (takeNumV_yes hz)
      have HY : Hid (∀ W, Calls Tryz.prog 94 #[.bool true] W fun e w' => e = .returned (.tuple #[]) ∧ w' = W) := need_yes
      clear hz h0
      generalize Lib.unzigzag z = N at *
      generalize b.extract k b.size = D at *
      go_enter Tryz.func95, Tryz.ntmps95
      go_wp2_with (first
        | (go_at_call 124; refine HT.out.mono ?_; rintro e w1 ⟨rfl, b1⟩; have B1 : Hid (Below w.heap.size w w1) := b1; clear b1)
        | (go_at_call 94; refine (HY.out _).mono ?_; rintro e wy ⟨rfl, rfl⟩))
      go_ret
      exact ⟨rfl, B1.out⟩
    · cases h
  · cases h
set_option maxRecDepth 100000 in
set_option maxHeartbeats 1000000 in
theorem takeNumber_no (b : ByteArray) (hb : b.size ≤ maxLen) (h : numP b = none) (w : World) :
    Calls Tryz.prog 95 #[.string b] w fun e w' => e = leftV ∧ Below w.heap.size w w' := by
  have HF : Hid (∀ W, Calls Tryz.prog 94 #[.bool false] W fun e w' => e = leftV ∧ w' = W) := need_no
  unfold numP at h
  split at h
  · rename_i z k hz
    split at h
    · cases h
    · rename_i h0
      have hie : (b.extract k b.size).toList.isEmpty = false := is_empty (decide_eq_false h0)
      have HT : Hid (Calls Tryz.prog 124 #[.string b] w fun e w' => e = .returned (.tuple #[.int .i64 (Lib.unzigzag z), .string (b.extract k b.size), .int .i64 0]) ∧ Below w.heap.size w w') := takeNum_val b _ w hb (takeNumV_yes hz)
      clear hz h0
      generalize Lib.unzigzag z = N at *
      generalize b.extract k b.size = D at *
      go_enter Tryz.func95, Tryz.ntmps95
      go_wp2_with (first
        | (go_at_call 124; refine HT.out.mono ?_; rintro e w1 ⟨rfl, b1⟩; have B1 : Hid (Below w.heap.size w w1) := b1; clear b1)
        | (go_at_call 94; refine (HF.out _).mono ?_; rintro e wy ⟨rfl, rfl⟩))
      exact ⟨rfl, rfl, B1.out⟩
  · rename_i hz
    have HT : Hid (Calls Tryz.prog 124 #[.string b] w fun e w' => e = .returned (.tuple #[.int .i64 0, .string ⟨#[]⟩, .int .i64 2]) ∧ Below w.heap.size w w') := takeNum_val b _ w hb (takeNumV_no hz)
    clear hz
    go_enter Tryz.func95, Tryz.ntmps95
    go_wp2_with (first
      | (go_at_call 124; refine HT.out.mono ?_; rintro e w1 ⟨rfl, b1⟩; have B1 : Hid (Below w.heap.size w w1) := b1; clear b1)
      | (go_at_call 94; refine (HF.out _).mono ?_; rintro e wy ⟨rfl, rfl⟩))
    exact ⟨rfl, rfl, B1.out⟩

end Go.Proofs.YtfmhmokbbkliaaaGreat.Jrn

/- Lists of texts of the call's own; the contracts of pieces, answered, Accept, numbered. -/
namespace Go.Proofs.YtfmhmokbbkliaaaGreat.Jrn
open Go.RowKit Go.Proofs.YtfmhmokbbkliaaaGreat Go.Proofs.YtfmhmokbbkliaaaGreat.Wir Go.Proofs.YtfmhmokbbkliaaaGreat.Lgg
set_option linter.unusedVariables false

def strC (s : ByteArray) : List Value := [.string s]
theorem wideS : Wide strC 1 := ⟨fun _ => rfl, fun x u hu => by simp [strC] at hu; subst hu; rfl⟩
theorem rowS (ss : List ByteArray) : rowC strC ss = ss.map Value.string := by
  induction ss with
  | nil => rfl
  | cons s r ih => rw [rowC_cons, ih]; rfl
theorem info_s : ∃ j, Tryz.prog.info? 9 = some j ∧ j.zero = some (.string ⟨#[]⟩) ∧ j.size = 1 ∧ j.bytes = 16 := info_parts Tryz.infoStr
theorem strs_of_cel {O : Nat → Prop} {w : World} {a : Option Addr} {n c : Nat} {ss : List ByteArray} {g : Option Nat} (h : Cel O w 1 (.slice a n c) n (rowC strC ss) g) (hs : ∀ s ∈ ss, s.size ≤ maxLen) : ss.length = n ∧ ∃ b, Strs w a b 0 ss := by
  have hl := h.len
  rw [rowC_len wideS, Nat.mul_one, Nat.mul_one] at hl
  have hc := h.cap2
  refine ⟨hl, ?_⟩
  by_cases hp : 0 < n
  · obtain ⟨b, rfl, rfl⟩ := h.at2 hp
    refine ⟨b, fun _ => rfl, fun j hj => ?_, hs, by omega⟩
    have h1 := h.cell j (by rw [rowS]; simpa using hj)
    rw [Nat.zero_add, h1]
    simp only [rowS, List.getElem_map]
  · exact ⟨0, fun hp2 => absurd hp2 (by omega), fun j hj => absurd hj (by omega), hs, by omega⟩
theorem cel_app {w0 W w7 : World} {k : Nat} {sl sl7 : Value} {n n7 : Nat} {cs cs7 : List Value} {g g7 : Option Nat} (hb : Below w0.heap.size w0 W) (hC : Cel (fun q => w0.heap.size ≤ q) W k sl n cs g) (hC7 : Cel (Grow (fun q => w0.heap.size ≤ q) W w7) w7 k sl7 n7 cs7 g7) (hS7 : Stay (fun q => g = some q) W w7) :
    Cel (fun q => w0.heap.size ≤ q) w7 k sl7 n7 cs7 g7 ∧ Below w0.heap.size w0 w7 :=
  ⟨hC7.stay (Nat.le_refl _) (fun _ _ => rfl) (fun q hq => hq.elim id (fun e => Nat.le_trans hb.size e.1)), hb.trans (hS7.below hb.size (fun q hq => by rw [hq] at hC; exact hC.lt.2))⟩
theorem cel_new (w : World) (base : Nat) (hb : base ≤ w.heap.size) (cs : List Value) (T : TypeId) (k n : Nat) (hl : cs.length = n * k) (hn : n ≤ maxLen) : Cel (fun q => base ≤ q) (w.alloc (.cells cs.toArray T)) k (.slice (some ⟨w.heap.size, 0, none⟩) n n) n cs (some w.heap.size) :=
  .row _ n rfl hl hb (by simp) (Nat.le_refl _) hn (fun j hj => by rw [World.cell?_alloc_new w _ _ j]; simp [hj]) (fun j hj => ⟨by rw [World.cell?_alloc_new w _ _ j]; simp [hl, hj], World.frozen?_alloc_new w _ _ j⟩)
theorem src_lie {P : Program} {t e : TypeId} (ht : P.underlying t = some (.slice e)) {α : Type} {f : α → List Value} {k : Nat} (hf : Wide f k) {O : Nat → Prop} {w : World} {a : Option Addr} {xs : List α} (h : Lie f O w a xs) (n c : Nat) (hn : xs.length = n) : Src P k t (.slice a n c) n (rowC f xs) w := by
  subst hn
  by_cases hp : 0 < xs.length
  · obtain ⟨b, off, rfl, _, _, h4⟩ := h.cells hp
    refine Src.ofSlice w ht ⟨b, off, none⟩ xs.length c _ (rowC_len hf xs) (fun j u hu => ?_) (rowC_oneCell hf xs)
    rw [Addr.add_lit]; exact h4 j u hu
  · obtain rfl : xs = [] := List.length_eq_zero_iff.1 (by omega)
    cases a with
    | none => exact Src.ofNil w ht c
    | some a => exact Src.ofSlice w ht a 0 c [] (by simp) (fun j u hu => by simp at hu) (fun u hu => by cases hu)
theorem src_str (w : World) (d : ByteArray) : Src Tryz.prog 1 76 (.slice (some ⟨w.heap.size, 0, none⟩) 1 1) 1 [.string d] (w.alloc (.cells #[.string d] 9)) := by
  refine Src.ofSlice _ Tryz.underlying76 ⟨w.heap.size, 0, none⟩ 1 1 _ (by rfl) (fun j u hu => ?_) (fun u hu => by simp at hu; subst hu; rfl)
  rw [Addr.add_lit, Nat.zero_add, World.cell?_alloc_new w _ _ j]
  simpa using hu
/-- A list of texts in new memory. -/
structure StrR (base : Nat) (ss : List ByteArray) (e : Ending) (w' : World) : Prop where
  ex : ∃ a c g, e = .returned (.slice a ss.length c) ∧ Cel (fun k => base ≤ k) w' 1 (.slice a ss.length c) ss.length (rowC strC ss) g

/-! ### pieces, plain -/
theorem piecesN_fuel : ∀ (f : Nat) (b : ByteArray), b.size ≤ f → piecesN f b = piecesN b.size b
  | 0, b, h => by rw [show b.size = 0 by omega]
  | f + 1, b, h => by
    by_cases h0 : b.size = 0
    · rw [h0]; unfold piecesN; rw [if_pos h0]
    · obtain ⟨m, hm⟩ : ∃ m, b.size = m + 1 := ⟨b.size - 1, by omega⟩
      have hs : (b.extract (min b.size 4000) b.size).size ≤ m := by rw [ByteArray.size_extract]; omega
      have e1 := piecesN_fuel f (b.extract (min b.size 4000) b.size) (by omega)
      have e2 := piecesN_fuel m (b.extract (min b.size 4000) b.size) hs
      conv => rhs; rw [hm]
      unfold piecesN
      rw [if_neg h0, if_neg h0, e1, e2]
theorem pieces_nil {b : ByteArray} (h : b.size = 0) : piecesL b = [] := by unfold piecesL; rw [h]; rfl
theorem pieces_cons {b : ByteArray} (h : b.size ≠ 0) : piecesL b = b.extract 0 (min b.size 4000) :: piecesL (b.extract (min b.size 4000) b.size) := by
  unfold piecesL
  obtain ⟨m, hm⟩ : ∃ m, b.size = m + 1 := ⟨b.size - 1, by omega⟩
  have hs : (b.extract (min b.size 4000) b.size).size ≤ m := by rw [ByteArray.size_extract]; omega
  conv => lhs; rw [hm]
  conv => lhs; unfold piecesN
  rw [if_neg h, piecesN_fuel m _ hs]
theorem pieces_size : ∀ (n : Nat) (b : ByteArray), b.size ≤ n → (∀ p ∈ piecesL b, p.size ≤ 4000) ∧ (piecesL b).length ≤ b.size
  | 0, b, h => by rw [pieces_nil (by omega)]; simp
  | n + 1, b, h => by
    by_cases h0 : b.size = 0
    · rw [pieces_nil h0]; simp
    · rw [pieces_cons h0]
      have hs : (b.extract (min b.size 4000) b.size).size ≤ n := by rw [ByteArray.size_extract]; omega
      have hs2 : (b.extract (min b.size 4000) b.size).size + 1 ≤ b.size := by rw [ByteArray.size_extract]; omega
      obtain ⟨h1, h2⟩ := pieces_size n _ hs
      refine ⟨fun p hp => ?_, by simp; omega⟩
      rcases List.mem_cons.1 hp with rfl | hp
      · rw [ByteArray.size_extract]; omega
      · exact h1 p hp

set_option maxRecDepth 100000 in
set_option maxHeartbeats 2000000 in
theorem pieces_val {O : Nat → Prop} {w : World} {a : Option Addr} {es : List En} (hl : Lie enC O w a es) (ep : Int) (n c : Nat) (hn : es.length = n) (hR : RtL ⟨ep, es⟩) (ps : List ByteArray) (hp : piecesL (encL ⟨ep, es⟩) = ps) :
    Calls Tryz.prog 69 #[.agg #[.int .i64 ep, .slice a n c]] w fun e w' => StrR w.heap.size ps e w' ∧ Below w.heap.size w w' := by
  have hJs : (encL ⟨ep, es⟩).size ≤ 200000 := by
    have := encL_size hR
    have h3 := hR.2.1
    simp only at h3
    omega
  obtain ⟨J, hJ⟩ : ∃ J, encL ⟨ep, es⟩ = J := ⟨_, rfl⟩
  have HB : Hid (∀ W, Below w.heap.size w W → Calls Tryz.prog 114 #[.agg #[.int .i64 ep, .slice a n c]] W fun e w' => e = .returned (.tuple #[.string J, .int .i64 0]) ∧ Below W.heap.size W w') := fun W hb => bytes_yes (hl.below hb) ep n c hn hR J hJ
  rw [hJ] at hp hJs
  have HP : Hid (piecesL J = ps) := hp
  have HJS : Hid (J.size ≤ 200000) := hJs
  obtain ⟨ti, hi1, hi2, hi3, hi4⟩ := info_s
  clear hl hn hR hJ hp hJs
  go_enter Tryz.func69, Tryz.ntmps69
  go_wp2_with fail
  refine (HB.out _ (bel_al _ _)).mono ?_
  rintro e w1 ⟨rfl, b1⟩
  have B1 : Hid (Below w.heap.size w w1) := bel_tr (bel_al _ _) b1
  clear b1 HB
  go_wp2_with fail
  go_loopw [3, 5] (fun v u wr => ∃ (r : ByteArray) (acc : List ByteArray) (k : Nat) (a' : Option Addr) (c' : Nat) (g : Option Nat), v = .string r ∧ u = .slice a' k c' ∧ acc.length = k ∧ acc ++ piecesL r = ps ∧ k + r.size ≤ 200000 ∧ Cel (fun q => w.heap.size ≤ q) wr 1 (.slice a' k c') k (rowC strC acc) g ∧ Below w.heap.size w wr) (fun v _ _ => match v with | .string r => r.size | _ => 0)
  case atStart => exact ⟨J, [], 0, none, 0, none, rfl, rfl, rfl, HP.out, by have := HJS.out; omega, .nil rfl rfl rfl, B1.out⟩
  case round =>
    obtain ⟨r, acc, k, a', c', g, rfl, rfl, hk, he, hs, hC, hb⟩ := hrel
    have HK : Hid (acc.length = k) := hk
    have HE : Hid (acc ++ piecesL r = ps) := he
    have HC : Hid (Cel (fun q => w.heap.size ≤ q) wr 1 (.slice a' k c') k (rowC strC acc) g) := hC
    have HBB : Hid (Below w.heap.size w wr) := hb
    clear hk he hC hb B1 HP HJS
    by_cases h0 : r.size = 0
    · have hie := is_empty (decide_eq_true h0)
      have HF : Hid (acc = ps) := by
        have := HE.out
        rw [pieces_nil h0, List.append_nil] at this
        exact this
      go_wp2
      go_ret
      refine ⟨⟨a', c', g, ?_, ?_⟩, HBB.out⟩
      · first | (rw [← HF.out, HK.out]; done) | (rw [← HF.out, HK.out]; rfl)
      · rw [← HF.out, HK.out]; exact HC.out
    · have hie := is_empty (decide_eq_false h0)
      have hpc := pieces_cons h0
      obtain ⟨m, hm⟩ : ∃ m, min r.size 4000 = m := ⟨_, rfl⟩
      have hm1 : 1 ≤ m ∧ m ≤ r.size := by omega
      have hmi : min (r.size : Int) 4000 = (m : Int) := by omega
      rw [hm] at hpc
      obtain ⟨X, hX⟩ : ∃ X, r.extract 0 m = X := ⟨_, rfl⟩
      obtain ⟨Y, hY⟩ : ∃ Y, r.extract m r.size = Y := ⟨_, rfl⟩
      have hys : Y.size + m = r.size := by rw [← hY, ByteArray.size_extract]; omega
      rw [hX, hY] at hpc
      have HN : Hid ((acc ++ [X]) ++ piecesL Y = ps) := by
        have := HE.out
        rw [hpc] at this
        rw [List.append_assoc]
        exact this
      have HS : Hid (k + 1 + Y.size ≤ 200000 ∧ Y.size < r.size) := ⟨by omega, by omega⟩
      have hrs : r.size ≤ 200000 := by omega
      have HKS : Hid (k ≤ 200000) := (by show k ≤ _; omega)
      clear hpc h0 hm hys hs
      go_wp2_with (at_builtin; refine wpList_append_cel _ rfl _ _ 76 76 rfl 9 ti _ 1 16 Tryz.underlying76 hi1 hi2 hi3 hi4 rfl (O := fun q => w.heap.size ≤ q) (.slice a' k c') k _ g rfl (HC.out.below (bel_al _ _)) _ 1 [.string X] rfl (src_str wr X) (by have := HKS.out; unfold maxLen; omega) (by have := HKS.out; omega) ?_; intro a7 c7 w7 g7 hC7 hS7 hg7; have H7 : Hid (Cel (fun q => w.heap.size ≤ q) w7 1 (.slice a7 (k + 1) c7) (k + 1) (rowC strC acc ++ [.string X]) g7 ∧ Below w.heap.size w w7) := cel_app (bel_tr HBB.out (bel_al _ _)) (HC.out.below (bel_al _ _)) hC7 hS7; clear hC7 hS7 hg7)
      go_roundw
      case rel => exact ⟨Y, acc ++ [X], k + 1, a7, c7, g7, rfl, rfl, by simp [HK.out], HN.out, HS.out.1, by rw [rowC_app, rowC_one]; exact H7.out.1, H7.out.2⟩
      case measure => exact HS.out.2

set_option maxRecDepth 100000 in
set_option maxHeartbeats 2000000 in
theorem answered_val {O : Nat → Prop} {w : World} {a : Option Addr} {ps : List ByteArray} (hl : Lie strC O w a ps) (hs : ∀ s ∈ ps, s.size ≤ maxLen) (er : Int) (he : 0 ≤ er ∧ er ≤ 100) (n c : Nat) (hn : ps.length = n) (hn2 : n ≤ 1000000) (J : ByteArray) (hJ : ansT er ps = J) :
    Calls Tryz.prog 65 #[.int .i64 er, .slice a n c] w fun e w' => e = .returned (.string J) ∧ Below w.heap.size w w' := by
  have h10 := numT_size (n := er) (by omega) (by omega)
  have HN : Hid (Calls Tryz.prog 35 #[.int .i64 er] w fun e w' => e = .returned (.string (numT er)) ∧ Below w.heap.size w w') := num_val er _ w (by omega) (by omega) rfl
  unfold ansT at hJ
  have HSM : Hid (∀ s ∈ numT er :: ps, s.size ≤ maxLen) := fun s hs2 => by
    rcases List.mem_cons.1 hs2 with rfl | hs2
    · unfold maxLen; omega
    · exact hs s hs2
  generalize numT er = X at *
  have HJ : Hid (∀ (W : World) (a7 : Option Addr) (c7 : Nat) (O7 : Nat → Prop) (g7 : Option Nat), Cel O7 W 1 (.slice a7 (1 + n) c7) (1 + n) (rowC strC (X :: ps)) g7 → Calls Tryz.prog 45 #[.slice a7 (1 + n) c7] W fun e w' => e = .returned (.string J) ∧ Below W.heap.size W w') := fun W a7 c7 O7 g7 hC => by
    obtain ⟨h1, b, h2⟩ := strs_of_cel hC HSM.out
    exact joined_val h2 (1 + n) c7 h1 J hJ
  have HL : Hid (Lie strC O w a ps) := hl
  have HNN : Hid (ps.length = n) := hn
  obtain ⟨ti, hi1, hi2, hi3, hi4⟩ := info_s
  clear hl hs he hn h10 hJ HSM
  go_enter Tryz.func65, Tryz.ntmps65
  go_wp2_with fail
  refine HN.out.mono ?_
  rintro e w1 ⟨rfl, b1⟩
  have B1 : Hid (Below w.heap.size w w1) := b1
  clear b1
  have CW : Hid (Cel (fun q => w.heap.size ≤ q) (w1.alloc (.cells #[.string X] 9)) 1 (.slice (some ⟨w1.heap.size, 0, none⟩) 1 1) 1 [.string X] (some w1.heap.size)) := cel_new w1 _ B1.out.size [.string X] _ 1 1 rfl (by unfold maxLen; omega)
  have SW : Hid (Src Tryz.prog 1 76 (.slice a n c) n (rowC strC ps) (w1.alloc (.cells #[.string X] 9))) := src_lie Tryz.underlying76 wideS (HL.out.below (bel_tr B1.out (bel_al _ _))) n c HNN.out
  go_wp2_with (at_builtin; refine wpList_append_cel _ rfl _ _ 76 76 rfl 9 ti _ 1 16 Tryz.underlying76 hi1 hi2 hi3 hi4 rfl (O := fun q => w.heap.size ≤ q) (.slice (some ⟨w1.heap.size, 0, none⟩) 1 1) 1 _ _ rfl CW.out _ n (rowC strC ps) rfl SW.out (by unfold maxLen; omega) (by omega) ?_; intro a7 c7 w7 g7 hC7 hS7 hg7; have H7 : Hid (Cel (fun q => w.heap.size ≤ q) w7 1 (.slice a7 (1 + n) c7) (1 + n) (rowC strC (X :: ps)) g7 ∧ Below w.heap.size w w7) := (by rw [rowC_cons]; exact cel_app (bel_tr B1.out (bel_al _ _)) CW.out hC7 hS7); clear hC7 hS7 hg7)
  refine (HJ.out _ _ _ _ _ H7.out.1).mono ?_
  rintro e w8 ⟨rfl, b8⟩
  go_wp2
  go_ret
  exact ⟨rfl, bel_tr H7.out.2 b8⟩

end Go.Proofs.YtfmhmokbbkliaaaGreat.Jrn

/- The contracts of journal.Accept and journal.numbered. -/
namespace Go.Proofs.YtfmhmokbbkliaaaGreat.Jrn
open Go.RowKit Go.Proofs.YtfmhmokbbkliaaaGreat Go.Proofs.YtfmhmokbbkliaaaGreat.Wir Go.Proofs.YtfmhmokbbkliaaaGreat.Lgg
set_option linter.unusedVariables false

/-- The texts of a request that hands a log over. -/
def accTs (ep : Int) (es : List En) : List ByteArray := aT :: numT ep :: es.map En.d

set_option maxRecDepth 100000 in
theorem accept_no {O : Nat → Prop} {w : World} {a : Option Addr} {es : List En} (h : Lie enC O w a es) (hd : ∀ x ∈ es, x.d.size ≤ maxLen) (ep : Int) (n c : Nat) (hn : es.length = n) (hR : ¬ RtL ⟨ep, es⟩) :
    Calls Tryz.prog 10 #[.int .i64 ep, .slice a n c] w fun e w' => e = .returned (.tuple #[.string ⟨#[]⟩, .int .i64 1]) ∧ Below w.heap.size w w' := by
  have HR : Hid (Calls Tryz.prog 44 #[.agg #[.int .i64 ep, .slice a n c]] w fun e w' => e = .returned (.bool false) ∧ Below w.heap.size w w') := right_val h hd ep n c hn false ⟨fun e => (by cases e), fun e => absurd e hR⟩
  clear h hd hn hR
  go_enter Tryz.func10, Tryz.ntmps10
  go_wp2_with fail
  refine HR.out.mono ?_
  rintro e w1 ⟨rfl, b1⟩
  go_wp2
  go_ret2
  exact ⟨rfl, b1⟩

set_option maxRecDepth 100000 in
set_option maxHeartbeats 2000000 in
theorem accept_yes {O : Nat → Prop} {w : World} {a : Option Addr} {es : List En} (h : Lie enC O w a es) (ep : Int) (n c : Nat) (hn : es.length = n) (hR : RtL ⟨ep, es⟩) (J : ByteArray) (hJ : joinT (accTs ep es) = J) :
    Calls Tryz.prog 10 #[.int .i64 ep, .slice a n c] w fun e w' => e = .returned (.tuple #[.string J, .int .i64 0]) ∧ Below w.heap.size w w' := by
  have hep := ep_in hR.1
  simp only at hep
  have hds : ∀ x ∈ es, x.d.size ≤ 600 := fun x hx => by
    obtain ⟨i, hi, rfl⟩ := List.getElem_of_mem hx
    exact (hR.2.2 i hi).2
  have hn3 : n ≤ 300 := by have := hR.2.1; simp only at this; omega
  have h10 := numT_size (n := ep) (by omega) (by omega)
  have HR : Hid (Calls Tryz.prog 44 #[.agg #[.int .i64 ep, .slice a n c]] w fun e w' => e = .returned (.bool true) ∧ Below w.heap.size w w') := right_val h (fun x hx => by have := hds x hx; unfold maxLen; omega) ep n c hn true ⟨fun _ => hR, fun _ => rfl⟩
  have HN : Hid (∀ W, Calls Tryz.prog 35 #[.int .i64 ep] W fun e w' => e = .returned (.string (numT ep)) ∧ Below W.heap.size W w') := fun W => num_val ep _ W (by omega) (by omega) rfl
  unfold accTs at hJ
  have HSM : Hid (∀ s ∈ aT :: numT ep :: es.map En.d, s.size ≤ maxLen) := fun s hs2 => by
    rcases List.mem_cons.1 hs2 with rfl | hs2
    · show 1 ≤ maxLen; unfold maxLen; omega
    · rcases List.mem_cons.1 hs2 with rfl | hs2
      · unfold maxLen; omega
      · obtain ⟨x, hx, rfl⟩ := List.mem_map.1 hs2
        have := hds x hx; unfold maxLen; omega
  generalize numT ep = X at *
  have HJ : Hid (∀ (W : World) (a7 : Option Addr) (c7 : Nat) (O7 : Nat → Prop) (g7 : Option Nat), Cel O7 W 1 (.slice a7 (n + 2) c7) (n + 2) (rowC strC (aT :: X :: es.map En.d)) g7 → Calls Tryz.prog 45 #[.slice a7 (n + 2) c7] W fun e w' => e = .returned (.string J) ∧ Below W.heap.size W w') := fun W a7 c7 O7 g7 hC => by
    obtain ⟨h1, b, h2⟩ := strs_of_cel hC HSM.out
    exact joined_val h2 (n + 2) c7 h1 J hJ
  have HL : Hid (Lie enC O w a es) := h
  have HNN : Hid (es.length = n) := hn
  obtain ⟨ti, hi1, hi2, hi3, hi4⟩ := info_s
  clear h hds hn h10 hJ HSM hR hep
  go_enter Tryz.func10, Tryz.ntmps10
  go_wp2_with fail
  refine HR.out.mono ?_
  rintro e w1 ⟨rfl, b1⟩
  have B1 : Hid (Below w.heap.size w w1) := b1
  clear b1
  go_wp2_with fail
  refine (HN.out _).mono ?_
  rintro e w2 ⟨rfl, b2⟩
  have B2 : Hid (Below w.heap.size w w2) := bel_tr B1.out b2
  clear b2 B1
  have CW : Hid (Cel (fun q => w.heap.size ≤ q) (w2.alloc (.cells #[.string aT, .string X] 9)) 1 (.slice (some ⟨w2.heap.size, 0, none⟩) 2 2) 2 (rowC strC [aT, X]) (some w2.heap.size)) := cel_new w2 _ B2.out.size [.string aT, .string X] _ 1 2 rfl (by unfold maxLen; omega)
  have BW : Hid (Below w.heap.size w (w2.alloc (.cells #[.string aT, .string X] 9))) := bel_tr B2.out (bel_al _ _)
  go_wp2_with fail
  go_loopw [6, 19] (fun v u wr => ∃ (i : Nat) (a' : Option Addr) (c' : Nat) (g : Option Nat), i ≤ n ∧ u = .int .i64 i ∧ v = .slice a' (i + 2) c' ∧ Cel (fun q => w.heap.size ≤ q) wr 1 (.slice a' (i + 2) c') (i + 2) (rowC strC (aT :: X :: (es.take i).map En.d)) g ∧ Below w.heap.size w wr) (fun _ u _ => n - (intOf u).toNat)
  case atStart => exact ⟨0, _, _, _, by omega, rfl, rfl, CW.out, BW.out⟩
  case round =>
    obtain ⟨i, a', c', g, hi, rfl, rfl, hC, hb⟩ := hrel
    have HC : Hid (Cel (fun q => w.heap.size ≤ q) wr 1 (.slice a' (i + 2) c') (i + 2) (rowC strC (aT :: X :: (es.take i).map En.d)) g) := hC
    have HBB : Hid (Below w.heap.size w wr) := hb
    clear hC hb CW BW B2
    by_cases hlt : i < n
    · have hie : i < es.length := by rw [HNN.out]; exact hlt
      obtain ⟨b, off, rfl, hc⟩ := (HL.out.below HBB.out).at wideN hie
      have HTK : Hid (rowC strC (aT :: X :: (es.take (i + 1)).map En.d) = rowC strC (aT :: X :: (es.take i).map En.d) ++ [.string es[i].d]) := by
        show (_ : List Value) = _
        rw [List.take_succ_eq_append_getElem hie, List.map_append, List.map_singleton, show aT :: X :: ((es.take i).map En.d ++ [es[i].d]) = (aT :: X :: (es.take i).map En.d) ++ [es[i].d] from rfl, rowC_app, rowC_one]
        rfl
      generalize es[i] = x at *
      obtain ⟨tx, d⟩ := x
      have q0 : wr.cell? ⟨b, off + i * 2, none⟩ = some (.int .i64 tx) := hc 0 _ rfl
      have q1 : wr.cell? ⟨b, off + i * 2 + 1, none⟩ = some (.string d) := hc 1 _ rfl
      clear hc
      simp only at HTK
      have SW : Hid (Src Tryz.prog 1 76 (.slice (some ⟨wr.heap.size + 1, 0, none⟩) 1 1) 1 [.string d] ((wr.alloc (.cells #[.int .i64 tx, .string d] 24)).alloc (.cells #[.string d] 9))) := by
        have h9 := src_str (wr.alloc (.cells #[.int .i64 tx, .string d] 24)) d
        rw [show (wr.alloc (.cells #[.int .i64 tx, .string d] 24)).heap.size = wr.heap.size + 1 by simp] at h9
        exact h9
      have BX : Hid (Below wr.heap.size wr ((wr.alloc (.cells #[.int .i64 tx, .string d] 24)).alloc (.cells #[.string d] 9))) := bel_tr (bel_al _ _) (bel_al _ _)
      go_wp2_with (at_builtin; refine wpList_append_cel _ rfl _ _ 76 76 rfl 9 ti _ 1 16 Tryz.underlying76 hi1 hi2 hi3 hi4 rfl (O := fun q => w.heap.size ≤ q) (.slice a' (i + 2) c') (i + 2) _ g rfl (HC.out.below BX.out) _ 1 [.string d] rfl SW.out (by unfold maxLen; omega) (by omega) ?_; intro a7 c7 w7 g7 hC7 hS7 hg7; have H7 : Hid (Cel (fun q => w.heap.size ≤ q) w7 1 (.slice a7 (i + 2 + 1) c7) (i + 2 + 1) (rowC strC (aT :: X :: (es.take i).map En.d) ++ [.string d]) g7 ∧ Below w.heap.size w w7) := cel_app (bel_tr HBB.out BX.out) (HC.out.below BX.out) hC7 hS7; clear hC7 hS7 hg7)
      go_roundw
      case rel => exact ⟨i + 1, a7, c7, g7, by omega, by go_num, by rw [show i + 1 + 2 = i + 2 + 1 by omega], by rw [HTK.out, show i + 1 + 2 = i + 2 + 1 by omega]; exact H7.out.1, H7.out.2⟩
      case measure => simp [intOf]; omega
    · obtain rfl : i = n := by omega
      have HF : Hid (es.take i = es) := List.take_of_length_le (by rw [HNN.out]; omega)
      have HC2 : Hid (Cel (fun q => w.heap.size ≤ q) wr 1 (.slice a' (i + 2) c') (i + 2) (rowC strC (aT :: X :: es.map En.d)) g) := by
        have := HC.out
        rw [HF.out] at this
        exact this
      clear HC HF
      go_wp2_with fail
      refine (HJ.out _ _ _ _ _ HC2.out).mono ?_
      rintro e w8 ⟨rfl, b8⟩
      go_wp2
      go_ret2
      exact ⟨rfl, bel_tr HBB.out b8⟩

/-- Entries in new memory. -/
structure EnsR (base : Nat) (es : List En) (e : Ending) (w' : World) : Prop where
  ex : ∃ a c g, e = .returned (.slice a es.length c) ∧ Cel (fun k => base ≤ k) w' 2 (.slice a es.length c) es.length (rowC enC es) g

set_option maxRecDepth 100000 in
set_option maxHeartbeats 2000000 in
theorem numbered_val {w : World} {a : Option Addr} {b off : Nat} {ss : List ByteArray} (h : Strs w a b off ss) (n c : Nat) (hn : ss.length = n) (hn2 : n ≤ 1000) (es : List En) (he : numd ss = es) :
    Calls Tryz.prog 110 #[.slice a n c] w fun e w' => EnsR w.heap.size es e w' ∧ Below w.heap.size w w' := by
  have HS : Hid (Strs w a b off ss) := h
  have HNN : Hid (ss.length = n) := hn
  have HE : Hid (numd ss = es) := he
  obtain ⟨ti, hi1, hi2, hi3, hi4⟩ := info_e
  clear h hn he
  go_enter Tryz.func110, Tryz.ntmps110
  go_wp2_with fail
  go_loopw [3, 8] (fun v u wr => ∃ (i : Nat) (a' : Option Addr) (c' : Nat) (g : Option Nat), i ≤ n ∧ u = .int .i64 i ∧ v = .slice a' i c' ∧ Cel (fun q => w.heap.size ≤ q) wr 2 (.slice a' i c') i (rowC enC (numd (ss.take i))) g ∧ Below w.heap.size w wr) (fun _ u _ => n - (intOf u).toNat)
  case atStart => exact ⟨0, none, 0, none, by omega, rfl, rfl, .nil rfl rfl rfl, Below.refl _ _⟩
  case round =>
    obtain ⟨i, a', c', g, hi, rfl, rfl, hC, hb⟩ := hrel
    have HC : Hid (Cel (fun q => w.heap.size ≤ q) wr 2 (.slice a' i c') i (rowC enC (numd (ss.take i))) g) := hC
    have HBB : Hid (Below w.heap.size w wr) := hb
    clear hC hb
    by_cases hlt : i < n
    · have hie : i < ss.length := by rw [HNN.out]; exact hlt
      obtain rfl := HS.out.addr (by omega)
      have c1 := (HS.out.below HBB.out).cell i hie
      have HTK : Hid (rowC enC (numd (ss.take (i + 1))) = rowC enC (numd (ss.take i)) ++ [.int .i64 ((i : Int) + 1), .string ss[i]]) := by
        show (_ : List Value) = _
        rw [numd_take ss i hie, rowC_app, rowC_one]
        rfl
      obtain ⟨d, hd⟩ : ∃ d, ss[i] = d := ⟨_, rfl⟩
      rw [hd] at c1 HTK
      clear hd
      go_wp2_with (at_builtin; refine wpList_append_cel _ rfl _ _ 22 22 rfl 24 ti _ 2 24 Tryz.underlying22 hi1 hi2 hi3 hi4 rfl (O := fun q => w.heap.size ≤ q) (.slice a' i c') i _ g rfl (HC.out.below (bel_al _ _)) _ 1 [.int .i64 ((i : Int) + 1), .string d] rfl (src_entry _ _ d) (by unfold maxLen; omega) (by omega) ?_; intro a7 c7 w7 g7 hC7 hS7 hg7; have H7 : Hid (Cel (fun q => w.heap.size ≤ q) w7 2 (.slice a7 (i + 1) c7) (i + 1) (rowC enC (numd (ss.take i)) ++ [.int .i64 ((i : Int) + 1), .string d]) g7 ∧ Below w.heap.size w w7) := cel_app (bel_tr HBB.out (bel_al _ _)) (HC.out.below (bel_al _ _)) hC7 hS7; clear hC7 hS7 hg7)
      go_roundw
      case rel => exact ⟨i + 1, a7, c7, g7, by omega, by go_num, rfl, by rw [HTK.out]; exact H7.out.1, H7.out.2⟩
      case measure => simp [intOf]; omega
    · obtain rfl : i = n := by omega
      have HF : Hid (numd (ss.take i) = es) := by
        show _ = _
        rw [List.take_of_length_le (by rw [HNN.out]; omega)]; exact HE.out
      have HLN : Hid (es.length = i) := by
        show _ = _
        rw [← HE.out, numd_len]; exact HNN.out
      go_wp2
      go_ret
      refine ⟨⟨a', c', g, ?_, ?_⟩, HBB.out⟩
      · first | (rw [HLN.out]; done) | (rw [HLN.out]; rfl)
      · rw [HLN.out, ← HF.out]; exact HC.out

end Go.Proofs.YtfmhmokbbkliaaaGreat.Jrn

/- A journal node in memory; the contracts of die, promise. -/
namespace Go.Proofs.YtfmhmokbbkliaaaGreat.Jrn
open Go.RowKit Go.Proofs.YtfmhmokbbkliaaaGreat Go.Proofs.YtfmhmokbbkliaaaGreat.Wir Go.Proofs.YtfmhmokbbkliaaaGreat.Lgg Go.Proofs.YtfmhmokbbkliaaaGreat.Sep
set_option linter.unusedVariables false

theorem dat_wide {O O' : Nat → Prop} {w : World} {pd : Nat} {ds : DS} (h : DAt O w pd ds) (hO : ∀ k, O k → O' k) (hl : ∀ k, O' k → k < w.heap.size) : DAt O' w pd ds := by
  obtain ⟨b, V, B, h⟩ := h
  exact ⟨b, V, B, h.wide hO hl⟩
/-- A disk. -/
def dsk (pd : Nat) (ds : DS) : Th := ⟨fun O w => DAt O w pd ds, fun h hs hd => h.stay hs hd, fun h => h.lt, fun h hO hl => dat_wide h hO hl⟩
/-- A row of the call's own. -/
def celT (k : Nat) (sl : Value) (n : Nat) (cs : List Value) (g : Option Nat) : Th :=
  ⟨fun O w => Cel O w k sl n cs g ∧ ∀ q, O q → q < w.heap.size, fun h hs hd => ⟨h.1.stay hs.size (fun q hq => by
      have h1 := h.1
      rw [hq] at h1
      exact hs.block q h1.lt.1 (hd q h1.lt.2)) (fun _ e => e), fun q hq => Nat.lt_of_lt_of_le (h.2 q hq) hs.size⟩, fun h => h.2, fun h hO hl => ⟨h.1.stay (Nat.le_refl _) (fun _ _ => rfl) hO, hl⟩⟩
/-- A disk's contract, whatever lies beside it. -/
theorem dsk_acts {F : Nat} {args : Array Value} {ds ds' : DS} {R : Ending} {pd : Nat} {w : World} (c : ∀ w0 K, Dk w0 K w pd ds → Calls Tryz.prog F args w fun e w' => e = R ∧ Dk w0 K w' pd ds' ∧ Stay (fun k => ¬ K k) w w') :
    Acts Tryz.prog F args (dsk pd ds) w (fun e _ => e = R) (dsk pd ds') := by
  intro O h
  have h0 : DAt O w pd ds := h
  refine (c { w with heap := #[] } (fun k => k < w.heap.size ∧ ¬ O k) ⟨O, h0, fun k hk => ⟨Nat.zero_le _, fun e => e.2 hk⟩, ⟨rfl, rfl, rfl, Nat.zero_le _, fun k hk => absurd hk (Nat.not_lt_zero _)⟩, fun k hk => hk.1⟩).mono ?_
  rintro e w' ⟨h1, h2, h3⟩
  obtain ⟨O', k1, k2, _, _⟩ := h2.ex
  have hs : Stay O w w' := ⟨h3.os, h3.tape, h3.output, h3.size, fun k hk hn => h3.block k hk (fun e => e ⟨hk, hn⟩)⟩
  refine ⟨h1, dat_wide k1 (fun k hk => ?_) (grow_lt h0.lt h3.size), hs⟩
  by_cases hlt : k < w.heap.size
  · by_cases ho : O k
    · exact .inl ho
    · exact absurd ⟨hlt, ho⟩ (k2 k hk).2
  · exact .inr ⟨by omega, k1.lt k hk⟩
theorem store_acts {w : World} {O : Nat → Prop} {a : Option Addr} {es : List En} (hl : Lie enC O w a es) (ep : Int) (n c : Nat) (hn : es.length = n) (hR : RtL ⟨ep, es⟩) (s : ByteArray) (hs : nmOk s = true) {pd : Nat} {ds ds' : DS} (q : Int) (hq : stoR ds s (encL ⟨ep, es⟩) = (q, ds')) :
    Acts Tryz.prog 103 #[.pointer (some ⟨pd, 0, none⟩), .string s, .agg #[.int .i64 ep, .slice a n c]] (dsk pd ds) w (fun e _ => e = .returned (.int .i64 q)) (dsk pd ds') :=
  dsk_acts fun w0 K h => store_val h s hs hl ep n c hn hR q hq
theorem add_acts {w : World} (x : En) (h1 : 1 ≤ x.tx) (h2 : x.tx ≤ 300) (hd : x.d.size ≤ 600) (s : ByteArray) (hs : nmOk s = true) {pd : Nat} {ds ds' : DS} (q : Int) (hq : addR ds s (encE x) = (q, ds')) :
    Acts Tryz.prog 147 #[.pointer (some ⟨pd, 0, none⟩), .string s, .agg #[.int .i64 x.tx, .string x.d]] (dsk pd ds) w (fun e _ => e = .returned (.int .i64 q)) (dsk pd ds') :=
  dsk_acts fun w0 K h => add_val h s hs x h1 h2 hd q hq

/-- The pointer to its disk. -/
def dpt (pd : Nat) (j : Nd) : Value := .pointer (if j.gone = true then none else some ⟨pd, 0, none⟩)
/-- A node's cells. -/
def jrV (pd : Nat) (j : Nd) (a : Option Addr) (c : Nat) : List Value := [dpt pd j, .int .i64 j.p, .int .i64 j.l.ep, .slice a j.l.es.length c, .bool j.gone]
def jrL (jp pd : Nat) (ds : DS) (j : Nd) (a : Option Addr) (c : Nat) (g : Option Nat) : List Th :=
  [box jp (jrV pd j a c), dsk pd ds, celT 2 (.slice a j.l.es.length c) j.l.es.length (rowC enC j.l.es) g]
structure JrI where
  a : Option Addr
  c : Nat
  g : Option Nat
/-- A node and its disk. -/
def jr (jp pd : Nat) (ds : DS) (j : Nd) : Th := some' fun x : JrI => all (jrL jp pd ds j x.a x.c x.g)

section
variable {w w1 : World} {O : Nat → Prop} {jp pd : Nat} {ds : DS} {j : Nd} {a : Option Addr} {c : Nat} {g : Option Nat}
theorem jr_done (h : Hz w O (jrL jp pd ds j a c g) w1) : (jr jp pd ds j).A (Grow O w w1) w1 ∧ Stay O w w1 := ⟨⟨⟨a, c, g⟩, h.done_all.1⟩, h.done_all.2⟩
theorem jr_fold {M : List Th} (h : Hz w O (jrL jp pd ds j a c g ++ M) w1) : Hz w O (jr jp pd ds j :: M) w1 := Hz.mk' (f := fun x : JrI => all (jrL jp pd ds j x.a x.c x.g)) (x := ⟨a, c, g⟩) h.fold
theorem jr_open {M : List Th} (h : Hz w O (jr jp pd ds j :: M) w1) : ∃ a c g, Hz w O (jrL jp pd ds j a c g ++ M) w1 := by
  obtain ⟨x, h⟩ := Hz.ex' h
  exact ⟨x.a, x.c, x.g, h.unfold⟩
theorem jr_cells (h : Hz w O (jrL jp pd ds j a c g) w1) : w1.cell? ⟨jp, 0, none⟩ = some (dpt pd j) ∧ w1.cell? ⟨jp, 1, none⟩ = some (.int .i64 j.p) ∧ w1.cell? ⟨jp, 2, none⟩ = some (.int .i64 j.l.ep) ∧ w1.cell? ⟨jp, 3, none⟩ = some (.slice a j.l.es.length c) ∧ w1.cell? ⟨jp, 4, none⟩ = some (.bool j.gone) ∧ ∀ i, w1.frozen? ⟨jp, i, none⟩ = false :=
  ⟨h.cell 0 rfl rfl, h.cell 0 rfl rfl, h.cell 0 rfl rfl, h.cell 0 rfl rfl, h.cell 0 rfl rfl, h.fr 0 rfl⟩
theorem jr_row (h : Hz w O (jrL jp pd ds j a c g) w1) : ∃ O3, Cel O3 w1 2 (.slice a j.l.es.length c) j.l.es.length (rowC enC j.l.es) g := by
  obtain ⟨O3, k⟩ := h.get 2 rfl
  exact ⟨O3, k.1⟩
end

set_option maxRecDepth 100000 in
set_option maxHeartbeats 1000000 in
theorem die_acts {jp pd : Nat} {ds : DS} {j : Nd} {w : World} : Acts Tryz.prog 145 #[.pointer (some ⟨jp, 0, none⟩)] (jr jp pd ds j) w (fun e _ => e = .returned (.int .i64 12)) (jr jp pd ds deadN) := by
  rintro O ⟨⟨a, c, g⟩, hS⟩
  have hz : Hz w O (jrL jp pd ds j a c g) w := Hz.start hS
  obtain ⟨x0, x1, x2, x3, x4, fx⟩ := jr_cells hz
  have HZ : Hid (Hz w O (jrL jp pd ds j a c g) w) := hz
  clear hz hS
  have f0 := fx 0
  have f1 := fx 1
  have f2 := fx 2
  have f3 := fx 3
  have f4 := fx 4
  clear fx
  have hst2 : ∀ (w : World) (a : Addr) (x : Option Addr) (n c : Nat) (m : Mode), (store a (.slice x n c) m).run Tryz.prog w = stored Tryz.prog w a (.slice x n c) m := fun w a x n c m => run_store (P := Tryz.prog) w a _ m rfl
  have hst3 : ∀ (w : World) (a : Addr) (x : Option Addr) (m : Mode), (store a (.pointer x) m).run Tryz.prog w = stored Tryz.prog w a (.pointer x) m := fun w a x m => run_store (P := Tryz.prog) w a _ m rfl
  go_enter Tryz.func145, Tryz.ntmps145
  go_wp2
  go_ret
  have h1 := (((((HZ.out.setBox 0 rfl 0 (.pointer none) (by simp [jrV])).setBox 0 rfl 1 (.int .i64 0) (by simp [jrV])).setBox 0 rfl 2 (.int .i64 0) (by simp [jrV])).setBox 0 rfl 3 (.slice none 0 0) (by simp [jrV])).setBox 0 rfl 4 (.bool true) (by simp [jrV]))
  have h2 := h1.as (T := celT 2 (.slice a j.l.es.length c) j.l.es.length (rowC enC j.l.es) g) (T' := celT 2 (.slice none 0 0) 0 [] none) 2 rfl (fun O1 k => ⟨.nil rfl rfl rfl, k.2⟩)
  exact ⟨rfl, jr_done (j := deadN) (a := none) (c := 0) (g := none) h2⟩

set_option maxRecDepth 100000 in
set_option maxHeartbeats 2000000 in
theorem promiseJ_acts {jp pd : Nat} {ds : DS} {j : Nd} {w : World} (hg : j.gone = false) (ep : Int) (he : epR ep = true) :
    Acts Tryz.prog 111 #[.pointer (some ⟨jp, 0, none⟩), .int .i64 ep] (jr jp pd ds j) w (fun e _ => e = .returned (.int .i64 (promQ ds j ep).e)) (jr jp pd (promQ ds j ep).ds (promQ ds j ep).j) := by
  rintro O ⟨⟨a, c, g⟩, hS⟩
  have hz : Hz w O (jrL jp pd ds j a c g) w := Hz.start hS
  obtain ⟨x0, x1, x2, x3, x4, fx⟩ := jr_cells hz
  have HZ : Hid (Hz w O (jrL jp pd ds j a c g) w) := hz
  clear hz hS
  have f1 := fx 1
  unfold dpt at x0
  rw [hg] at x0
  simp only [if_neg Bool.false_ne_true] at x0
  obtain ⟨P, hP⟩ : ∃ P, j.p = P := ⟨_, rfl⟩
  rw [hP] at x1
  by_cases hle : ep ≤ P
  · have e1 : promQ ds j ep = ⟨10, ds, j⟩ := by unfold promQ; rw [if_pos (by omega)]
    rw [e1]
    clear e1 hP
    go_enter Tryz.func111, Tryz.ntmps111
    go_wp2
    go_ret
    exact ⟨rfl, jr_done HZ.out⟩
  · obtain ⟨⟨q, ds1⟩, hq⟩ : ∃ r, stoR ds prN (encL ⟨ep, []⟩) = r := ⟨_, rfl⟩
    have CS : Hid (∀ W, Acts Tryz.prog 103 #[.pointer (some ⟨pd, 0, none⟩), .string prN, .agg #[.int .i64 ep, .slice none 0 0]] (dsk pd ds) W (fun e _ => e = .returned (.int .i64 q)) (dsk pd ds1)) := fun W => store_acts (es := []) (Lie.nil _ (fun _ => True) _ _) ep 0 0 rfl ⟨epR_ok he, by simp, fun i h => by simp at h⟩ prN pr_ok q hq
    by_cases h0 : q = 0
    · subst h0
      have e1 : promQ ds j ep = ⟨0, ds1, ⟨ep, j.l, j.gone⟩⟩ := by unfold promQ; rw [if_neg (by omega), hq]; rfl
      rw [e1]
      clear e1 hP hq
      go_enter Tryz.func111, Tryz.ntmps111
      go_wp2_with (go_at_call 103; refine (HZ.out.act 1 rfl (CS.out _)).mono ?_; rintro e w1 ⟨rfl, hz1⟩; have HZ1 : Hid (Hz w O (jrL jp pd ds1 j a c g) w1) := hz1; clear hz1; have y1 := (jr_cells HZ1.out).2.1; have g1 := (jr_cells HZ1.out).2.2.2.2.2 1)
      go_ret
      exact ⟨rfl, jr_done (j := ⟨ep, j.l, j.gone⟩) (HZ1.out.setBox 0 rfl 1 (.int .i64 ep) (by simp [jrV]))⟩
    · have e1 : promQ ds j ep = ⟨12, ds1, deadN⟩ := by unfold promQ; rw [if_neg (by omega), hq]; simp only; rw [if_neg h0]
      rw [e1]
      have hnb : (q == 0) = false := beq_eq_false_iff_ne.2 h0
      clear e1 hP hq
      go_enter Tryz.func111, Tryz.ntmps111
      go_wp2_with (first
        | (go_at_call 103; refine (HZ.out.act 1 rfl (CS.out _)).mono ?_; rintro e w1 ⟨rfl, hz1⟩; have HZ1 : Hid (Hz w O (jrL jp pd ds1 j a c g) w1) := hz1; clear hz1)
        | (go_at_call 145; refine ((jr_fold (M := []) HZ1.out).act 0 rfl die_acts).mono ?_; rintro e w2 ⟨rfl, hz2⟩; have HZ2 : Hid (Hz w O [jr jp pd ds1 deadN] w2) := hz2; clear hz2))
      go_ret
      exact ⟨rfl, HZ2.out.done⟩

end Go.Proofs.YtfmhmokbbkliaaaGreat.Jrn

/- The contracts of slices.Equal at entries, and of Journal.begins. -/
namespace Go.Proofs.YtfmhmokbbkliaaaGreat.Jrn
open Go.RowKit Go.Proofs.YtfmhmokbbkliaaaGreat Go.Proofs.YtfmhmokbbkliaaaGreat.Wir Go.Proofs.YtfmhmokbbkliaaaGreat.Lgg Go.Proofs.YtfmhmokbbkliaaaGreat.Sep
open Go.Proofs.YtfmhmokbbkliaaaGreat.Smm (bytes_ne)
set_option linter.unusedVariables false

set_option maxRecDepth 100000 in
set_option maxHeartbeats 2000000 in
theorem equalE_val {O O2 : Nat → Prop} {w : World} {a a' : Option Addr} {xs ys : List En} (h1 : Lie enC O w a xs) (h2 : Lie enC O2 w a' ys) (n m c c' : Nat) (hn : xs.length = n) (hm : ys.length = m) (v : Bool) (hv : v = true ↔ xs = ys) :
    Calls Tryz.prog 163 #[.slice a n c, .slice a' m c'] w fun e w' => e = .returned (.bool v) ∧ Below w.heap.size w w' := by
  have hl1 := h1.lid
  rw [hn] at hl1
  unfold maxLen at hl1
  have H1 : Hid (Lie enC O w a xs) := h1
  have H2 : Hid (Lie enC O2 w a' ys) := h2
  have HN : Hid (xs.length = n) := hn
  have HM : Hid (ys.length = m) := hm
  have HV : Hid (v = true ↔ xs = ys) := hv
  clear h1 h2 hn hm hv
  by_cases hnm : n = m
  · subst hnm
    go_enter Tryz.func163, Tryz.ntmps163
    go_wp2
    go_loopw [13] (fun u wr => ∃ i d : Nat, i ≤ n ∧ u = .int .i64 i ∧ wr = w.drewN d ∧ ∀ j (h1 : j < xs.length) (h2 : j < ys.length), j < i → xs[j] = ys[j]) (fun u _ => n - (intOf u).toNat)
    case atStart => exact ⟨0, 0, by omega, rfl, rfl, fun j _ _ h => by omega⟩
    case round =>
      obtain ⟨i, d, hi, rfl, hd, hall⟩ := hrel
      by_cases hlt : i < n
      · have e1 : i < xs.length := by rw [HN.out]; exact hlt
        have e2 : i < ys.length := by rw [HM.out]; exact hlt
        have hb : Below w.heap.size w wr := by rw [hd]; exact bel_dr _ _
        obtain ⟨b, off, rfl, hc⟩ := (H1.out.below hb).at wideN e1
        obtain ⟨b', off', rfl, hc'⟩ := (H2.out.below hb).at wideN e2
        have hno : ¬ xs[i] = ys[i] → v = false := fun hno => by
          cases v with
          | false => rfl
          | true => exact absurd (by simp only [HV.out.1 rfl]) hno
        have HNX : Hid (xs[i] = ys[i] → ∀ j (h1 : j < xs.length) (h2 : j < ys.length), j < i + 1 → xs[j] = ys[j]) := fun hk j h1 h2 hji => by
          rcases Nat.lt_or_ge j i with h | h
          · exact hall j h1 h2 h
          · obtain rfl : j = i := by omega
            exact hk
        have HA : Hid (∀ j (h1 : j < xs.length) (h2 : j < ys.length), j < i → xs[j] = ys[j]) := hall
        generalize xs[i] = x at *
        generalize ys[i] = y at *
        obtain ⟨tx, dx⟩ := x
        obtain ⟨ty, dy⟩ := y
        have q0 : wr.cell? ⟨b, off + i * 2, none⟩ = some (.int .i64 tx) := hc 0 _ rfl
        have q1 : wr.cell? ⟨b, off + i * 2 + 1, none⟩ = some (.string dx) := hc 1 _ rfl
        have r0 : wr.cell? ⟨b', off' + i * 2, none⟩ = some (.int .i64 ty) := hc' 0 _ rfl
        have r1 : wr.cell? ⟨b', off' + i * 2 + 1, none⟩ = some (.string dy) := hc' 1 _ rfl
        have HD : Hid (wr = w.drewN d) := hd
        clear hd hc hc' hb H1 H2 hall
        by_cases hx : tx = ty
        · by_cases hs : dx = dy
          · have HK : Hid (∀ j (h1 : j < xs.length) (h2 : j < ys.length), j < i + 1 → xs[j] = ys[j]) := HNX.out (by rw [hx, hs])
            subst hx hs
            clear hno HNX
            go_wp2
            go_quiet (fail)
            go_wp2
            go_roundw
            case rel => exact ⟨i + 1, d + nq, by omega, by go_num, by rw [HD.out, World.drewN_drewN], HK.out⟩
            case measure => simp [intOf]; omega
          · have hvf := hno (fun e => by injection e with _ e2; exact hs e2)
            have hbe := bytes_ne hs
            subst hx hvf
            clear hno HNX HV hs
            go_wp2
            go_quiet (fail)
            go_wp2
            go_ret
            exact ⟨rfl, by rw [HD.out, World.drewN_drewN]; exact bel_dr _ _⟩
        · have hvf := hno (fun e => by injection e with e2 _; exact hx e2)
          subst hvf
          clear hno HNX HV
          go_wp2
          go_quiet (fail)
          go_wp2
          go_ret
          exact ⟨rfl, by rw [HD.out, World.drewN_drewN]; exact bel_dr _ _⟩
      · have hvt : v = true := HV.out.2 (List.ext_getElem (by rw [HN.out, HM.out]) (fun j h1 h2 => hall j h1 h2 (by have := HN.out; omega)))
        subst hvt
        have HD : Hid (wr = w.drewN d) := hd
        clear hd hall HV
        go_wp2
        go_ret
        exact ⟨rfl, by rw [HD.out]; exact bel_dr _ _⟩
  · have hvf : v = false := by
      cases v with
      | false => rfl
      | true => exact absurd (by rw [← HN.out, ← HM.out, HV.out.1 rfl]) hnm
    subst hvf
    clear HV
    go_enter Tryz.func163, Tryz.ntmps163
    go_wp2
    go_ret
    exact ⟨rfl, Below.refl _ _⟩

theorem lie_take {α : Type} {f : α → List Value} {k : Nat} (hf : Wide f k) {O : Nat → Prop} {w : World} {a : Option Addr} {xs : List α} (h : Lie f O w a xs) (m : Nat) : Lie f O w a (xs.take m) := by
  refine ⟨Nat.le_trans (by rw [List.length_take]; omega) h.lid, fun hp => ?_⟩
  obtain ⟨b, off, h1, h2, h3, h4⟩ := h.cells (by rw [List.length_take] at hp; omega)
  refine ⟨b, off, h1, h2, h3, fun j u hu => h4 j u ?_⟩
  obtain ⟨hj, he⟩ := List.getElem?_eq_some_iff.1 hu
  have e : rowC f xs = rowC f (xs.take m) ++ rowC f (xs.drop m) := by rw [← rowC_app, List.take_append_drop]
  rw [e, List.getElem?_append_left hj]
  exact hu

set_option maxRecDepth 100000 in
set_option maxHeartbeats 1000000 in
theorem begins_val {O O2 : Nat → Prop} {w : World} {jp n c m c' : Nat} {a a' : Option Addr} {es fs : List En} (c3 : w.cell? ⟨jp, 3, none⟩ = some (.slice a n c)) (h1 : Lie enC O w a fs) (hn : fs.length = n) (hc : n ≤ c) (h2 : Lie enC O2 w a' es) (hm : es.length = m) (q : Int) (hq : (if begB es fs = true then 0 else 11) = q) :
    Calls Tryz.prog 146 #[.pointer (some ⟨jp, 0, none⟩), .slice a' m c'] w fun e w' => e = .returned (.int .i64 q) ∧ Below w.heap.size w w' := by
  by_cases hlt : n < m
  · have hf : begB es fs = false := by
      unfold begB
      rw [decide_eq_false_iff_not]
      intro e
      have := congrArg List.length e
      rw [List.length_take] at this
      omega
    rw [hf] at hq
    replace hq : (11 : Int) = q := hq
    subst hq
    have hl1 : ((n : Int) < (m : Int)) := by omega
    clear h1 h2 hn hm hf
    go_enter Tryz.func146, Tryz.ntmps146
    go_wp2
    go_ret
    exact ⟨rfl, Below.refl _ _⟩
  · obtain ⟨v, hv⟩ : ∃ v, begB es fs = v := ⟨_, rfl⟩
    rw [hv] at hq
    have CE : Hid (Calls Tryz.prog 163 #[.slice a' m c', .slice a m c] w fun e w' => e = .returned (.bool v) ∧ Below w.heap.size w w') := by
      refine equalE_val h2 (lie_take wideN h1 m) m m c' c hm (by rw [List.length_take]; omega) v ?_
      rw [← hv]
      unfold begB
      rw [decide_eq_true_eq, hm]
      exact eq_comm
    have hl1 : ¬ ((n : Int) < (m : Int)) := by omega
    have hmc : m ≤ c := by omega
    have hl := h1.lid
    unfold maxLen at hl
    have hl2 := h2.lid
    unfold maxLen at hl2
    clear h1 h2 hv
    cases v with
    | true =>
      replace hq : (0 : Int) = q := hq
      subst hq
      go_enter Tryz.func146, Tryz.ntmps146
      go_wp2_with (go_at_call 163; refine CE.out.mono ?_; rintro e w1 ⟨rfl, b1⟩)
      go_ret
      exact ⟨rfl, b1⟩
    | false =>
      replace hq : (11 : Int) = q := hq
      subst hq
      go_enter Tryz.func146, Tryz.ntmps146
      go_wp2_with (go_at_call 163; refine CE.out.mono ?_; rintro e w1 ⟨rfl, b1⟩)
      go_ret
      exact ⟨rfl, b1⟩

end Go.Proofs.YtfmhmokbbkliaaaGreat.Jrn
