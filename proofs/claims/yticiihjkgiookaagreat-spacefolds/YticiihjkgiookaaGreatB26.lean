/- Part 26 of the proof: EditR, EditF1, EditF2. -/
import Derived.Test.YticiihjkgiookaaGreatB02
import Derived.Test.YticiihjkgiookaaGreatB05
import Derived.Test.YticiihjkgiookaaGreatB16

/- Numbers and edits in memory. No program in it. -/
namespace Go.Proofs.YticiihjkgiookaaGreat.Edi
open Go.RowKit Go.Proofs.YticiihjkgiookaaGreat Go.Proofs.YticiihjkgiookaaGreat.Wir

/-! ### what stays -/
theorem bel_tr {a b c : World} (h : Below a.heap.size a b) (k : Below b.heap.size b c) : Below a.heap.size a c := h.trans (k.mono h.size)
theorem bel_al (w : World) (o : Obj) : Below w.heap.size w (w.alloc o) := (Below.refl _ w).alloc (Nat.le_refl _) o
theorem bel_drew (w : World) : Below w.heap.size w w.drew := (Below.refl _ w).drew
theorem bel_cell {w w' : World} (h : Below w.heap.size w w') {a : Addr} {v : Value} (hc : w.cell? a = some v) : w'.cell? a = some v := (h.cell (World.block_lt_of_cell? _ _ hc)).trans hc
theorem bel_froz {w w' : World} (h : Below w.heap.size w w') {a : Addr} {v : Value} (hc : w.cell? a = some v) (hf : w.frozen? a = false) : w'.frozen? a = false :=
  (h.frozen (p := a) (World.block_lt_of_cell? _ _ hc)).trans hf
theorem cell_al {w : World} {a : Addr} {v : Value} (h : w.cell? a = some v) (o : Obj) : (w.alloc o).cell? a = some v := bel_cell (bel_al w o) h
theorem froz_al {w : World} {a : Addr} {v : Value} (h : w.cell? a = some v) (h2 : w.frozen? a = false) (o : Obj) : (w.alloc o).frozen? a = false := bel_froz (bel_al w o) h h2
theorem info_parts3 {i : Option TypeInfo} {z : Value} {s b : Nat} (h : i.map (fun i => (i.zero, i.size, i.bytes)) = some (some z, s, b)) : ∃ j, i = some j ∧ j.zero = some z ∧ j.size = s ∧ j.bytes = b := by
  cases i with
  | none => cases h
  | some j => simp at h; exact ⟨j, rfl, h.1, h.2.1, h.2.2⟩

/-! ### numbers that lie in memory -/
structure Nm (w : World) (a : Option Addr) (m : Nat) (zs : List Int) : Prop where
  len : zs.length = m
  lid : m ≤ maxLen
  cells : 0 < m → ∃ b off, a = some ⟨b, off, none⟩ ∧ ∀ j (hj : j < zs.length), w.cell? ⟨b, off + j, none⟩ = some (.int .i64 zs[j])

theorem Nm.below {w w' : World} {a : Option Addr} {m : Nat} {zs : List Int} (h : Nm w a m zs) (hb : Below w.heap.size w w') : Nm w' a m zs := by
  refine ⟨h.len, h.lid, fun hp => ?_⟩
  obtain ⟨b, off, ha, hc⟩ := h.cells hp
  exact ⟨b, off, ha, fun j hj => bel_cell hb (hc j hj)⟩
theorem Nm.nil (w : World) : Nm w none 0 [] := ⟨rfl, Nat.zero_le _, fun hp => absurd hp (Nat.lt_irrefl 0)⟩
theorem Nm.at {w : World} {a : Option Addr} {m : Nat} {zs : List Int} (h : Nm w a m zs) (hp : 0 < m) : ∃ b off, a = some ⟨b, off, none⟩ ∧ ∀ j (hj : j < zs.length), w.cell? ⟨b, off + j, none⟩ = some (.int .i64 zs[j]) := h.cells hp
theorem Nm.src {P : Program} {t e : TypeId} (ht : P.underlying t = some (.slice e)) {w : World} {a : Option Addr} {m q : Nat} {zs : List Int} (h : Nm w a m zs) : Src P 1 t (.slice a m q) m (zs.map (Value.int .i64)) w := by
  have hl := h.len
  by_cases h0 : m = 0
  · subst h0
    have : zs = [] := List.length_eq_zero_iff.1 hl
    subst this
    cases a with
    | none => exact Src.ofNil w ht q
    | some x => exact Src.ofSlice w ht x 0 q [] (by simp) (fun j u hu => by simp at hu) (fun u hu => by cases hu)
  · obtain ⟨b, off, rfl, hc⟩ := h.cells (by omega)
    refine Src.ofSlice w ht ⟨b, off, none⟩ m q _ (by simp [hl]) (fun j u hu => ?_) (fun u hu => ?_)
    · rw [Addr.add_lit]
      have hj : j < zs.length := by have := (List.getElem?_eq_some_iff.1 hu).1; simpa using this
      have := hc j hj
      rw [this]
      simp [hj] at hu
      rw [hu]
    · obtain ⟨z, _, rfl⟩ := List.mem_map.1 hu; rfl

/-! ### numbers of the call's own -/
def intC (z : Int) : List Value := [.int .i64 z]
theorem wideI : Wide intC 1 := ⟨fun _ => rfl, fun x u hu => by simp [intC] at hu; subst hu; rfl⟩
theorem intC_row (zs : List Int) : rowC intC zs = zs.map (Value.int .i64) := by
  induction zs with
  | nil => rfl
  | cons z zs ih => rw [rowC_cons, ih]; rfl

structure NO (base : Nat) (w : World) (a : Option Addr) (n c : Nat) (zs : List Int) (g : Option Nat) : Prop where
  cel : Cel (fun k => base ≤ k) w 1 (.slice a n c) n (rowC intC zs) g
  len : zs.length = n

theorem NO.none (base : Nat) (w : World) : NO base w .none 0 0 [] .none := ⟨.nil rfl rfl rfl, rfl⟩
theorem NO.below {base : Nat} {w w' : World} {a : Option Addr} {n c : Nat} {zs : List Int} {g : Option Nat} (h : NO base w a n c zs g) (hb : Below w.heap.size w w') : NO base w' a n c zs g := ⟨h.cel.below hb, h.len⟩
theorem NO.mono {b1 b2 : Nat} {w : World} {a : Option Addr} {n c : Nat} {zs : List Int} {g : Option Nat} (h : NO b1 w a n c zs g) (hb : b2 ≤ b1) : NO b2 w a n c zs g :=
  ⟨h.cel.stay (Nat.le_refl _) (fun _ _ => rfl) (fun _ e => Nat.le_trans hb e), h.len⟩
theorem NO.nm {base : Nat} {w : World} {a : Option Addr} {n c : Nat} {zs : List Int} {g : Option Nat} (h : NO base w a n c zs g) : Nm w a n zs := by
  have hl := h.len
  obtain ⟨hc1, hc2, _⟩ := h.cel.cap2
  refine ⟨hl, by omega, fun hp => ?_⟩
  obtain ⟨b, rfl, rfl⟩ := h.cel.at2 hp
  refine ⟨b, 0, rfl, fun j hj => ?_⟩
  obtain ⟨b', e1, e2, e3⟩ := h.cel.elem wideI hj hl
  cases e1
  have := e3 0 _ rfl
  rw [Nat.mul_one, Nat.add_zero] at this
  rw [Nat.zero_add]; exact this
theorem NO.own {base : Nat} {w : World} {a : Option Addr} {n c : Nat} {xs : List Int} {g : Option Nat} (h : NO base w a n c xs g) : ∀ k, g = some k → k < w.heap.size ∧ base ≤ k := fun k hk => by
  have := h.cel; rw [hk] at this; exact this.lt
theorem NO.app {base : Nat} {w w' : World} {a a' : Option Addr} {n c m c' : Nat} {xs ys : List Int} {g g' : Option Nat} (h : NO base w a n c xs g) (hm : ys.length = m)
    (hC : Cel (Grow (fun k => base ≤ k) w w') w' 1 (.slice a' (n + m) c') (n + m) (rowC intC xs ++ rowC intC ys) g') (hB : base ≤ w.heap.size) : NO base w' a' (n + m) c' (xs ++ ys) g' := by
  refine ⟨?_, by rw [List.length_append, h.len, hm]⟩
  rw [rowC_app]
  exact hC.stay (Nat.le_refl _) (fun _ _ => rfl) (fun k hk => hk.elim id (fun e => Nat.le_trans hB e.1))
theorem NO.appBelow {base : Nat} {w w' : World} {a : Option Addr} {n c : Nat} {xs : List Int} {g : Option Nat} (h : NO base w a n c xs g) (hS : Stay (fun k => g = some k) w w') (hB : base ≤ w.heap.size) : Below base w w' :=
  hS.below hB (fun k hk => (h.own k hk).2)
/-- What is kept when other blocks are written. -/
theorem NO.stay {base : Nat} {O : Nat → Prop} {w w' : World} {a : Option Addr} {n c : Nat} {zs : List Int} {g : Option Nat} (h : NO base w a n c zs g) (hs : Stay O w w') (hO : ∀ k, g = some k → ¬ O k) : NO base w' a n c zs g :=
  ⟨h.cel.stay hs.size (fun k hk => hs.block k (h.own k hk).1 (hO k hk)) (fun _ e => e), h.len⟩

/-! ### edits -/
def edV (e : Ed) (a : Option Addr) (m q : Nat) : Value := .agg #[.int .i64 e.k, .string e.p, .string e.t, .int .i64 e.c, .int .i64 e.l, .int .i64 e.n, .slice a m q]

/-- The cells of an edit, from the beginning of a block on. -/
structure EdAt (w : World) (b : Nat) (e : Ed) (a : Option Addr) (m q : Nat) : Prop where
  c0 : w.cell? ⟨b, 0, none⟩ = some (.int .i64 e.k)
  c1 : w.cell? ⟨b, 1, none⟩ = some (.string e.p)
  c2 : w.cell? ⟨b, 2, none⟩ = some (.string e.t)
  c3 : w.cell? ⟨b, 3, none⟩ = some (.int .i64 e.c)
  c4 : w.cell? ⟨b, 4, none⟩ = some (.int .i64 e.l)
  c5 : w.cell? ⟨b, 5, none⟩ = some (.int .i64 e.n)
  c6 : w.cell? ⟨b, 6, none⟩ = some (.slice a m q)
  fr : ∀ j, w.frozen? ⟨b, j, none⟩ = false

theorem EdAt.below {w w' : World} {b : Nat} {e : Ed} {a : Option Addr} {m q : Nat} (h : EdAt w b e a m q) (hb : Below w.heap.size w w') : EdAt w' b e a m q :=
  ⟨bel_cell hb h.c0, bel_cell hb h.c1, bel_cell hb h.c2, bel_cell hb h.c3, bel_cell hb h.c4, bel_cell hb h.c5, bel_cell hb h.c6, fun j => (World.frozen?_of_block (a := ⟨b, j, none⟩) (hb.block b (World.block_lt_of_cell? _ _ h.c0))).trans (h.fr j)⟩
theorem EdAt.keep {O : Nat → Prop} {w w' : World} {b : Nat} {e : Ed} {a : Option Addr} {m q : Nat} (h : EdAt w b e a m q) (hs : Stay O w w') (hO : ¬ O b) : EdAt w' b e a m q := by
  have hb := hs.block b (World.block_lt_of_cell? _ _ h.c0) hO
  exact ⟨(World.cell?_of_block (a := ⟨b, 0, none⟩) hb).trans h.c0, (World.cell?_of_block (a := ⟨b, 1, none⟩) hb).trans h.c1, (World.cell?_of_block (a := ⟨b, 2, none⟩) hb).trans h.c2, (World.cell?_of_block (a := ⟨b, 3, none⟩) hb).trans h.c3, (World.cell?_of_block (a := ⟨b, 4, none⟩) hb).trans h.c4, (World.cell?_of_block (a := ⟨b, 5, none⟩) hb).trans h.c5, (World.cell?_of_block (a := ⟨b, 6, none⟩) hb).trans h.c6,
    fun j => (World.frozen?_of_block (a := ⟨b, j, none⟩) hb).trans (h.fr j)⟩
/-- A block that the call lays. -/
theorem EdAt.new (w : World) (t : TypeId) (e : Ed) (a : Option Addr) (m q : Nat) : EdAt (w.alloc (.cells #[.int .i64 e.k, .string e.p, .string e.t, .int .i64 e.c, .int .i64 e.l, .int .i64 e.n, .slice a m q] t)) w.heap.size e a m q :=
  ⟨World.cell?_alloc_new w _ t 0, World.cell?_alloc_new w _ t 1, World.cell?_alloc_new w _ t 2, World.cell?_alloc_new w _ t 3, World.cell?_alloc_new w _ t 4, World.cell?_alloc_new w _ t 5, World.cell?_alloc_new w _ t 6, fun j => World.frozen?_alloc_new w _ t j⟩

/-- The world behind the storing of a whole edit. -/
def put7 (w : World) (b : Nat) (e : Ed) (a : Option Addr) (m q : Nat) : World :=
  ((((((w.setCell ⟨b, 0, none⟩ (.int .i64 e.k)).setCell ⟨b, 1, none⟩ (.string e.p)).setCell ⟨b, 2, none⟩ (.string e.t)).setCell ⟨b, 3, none⟩ (.int .i64 e.c)).setCell ⟨b, 4, none⟩ (.int .i64 e.l)).setCell ⟨b, 5, none⟩ (.int .i64 e.n)).setCell ⟨b, 6, none⟩ (.slice a m q)

theorem setC_other (w : World) (b i j : Nat) (v : Value) (h : i ≠ j) : (w.setCell ⟨b, i, none⟩ v).cell? ⟨b, j, none⟩ = w.cell? ⟨b, j, none⟩ :=
  World.cell?_setCell_other _ _ _ _ (by intro e; injection e with e1 e2; exact h (by omega))

theorem setC_same {w : World} {a : Addr} {v u : Value} (h : w.cell? a = some u) : (w.setCell a v).cell? a = some v := World.cell?_setCell_same _ _ _ h

theorem put7_at {w : World} {b : Nat} {e0 : Ed} {a0 : Option Addr} {m0 q0 : Nat} (h : EdAt w b e0 a0 m0 q0) (e : Ed) (a : Option Addr) (m q : Nat) : EdAt (put7 w b e a m q) b e a m q ∧ Stay (fun k => k = b) w (put7 w b e a m q) := by
  constructor
  · unfold put7
    refine ⟨?_, ?_, ?_, ?_, ?_, ?_, ?_, fun j => by simp only [World.frozen?_setCell]; exact h.fr j⟩
    · rw [setC_other _ _ _ _ _ (by omega), setC_other _ _ _ _ _ (by omega), setC_other _ _ _ _ _ (by omega), setC_other _ _ _ _ _ (by omega), setC_other _ _ _ _ _ (by omega), setC_other _ _ _ _ _ (by omega)]
      exact World.cell?_setCell_same _ _ _ h.c0
    · rw [setC_other _ _ _ _ _ (by omega), setC_other _ _ _ _ _ (by omega), setC_other _ _ _ _ _ (by omega), setC_other _ _ _ _ _ (by omega), setC_other _ _ _ _ _ (by omega)]
      refine setC_same (u := .string e0.p) ?_
      rw [setC_other _ _ _ _ _ (by omega)]
      exact h.c1
    · rw [setC_other _ _ _ _ _ (by omega), setC_other _ _ _ _ _ (by omega), setC_other _ _ _ _ _ (by omega), setC_other _ _ _ _ _ (by omega)]
      refine setC_same (u := .string e0.t) ?_
      rw [setC_other _ _ _ _ _ (by omega), setC_other _ _ _ _ _ (by omega)]
      exact h.c2
    · rw [setC_other _ _ _ _ _ (by omega), setC_other _ _ _ _ _ (by omega), setC_other _ _ _ _ _ (by omega)]
      refine setC_same (u := .int .i64 e0.c) ?_
      rw [setC_other _ _ _ _ _ (by omega), setC_other _ _ _ _ _ (by omega), setC_other _ _ _ _ _ (by omega)]
      exact h.c3
    · rw [setC_other _ _ _ _ _ (by omega), setC_other _ _ _ _ _ (by omega)]
      refine setC_same (u := .int .i64 e0.l) ?_
      rw [setC_other _ _ _ _ _ (by omega), setC_other _ _ _ _ _ (by omega), setC_other _ _ _ _ _ (by omega), setC_other _ _ _ _ _ (by omega)]
      exact h.c4
    · rw [setC_other _ _ _ _ _ (by omega)]
      refine setC_same (u := .int .i64 e0.n) ?_
      rw [setC_other _ _ _ _ _ (by omega), setC_other _ _ _ _ _ (by omega), setC_other _ _ _ _ _ (by omega), setC_other _ _ _ _ _ (by omega), setC_other _ _ _ _ _ (by omega)]
      exact h.c5
    · refine setC_same (u := .slice a0 m0 q0) ?_
      rw [setC_other _ _ _ _ _ (by omega), setC_other _ _ _ _ _ (by omega), setC_other _ _ _ _ _ (by omega), setC_other _ _ _ _ _ (by omega), setC_other _ _ _ _ _ (by omega), setC_other _ _ _ _ _ (by omega)]
      exact h.c6
  · unfold put7
    exact ((((((Stay.setCell (O := fun k => k = b) w _ _ rfl).then_same (Stay.setCell _ _ _ rfl)).then_same (Stay.setCell _ _ _ rfl)).then_same (Stay.setCell _ _ _ rfl)).then_same (Stay.setCell _ _ _ rfl)).then_same (Stay.setCell _ _ _ rfl)).then_same (Stay.setCell _ _ _ rfl)

end Go.Proofs.YticiihjkgiookaaGreat.Edi

/- The contracts of edit.within, limitsOf, allWithin. -/
namespace Go.Proofs.YticiihjkgiookaaGreat.Edi
open Go.RowKit Go.Proofs.YticiihjkgiookaaGreat Go.Proofs.YticiihjkgiookaaGreat.Wir

set_option maxRecDepth 100000 in
theorem within_val (n lo hi : Int) (w : World) :
    Calls Tryz.prog 39 #[.int .i64 n, .int .i64 lo, .int .i64 hi] w fun e w' => e = .returned (.bool (inB lo n hi)) ∧ w' = w := by
  by_cases h1 : lo ≤ n
  · by_cases h2 : n ≤ hi
    · rw [inB_yes h1 h2]
      have e1 : decide (lo ≤ n) = true := decide_eq_true h1
      have e2 : decide (n ≤ hi) = true := decide_eq_true h2
      clear h1 h2
      go_enter Tryz.func39, Tryz.ntmps39
      go_wp2
      go_ret
      exact ⟨rfl, rfl⟩
    · rw [inB_no (by omega)]
      have e1 : decide (lo ≤ n) = true := decide_eq_true h1
      have e2 : decide (n ≤ hi) = false := decide_eq_false h2
      clear h1 h2
      go_enter Tryz.func39, Tryz.ntmps39
      go_wp2
      go_ret
      exact ⟨rfl, rfl⟩
  · rw [inB_no (by omega)]
    have e1 : decide (lo ≤ n) = false := decide_eq_false h1
    clear h1
    go_enter Tryz.func39, Tryz.ntmps39
    go_wp2
    go_ret
    exact ⟨rfl, rfl⟩

def limV (k : Int) : Value := .agg #[.int .i64 (toM k), .int .i64 (loN k), .int .i64 (hiN k), .int .i64 (lenM k)]

set_option maxRecDepth 100000 in
set_option maxHeartbeats 1000000 in
theorem limits_val (k : Int) (w : World) :
    Calls Tryz.prog 38 #[.int .i64 k] w fun e w' => e = .returned (limV k) ∧ Below w.heap.size w w' := by
  unfold limV
  by_cases h4 : k = 4
  · subst h4
    rw [show toM 4 = 120 from rfl, show loN 4 = 0 from rfl, show hiN 4 = 0 from rfl, show lenM 4 = 0 from rfl]
    go_enter Tryz.func38, Tryz.ntmps38
    go_wp2
    exact bodyPost_ret (by simp [results, Tryz.results38, go_sem]) rfl ⟨rfl, bel_al _ _⟩
  by_cases h5 : k = 5
  · subst h5
    rw [show toM 5 = 0 from rfl, show loN 5 = 0 from rfl, show hiN 5 = 0 from rfl, show lenM 5 = 8 from rfl]
    go_enter Tryz.func38, Tryz.ntmps38
    go_wp2
    exact bodyPost_ret (by simp [results, Tryz.results38, go_sem]) rfl ⟨rfl, bel_al _ _⟩
  by_cases h6 : k = 6
  · subst h6
    rw [show toM 6 = 0 from rfl, show loN 6 = 0 from rfl, show hiN 6 = 0 from rfl, show lenM 6 = 8 from rfl]
    go_enter Tryz.func38, Tryz.ntmps38
    go_wp2
    exact bodyPost_ret (by simp [results, Tryz.results38, go_sem]) rfl ⟨rfl, bel_al _ _⟩
  by_cases h7 : k = 7
  · subst h7
    rw [show toM 7 = 0 from rfl, show loN 7 = -1 from rfl, show hiN 7 = 9007199254740991 from rfl, show lenM 7 = 0 from rfl]
    go_enter Tryz.func38, Tryz.ntmps38
    go_wp2
    exact bodyPost_ret (by simp [results, Tryz.results38, go_sem]) rfl ⟨rfl, bel_al _ _⟩
  by_cases h8 : k = 8
  · subst h8
    rw [show toM 8 = 0 from rfl, show loN 8 = 0 from rfl, show hiN 8 = 9007199254740991 from rfl, show lenM 8 = 0 from rfl]
    go_enter Tryz.func38, Tryz.ntmps38
    go_wp2
    exact bodyPost_ret (by simp [results, Tryz.results38, go_sem]) rfl ⟨rfl, bel_al _ _⟩
  by_cases h9 : k = 9
  · subst h9
    rw [show toM 9 = 0 from rfl, show loN 9 = 0 from rfl, show hiN 9 = 9007199254740991 from rfl, show lenM 9 = 0 from rfl]
    go_enter Tryz.func38, Tryz.ntmps38
    go_wp2
    exact bodyPost_ret (by simp [results, Tryz.results38, go_sem]) rfl ⟨rfl, bel_al _ _⟩
  rw [show toM k = 0 by unfold toM; rw [if_neg h4], show loN k = 0 by unfold loN; rw [if_neg h7], show hiN k = 0 by unfold hiN; rw [if_neg (by omega)], show lenM k = 0 by unfold lenM; rw [if_neg (by omega)]]
  have e4 : (k == 4) = false := beq_eq_false_iff_ne.2 h4
  have e5 : (k == 5) = false := beq_eq_false_iff_ne.2 h5
  have e6 : (k == 6) = false := beq_eq_false_iff_ne.2 h6
  have e7 : (k == 7) = false := beq_eq_false_iff_ne.2 h7
  have e8 : (k == 8) = false := beq_eq_false_iff_ne.2 h8
  have e9 : (k == 9) = false := beq_eq_false_iff_ne.2 h9
  clear h4 h5 h6 h7 h8 h9
  go_enter Tryz.func38, Tryz.ntmps38
  go_wp2
  exact bodyPost_ret (by simp [results, Tryz.results38, go_sem]) rfl ⟨rfl, bel_al _ _⟩

theorem all_take {lo hi : Int} {zs : List Int} {i : Nat} (hi' : i < zs.length) (h : allB lo hi (zs.take i) = true) (hz : inB lo zs[i] hi = true) : allB lo hi (zs.take (i + 1)) = true := by
  unfold allB at *
  rw [List.take_succ_eq_append_getElem hi', List.all_append, h]
  simpa using hz
theorem all_not {lo hi : Int} {zs : List Int} {i : Nat} (hi' : i < zs.length) (hz : inB lo zs[i] hi = false) : allB lo hi zs = false := by
  rw [Bool.eq_false_iff]
  intro e
  have := List.all_eq_true.1 e zs[i] (List.getElem_mem hi')
  rw [hz] at this
  cases this

set_option maxRecDepth 100000 in
set_option maxHeartbeats 1000000 in
theorem allWithin_val {a : Option Addr} {m q : Nat} {zs : List Int} {w : World} (h : Nm w a m zs) (lo hi : Int) :
    Calls Tryz.prog 40 #[.slice a m q, .int .i64 lo, .int .i64 hi] w fun e w' => e = .returned (.bool (allB lo hi zs)) ∧ w' = w := by
  have HN : Hid (zs.length = m) := h.len
  have hlid := h.lid
  unfold maxLen at hlid
  have HC : Hid _ := h
  clear h
  go_enter Tryz.func40, Tryz.ntmps40
  go_wp2
  go_loopw [11] (fun v wr => ∃ i : Nat, i ≤ m ∧ v = .int .i64 i ∧ wr = w ∧ allB lo hi (zs.take i) = true) (fun v _ => m - (intOf v).toNat)
  case atStart => exact ⟨0, by omega, rfl, rfl, rfl⟩
  case round =>
    obtain ⟨i, hil, rfl, hw, hall⟩ := hrel
    subst hw
    have HA : Hid _ := hall
    clear hall
    by_cases hlt : i < m
    · have hix : i < zs.length := by rw [HN.out]; exact hlt
      obtain ⟨b, off, rfl, hat⟩ := HC.out.at (by omega)
      have e0 := hat i hix
      have HT : Hid (inB lo zs[i] hi = true → allB lo hi (zs.take (i + 1)) = true) := fun e => all_take hix HA.out e
      have HF : Hid (inB lo zs[i] hi = false → allB lo hi zs = false) := fun e => all_not hix e
      clear hat
      generalize zs[i] = z at *
      cases hz : inB lo z hi with
      | true =>
        have HZ : Hid _ := HT.out hz
        clear HT HF
        go_wp2_with (go_at_call 39; refine (within_val _ _ _ _).mono ?_; rintro e w1 ⟨rfl, hw1⟩; subst hw1)
        go_roundw
        case rel => exact ⟨i + 1, by omega, by go_num, by simp, HZ.out⟩
        case measure => simp [intOf]; omega
      | false =>
        have HZ : Hid (allB lo hi zs = false) := HF.out hz
        clear HT HF
        go_wp2_with (go_at_call 39; refine (within_val _ _ _ _).mono ?_; rintro e w1 ⟨rfl, hw1⟩; subst hw1)
        go_ret
        exact ⟨congrArg (fun b => Ending.returned (.bool b)) HZ.out.symm, rfl⟩
    · obtain rfl : i = m := by omega
      have hgd : decide ((i : Int) < (i : Int)) = false := decide_eq_false (by omega)
      have hz := HA.out
      rw [List.take_of_length_le (by rw [HN.out]; omega)] at hz
      have HZ : Hid (allB lo hi zs = true) := hz
      clear hlt hz
      go_wp2
      go_ret
      exact ⟨congrArg (fun b => Ending.returned (.bool b)) HZ.out.symm, rfl⟩

end Go.Proofs.YticiihjkgiookaaGreat.Edi

/- The contract of edit.Right. -/
namespace Go.Proofs.YticiihjkgiookaaGreat.Edi
open Go.RowKit Go.Proofs.YticiihjkgiookaaGreat Go.Proofs.YticiihjkgiookaaGreat.Wir

theorem not_rt {e : Ed} {u : Bool} (hu : u = true ↔ Rt e) (h : ¬ Rt e) : u = false := by
  rw [Bool.eq_false_iff]; intro x; exact h (hu.1 x)

set_option maxRecDepth 100000 in
set_option maxHeartbeats 4000000 in
theorem right_val {e : Ed} {a : Option Addr} {m q : Nat} {w : World} (h : Nm w a m e.ls) (u : Bool) (hu : u = true ↔ Rt e) :
    Calls Tryz.prog 20 #[edV e a m q] w fun x w' => x = .returned (.bool u) ∧ Below w.heap.size w w' := by
  have HN : Hid (e.ls.length = m) := h.len
  have HC : Hid _ := h
  have CA : Hid (∀ W, Below w.heap.size w W → Calls Tryz.prog 40 #[.slice a m q, .int .i64 0, .int .i64 9007199254740991] W fun x w' => x = .returned (.bool (allB 0 9007199254740991 e.ls)) ∧ w' = W) := fun W hb => allWithin_val (h.below hb) 0 9007199254740991
  have HE : Hid (EdAt (w.alloc (.cells #[.int .i64 e.k, .string e.p, .string e.t, .int .i64 e.c, .int .i64 e.l, .int .i64 e.n, .slice a m q] 42)) w.heap.size e a m q) := EdAt.new w 42 e a m q
  have HU : Hid (¬ Rt e → u = false) := fun hn => not_rt hu hn
  have HY : Hid (Rt e → u = true) := hu.2
  have CL : Hid (∀ W, Calls Tryz.prog 38 #[.int .i64 e.k] W fun x w' => x = .returned (.agg #[.int .i64 (toM e.k), .int .i64 (loN e.k), .int .i64 (hiN e.k), .int .i64 (lenM e.k)]) ∧ Below W.heap.size W w') := fun W => limits_val e.k W
  obtain ⟨k, p, t, c, l, n, ls⟩ := e
  simp only at HN CA HE CL
  unfold edV
  simp only
  clear h hu
  generalize hto : toM k = TO at *
  generalize hlo : loN k = LO at *
  generalize hhi : hiN k = HI at *
  generalize hlm : lenM k = LM at *
  have GT : Hid (toM k = TO) := hto
  have GL : Hid (loN k = LO) := hlo
  have GH : Hid (hiN k = HI) := hhi
  have GM : Hid (lenM k = LM) := hlm
  clear hto hlo hhi hlm
  cases hb0 : inB 1 k 10 with
  | false =>
    have HV : Hid (u = false) := HU.out (fun r => by have r2 := r.kind; simp only at r2; rw [hb0] at r2; cases r2)
    go_enter Tryz.func20, Tryz.ntmps20
    go_wp2_with fail
    refine (CL.out _).mono ?_
    rintro x w1 ⟨rfl, b1⟩
    have hE := HE.out.below b1
    have q0 := cell_al hE.c0
    have q1 := cell_al hE.c1
    have q2 := cell_al hE.c2
    have q3 := cell_al hE.c3
    have q4 := cell_al hE.c4
    have q5 := cell_al hE.c5
    have q6 := cell_al hE.c6
    have B1 : Hid (Below w.heap.size w w1) := bel_tr (bel_al _ _) b1
    clear hE b1 HE CL
    go_wp2_with (first
      | (go_at_call 39; refine (within_val _ _ _ _).mono ?_; rintro x w2 ⟨rfl, hw2⟩; subst hw2)
      | (go_at_call 40; refine (CA.out _ (bel_tr B1.out (bel_al _ _))).mono ?_; rintro x w2 ⟨rfl, hw2⟩; subst hw2))
    go_ret
    exact ⟨congrArg (fun b => Ending.returned (.bool b)) HV.out.symm, bel_tr B1.out (bel_al _ _)⟩
  | true =>
    cases hb1 : decide (p.size ≤ 120) with
    | false =>
      have HV : Hid (u = false) := HU.out (fun r => by have r2 := r.path; simp only at r2; exact (decide_eq_false_iff_not.1 hb1) r2)
      have f1 : decide ((p.size : Int) ≤ 120) = false := by rw [← hb1]; congr 1; apply propext; omega
      clear hb1
      go_enter Tryz.func20, Tryz.ntmps20
      go_wp2_with fail
      refine (CL.out _).mono ?_
      rintro x w1 ⟨rfl, b1⟩
      have hE := HE.out.below b1
      have q0 := cell_al hE.c0
      have q1 := cell_al hE.c1
      have q2 := cell_al hE.c2
      have q3 := cell_al hE.c3
      have q4 := cell_al hE.c4
      have q5 := cell_al hE.c5
      have q6 := cell_al hE.c6
      have B1 : Hid (Below w.heap.size w w1) := bel_tr (bel_al _ _) b1
      clear hE b1 HE CL
      go_wp2_with (first
        | (go_at_call 39; refine (within_val _ _ _ _).mono ?_; rintro x w2 ⟨rfl, hw2⟩; subst hw2)
        | (go_at_call 40; refine (CA.out _ (bel_tr B1.out (bel_al _ _))).mono ?_; rintro x w2 ⟨rfl, hw2⟩; subst hw2))
      go_ret
      exact ⟨congrArg (fun b => Ending.returned (.bool b)) HV.out.symm, bel_tr B1.out (bel_al _ _)⟩
    | true =>
      cases hb2 : decide (t.size ≤ TO) with
      | false =>
        have HV : Hid (u = false) := HU.out (fun r => by have r2 := r.to; simp only at r2; rw [GT.out] at r2; exact (decide_eq_false_iff_not.1 hb2) r2)
        have f1 : decide ((p.size : Int) ≤ 120) = true := by rw [← hb1]; congr 1; apply propext; omega
        have f2 : decide ((t.size : Int) ≤ (TO : Int)) = false := by rw [← hb2]; congr 1; apply propext; omega
        clear hb1
        go_enter Tryz.func20, Tryz.ntmps20
        go_wp2_with fail
        refine (CL.out _).mono ?_
        rintro x w1 ⟨rfl, b1⟩
        have hE := HE.out.below b1
        have q0 := cell_al hE.c0
        have q1 := cell_al hE.c1
        have q2 := cell_al hE.c2
        have q3 := cell_al hE.c3
        have q4 := cell_al hE.c4
        have q5 := cell_al hE.c5
        have q6 := cell_al hE.c6
        have B1 : Hid (Below w.heap.size w w1) := bel_tr (bel_al _ _) b1
        clear hE b1 HE CL
        go_wp2_with (first
          | (go_at_call 39; refine (within_val _ _ _ _).mono ?_; rintro x w2 ⟨rfl, hw2⟩; subst hw2)
          | (go_at_call 40; refine (CA.out _ (bel_tr B1.out (bel_al _ _))).mono ?_; rintro x w2 ⟨rfl, hw2⟩; subst hw2))
        go_ret
        exact ⟨congrArg (fun b => Ending.returned (.bool b)) HV.out.symm, bel_tr B1.out (bel_al _ _)⟩
      | true =>
        cases hb3 : inB 0 c 3 with
        | false =>
          have HV : Hid (u = false) := HU.out (fun r => by have r2 := r.client; simp only at r2; rw [hb3] at r2; cases r2)
          have f1 : decide ((p.size : Int) ≤ 120) = true := by rw [← hb1]; congr 1; apply propext; omega
          have f2 : decide ((t.size : Int) ≤ (TO : Int)) = true := by rw [← hb2]; congr 1; apply propext; omega
          clear hb1
          go_enter Tryz.func20, Tryz.ntmps20
          go_wp2_with fail
          refine (CL.out _).mono ?_
          rintro x w1 ⟨rfl, b1⟩
          have hE := HE.out.below b1
          have q0 := cell_al hE.c0
          have q1 := cell_al hE.c1
          have q2 := cell_al hE.c2
          have q3 := cell_al hE.c3
          have q4 := cell_al hE.c4
          have q5 := cell_al hE.c5
          have q6 := cell_al hE.c6
          have B1 : Hid (Below w.heap.size w w1) := bel_tr (bel_al _ _) b1
          clear hE b1 HE CL
          go_wp2_with (first
            | (go_at_call 39; refine (within_val _ _ _ _).mono ?_; rintro x w2 ⟨rfl, hw2⟩; subst hw2)
            | (go_at_call 40; refine (CA.out _ (bel_tr B1.out (bel_al _ _))).mono ?_; rintro x w2 ⟨rfl, hw2⟩; subst hw2))
          go_ret
          exact ⟨congrArg (fun b => Ending.returned (.bool b)) HV.out.symm, bel_tr B1.out (bel_al _ _)⟩
        | true =>
          cases hb4 : inB 0 l 9007199254740991 with
          | false =>
            have HV : Hid (u = false) := HU.out (fun r => by have r2 := r.call; simp only at r2; rw [hb4] at r2; cases r2)
            have f1 : decide ((p.size : Int) ≤ 120) = true := by rw [← hb1]; congr 1; apply propext; omega
            have f2 : decide ((t.size : Int) ≤ (TO : Int)) = true := by rw [← hb2]; congr 1; apply propext; omega
            clear hb1
            go_enter Tryz.func20, Tryz.ntmps20
            go_wp2_with fail
            refine (CL.out _).mono ?_
            rintro x w1 ⟨rfl, b1⟩
            have hE := HE.out.below b1
            have q0 := cell_al hE.c0
            have q1 := cell_al hE.c1
            have q2 := cell_al hE.c2
            have q3 := cell_al hE.c3
            have q4 := cell_al hE.c4
            have q5 := cell_al hE.c5
            have q6 := cell_al hE.c6
            have B1 : Hid (Below w.heap.size w w1) := bel_tr (bel_al _ _) b1
            clear hE b1 HE CL
            go_wp2_with (first
              | (go_at_call 39; refine (within_val _ _ _ _).mono ?_; rintro x w2 ⟨rfl, hw2⟩; subst hw2)
              | (go_at_call 40; refine (CA.out _ (bel_tr B1.out (bel_al _ _))).mono ?_; rintro x w2 ⟨rfl, hw2⟩; subst hw2))
            go_ret
            exact ⟨congrArg (fun b => Ending.returned (.bool b)) HV.out.symm, bel_tr B1.out (bel_al _ _)⟩
          | true =>
            cases hb5 : inB LO n HI with
            | false =>
              have HV : Hid (u = false) := HU.out (fun r => by have r2 := r.num; simp only at r2; rw [GL.out, GH.out, hb5] at r2; cases r2)
              have f1 : decide ((p.size : Int) ≤ 120) = true := by rw [← hb1]; congr 1; apply propext; omega
              have f2 : decide ((t.size : Int) ≤ (TO : Int)) = true := by rw [← hb2]; congr 1; apply propext; omega
              clear hb1
              go_enter Tryz.func20, Tryz.ntmps20
              go_wp2_with fail
              refine (CL.out _).mono ?_
              rintro x w1 ⟨rfl, b1⟩
              have hE := HE.out.below b1
              have q0 := cell_al hE.c0
              have q1 := cell_al hE.c1
              have q2 := cell_al hE.c2
              have q3 := cell_al hE.c3
              have q4 := cell_al hE.c4
              have q5 := cell_al hE.c5
              have q6 := cell_al hE.c6
              have B1 : Hid (Below w.heap.size w w1) := bel_tr (bel_al _ _) b1
              clear hE b1 HE CL
              go_wp2_with (first
                | (go_at_call 39; refine (within_val _ _ _ _).mono ?_; rintro x w2 ⟨rfl, hw2⟩; subst hw2)
                | (go_at_call 40; refine (CA.out _ (bel_tr B1.out (bel_al _ _))).mono ?_; rintro x w2 ⟨rfl, hw2⟩; subst hw2))
              go_ret
              exact ⟨congrArg (fun b => Ending.returned (.bool b)) HV.out.symm, bel_tr B1.out (bel_al _ _)⟩
            | true =>
              cases hb6 : decide (m ≤ LM) with
              | false =>
                have HV : Hid (u = false) := HU.out (fun r => by have r2 := r.few; simp only at r2; rw [GM.out, HN.out] at r2; exact (decide_eq_false_iff_not.1 hb6) r2)
                have f1 : decide ((p.size : Int) ≤ 120) = true := by rw [← hb1]; congr 1; apply propext; omega
                have f2 : decide ((t.size : Int) ≤ (TO : Int)) = true := by rw [← hb2]; congr 1; apply propext; omega
                have f6 : decide ((m : Int) ≤ (LM : Int)) = false := by rw [← hb6]; congr 1; apply propext; omega
                clear hb1
                go_enter Tryz.func20, Tryz.ntmps20
                go_wp2_with fail
                refine (CL.out _).mono ?_
                rintro x w1 ⟨rfl, b1⟩
                have hE := HE.out.below b1
                have q0 := cell_al hE.c0
                have q1 := cell_al hE.c1
                have q2 := cell_al hE.c2
                have q3 := cell_al hE.c3
                have q4 := cell_al hE.c4
                have q5 := cell_al hE.c5
                have q6 := cell_al hE.c6
                have B1 : Hid (Below w.heap.size w w1) := bel_tr (bel_al _ _) b1
                clear hE b1 HE CL
                go_wp2_with (first
                  | (go_at_call 39; refine (within_val _ _ _ _).mono ?_; rintro x w2 ⟨rfl, hw2⟩; subst hw2)
                  | (go_at_call 40; refine (CA.out _ (bel_tr B1.out (bel_al _ _))).mono ?_; rintro x w2 ⟨rfl, hw2⟩; subst hw2))
                go_ret
                exact ⟨congrArg (fun b => Ending.returned (.bool b)) HV.out.symm, bel_tr B1.out (bel_al _ _)⟩
              | true =>
                cases hb7 : allB 0 9007199254740991 ls with
                | false =>
                  have HV : Hid (u = false) := HU.out (fun r => by have r2 := r.each; simp only at r2; rw [hb7] at r2; cases r2)
                  have f1 : decide ((p.size : Int) ≤ 120) = true := by rw [← hb1]; congr 1; apply propext; omega
                  have f2 : decide ((t.size : Int) ≤ (TO : Int)) = true := by rw [← hb2]; congr 1; apply propext; omega
                  have f6 : decide ((m : Int) ≤ (LM : Int)) = true := by rw [← hb6]; congr 1; apply propext; omega
                  clear hb1
                  go_enter Tryz.func20, Tryz.ntmps20
                  go_wp2_with fail
                  refine (CL.out _).mono ?_
                  rintro x w1 ⟨rfl, b1⟩
                  have hE := HE.out.below b1
                  have q0 := cell_al hE.c0
                  have q1 := cell_al hE.c1
                  have q2 := cell_al hE.c2
                  have q3 := cell_al hE.c3
                  have q4 := cell_al hE.c4
                  have q5 := cell_al hE.c5
                  have q6 := cell_al hE.c6
                  have B1 : Hid (Below w.heap.size w w1) := bel_tr (bel_al _ _) b1
                  clear hE b1 HE CL
                  go_wp2_with (first
                    | (go_at_call 39; refine (within_val _ _ _ _).mono ?_; rintro x w2 ⟨rfl, hw2⟩; subst hw2)
                    | (go_at_call 40; refine (CA.out _ (bel_tr B1.out (bel_al _ _))).mono ?_; rintro x w2 ⟨rfl, hw2⟩; subst hw2))
                  go_ret
                  exact ⟨congrArg (fun b => Ending.returned (.bool b)) HV.out.symm, bel_tr B1.out (bel_al _ _)⟩
                | true =>
                  have HV : Hid (u = true) := HY.out ⟨hb0, of_decide_eq_true hb1, (by simp only; rw [GT.out]; exact of_decide_eq_true hb2), hb3, hb4, (by simp only; rw [GL.out, GH.out]; exact hb5), (by simp only; rw [GM.out, HN.out]; exact of_decide_eq_true hb6), hb7⟩
                  have f1 : decide ((p.size : Int) ≤ 120) = true := by rw [← hb1]; congr 1; apply propext; omega
                  have f2 : decide ((t.size : Int) ≤ (TO : Int)) = true := by rw [← hb2]; congr 1; apply propext; omega
                  have f6 : decide ((m : Int) ≤ (LM : Int)) = true := by rw [← hb6]; congr 1; apply propext; omega
                  clear hb1
                  go_enter Tryz.func20, Tryz.ntmps20
                  go_wp2_with fail
                  refine (CL.out _).mono ?_
                  rintro x w1 ⟨rfl, b1⟩
                  have hE := HE.out.below b1
                  have q0 := cell_al hE.c0
                  have q1 := cell_al hE.c1
                  have q2 := cell_al hE.c2
                  have q3 := cell_al hE.c3
                  have q4 := cell_al hE.c4
                  have q5 := cell_al hE.c5
                  have q6 := cell_al hE.c6
                  have B1 : Hid (Below w.heap.size w w1) := bel_tr (bel_al _ _) b1
                  clear hE b1 HE CL
                  go_wp2_with (first
                    | (go_at_call 39; refine (within_val _ _ _ _).mono ?_; rintro x w2 ⟨rfl, hw2⟩; subst hw2)
                    | (go_at_call 40; refine (CA.out _ (bel_tr B1.out (bel_al _ _))).mono ?_; rintro x w2 ⟨rfl, hw2⟩; subst hw2))
                  go_ret
                  exact ⟨congrArg (fun b => Ending.returned (.bool b)) HV.out.symm, bel_tr B1.out (bel_al _ _)⟩

end Go.Proofs.YticiihjkgiookaaGreat.Edi
