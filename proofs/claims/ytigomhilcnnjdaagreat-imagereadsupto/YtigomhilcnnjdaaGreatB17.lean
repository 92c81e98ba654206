/- Part 17 of the proof: EditR, EditF1, EditF2, EditF5. -/
import Derived.Test.YtigomhilcnnjdaaGreatB00
import Derived.Test.YtigomhilcnnjdaaGreatB03
import Derived.Test.YtigomhilcnnjdaaGreatB07

/- Numbers and edits in memory. No program in it. -/
namespace Go.Proofs.YtigomhilcnnjdaaGreat.Edi
open Go.RowKit Go.Proofs.YtigomhilcnnjdaaGreat Go.Proofs.YtigomhilcnnjdaaGreat.Wir

/-! ### what stays -/
theorem bel_tr {a b c : World} (h : Below a.heap.size a b) (k : Below b.heap.size b c) : Below a.heap.size a c := h.trans (k.mono h.size)
theorem bel_al (w : World) (o : Obj) : Below w.heap.size w (w.alloc o) := (Below.refl _ w).alloc (Nat.le_refl _) o
theorem bel_drew (w : World) : Below w.heap.size w w.drew := (Below.refl _ w).drew
theorem bel_cell {w w' : World} (h : Below w.heap.size w w') {a : Addr} {v : Value} (hc : w.cell? a = some v) : w'.cell? a = some v := (h.cell (World.block_lt_of_cell? _ _ hc)).trans hc
theorem bel_froz {w w' : World} (h : Below w.heap.size w w') {a : Addr} {v : Value} (hc : w.cell? a = some v) (hf : w.frozen? a = false) : w'.frozen? a = false :=
  (h.frozen (p := a) (World.block_lt_of_cell? _ _ hc)).trans hf
theorem cell_al {w : World} {a : Addr} {v : Value} (h : w.cell? a = some v) (o : Obj) : (w.alloc o).cell? a = some v := bel_cell (bel_al w o) h
theorem froz_al {w : World} {a : Addr} {v : Value} (h : w.cell? a = some v) (h2 : w.frozen? a = false) (o : Obj) : (w.alloc o).frozen? a = false := bel_froz (bel_al w o) h h2
theorem info_parts3 {i : Option TypeInfo} {z : Value} {s b : Nat} (h : i.map (fun i => (i.zero, i.size, i.bytes)) = some (some z, s, b)) : ∃ j, i = some j ∧ j.zero = some z ∧ j.size = s ∧ j.bytes = b := by
  cases i with
  | none => cases h
  | some j => simp at h; exact ⟨j, rfl, h.1, h.2.1, h.2.2⟩

/-! ### numbers that lie in memory -/
structure Nm (w : World) (a : Option Addr) (m : Nat) (zs : List Int) : Prop where
  len : zs.length = m
  lid : m ≤ maxLen
  cells : 0 < m → ∃ b off, a = some ⟨b, off, none⟩ ∧ ∀ j (hj : j < zs.length), w.cell? ⟨b, off + j, none⟩ = some (.int .i64 zs[j])

theorem Nm.below {w w' : World} {a : Option Addr} {m : Nat} {zs : List Int} (h : Nm w a m zs) (hb : Below w.heap.size w w') : Nm w' a m zs := by
  refine ⟨h.len, h.lid, fun hp => ?_⟩
  obtain ⟨b, off, ha, hc⟩ := h.cells hp
  exact ⟨b, off, ha, fun j hj => bel_cell hb (hc j hj)⟩
theorem Nm.nil (w : World) : Nm w none 0 [] := ⟨rfl, Nat.zero_le _, fun hp => absurd hp (Nat.lt_irrefl 0)⟩
theorem Nm.at {w : World} {a : Option Addr} {m : Nat} {zs : List Int} (h : Nm w a m zs) (hp : 0 < m) : ∃ b off, a = some ⟨b, off, none⟩ ∧ ∀ j (hj : j < zs.length), w.cell? ⟨b, off + j, none⟩ = some (.int .i64 zs[j]) := h.cells hp
theorem Nm.src {P : Program} {t e : TypeId} (ht : P.underlying t = some (.slice e)) {w : World} {a : Option Addr} {m q : Nat} {zs : List Int} (h : Nm w a m zs) : Src P 1 t (.slice a m q) m (zs.map (Value.int .i64)) w := by
  have hl := h.len
  by_cases h0 : m = 0
  · subst h0
    have : zs = [] := List.length_eq_zero_iff.1 hl
    subst this
    cases a with
    | none => exact Src.ofNil w ht q
    | some x => exact Src.ofSlice w ht x 0 q [] (by simp) (fun j u hu => by simp at hu) (fun u hu => by cases hu)
  · obtain ⟨b, off, rfl, hc⟩ := h.cells (by omega)
    refine Src.ofSlice w ht ⟨b, off, none⟩ m q _ (by simp [hl]) (fun j u hu => ?_) (fun u hu => ?_)
    · rw [Addr.add_lit]
      have hj : j < zs.length := by have := (List.getElem?_eq_some_iff.1 hu).1; simpa using this
      have := hc j hj
      rw [this]
      simp [hj] at hu
      rw [hu]
    · obtain ⟨z, _, rfl⟩ := List.mem_map.1 hu; rfl

/-! ### numbers of the call's own -/
def intC (z : Int) : List Value := [.int .i64 z]
theorem wideI : Wide intC 1 := ⟨fun _ => rfl, fun x u hu => by simp [intC] at hu; subst hu; rfl⟩
theorem intC_row (zs : List Int) : rowC intC zs = zs.map (Value.int .i64) := by
  induction zs with
  | nil => rfl
  | cons z zs ih => rw [rowC_cons, ih]; rfl

structure NO (base : Nat) (w : World) (a : Option Addr) (n c : Nat) (zs : List Int) (g : Option Nat) : Prop where
  cel : Cel (fun k => base ≤ k) w 1 (.slice a n c) n (rowC intC zs) g
  len : zs.length = n

theorem NO.none (base : Nat) (w : World) : NO base w .none 0 0 [] .none := ⟨.nil rfl rfl rfl, rfl⟩
theorem NO.below {base : Nat} {w w' : World} {a : Option Addr} {n c : Nat} {zs : List Int} {g : Option Nat} (h : NO base w a n c zs g) (hb : Below w.heap.size w w') : NO base w' a n c zs g := ⟨h.cel.below hb, h.len⟩
theorem NO.mono {b1 b2 : Nat} {w : World} {a : Option Addr} {n c : Nat} {zs : List Int} {g : Option Nat} (h : NO b1 w a n c zs g) (hb : b2 ≤ b1) : NO b2 w a n c zs g :=
  ⟨h.cel.stay (Nat.le_refl _) (fun _ _ => rfl) (fun _ e => Nat.le_trans hb e), h.len⟩
theorem NO.nm {base : Nat} {w : World} {a : Option Addr} {n c : Nat} {zs : List Int} {g : Option Nat} (h : NO base w a n c zs g) : Nm w a n zs := by
  have hl := h.len
  obtain ⟨hc1, hc2, _⟩ := h.cel.cap2
  refine ⟨hl, by omega, fun hp => ?_⟩
  obtain ⟨b, rfl, rfl⟩ := h.cel.at2 hp
  refine ⟨b, 0, rfl, fun j hj => ?_⟩
  obtain ⟨b', e1, e2, e3⟩ := h.cel.elem wideI hj hl
  cases e1
  have := e3 0 _ rfl
  rw [Nat.mul_one, Nat.add_zero] at this
  rw [Nat.zero_add]; exact this
theorem NO.own {base : Nat} {w : World} {a : Option Addr} {n c : Nat} {xs : List Int} {g : Option Nat} (h : NO base w a n c xs g) : ∀ k, g = some k → k < w.heap.size ∧ base ≤ k := fun k hk => by
  have := h.cel; rw [hk] at this; exact this.lt
theorem NO.app {base : Nat} {w w' : World} {a a' : Option Addr} {n c m c' : Nat} {xs ys : List Int} {g g' : Option Nat} (h : NO base w a n c xs g) (hm : ys.length = m)
    (hC : Cel (Grow (fun k => base ≤ k) w w') w' 1 (.slice a' (n + m) c') (n + m) (rowC intC xs ++ rowC intC ys) g') (hB : base ≤ w.heap.size) : NO base w' a' (n + m) c' (xs ++ ys) g' := by
  refine ⟨?_, by rw [List.length_append, h.len, hm]⟩
  rw [rowC_app]
  exact hC.stay (Nat.le_refl _) (fun _ _ => rfl) (fun k hk => hk.elim id (fun e => Nat.le_trans hB e.1))
theorem NO.appBelow {base : Nat} {w w' : World} {a : Option Addr} {n c : Nat} {xs : List Int} {g : Option Nat} (h : NO base w a n c xs g) (hS : Stay (fun k => g = some k) w w') (hB : base ≤ w.heap.size) : Below base w w' :=
  hS.below hB (fun k hk => (h.own k hk).2)
/-- What is kept when other blocks are written. -/
theorem NO.stay {base : Nat} {O : Nat → Prop} {w w' : World} {a : Option Addr} {n c : Nat} {zs : List Int} {g : Option Nat} (h : NO base w a n c zs g) (hs : Stay O w w') (hO : ∀ k, g = some k → ¬ O k) : NO base w' a n c zs g :=
  ⟨h.cel.stay hs.size (fun k hk => hs.block k (h.own k hk).1 (hO k hk)) (fun _ e => e), h.len⟩

/-! ### edits -/
def edV (e : Ed) (a : Option Addr) (m q : Nat) : Value := .agg #[.int .i64 e.k, .string e.p, .string e.t, .int .i64 e.c, .int .i64 e.l, .int .i64 e.n, .slice a m q]

/-- The cells of an edit, from the beginning of a block on. -/
structure EdAt (w : World) (b : Nat) (e : Ed) (a : Option Addr) (m q : Nat) : Prop where
  c0 : w.cell? ⟨b, 0, none⟩ = some (.int .i64 e.k)
  c1 : w.cell? ⟨b, 1, none⟩ = some (.string e.p)
  c2 : w.cell? ⟨b, 2, none⟩ = some (.string e.t)
  c3 : w.cell? ⟨b, 3, none⟩ = some (.int .i64 e.c)
  c4 : w.cell? ⟨b, 4, none⟩ = some (.int .i64 e.l)
  c5 : w.cell? ⟨b, 5, none⟩ = some (.int .i64 e.n)
  c6 : w.cell? ⟨b, 6, none⟩ = some (.slice a m q)
  fr : ∀ j, w.frozen? ⟨b, j, none⟩ = false

theorem EdAt.below {w w' : World} {b : Nat} {e : Ed} {a : Option Addr} {m q : Nat} (h : EdAt w b e a m q) (hb : Below w.heap.size w w') : EdAt w' b e a m q :=
  ⟨bel_cell hb h.c0, bel_cell hb h.c1, bel_cell hb h.c2, bel_cell hb h.c3, bel_cell hb h.c4, bel_cell hb h.c5, bel_cell hb h.c6, fun j => (World.frozen?_of_block (a := ⟨b, j, none⟩) (hb.block b (World.block_lt_of_cell? _ _ h.c0))).trans (h.fr j)⟩
theorem EdAt.keep {O : Nat → Prop} {w w' : World} {b : Nat} {e : Ed} {a : Option Addr} {m q : Nat} (h : EdAt w b e a m q) (hs : Stay O w w') (hO : ¬ O b) : EdAt w' b e a m q := by
  have hb := hs.block b (World.block_lt_of_cell? _ _ h.c0) hO
  exact ⟨(World.cell?_of_block (a := ⟨b, 0, none⟩) hb).trans h.c0, (World.cell?_of_block (a := ⟨b, 1, none⟩) hb).trans h.c1, (World.cell?_of_block (a := ⟨b, 2, none⟩) hb).trans h.c2, (World.cell?_of_block (a := ⟨b, 3, none⟩) hb).trans h.c3, (World.cell?_of_block (a := ⟨b, 4, none⟩) hb).trans h.c4, (World.cell?_of_block (a := ⟨b, 5, none⟩) hb).trans h.c5, (World.cell?_of_block (a := ⟨b, 6, none⟩) hb).trans h.c6,
    fun j => (World.frozen?_of_block (a := ⟨b, j, none⟩) hb).trans (h.fr j)⟩
/-- A block that the call lays. -/
theorem EdAt.new (w : World) (t : TypeId) (e : Ed) (a : Option Addr) (m q : Nat) : EdAt (w.alloc (.cells #[.int .i64 e.k, .string e.p, .string e.t, .int .i64 e.c, .int .i64 e.l, .int .i64 e.n, .slice a m q] t)) w.heap.size e a m q :=
  ⟨World.cell?_alloc_new w _ t 0, World.cell?_alloc_new w _ t 1, World.cell?_alloc_new w _ t 2, World.cell?_alloc_new w _ t 3, World.cell?_alloc_new w _ t 4, World.cell?_alloc_new w _ t 5, World.cell?_alloc_new w _ t 6, fun j => World.frozen?_alloc_new w _ t j⟩

/-- The world behind the storing of a whole edit. -/
def put7 (w : World) (b : Nat) (e : Ed) (a : Option Addr) (m q : Nat) : World :=
  ((((((w.setCell ⟨b, 0, none⟩ (.int .i64 e.k)).setCell ⟨b, 1, none⟩ (.string e.p)).setCell ⟨b, 2, none⟩ (.string e.t)).setCell ⟨b, 3, none⟩ (.int .i64 e.c)).setCell ⟨b, 4, none⟩ (.int .i64 e.l)).setCell ⟨b, 5, none⟩ (.int .i64 e.n)).setCell ⟨b, 6, none⟩ (.slice a m q)

theorem setC_other (w : World) (b i j : Nat) (v : Value) (h : i ≠ j) : (w.setCell ⟨b, i, none⟩ v).cell? ⟨b, j, none⟩ = w.cell? ⟨b, j, none⟩ :=
  World.cell?_setCell_other _ _ _ _ (by intro e; injection e with e1 e2; exact h (by omega))

theorem setC_same {w : World} {a : Addr} {v u : Value} (h : w.cell? a = some u) : (w.setCell a v).cell? a = some v := World.cell?_setCell_same _ _ _ h

theorem put7_at {w : World} {b : Nat} {e0 : Ed} {a0 : Option Addr} {m0 q0 : Nat} (h : EdAt w b e0 a0 m0 q0) (e : Ed) (a : Option Addr) (m q : Nat) : EdAt (put7 w b e a m q) b e a m q ∧ Stay (fun k => k = b) w (put7 w b e a m q) := by
  constructor
  · unfold put7
    refine ⟨?_, ?_, ?_, ?_, ?_, ?_, ?_, fun j => by simp only [World.frozen?_setCell]; exact h.fr j⟩
    · rw [setC_other _ _ _ _ _ (by omega), setC_other _ _ _ _ _ (by omega), setC_other _ _ _ _ _ (by omega), setC_other _ _ _ _ _ (by omega), setC_other _ _ _ _ _ (by omega), setC_other _ _ _ _ _ (by omega)]
      exact World.cell?_setCell_same _ _ _ h.c0
    · rw [setC_other _ _ _ _ _ (by omega), setC_other _ _ _ _ _ (by omega), setC_other _ _ _ _ _ (by omega), setC_other _ _ _ _ _ (by omega), setC_other _ _ _ _ _ (by omega)]
      refine setC_same (u := .string e0.p) ?_
      rw [setC_other _ _ _ _ _ (by omega)]
      exact h.c1
    · rw [setC_other _ _ _ _ _ (by omega), setC_other _ _ _ _ _ (by omega), setC_other _ _ _ _ _ (by omega), setC_other _ _ _ _ _ (by omega)]
      refine setC_same (u := .string e0.t) ?_
      rw [setC_other _ _ _ _ _ (by omega), setC_other _ _ _ _ _ (by omega)]
      exact h.c2
    · rw [setC_other _ _ _ _ _ (by omega), setC_other _ _ _ _ _ (by omega), setC_other _ _ _ _ _ (by omega)]
      refine setC_same (u := .int .i64 e0.c) ?_
      rw [setC_other _ _ _ _ _ (by omega), setC_other _ _ _ _ _ (by omega), setC_other _ _ _ _ _ (by omega)]
      exact h.c3
    · rw [setC_other _ _ _ _ _ (by omega), setC_other _ _ _ _ _ (by omega)]
      refine setC_same (u := .int .i64 e0.l) ?_
      rw [setC_other _ _ _ _ _ (by omega), setC_other _ _ _ _ _ (by omega), setC_other _ _ _ _ _ (by omega), setC_other _ _ _ _ _ (by omega)]
      exact h.c4
    · rw [setC_other _ _ _ _ _ (by omega)]
      refine setC_same (u := .int .i64 e0.n) ?_
      rw [setC_other _ _ _ _ _ (by omega), setC_other _ _ _ _ _ (by omega), setC_other _ _ _ _ _ (by omega), setC_other _ _ _ _ _ (by omega), setC_other _ _ _ _ _ (by omega)]
      exact h.c5
    · refine setC_same (u := .slice a0 m0 q0) ?_
      rw [setC_other _ _ _ _ _ (by omega), setC_other _ _ _ _ _ (by omega), setC_other _ _ _ _ _ (by omega), setC_other _ _ _ _ _ (by omega), setC_other _ _ _ _ _ (by omega), setC_other _ _ _ _ _ (by omega)]
      exact h.c6
  · unfold put7
    exact ((((((Stay.setCell (O := fun k => k = b) w _ _ rfl).then_same (Stay.setCell _ _ _ rfl)).then_same (Stay.setCell _ _ _ rfl)).then_same (Stay.setCell _ _ _ rfl)).then_same (Stay.setCell _ _ _ rfl)).then_same (Stay.setCell _ _ _ rfl)).then_same (Stay.setCell _ _ _ rfl)

end Go.Proofs.YtigomhilcnnjdaaGreat.Edi

/- The contracts of edit.within, limitsOf, allWithin. -/
namespace Go.Proofs.YtigomhilcnnjdaaGreat.Edi
open Go.RowKit Go.Proofs.YtigomhilcnnjdaaGreat Go.Proofs.YtigomhilcnnjdaaGreat.Wir

def limV (k : Int) : Value := .agg #[.int .i64 (toM k), .int .i64 (loN k), .int .i64 (hiN k), .int .i64 (lenM k)]

theorem all_take {lo hi : Int} {zs : List Int} {i : Nat} (hi' : i < zs.length) (h : allB lo hi (zs.take i) = true) (hz : inB lo zs[i] hi = true) : allB lo hi (zs.take (i + 1)) = true := by
  unfold allB at *
  rw [List.take_succ_eq_append_getElem hi', List.all_append, h]
  simpa using hz
theorem all_not {lo hi : Int} {zs : List Int} {i : Nat} (hi' : i < zs.length) (hz : inB lo zs[i] hi = false) : allB lo hi zs = false := by
  rw [Bool.eq_false_iff]
  intro e
  have := List.all_eq_true.1 e zs[i] (List.getElem_mem hi')
  rw [hz] at this
  cases this

end Go.Proofs.YtigomhilcnnjdaaGreat.Edi

/- The contract of edit.Right. -/
namespace Go.Proofs.YtigomhilcnnjdaaGreat.Edi
open Go.RowKit Go.Proofs.YtigomhilcnnjdaaGreat Go.Proofs.YtigomhilcnnjdaaGreat.Wir

theorem not_rt {e : Ed} {u : Bool} (hu : u = true ↔ Rt e) (h : ¬ Rt e) : u = false := by
  rw [Bool.eq_false_iff]; intro x; exact h (hu.1 x)

end Go.Proofs.YtigomhilcnnjdaaGreat.Edi

/- The contract of edit.takeNumbers. -/
namespace Go.Proofs.YtigomhilcnnjdaaGreat.Edi
open Go.RowKit Go.Proofs.YtigomhilcnnjdaaGreat Go.Proofs.YtigomhilcnnjdaaGreat.Wir

theorem intRow : ∃ i, Tryz.prog.info? 3 = some i ∧ i.zero = some (.int .i64 0) ∧ i.size = 1 ∧ i.bytes = 8 :=
  info_parts3 (show (Tryz.prog.info? 3).map (fun i => (i.zero, i.size, i.bytes)) = some (some (.int .i64 0), 1, 8) by kernel_rfl)
theorem src_int (w : World) (z : Int) : Src Tryz.prog 1 75 (.slice (some ⟨w.heap.size, 0, none⟩) 1 1) 1 (rowC intC [z]) (w.alloc (.cells #[.int .i64 z] 3)) := by
  refine Src.ofSlice _ Tryz.underlying75 ⟨w.heap.size, 0, none⟩ 1 1 _ (by simp [rowC, intC]) (fun j u hu => ?_) (rowC_oneCell wideI _)
  rw [Addr.add_lit, Nat.zero_add]
  have e : (w.alloc (.cells #[.int .i64 z] 3)).cell? ⟨w.heap.size, j, none⟩ = (#[Value.int .i64 z])[j]? := World.cell?_alloc_new w _ _ j
  rw [e]
  have h0 : rowC intC [z] = [Value.int .i64 z] := rfl
  rw [h0] at hu
  rw [← hu]; simp

theorem takeN_call {s r : ByteArray} {z : Int} (h : takeN s = some (z, r)) (w : World) (hs : s.size ≤ maxLen) :
    Calls Tryz.prog 71 #[.string s] w fun e w' => e = .returned (.tuple #[.int .i64 z, .string r, .int .i64 0]) ∧ Below w.heap.size w w' := by
  obtain ⟨y, k, h1, h2, h3⟩ := takeN_yes h
  refine takeNum_val s _ w hs ?_
  rw [takeNumV_yes h1, h2, h3]
theorem takeN_call0 {s : ByteArray} (h : takeN s = none) (w : World) (hs : s.size ≤ maxLen) :
    Calls Tryz.prog 71 #[.string s] w fun e w' => e = .returned (.tuple #[.int .i64 0, .string ⟨#[]⟩, .int .i64 2]) ∧ Below w.heap.size w w' :=
  takeNum_val s _ w hs (takeNumV_no (takeN_no h))

/-- Numbers, and what stands behind them. -/
structure NumsR (base : Nat) (zs : List Int) (n : Nat) (r : ByteArray) (e : Ending) (w' : World) : Prop where
  ex : ∃ a c g, e = .returned (.tuple #[.slice a n c, .string r, .int .i64 0]) ∧ NO base w' a n c zs g

end Go.Proofs.YtigomhilcnnjdaaGreat.Edi
