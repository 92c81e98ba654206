/- What LogBack's loop keeps: a disk with the log's file, and the log. -/
import Derived.Test.YtokldcifhjkmnaaLogT
namespace Go.Proofs.Ytokldcifhjkmnaa.Lgg
open Go.RowKit Go.Proofs.Ytokldcifhjkmnaa
set_option linter.unusedVariables false

def dsk (l : Lg) : DS := ⟨400000, 0, false, [(jN.data.toList, (encL l).data.toList, (encL l).data.toList.length)]⟩
/-- The log with one more. -/
def moreL (l : Lg) (s : ByteArray) : Lg := ⟨l.ep, l.es ++ [⟨((l.es.length + 1 : Nat) : Int), cut100 s⟩]⟩
def mores (l : Lg) : List ByteArray → Lg
  | [] => l
  | s :: r => mores (moreL l s) r
theorem mores_snoc : ∀ (ss : List ByteArray) (l : Lg) (s : ByteArray), mores l (ss ++ [s]) = moreL (mores l ss) s
  | [], _, _ => rfl
  | t :: ss, l, s => mores_snoc ss (moreL l t) s
theorem more_len (l : Lg) (s : ByteArray) : (moreL l s).es.length = l.es.length + 1 := by unfold moreL; simp
theorem mores_len : ∀ (ss : List ByteArray) (l : Lg), (mores l ss).es.length = l.es.length + ss.length
  | [], _ => rfl
  | t :: ss, l => by show (mores (moreL l t) ss).es.length = _; rw [mores_len ss (moreL l t), more_len]; simp; omega
theorem more_rt {l : Lg} (h : RtL l) (hl : l.es.length < 300) (s : ByteArray) : RtL (moreL l s) := RtL.snoc (ep := l.ep) (es := l.es) h hl _ (by have := cut100_size s; omega)

theorem Dk.wrote {w0 w w' : World} {K : Nat → Prop} {pd : Nat} {ds : DS} (h : Dk w0 K w pd ds) (hs : Stay K w w') (hK : ∀ k, K k → w0.heap.size ≤ k) : Dk w0 K w' pd ds := by
  obtain ⟨O, h1, h2, h3, h4⟩ := h.ex
  exact ⟨O, h1.stay hs (fun k hk e => (h2 k hk).2 e), h2, h3.trans (hs.below h3.size hK), fun k hk => Nat.lt_of_lt_of_le (h4 k hk) hs.size⟩

/-- A row of its own lies in its block. -/
theorem Lie.of_g {α : Type} {f : α → List Value} {O : Nat → Prop} {w : World} {a : Option Addr} {xs : List α} {k c : Nat} (hf : Wide f k) {g : Option Nat} (h : Cel O w k (.slice a xs.length c) xs.length (rowC f xs) g) (P : Nat → Prop) : Lie f (fun z => P z ∨ g = some z) w a xs := by
  have h1 : Cel (fun z => P z ∨ g = some z) w k (.slice a xs.length c) xs.length (rowC f xs) g := by
    cases h with
    | nil h1 h2 h3 => exact .nil h1 h2 h3
    | row g cap h1 hl h2 h3 h4 h5 h6 h7 => exact .row g cap h1 hl (.inr rfl) h3 h4 h5 h6 h7
  exact Lie.of_cel hf h1
structure Lk (w wr : World) (pd LB : Nat) (l : Lg) (a : Option Addr) (c : Nat) (g : Option Nat) : Prop where
  c0 : wr.cell? ⟨LB, 0, none⟩ = some (.int .i64 l.ep)
  c1 : wr.cell? ⟨LB, 1, none⟩ = some (.slice a l.es.length c)
  fz : ∀ j, wr.frozen? ⟨LB, j, none⟩ = false
  cel : Cel (fun z => w.heap.size ≤ z ∧ z ≠ LB) wr 2 (.slice a l.es.length c) l.es.length (rowC enC l.es) g
  dk : Dk w (fun z => z = LB ∨ g = some z) wr pd (dsk l)
  rt : RtL l
  lb : w.heap.size ≤ LB

/-- Behind Add: what was there is there, and the entry's box. -/
theorem Lk.added {w wr W5 w6 : World} {pd LB : Nat} {l l' : Lg} {a : Option Addr} {c : Nat} {g : Option Nat} {u v : Value} (h : Lk w wr pd LB l a c g) (hb5 : Below wr.heap.size wr W5) (x0 : W5.cell? ⟨wr.heap.size, 0, none⟩ = some u) (x1 : W5.cell? ⟨wr.heap.size, 1, none⟩ = some v)
    (hd : Dk w (fun z => (z = LB ∨ g = some z) ∨ z = wr.heap.size) w6 pd (dsk l')) (hs : Stay (fun z => ¬ ((z = LB ∨ g = some z) ∨ z = wr.heap.size)) W5 w6) :
    w6.cell? ⟨LB, 0, none⟩ = some (.int .i64 l.ep) ∧ w6.cell? ⟨LB, 1, none⟩ = some (.slice a l.es.length c) ∧ (∀ j, w6.frozen? ⟨LB, j, none⟩ = false) ∧ w6.cell? ⟨wr.heap.size, 0, none⟩ = some u ∧ w6.cell? ⟨wr.heap.size, 1, none⟩ = some v ∧ Cel (fun z => w.heap.size ≤ z ∧ z ≠ LB) w6 2 (.slice a l.es.length c) l.es.length (rowC enC l.es) g := by
  have hlb := World.block_lt_of_cell? _ _ h.c0
  have hx := World.block_lt_of_cell? _ _ x0
  have k1 := (hs.block LB (Nat.lt_of_lt_of_le hlb hb5.size) (fun e => e (.inl (.inl rfl)))).trans (hb5.block LB hlb)
  have k2 := hs.block wr.heap.size hx (fun e => e (.inr rfl))
  have hC := h.cel.below hb5
  refine ⟨(World.cell?_of_block (a := ⟨LB, 0, none⟩) k1).trans h.c0, (World.cell?_of_block (a := ⟨LB, 1, none⟩) k1).trans h.c1, fun j => (World.frozen?_of_block (a := ⟨LB, j, none⟩) k1).trans (h.fz j), (World.cell?_of_block (a := ⟨wr.heap.size, 0, none⟩) k2).trans x0, (World.cell?_of_block (a := ⟨wr.heap.size, 1, none⟩) k2).trans x1, hC.stay hs.size (fun z hz => hs.block z (by rw [hz] at hC; exact hC.lt.1) (fun e => e (.inl (.inr hz)))) (fun _ e => e)⟩
/-- Behind the append. -/
theorem Lk.next {w wr w6 w7 : World} {pd LB : Nat} {l : Lg} {a a7 : Option Addr} {c c7 : Nat} {g g7 : Option Nat} {d : ByteArray} {o : Obj} {s : ByteArray} (hrt : RtL l) (hlb : w.heap.size ≤ LB) (hl : l.es.length < 300) (hcs : cut100 s = d) (hwr : w.heap.size ≤ wr.heap.size)
    (y0 : w6.cell? ⟨LB, 0, none⟩ = some (.int .i64 l.ep)) (y1 : w6.cell? ⟨LB, 1, none⟩ = some (.slice a l.es.length c)) (yf : ∀ j, w6.frozen? ⟨LB, j, none⟩ = false) (hC : Cel (fun z => w.heap.size ≤ z ∧ z ≠ LB) w6 2 (.slice a l.es.length c) l.es.length (rowC enC l.es) g)
    (hd : Dk w (fun z => (z = LB ∨ g = some z) ∨ z = wr.heap.size) w6 pd (dsk (moreL l s)))
    (hC7 : Cel (Grow (fun z => w.heap.size ≤ z ∧ z ≠ LB) (w6.alloc o) w7) w7 2 (.slice a7 (l.es.length + 1) c7) (l.es.length + 1) (rowC enC l.es ++ [.int .i64 ((l.es.length + 1 : Nat) : Int), .string d]) g7) (hS7 : Stay (fun z => g = some z) (w6.alloc o) w7) (hg7 : ∀ k, g7 = some k → g = some k ∨ (w6.alloc o).heap.size ≤ k) :
    w7.cell? ⟨LB, 1, none⟩ = some (.slice a l.es.length c) ∧ w7.frozen? ⟨LB, 1, none⟩ = false ∧ Lk w (w7.setCell ⟨LB, 1, none⟩ (.slice a7 (l.es.length + 1) c7)) pd LB (moreL l s) a7 c7 g7 := by
  have hx : ∀ z, g = some z → w.heap.size ≤ z ∧ z ≠ LB := fun z hz => by rw [hz] at hC; exact hC.lt.2
  have hal := bel_al w6 o
  have hz6 : (w6.alloc o).heap.size = w6.heap.size + 1 := by simp
  have hlt := World.block_lt_of_cell? _ _ y0
  have hlt2 : LB < w6.heap.size := hlt
  have kB := (hS7.block LB (by omega) (fun e => (hx LB e).2 rfl)).trans (hal.block LB hlt2)
  have u0 := (World.cell?_of_block (a := ⟨LB, 0, none⟩) kB).trans y0
  have u1 := (World.cell?_of_block (a := ⟨LB, 1, none⟩) kB).trans y1
  have uf := fun j => (World.frozen?_of_block (a := ⟨LB, j, none⟩) kB).trans (yf j)
  have s7 := hS7.size
  have hg7' : ∀ k, g7 = some k → k ≠ LB := fun k hk => by
    rcases hg7 k hk with h | h
    · exact (hx k h).2
    · omega
  have hes : rowC enC (moreL l s).es = rowC enC l.es ++ [.int .i64 ((l.es.length + 1 : Nat) : Int), .string d] := by unfold moreL; simp only; rw [rowC_app, rowC_one, hcs]; rfl
  have hml := more_len l s
  refine ⟨u1, uf 1, cell_set (by omega) u0, ?_, fun j => by rw [World.frozen?_setCell]; exact uf j, ?_, ?_, more_rt hrt hl s, hlb⟩
  · rw [hml]; exact World.cell?_setCell_same _ _ _ u1
  · rw [hml, hes]
    have h8 := hC7.setOut ⟨LB, 1, none⟩ (.slice a7 (l.es.length + 1) c7) (fun e => hg7' LB e rfl)
    refine h8.stay (Nat.le_refl _) (fun _ _ => rfl) (fun z hz => ?_)
    rcases hz with h | h
    · exact h
    · have h9 := hd.bel.size
      exact ⟨by omega, by omega⟩
  · obtain ⟨O, q1, q2, q3, q4⟩ := hd.ex
    have hO := q1.lt
    have e1 := (q1.below hal).stay hS7 (fun k hk e => (q2 k hk).2 (.inl (.inr e)))
    have e2 := e1.stay (stay_set w7 LB 1 (.slice a7 (l.es.length + 1) c7)) (fun k hk e => (q2 k hk).2 (.inl (.inl e)))
    have b1 := bel_tr q3 hal
    have b2 := b1.trans (hS7.below b1.size (fun k hk => (hx k hk).1))
    refine ⟨O, e2, fun k hk => ⟨(q2 k hk).1, fun e => ?_⟩, Below.setCell b2 hlb _, fun k hk => ?_⟩
    · rcases e with e | e
      · exact (q2 k hk).2 (.inl (.inl e))
      · rcases hg7 k e with h | h
        · exact (q2 k hk).2 (.inl (.inr h))
        · have := hO k hk; omega
    · rw [size_set]
      rcases hk with h | h
      · omega
      · rw [h] at hC7; exact hC7.lt.1

/-- The same, with the length's own name. -/
theorem back_next {w wr w6 w7 : World} {pd LB n : Nat} {l : Lg} {a a7 : Option Addr} {c c7 : Nat} {g g7 : Option Nat} {X s : ByteArray} {o : Obj} (h : Lk w wr pd LB l a c g) (hn : l.es.length = n) (hX : cut100 s = X) (hl : n < 300) (hwr : w.heap.size ≤ wr.heap.size)
    (hU : w6.cell? ⟨LB, 0, none⟩ = some (.int .i64 l.ep) ∧ w6.cell? ⟨LB, 1, none⟩ = some (.slice a n c) ∧ ∀ j, w6.frozen? ⟨LB, j, none⟩ = false) (hC : Cel (fun z => w.heap.size ≤ z ∧ z ≠ LB) w6 2 (.slice a n c) n (rowC enC l.es) g)
    (hd : Dk w (fun z => (z = LB ∨ g = some z) ∨ z = wr.heap.size) w6 pd (dsk (moreL l s)))
    (hC7 : Cel (Grow (fun z => w.heap.size ≤ z ∧ z ≠ LB) (w6.alloc o) w7) w7 2 (.slice a7 (n + 1) c7) (n + 1) (rowC enC l.es ++ [.int .i64 ((n : Int) + 1), .string X]) g7) (hS7 : Stay (fun z => g = some z) (w6.alloc o) w7) (hg7 : ∀ k, g7 = some k → g = some k ∨ (w6.alloc o).heap.size ≤ k) :
    w7.cell? ⟨LB, 1, none⟩ = some (.slice a n c) ∧ w7.frozen? ⟨LB, 1, none⟩ = false ∧ Lk w (w7.setCell ⟨LB, 1, none⟩ (.slice a7 (n + 1) c7)) pd LB (moreL l s) a7 c7 g7 := by
  subst hn
  exact Lk.next (s := s) h.rt h.lb hl hX hwr hU.1 hU.2.1 hU.2.2 hC hd (by rw [show ((l.es.length + 1 : Nat) : Int) = (l.es.length : Int) + 1 by omega]; exact hC7) hS7 hg7

end Go.Proofs.Ytokldcifhjkmnaa.Lgg
