/- Rows of an answer's own, that are written into. -/
import Derived.Test.YthogpaojdlfjcaaRetryT
namespace Go.Proofs.Ythogpaojdlfjcaa.Rty
open Go.RowKit Go.Proofs.Ythogpaojdlfjcaa Go.Proofs.Ythogpaojdlfjcaa.Edi
set_option linter.unusedVariables false

/-- A row of n elements of k cells, in a block from base on and below top, that may be written. -/
structure Row (base top : Nat) (w : World) (a : Option Addr) (n k : Nat) : Prop where
  ex : 0 < n → ∃ b, a = some ⟨b, 0, none⟩ ∧ base ≤ b ∧ b < top ∧ ∀ j, j < n * k → (w.cell? ⟨b, j, none⟩).isSome = true ∧ w.frozen? ⟨b, j, none⟩ = false

section
variable {base top : Nat} {w w' : World} {a : Option Addr} {n k : Nat}
theorem Row.of {c : Nat} {cs : List Value} {g : Option Nat} (h : Cel (fun q => base ≤ q) w k (.slice a n c) n cs g) : Row base w.heap.size w a n k := by
  refine ⟨fun hp => ?_⟩
  obtain ⟨b, rfl, rfl⟩ := h.at2 hp
  have hc := h.cap2.1
  exact ⟨b, rfl, h.lt.2, h.lt.1, fun j hj => h.live j (Nat.lt_of_lt_of_le hj (Nat.mul_le_mul_right _ hc))⟩
theorem Row.below (h : Row base top w a n k) (ht : top ≤ w.heap.size) (hb : Below w.heap.size w w') : Row base top w' a n k := by
  refine ⟨fun hp => ?_⟩
  obtain ⟨b, h1, h2, h3, h4⟩ := h.ex hp
  have hbl := hb.block b (by omega)
  exact ⟨b, h1, h2, h3, fun j hj => by rw [World.cell?_of_block (a := ⟨b, j, none⟩) hbl, World.frozen?_of_block (a := ⟨b, j, none⟩) hbl]; exact h4 j hj⟩
theorem some_setCell (w : World) (b j b2 j2 : Nat) (v : Value) (h : (w.cell? ⟨b, j, none⟩).isSome = true) : ((w.setCell ⟨b2, j2, none⟩ v).cell? ⟨b, j, none⟩).isSome = true := by
  by_cases e : b = b2
  · subst e
    by_cases e2 : j2 = j
    · subst e2
      obtain ⟨x, hx⟩ := Option.isSome_iff_exists.1 h
      rw [World.cell?_setCell_same _ _ _ hx]; rfl
    · rw [World.cell?_setCell_other _ _ _ _ (by intro e3; injection e3 with _ e4; exact e2 (by omega))]; exact h
  · rw [World.cell?_setCell_other _ _ _ _ (by intro e3; injection e3 with e4; exact e (by omega))]; exact h
theorem Row.set (h : Row base top w a n k) (b2 j2 : Nat) (v : Value) : Row base top (w.setCell ⟨b2, j2, none⟩ v) a n k := by
  refine ⟨fun hp => ?_⟩
  obtain ⟨b, h1, h2, h3, h4⟩ := h.ex hp
  exact ⟨b, h1, h2, h3, fun j hj => ⟨some_setCell w b j b2 j2 v (h4 j hj).1, by rw [World.frozen?_setCell]; exact (h4 j hj).2⟩⟩
end

/-- The answer's box, and its two rows, that are written into. -/
structure Wk (w5 : World) (qa : Nat) (W : World) (a1 : Option Addr) (M1 c1 : Nat) (a2 : Option Addr) (M2 c2 : Nat) : Prop where
  c4 : W.cell? ⟨qa, 4, none⟩ = some (.slice a1 M1 c1)
  c8 : W.cell? ⟨qa, 8, none⟩ = some (.slice a2 M2 c2)
  r1 : Row w5.heap.size qa W a1 M1 1
  r2 : Row w5.heap.size qa W a2 M2 3
  bel : Below w5.heap.size w5 W
  le : w5.heap.size ≤ qa
theorem Wk.set {w5 W : World} {qa : Nat} {a1 a2 : Option Addr} {M1 c1 M2 c2 b : Nat} (h : Wk w5 qa W a1 M1 c1 a2 M2 c2) (hb : w5.heap.size ≤ b) (ht : b < qa) (j : Nat) (v : Value) : Wk w5 qa (W.setCell ⟨b, j, none⟩ v) a1 M1 c1 a2 M2 c2 := by
  refine ⟨?_, ?_, h.r1.set b j v, h.r2.set b j v, Below.setCell h.bel hb _, h.le⟩
  · rw [World.cell?_setCell_other _ _ _ _ (by intro e3; injection e3 with e4; omega)]; exact h.c4
  · rw [World.cell?_setCell_other _ _ _ _ (by intro e3; injection e3 with e4; omega)]; exact h.c8

/-- A load by its run, a store by its run. -/
theorem wpList_load_any {P : Program} {ops : Array Oper} {rest : List Oper} {o : Oper} {a : Act} {w : World} {Q : Exit → Act → World → Prop} (hgd : o.guard = none) (ty : TypeId) (x : Operand) (ho : o.op = .load ty x) (v p : Value) (hx : a.eval x = p)
    (hr : (Instr.loadAt ty p).run P w = .ok v w) (h : wpList P ops Q rest (a.put o.dst v) w) : wpList P ops Q (o :: rest) a w :=
  wpList_plain hgd fun _ hK => by
    unfold Oper.wp execOp
    simp only [ho, hx, Sem.run_bind, Sem.run_pure, hr, Result.andThen_ok]
    exact hK _ _ h
theorem wpList_store_any {P : Program} {ops : Array Oper} {rest : List Oper} {o : Oper} {a : Act} {w w' : World} {Q : Exit → Act → World → Prop} (hgd : o.guard = none) (ty : TypeId) (x y : Operand) (ho : o.op = .store ty x y) (v p : Value) (hx : a.eval x = p) (hy : a.eval y = v)
    (hr : (Instr.storeAt ty p v).run P w = .ok () w') (h : wpList P ops Q rest (a.put o.dst undef) w') : wpList P ops Q (o :: rest) a w :=
  wpList_plain hgd fun _ hK => by
    unfold Oper.wp execOp
    simp only [ho, hx, hy, Sem.run_bind, Sem.run_pure, hr, Result.andThen_ok]
    exact hK _ _ h

end Go.Proofs.Ythogpaojdlfjcaa.Rty
