/- What stays when some blocks are written. No program in it. -/
import Derived.WalkKit
import Derived.Below
import Derived.Laws.AppendOwn
namespace Go.Proofs.Ytapnjgmihfmapaa
open Go.RowKit

/-- What was there stays but for the blocks of O. -/
structure Stay (O : Nat → Prop) (w w' : World) : Prop where
  os : w'.os = w.os
  tape : w'.tape = w.tape
  output : w'.output = w.output
  size : w.heap.size ≤ w'.heap.size
  block : ∀ k, k < w.heap.size → ¬ O k → w'.heap[k]? = w.heap[k]?

/-- O, and what is new. -/
def Grow (O : Nat → Prop) (w w' : World) : Nat → Prop := fun k => O k ∨ (w.heap.size ≤ k ∧ k < w'.heap.size)

theorem Stay.refl (O : Nat → Prop) (w : World) : Stay O w w := ⟨rfl, rfl, rfl, Nat.le_refl _, fun _ _ _ => rfl⟩

theorem Stay.trans {O O2 : Nat → Prop} {a b c : World} (h : Stay O a b) (k : Stay O2 b c) (hO : ∀ i, i < a.heap.size → O2 i → O i) : Stay O a c :=
  ⟨k.os.trans h.os, k.tape.trans h.tape, k.output.trans h.output, Nat.le_trans h.size k.size, fun i hi ho => (k.block i (Nat.lt_of_lt_of_le hi h.size) (fun e => ho (hO i hi e))).trans (h.block i hi ho)⟩

theorem Stay.of_below {O : Nat → Prop} {w w' : World} (h : Below w.heap.size w w') : Stay O w w' := ⟨h.os, h.tape, h.output, h.size, fun k hk _ => h.block k hk⟩

theorem Stay.below {O : Nat → Prop} {w w' : World} {B : Nat} (h : Stay O w w') (hB : B ≤ w.heap.size) (hO : ∀ k, O k → B ≤ k) : Below B w w' :=
  ⟨h.os, h.tape, h.output, h.size, fun k hk => h.block k (by omega) (fun e => by have := hO k e; omega)⟩

theorem Stay.mono {O O2 : Nat → Prop} {w w' : World} (h : Stay O w w') (hO : ∀ i, O i → O2 i) : Stay O2 w w' := ⟨h.os, h.tape, h.output, h.size, fun k hk ho => h.block k hk (fun e => ho (hO k e))⟩

theorem Stay.of_grown {O : Nat → Prop} {w w' : World} {row : Option Nat} (h : w.grownBy w' row) (hr : ∀ k, row = some k → O k) : Stay O w w' :=
  ⟨h.os, h.tape, h.output, h.size, fun k hk ho => h.block k hk (fun e => ho (hr k e.symm))⟩

theorem Stay.setCell {O : Nat → Prop} (w : World) (a : Addr) (v : Value) (h : O a.block) : Stay O w (w.setCell a v) := by
  refine ⟨rfl, rfl, rfl, by simp [World.setCell], fun k hk ho => Below.heap_setCell _ _ _ _ ?_⟩
  rintro rfl; exact ho h

theorem Stay.andThen {O : Nat → Prop} {a b c : World} (h : Stay O a b) (k : Stay (Grow O a b) b c) : Stay O a c :=
  h.trans k (fun i hi e => e.elim id (fun e => by omega))

theorem Stay.then_same {O : Nat → Prop} {a b c : World} (h : Stay O a b) (k : Stay O b c) : Stay O a c := h.trans k (fun _ _ e => e)

theorem Stay.then_below {O : Nat → Prop} {a b c : World} (h : Stay O a b) (k : Below b.heap.size b c) : Stay O a c := h.trans (O2 := fun _ => False) (Stay.of_below k) (fun _ _ e => e.elim)

end Go.Proofs.Ytapnjgmihfmapaa
