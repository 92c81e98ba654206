/- The mail of the document in memory: messages in one row, ages in another. No program in it. -/
import Derived.Test.YtgjbafpjllfdeaaMailSep
namespace Go.Proofs.Ytgjbafpjllfdeaa
open Go.RowKit

structure RefAt (O : Nat → Prop) (w : World) (q : Nat) (a0 : Option Addr) (c0 : Nat) (g0 : Option Nat) (a1 : Option Addr) (c1 : Nat) (g1 : Option Nat) (ms : List Msg) (us : List Nat) : Prop where
  lt : ∀ k, O k → k < w.heap.size
  oQ : O q
  k0 : w.cell? ⟨q, 0, none⟩ = some (.slice a0 ms.length c0)
  k1 : w.cell? ⟨q, 1, none⟩ = some (.slice a1 us.length c1)
  f0 : w.frozen? ⟨q, 0, none⟩ = false
  f1 : w.frozen? ⟨q, 1, none⟩ = false
  r0 : Cel O w 2 (.slice a0 ms.length c0) ms.length (rowC msgC ms) g0
  r1 : Cel O w 1 (.slice a1 us.length c1) us.length (rowC numC us) g1
  n0 : g0 ≠ some q
  n1 : g1 ≠ some q
  dj : ∀ k, g0 = some k → g1 = some k → False

section
variable {O : Nat → Prop} {w : World} {q : Nat} {a0 : Option Addr} {c0 : Nat} {g0 : Option Nat} {a1 : Option Addr} {c1 : Nat} {g1 : Option Nat} {ms : List Msg} {us : List Nat}

theorem RefAt.stay {O2 : Nat → Prop} {w' : World} (h : RefAt O w q a0 c0 g0 a1 c1 g1 ms us) (hs : Stay O2 w w') (hd : ∀ k, O k → ¬ O2 k) : RefAt O w' q a0 c0 g0 a1 c1 g1 ms us := by
  have e := hs.block q (h.lt q h.oQ) (hd q h.oQ)
  have h0 := h.r0
  have h1 := h.r1
  refine ⟨fun k hk => Nat.lt_of_lt_of_le (h.lt k hk) hs.size, h.oQ, (World.cell?_of_block (a := ⟨q, 0, none⟩) e).trans h.k0, (World.cell?_of_block (a := ⟨q, 1, none⟩) e).trans h.k1, (World.frozen?_of_block (a := ⟨q, 0, none⟩) e).trans h.f0, (World.frozen?_of_block (a := ⟨q, 1, none⟩) e).trans h.f1, h0.stay hs.size (fun k hk => ?_) (fun _ e => e), h1.stay hs.size (fun k hk => ?_) (fun _ e => e), h.n0, h.n1, h.dj⟩
  · rw [hk] at h0
    exact hs.block k h0.lt.1 (hd k h0.lt.2)
  · rw [hk] at h1
    exact hs.block k h1.lt.1 (hd k h1.lt.2)

theorem RefAt.below {w' : World} (h : RefAt O w q a0 c0 g0 a1 c1 g1 ms us) (hb : Below w.heap.size w w') : RefAt O w' q a0 c0 g0 a1 c1 g1 ms us :=
  h.stay (O2 := fun _ => False) (Stay.of_below hb) (fun _ _ e => e)

theorem RefAt.wide {O2 : Nat → Prop} (h : RefAt O w q a0 c0 g0 a1 c1 g1 ms us) (hO : ∀ k, O k → O2 k) (hl : ∀ k, O2 k → k < w.heap.size) : RefAt O2 w q a0 c0 g0 a1 c1 g1 ms us :=
  ⟨hl, hO _ h.oQ, h.k0, h.k1, h.f0, h.f1, h.r0.stay (Nat.le_refl _) (fun _ _ => rfl) hO, h.r1.stay (Nat.le_refl _) (fun _ _ => rfl) hO, h.n0, h.n1, h.dj⟩

theorem RefAt.grow (h : RefAt O w q a0 c0 g0 a1 c1 g1 ms us) (w0 : World) : RefAt (Grow O w0 w) w q a0 c0 g0 a1 c1 g1 ms us :=
  h.wide (fun _ e => .inl e) (fun k hk => hk.elim (h.lt k) (fun e => e.2))

theorem cell_oth {w : World} {q i j : Nat} {v u : Value} (hne : i ≠ j) (h : w.cell? ⟨q, i, none⟩ = some u) : (w.setCell ⟨q, j, none⟩ v).cell? ⟨q, i, none⟩ = some u := by
  rw [World.cell?_setCell_other]
  · exact h
  · intro e; exact hne (Addr.mk.inj e).2.1.symm

theorem RefAt.put0 (h : RefAt O w q a0 c0 g0 a1 c1 g1 ms us) {S : Nat → Prop} {w1 : World} (hs : Stay S w w1) (hSq : ¬ S q) (hS : ∀ k, g1 = some k → ¬ S k) {O' O2 : Nat → Prop} {a' : Option Addr} {n' c' : Nat} {g' : Option Nat} {ms' : List Msg} (hn : ms'.length = n') (hC : Cel O' w1 2 (.slice a' n' c') n' (rowC msgC ms') g')
    (hq : g' ≠ some q) (hd : ∀ k, g' = some k → g1 = some k → False) (hO : ∀ k, O k → O2 k) (hO' : ∀ k, O' k → O2 k) (hl : ∀ k, O2 k → k < w1.heap.size) :
    RefAt O2 (w1.setCell ⟨q, 0, none⟩ (.slice a' n' c')) q a' c' g' a1 c1 g1 ms' us := by
  subst hn
  have e := hs.block q (h.lt q h.oQ) hSq
  have z : (w1.setCell ⟨q, 0, none⟩ (.slice a' ms'.length c')).heap.size = w1.heap.size := by simp [World.setCell]
  have h1 := h.r1
  have r1' : Cel O w1 1 (.slice a1 us.length c1) us.length (rowC numC us) g1 := h1.stay hs.size (fun k hk => by rw [hk] at h1; exact hs.block k h1.lt.1 (hS k hk)) (fun _ e => e)
  refine ⟨fun k hk => by rw [z]; exact hl k hk, hO _ h.oQ, World.cell?_setCell_same _ _ _ ((World.cell?_of_block (a := ⟨q, 0, none⟩) e).trans h.k0), cell_oth (by omega) ((World.cell?_of_block (a := ⟨q, 1, none⟩) e).trans h.k1), by rw [World.frozen?_setCell, World.frozen?_of_block (a := ⟨q, 0, none⟩) e, h.f0], by rw [World.frozen?_setCell, World.frozen?_of_block (a := ⟨q, 1, none⟩) e, h.f1], ?_, ?_, hq, h.n1, hd⟩
  · exact (hC.setOut ⟨q, 0, none⟩ _ hq).stay (Nat.le_refl _) (fun _ _ => rfl) hO'
  · exact (r1'.setOut ⟨q, 0, none⟩ _ h.n1).stay (Nat.le_refl _) (fun _ _ => rfl) hO

theorem RefAt.put1 (h : RefAt O w q a0 c0 g0 a1 c1 g1 ms us) {S : Nat → Prop} {w1 : World} (hs : Stay S w w1) (hSq : ¬ S q) (hS : ∀ k, g0 = some k → ¬ S k) {O' O2 : Nat → Prop} {a' : Option Addr} {n' c' : Nat} {g' : Option Nat} {us' : List Nat} (hn : us'.length = n') (hC : Cel O' w1 1 (.slice a' n' c') n' (rowC numC us') g')
    (hq : g' ≠ some q) (hd : ∀ k, g0 = some k → g' = some k → False) (hO : ∀ k, O k → O2 k) (hO' : ∀ k, O' k → O2 k) (hl : ∀ k, O2 k → k < w1.heap.size) :
    RefAt O2 (w1.setCell ⟨q, 1, none⟩ (.slice a' n' c')) q a0 c0 g0 a' c' g' ms us' := by
  subst hn
  have e := hs.block q (h.lt q h.oQ) hSq
  have z : (w1.setCell ⟨q, 1, none⟩ (.slice a' us'.length c')).heap.size = w1.heap.size := by simp [World.setCell]
  have h0 := h.r0
  have r0' : Cel O w1 2 (.slice a0 ms.length c0) ms.length (rowC msgC ms) g0 := h0.stay hs.size (fun k hk => by rw [hk] at h0; exact hs.block k h0.lt.1 (hS k hk)) (fun _ e => e)
  refine ⟨fun k hk => by rw [z]; exact hl k hk, hO _ h.oQ, cell_oth (by omega) ((World.cell?_of_block (a := ⟨q, 0, none⟩) e).trans h.k0), World.cell?_setCell_same _ _ _ ((World.cell?_of_block (a := ⟨q, 1, none⟩) e).trans h.k1), by rw [World.frozen?_setCell, World.frozen?_of_block (a := ⟨q, 0, none⟩) e, h.f0], by rw [World.frozen?_setCell, World.frozen?_of_block (a := ⟨q, 1, none⟩) e, h.f1], ?_, ?_, h.n0, hq, hd⟩
  · exact (r0'.setOut ⟨q, 1, none⟩ _ h.n0).stay (Nat.le_refl _) (fun _ _ => rfl) hO
  · exact (hC.setOut ⟨q, 1, none⟩ _ hq).stay (Nat.le_refl _) (fun _ _ => rfl) hO'

theorem RefAt.g0O (h : RefAt O w q a0 c0 g0 a1 c1 g1 ms us) {k : Nat} (hk : g0 = some k) : O k ∧ k < w.heap.size := by
  have h0 := h.r0
  rw [hk] at h0
  exact ⟨h0.lt.2, h0.lt.1⟩
theorem RefAt.g1O (h : RefAt O w q a0 c0 g0 a1 c1 g1 ms us) {k : Nat} (hk : g1 = some k) : O k ∧ k < w.heap.size := by
  have h0 := h.r1
  rw [hk] at h0
  exact ⟨h0.lt.2, h0.lt.1⟩

end

/-- The document's mail. -/
structure XAt (O : Nat → Prop) (w : World) (q : Nat) (xs : ML) : Prop where
  ex : ∃ a0 c0 g0 a1 c1 g1, RefAt O w q a0 c0 g0 a1 c1 g1 (xs.map (·.1)) (xs.map (·.2))
theorem stX (q : Nat) (xs : ML) : St (fun O w => XAt O w q xs) := fun _ _ _ _ h hs hd => by
  obtain ⟨a0, c0, g0, a1, c1, g1, h⟩ := h.ex
  exact ⟨a0, c0, g0, a1, c1, g1, h.stay hs hd⟩

end Go.Proofs.Ytgjbafpjllfdeaa
