/- Rows of whatever elements that lie somewhere; an entry in memory. -/
import Derived.Test.YtapnjgmihfmapaaLogM0
import Derived.Test.YtapnjgmihfmapaaRowC
import Derived.Test.YtapnjgmihfmapaaRows
import Derived.WalkKit
import Derived.WalkSpells
import Derived.WalkLawsBesides
import Derived.OwnWalk
namespace Go.Proofs.Ytapnjgmihfmapaa.Lgg
open Go.RowKit Go.Proofs.Ytapnjgmihfmapaa
set_option linter.unusedVariables false

theorem bel_al (w : World) (o : Obj) : Below w.heap.size w (w.alloc o) := (Below.refl _ w).alloc (Nat.le_refl _) o
theorem bel_cell {w w' : World} (h : Below w.heap.size w w') {a : Addr} {v : Value} (hc : w.cell? a = some v) : w'.cell? a = some v :=
  (World.cell?_of_block (h.block a.block (World.block_lt_of_cell? _ _ hc))).trans hc

/-- A row of elements lies at a, in a block of O. -/
structure Lie {α : Type} (f : α → List Value) (O : Nat → Prop) (w : World) (a : Option Addr) (xs : List α) : Prop where
  lid : xs.length ≤ maxLen
  cells : 0 < xs.length → ∃ b off, a = some ⟨b, off, none⟩ ∧ O b ∧ b < w.heap.size ∧ ∀ (j : Nat) (u : Value), (rowC f xs)[j]? = some u → w.cell? ⟨b, off + j, none⟩ = some u
section
variable {α : Type} {f : α → List Value} {O O2 : Nat → Prop} {w w' : World} {a : Option Addr} {xs : List α}
theorem Lie.nil (f : α → List Value) (O : Nat → Prop) (w : World) (a : Option Addr) : Lie f O w a [] := ⟨Nat.zero_le _, fun h => absurd h (Nat.lt_irrefl 0)⟩
theorem Lie.stay (h : Lie f O w a xs) (hs : Stay O2 w w') (hd : ∀ k, O k → ¬ O2 k) : Lie f O w' a xs := by
  refine ⟨h.lid, fun hp => ?_⟩
  obtain ⟨b, off, h1, h2, h3, h4⟩ := h.cells hp
  exact ⟨b, off, h1, h2, Nat.lt_of_lt_of_le h3 hs.size, fun j u hu => (World.cell?_of_block (a := ⟨b, off + j, none⟩) (hs.block b h3 (hd b h2))).trans (h4 j u hu)⟩
theorem Lie.below (h : Lie f O w a xs) (hb : Below w.heap.size w w') : Lie f O w' a xs := h.stay (O2 := fun _ => False) (Stay.of_below hb) (fun _ _ => id)
theorem Lie.mono (h : Lie f O w a xs) (hO : ∀ k, O k → k < w.heap.size → O2 k) : Lie f O2 w a xs := by
  refine ⟨h.lid, fun hp => ?_⟩
  obtain ⟨b, off, h1, h2, h3, h4⟩ := h.cells hp
  exact ⟨b, off, h1, hO b h2 h3, h3, h4⟩
theorem Lie.at {k : Nat} (hf : Wide f k) (h : Lie f O w a xs) {i : Nat} (hi : i < xs.length) : ∃ b off, a = some ⟨b, off, none⟩ ∧ ∀ (j : Nat) (u : Value), (f xs[i])[j]? = some u → w.cell? ⟨b, off + (i * k + j), none⟩ = some u := by
  obtain ⟨b, off, h1, _, _, h4⟩ := h.cells (by omega)
  refine ⟨b, off, h1, fun j u hu => h4 _ u ?_⟩
  have hj : j < k := by have := (List.getElem?_eq_some_iff.1 hu).1; rw [hf.len] at this; exact this
  rw [rowC_at hf xs i hi j hj]; exact hu
theorem Lie.of_cel {k c : Nat} (hf : Wide f k) {g : Option Nat} (h : Cel O w k (.slice a xs.length c) xs.length (rowC f xs) g) : Lie f O w a xs := by
  have h1 := h.cap2
  refine ⟨Nat.le_trans h1.1 h1.2.1, fun hp => ?_⟩
  obtain ⟨b, rfl, rfl⟩ := h.at2 hp
  exact ⟨b, 0, rfl, h.lt.2, h.lt.1, fun j u hu => by
    obtain ⟨hj, rfl⟩ := List.getElem?_eq_some_iff.1 hu
    rw [Nat.zero_add]; exact h.cell j hj⟩
end

def enC (x : En) : List Value := [.int .i64 x.tx, .string x.d]
theorem wideN : Wide enC 2 := ⟨fun _ => rfl, fun x u hu => by simp [enC] at hu; rcases hu with rfl | rfl <;> rfl⟩
instance : Inhabited En := ⟨⟨0, ⟨#[]⟩⟩⟩
end Go.Proofs.Ytapnjgmihfmapaa.Lgg
