/- Slices of numbers and of texts that lie in memory. No program in it. -/
import Derived.WalkKit
namespace Go.Proofs.Ytapnjgmihfmapaa
open Go.RowKit

/-- A slice of numbers that lies in memory: the numbers zs. -/
structure Ints (w : World) (k : IntKind) (a : Option Addr) (b off : Nat) (zs : List Int) : Prop where
  addr : 0 < zs.length → a = some ⟨b, off, none⟩
  cell : ∀ j (hj : j < zs.length), w.cell? ⟨b, off + j, none⟩ = some (.int k zs[j])

theorem Ints.lt {w : World} {k : IntKind} {a : Option Addr} {b off : Nat} {zs : List Int} (h : Ints w k a b off zs) (hp : 0 < zs.length) : b < w.heap.size :=
  World.block_lt_of_cell? _ _ (h.cell 0 hp)
theorem Ints.below {w w' : World} {k : IntKind} {a : Option Addr} {b off : Nat} {zs : List Int} (h : Ints w k a b off zs) (hb : Below w.heap.size w w') : Ints w' k a b off zs :=
  ⟨h.addr, fun j hj => (hb.cell (p := ⟨b, off + j, none⟩) (h.lt (by omega))).trans (h.cell j hj)⟩

def intCells (k : IntKind) (zs : List Int) : List Value := zs.map (.int k)
theorem intCells_len (k : IntKind) (zs : List Int) : (intCells k zs).length = zs.length := by simp [intCells]
theorem intCells_set (k : IntKind) (zs : List Int) (j : Nat) (z : Int) : (intCells k zs).set j (.int k z) = intCells k (zs.set j z) := by simp [intCells, List.map_set]

theorem own_ints {w : World} {base : Nat} {e : TypeId} {v : Value} {n : Nat} {k : IntKind} {zs : List Int} (h : w.ownsRow base e 1 v n (intCells k zs)) :
    n = zs.length ∧ ∃ a cap b, v = .slice a zs.length cap ∧ Ints w k a b 0 zs ∧ (0 < zs.length → base ≤ b) := by
  have hlen := h.1
  rw [intCells_len] at hlen
  have hl : n = zs.length := by omega
  subst hl
  refine ⟨rfl, ?_⟩
  rcases h.2 with ⟨rfl, h0⟩ | ⟨g, cap, cur, rfl, hb, _⟩
  · refine ⟨none, 0, 0, by rw [h0], ⟨fun hp => by omega, fun j hj => by omega⟩, fun hp => by omega⟩
  · refine ⟨some ⟨g, 0, none⟩, cap, g, rfl, ⟨fun _ => rfl, fun j hj => ?_⟩, fun _ => hb⟩
    have := h.cells (g := g) rfl j (.int k zs[j]) (by simp [intCells, hj])
    rw [Addr.add_lit] at this
    exact this

/-- A slice of strings that lies in memory: the strings ss. -/
structure Strs (w : World) (a : Option Addr) (b off : Nat) (ss : List ByteArray) : Prop where
  addr : 0 < ss.length → a = some ⟨b, off, none⟩
  cell : ∀ j (hj : j < ss.length), w.cell? ⟨b, off + j, none⟩ = some (.string ss[j])
  small : ∀ s ∈ ss, s.size ≤ maxLen
  len : ss.length ≤ maxLen

theorem Strs.lt {w : World} {a : Option Addr} {b off : Nat} {ss : List ByteArray} (h : Strs w a b off ss) (hp : 0 < ss.length) : b < w.heap.size :=
  World.block_lt_of_cell? _ _ (h.cell 0 hp)
theorem Strs.below {w w' : World} {a : Option Addr} {b off : Nat} {ss : List ByteArray} (h : Strs w a b off ss) (hb : Below w.heap.size w w') : Strs w' a b off ss :=
  ⟨h.addr, fun j hj => (hb.cell (p := ⟨b, off + j, none⟩) (h.lt (by omega))).trans (h.cell j hj), h.small, h.len⟩

end Go.Proofs.Ytapnjgmihfmapaa
