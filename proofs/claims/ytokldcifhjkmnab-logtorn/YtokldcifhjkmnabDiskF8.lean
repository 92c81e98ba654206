/- The contract of disk.Crash. -/
import Derived.Test.YtokldcifhjkmnabDiskF7
import Derived.Test.YtokldcifhjkmnabRowPlain
namespace Go.Proofs.Ytokldcifhjkmnab
open Go.RowKit

theorem Ints.stay {O : Nat → Prop} {w w' : World} {k : IntKind} {a : Option Addr} {b off : Nat} {zs : List Int} (h : Ints w k a b off zs) (hs : Stay O w w') (hb : 0 < zs.length → ¬ O b) : Ints w' k a b off zs :=
  ⟨h.addr, fun j hj => (World.cell?_of_block (a := ⟨b, off + j, none⟩) (hs.block b (h.lt (by omega)) (hb (by omega)))).trans (h.cell j hj)⟩

theorem below_of_drew {w w' : World} (h : Below w.drew.heap.size w.drew w') : Below w.heap.size w w' := ⟨h.os, h.tape, h.output, h.size, h.block⟩

/-- A row of names. -/
theorem own_names {w : World} {base : Nat} {e : TypeId} {v : Value} {n : Nat} {xs : List (List UInt8)} (h : w.ownsRow base e 1 v n (xs.map encStr)) :
    n = xs.length ∧ ∃ a cap b, v = .slice a xs.length cap ∧ (0 < xs.length → a = some ⟨b, 0, none⟩ ∧ base ≤ b ∧ b < w.heap.size) ∧ ∀ j (hj : j < xs.length), w.cell? ⟨b, j, none⟩ = some (.string ⟨xs[j].toArray⟩) := by
  have hlen := h.1
  simp at hlen
  have hl : n = xs.length := hlen.symm
  subst hl
  refine ⟨rfl, ?_⟩
  rcases h.2 with ⟨rfl, h0⟩ | ⟨g, cap, cur, rfl, hb, hg, _⟩
  · refine ⟨none, 0, 0, by rw [h0], fun hp => by omega, fun j hj => by omega⟩
  · refine ⟨some ⟨g, 0, none⟩, cap, g, rfl, fun _ => ⟨rfl, hb, (Array.getElem?_eq_some_iff.1 hg).1⟩, fun j hj => ?_⟩
    have := h.cells (g := g) rfl j (encStr xs[j]) (by simp [hj])
    rw [Addr.add_lit, Nat.zero_add] at this
    exact this

theorem own_fs {w : World} {base : Nat} {e : TypeId} {v : Value} {n m : Nat} {S : FS} (h : w.ownsRow base e 1 v m ((S.map (·.1)).map encStr)) (hn : S.length = n) :
    ∃ a cap b, v = .slice a n cap ∧ (0 < n → a = some ⟨b, 0, none⟩ ∧ base ≤ b ∧ b < w.heap.size) ∧ ∀ j (hj : j < S.length), w.cell? ⟨b, j, none⟩ = some (.string ⟨S[j].1.toArray⟩) := by
  obtain ⟨h0, a, cap, b, h1, h2, h3⟩ := own_names h
  have hl : (S.map (·.1)).length = n := by rw [List.length_map, hn]
  rw [hl] at h1 h2
  exact ⟨a, cap, b, h1, h2, fun j hj => by have := h3 j (by rw [List.length_map]; exact hj); rwa [List.getElem_map] at this⟩

section
variable {O : Nat → Prop} {w : World} {pd b : Nat} {V : List UInt8 → Value} {B : List UInt8 → Option Nat} {room fuse : Int} {down : Bool} {S : FS}

end

end Go.Proofs.Ytokldcifhjkmnab
