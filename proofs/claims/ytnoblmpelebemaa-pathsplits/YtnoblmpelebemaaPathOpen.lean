/- A slice of strings that came in, opened: where it is nil it has no room. -/
import Derived.Test.YtnoblmpelebemaaOpenAll
namespace Go.Proofs.Ytnoblmpelebemaa
open Go.ChangeShapes Go.WideShapes Go.ChangeAt Go.RowKit

theorem open_strs0 {H : Type} {enc : TypeId × Value → H} {P : Program} {W : World} {base : Nat} {spare : Nat → Bool} {held : Bool} {t e : TypeId} {a : Option Addr} {len cap : Nat} {d : DataW H} {ps : List MemPlace} (ht : P.underlying t = some (.slice e)) (he : P.underlying e = some .string) (hc : P.cellsOf e = 1)
    (h : DataW.Trod enc P W base spare held t (.slice a len cap) d ps) : ∃ (b off : Nat) (ss : List ByteArray), len = ss.length ∧ Strs W a b off ss ∧ (a = none → cap = 0) ∧ len ≤ cap ∧ cap ≤ maxLen := by
  obtain ⟨b, off, ss, h1, h2⟩ := open_strs ht he hc h
  refine ⟨b, off, ss, h1, h2, ?_⟩
  obtain ⟨fuel, hf⟩ := h
  rcases open_strings ht he hc hf with ⟨hcs, _⟩ | ⟨x, l, c, _, hcs, _, hl, hm, _⟩
  · simp [Value.cells] at hcs
    exact ⟨fun _ => hcs.2.2, by omega, by unfold maxLen; omega⟩
  · simp [Value.cells] at hcs
    obtain ⟨rfl, rfl, rfl⟩ := hcs
    exact ⟨fun h => (by cases h), hl, hm⟩

end Go.Proofs.Ytnoblmpelebemaa
