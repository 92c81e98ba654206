/- A slice of structs that came in, opened. -/
import Derived.Test.YtgjbafpjllfdeaaOpenAll
import Derived.Deep.Slices
namespace Go.Proofs.Ytgjbafpjllfdeaa
open Go.ChangeShapes Go.WideShapes Go.ChangeAt Go.RowKit

theorem open_recs {H : Type} {enc : TypeId × Value → H} {P : Program} {W : World} {base : Nat} {spare : Nat → Bool} {held : Bool} {t e : TypeId} {fs : Array Field} {a : Option Addr} {len cap : Nat} {d : DataW H} {ps : List MemPlace} (ht : P.underlying t = some (.slice e)) (he : P.underlying e = some (.struct fs)) (hc : 0 < P.cellsOf e)
    (h : DataW.Trod enc P W base spare held t (.slice a len cap) d ps) : ∃ (b off : Nat) (vs : List (List Value)), len = vs.length ∧ len ≤ maxLen ∧ (0 < len → a = some ⟨b, off, none⟩) ∧
      ∀ j (hj : j < vs.length), vs[j].length = P.cellsOf e ∧ (∀ i (hi : i < vs[j].length), W.cell? ⟨b, off + j * P.cellsOf e + i, none⟩ = some vs[j][i]) ∧
        ∃ n, ∀ (i : Nat) (f : Field), fs[i]? = some f → ∃ y, DataW.trod enc P W base spare held n f.type ((vs[j].drop f.offset).take (P.cellsOf f.type)) = some y := by
  obtain ⟨fuel, hf⟩ := h
  rcases Go.Deep.open_slice ht hf with ⟨hcs, _⟩ | ⟨x, l, c, m, n, D, Pl, hcs, hb, hl, hm, hmm, _, hx⟩
  · simp [Value.cells] at hcs
    obtain ⟨rfl, rfl, rfl⟩ := hcs
    exact ⟨0, 0, [], rfl, by simp, fun h => absurd h (by simp), fun j hj => absurd hj (by simp)⟩
  · simp [Value.cells] at hcs
    obtain ⟨rfl, rfl, rfl⟩ := hcs
    have hlm : len ≤ m := by rw [hmm]; split <;> omega
    obtain ⟨b, off, spot⟩ := x
    have each : ∀ j, j < m → ∃ cs' : List Value, cs'.length = P.cellsOf e ∧ (∀ i (hi : i < cs'.length), W.cell? (((⟨b, off, spot⟩ : Addr).add (j * P.cellsOf e)).add i) = some cs'[i]) ∧
        ∃ n, ∀ (i : Nat) (f : Field), fs[i]? = some f → ∃ y, DataW.trod enc P W base spare held n f.type ((cs'.drop f.offset).take (P.cellsOf f.type)) = some y := by
      intro j hj
      obtain ⟨cs', h1, h2⟩ := hx j hj
      obtain ⟨_, hlen, hcell⟩ := World.cells?_some h1
      obtain ⟨xs, k, hk, hxy, _, hxl, hfld⟩ := DataW.trod_struct he h2
      refine ⟨cs', hlen, fun i hi => ?_, k, fun i f hif => ?_⟩
      · rw [hcell i (by omega), List.getElem?_eq_getElem hi]
      · have := hfld i f hif
        have hil : i < xs.length := by
          rw [hxl]
          exact (Array.getElem?_eq_some_iff.1 hif).1
        rw [List.getElem?_eq_getElem hil] at this
        exact ⟨_, this⟩
    obtain ⟨q, hq⟩ := Go.Deep.choose_lt each
    have hspot : 0 < len → spot = none := fun hp => by
      obtain ⟨h1, h2, _⟩ := hq 0 (by omega)
      have h0 := h2 0 (by omega)
      have := World.cell?_spot h0
      simpa [Addr.add] using this
    refine ⟨b, off, (List.range len).map q, by simp, by omega, fun hp => by rw [hspot hp], fun j hj => ?_⟩
    have hj' : j < len := by simpa using hj
    have e1 : ((List.range len).map q)[j] = q j := by simp
    rw [e1]
    obtain ⟨h1, h2, h3⟩ := hq j (by omega)
    refine ⟨h1, fun i hi => ?_, h3⟩
    have h0 := h2 i hi
    rw [hspot (by omega), Addr.add_lit, Addr.add_lit] at h0
    exact h0

end Go.Proofs.Ytgjbafpjllfdeaa
