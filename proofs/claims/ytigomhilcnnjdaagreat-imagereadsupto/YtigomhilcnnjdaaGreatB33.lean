/- Part 33 of the proof: EditOpen. -/
import Derived.Test.YtigomhilcnnjdaaGreatB17
import Derived.Test.YtigomhilcnnjdaaGreatB32
import Derived.Deep.Slices
import Derived.SizedLaws

/- An edit that came in, opened. -/
namespace Go.Proofs.YtigomhilcnnjdaaGreat.Edi
open Go.ChangeShapes Go.WideShapes Go.ChangeAt Go.RowKit Go.Proofs.YtigomhilcnnjdaaGreat

section
variable {H : Type} {enc : TypeId × Value → H} {W : World} {base : Nat} {spare : Nat → Bool} {held : Bool}

theorem open_ls {n : Nat} {v : Value} {y : DataW H × List MemPlace} (h : DataW.trod enc Tryz.prog W base spare held n 75 [v] = some y) : ∃ (a : Option Addr) (m q : Nat) (zs : List Int), v = .slice a m q ∧ Nm W a m zs := by
  rcases open_ints Tryz.underlying75 Tryz.underlying3 (by kernel_rfl) h with ⟨hcs, _⟩ | ⟨x, len, cap, ss, hcs, _, hl, hm, hz, _, hcell, hws⟩
  · simp at hcs
    exact ⟨none, 0, 0, [], hcs, Nm.nil W⟩
  · simp at hcs
    have hle : len ≤ ss.length := by rw [hz]; split <;> omega
    obtain ⟨b, off, spot⟩ := x
    refine ⟨some ⟨b, off, spot⟩, len, cap, ss.take len, hcs, by rw [List.length_take]; omega, by omega, fun hp => ?_⟩
    have hspot : spot = none := by simpa [Addr.add] using World.cell?_spot (hcell 0 (by omega))
    subst hspot
    refine ⟨b, off, rfl, fun j hj => ?_⟩
    rw [List.length_take] at hj
    have h0 := hcell j (by omega)
    rw [Addr.add_lit] at h0
    rw [h0, List.getElem_take]
    simp [List.getD, List.getElem?_eq_getElem (show j < ss.length by omega)]

end

end Go.Proofs.YtigomhilcnnjdaaGreat.Edi
