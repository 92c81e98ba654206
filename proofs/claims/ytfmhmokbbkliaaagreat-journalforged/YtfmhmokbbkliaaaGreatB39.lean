/- Part 39 of the proof: LogY3. -/
import Derived.Test.YtfmhmokbbkliaaaGreatB18
import Derived.Test.YtfmhmokbbkliaaaGreatB26
import Derived.BigRegion
import Derived.Deep.Cut

/- law14.disks: two disks that are the same. -/
namespace Go.Proofs.YtfmhmokbbkliaaaGreat.Lgg
open Go.RowKit Go.Proofs.YtfmhmokbbkliaaaGreat
set_option linter.unusedVariables false

section
variable {w0 w : World} {pf : Option Nat} {B : Option Obj} {pd px : Nat} {ds : DS}
theorem d_list (h : Half w0 pf B w pd px ds ds) (L : Nat) (hL : (listN ds).length = L) :
    Calls Tryz.prog 73 #[.pointer (some ⟨pd, 0, none⟩)] w fun e w' => ∃ a c b, e = .returned (.slice a L c) ∧ (0 < L → a = some ⟨b, 0, none⟩) ∧ (∀ j (hj : j < ((listN ds).map ba).length), w'.cell? ⟨b, j, none⟩ = some (.string ((listN ds).map ba)[j])) ∧ Below w.heap.size w w' := by
  obtain ⟨O1, O2, h1, ⟨a, c, g, h2⟩, hf, h3, h4, h5, h6, hp⟩ := h.out
  refine (list_val h1).mono fun e w' ⟨v, e1, e2, _, e3⟩ => ?_
  obtain ⟨_, a, c, b, hv, hb, hcell⟩ := own_names e2
  refine ⟨a, c, b, by rw [e1, hv, hL], fun hp => (hb (by omega)).1, fun j hj => ?_, e3⟩
  have hj2 : j < (listN ds).length := by simpa using hj
  rw [hcell j hj2]
  simp [ba]
theorem d_readB (h : Half w0 pf B w pd px ds ds) (s : ByteArray) (hs : s.size ≤ maxLen) (t : ByteArray) (q : Int) (ht : rdT ds s.data.toList = t) (hq : rdE ds s.data.toList = q) :
    Calls Tryz.prog 77 #[.pointer (some ⟨pd, 0, none⟩), .string s] w fun e w' => e = .returned (.tuple #[.string t, .int .i64 q]) ∧ Below w.heap.size w w' := by
  obtain ⟨O1, O2, h1, ⟨a, c, g, h2⟩, hf, h3, h4, h5, h6, hp⟩ := h.out
  exact read_val h1 s hs t q ht hq

end

end Go.Proofs.YtfmhmokbbkliaaaGreat.Lgg
