/- A list of nodes that the call itself has laid, whose blocks are another's. -/
import Derived.Test.YtlfehfajaelmlaaQuotaL
import Derived.Test.YtlfehfajaelmlaaQuotaP
namespace Go.Proofs.Ytlfehfajaelmlaa
open Go.RowKit

theorem nl_of_cel {O : Nat → Prop} {w : World} {a : Option Addr} {n c : Nat} {ps : List NR} {g : Option Nat} (h : Cel O w 5 (.slice a n c) n (rowC ndC ps) g) (hn : ps.length = n) (hok : ∀ x ∈ ps, NdOk w x) (xs : NS) (hx : ps.map (·.1) = xs) : NL w a n xs := by
  obtain ⟨hc1, hc2, _⟩ := h.cap2
  have hl : xs.length = n := by rw [← hx, List.length_map, hn]
  by_cases h0 : n = 0
  · exact ⟨0, 0, ps, hx, hl, fun hp => by omega, by omega, fun j hj => by omega, hok⟩
  · obtain ⟨b, rfl, rfl⟩ := h.at2 (by omega)
    refine ⟨b, 0, ps, hx, hl, fun _ => rfl, by omega, fun j hj i v hv => ?_, hok⟩
    obtain ⟨b', e1, e2, e3⟩ := h.elem wideX hj hn
    cases e1
    rw [Nat.zero_add]; exact e3 i v hv

def unQ (x : NR) (q : Int) : NR := (setQ x.1 q, x.2)
theorem unQ_ok {w : World} {x : NR} (h : NdOk w x) (q : Int) : NdOk w (unQ x q) := ⟨h.small, h.bs⟩

end Go.Proofs.Ytlfehfajaelmlaa
