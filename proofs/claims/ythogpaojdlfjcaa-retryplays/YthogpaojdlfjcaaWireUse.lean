/- The contracts of wire's numbers, as they are used: by their value, and nothing that was there changed. -/
import Derived.Test.YthogpaojdlfjcaaWireTake
namespace Go.Proofs.Ythogpaojdlfjcaa.Wir
open Go.RowKit Go.Proofs.Ythogpaojdlfjcaa

theorem bel_trans {a b c : World} (h : Below a.heap.size a b) (k : Below b.heap.size b c) : Below a.heap.size a c := h.trans (k.mono h.size)
theorem bel_drewN (w : World) (n : Nat) : Below w.heap.size w (w.drewN n) := below_drewN (Below.refl _ _) n

theorem num_val (n : Int) (l : List UInt8) (w : World) (h0 : -9223372036854775808 ≤ n) (h1 : n ≤ 9223372036854775807) (hl : numB n = l) :
    Calls Try.prog 34 #[.int .i64 n] w fun e w' => e = .returned (.string ⟨l.toArray⟩) ∧ Below w.heap.size w w' := by
  subst hl; exact num_any n w h0 h1

end Go.Proofs.Ythogpaojdlfjcaa.Wir
