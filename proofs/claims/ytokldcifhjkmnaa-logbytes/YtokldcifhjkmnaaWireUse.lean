/- The contracts of wire's numbers, as they are used: by their value, and nothing that was there changed. -/
import Derived.Test.YtokldcifhjkmnaaWireTake
namespace Go.Proofs.Ytokldcifhjkmnaa.Wir
open Go.RowKit Go.Proofs.Ytokldcifhjkmnaa

theorem bel_trans {a b c : World} (h : Below a.heap.size a b) (k : Below b.heap.size b c) : Below a.heap.size a c := h.trans (k.mono h.size)
theorem bel_drewN (w : World) (n : Nat) : Below w.heap.size w (w.drewN n) := below_drewN (Below.refl _ _) n

theorem takeNum_bel (s : ByteArray) (w : World) (hs : s.size ≤ maxLen) :
    Calls Try.prog 77 #[.string s] w fun e w' => e = .returned (takeNumV s) ∧ Below w.heap.size w w' :=
  (takeNum_any s w hs).mono fun e w' h => ⟨h.1, by obtain ⟨n, hn⟩ := h.2; subst hn; exact bel_drewN _ _⟩

theorem takeNum_val (s : ByteArray) (V : Value) (w : World) (hs : s.size ≤ maxLen) (hV : takeNumV s = V) :
    Calls Try.prog 77 #[.string s] w fun e w' => e = .returned V ∧ Below w.heap.size w w' := by
  subst hV; exact takeNum_bel s w hs

theorem num_val (n : Int) (l : List UInt8) (w : World) (h0 : -9223372036854775808 ≤ n) (h1 : n ≤ 9223372036854775807) (hl : numB n = l) :
    Calls Try.prog 27 #[.int .i64 n] w fun e w' => e = .returned (.string ⟨l.toArray⟩) ∧ Below w.heap.size w w' := by
  subst hl; exact num_any n w h0 h1

end Go.Proofs.Ytokldcifhjkmnaa.Wir
