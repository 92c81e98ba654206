/- Blocks that are there already, and are kept, or written. -/
import Derived.Test.YthogpaojdlfjcaaRetryS
namespace Go.Proofs.Ythogpaojdlfjcaa.Rty
open Go.RowKit Go.Proofs.Ythogpaojdlfjcaa Go.Proofs.Ythogpaojdlfjcaa.Edi
set_option linter.unusedVariables false

theorem s_newL {w0 w : World} (L : List (Nat × List Value)) (hb : Below w0.heap.size w0 w) (hL : ∀ q ∈ L, w0.heap.size ≤ q.1 ∧ Cells w q.1 q.2) : Calls Try.prog 5 #[] w fun e w' => e = .returned (.pointer (some ⟨w.heap.size + 1, 0, none⟩)) ∧ Sep w0 L w' (Cac (w.heap.size + 1) [] 0) Non :=
  (new_abs w).mono fun e w' ⟨e1, e2, e3⟩ => ⟨e1, _, fun _ => False, ⟨0, Nat.le_refl _, e2⟩, trivial, fun _ _ e => e, fun k hk => ⟨by have := hb.size; omega, e2.lt k hk⟩, fun _ e => e.elim, bel_tr hb e3, fun q hq => ⟨fun e => by have := (hL q hq).2.lt; omega, fun e => e.elim, (hL q hq).1, (hL q hq).2.below e3⟩⟩

/-- A cell of a kept block is written. -/
theorem Sep.setL {w0 w : World} {L : List (Nat × List Value)} {A1 A2 : Thing} {b i : Nat} {vs : List Value} {v : Value} (h : Sep w0 ((b, vs) :: L) w A1 A2) (s1 : St A1) (s2 : St A2) (hi : i < vs.length) (hb : ∀ q ∈ L, q.1 ≠ b) : Sep w0 ((b, vs.set i v) :: L) (w.setCell ⟨b, i, none⟩ v) A1 A2 := by
  obtain ⟨O1, O2, h1, h2, h3, h4, h5, h6, h7⟩ := h.out
  have hB := h7 (b, vs) (List.mem_cons_self ..)
  have hs : Stay (fun k => k = b) w (w.setCell ⟨b, i, none⟩ v) := Stay.setCell w ⟨b, i, none⟩ v rfl
  refine ⟨O1, O2, s1 _ _ _ _ h1 hs (fun k hk e => hB.1 (e ▸ hk)), s2 _ _ _ _ h2 hs (fun k hk e => hB.2.1 (e ▸ hk)), h3, fun k hk => ⟨(h4 k hk).1, Nat.lt_of_lt_of_le (h4 k hk).2 hs.size⟩, fun k hk => ⟨(h5 k hk).1, Nat.lt_of_lt_of_le (h5 k hk).2 hs.size⟩, h6.trans (hs.below h6.size (fun k hk => hk ▸ hB.2.2.1)), fun q hq => ?_⟩
  rcases List.mem_cons.1 hq with rfl | hq
  · exact ⟨hB.1, hB.2.1, hB.2.2.1, hB.2.2.2.set i v hi⟩
  · obtain ⟨a, b', c, d⟩ := h7 q (List.mem_cons_of_mem _ hq)
    exact ⟨a, b', c, d.stay hs (hb q hq)⟩

end Go.Proofs.Ythogpaojdlfjcaa.Rty
