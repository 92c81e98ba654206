/- Entries, an entry that came in, opened. -/
import Derived.Test.YtapnjgmihfmapaaLogW
namespace Go.Proofs.Ytapnjgmihfmapaa.Jrn
open Go.ChangeShapes Go.WideShapes Go.ChangeAt Go.RowKit Go.Proofs.Ytapnjgmihfmapaa Go.Proofs.Ytapnjgmihfmapaa.Lgg
set_option linter.unusedVariables false

section
variable {H : Type} {enc : TypeId × Value → H} {W : World} {base : Nat} {spare : Nat → Bool} {held : Bool}

set_option maxRecDepth 100000 in
theorem open_enB {n : Nat} {cs : List Value} {y : DataW H × List MemPlace} (h : DataW.trod enc Try.prog W base spare held n 28 cs = some y) : ∃ x : En, cs = enC x ∧ x.d.size ≤ maxLen ∧ -9223372036854775808 ≤ x.tx ∧ x.tx ≤ 9223372036854775807 := by
  have c2 : Try.prog.cellsOf 28 = 2 := by kernel_rfl
  have ci : Try.prog.cellsOf 3 = 1 := by kernel_rfl
  have cs1 : Try.prog.cellsOf 9 = 1 := by kernel_rfl
  obtain ⟨xs, k, hk, hxy, hl, hxl, hfld⟩ := DataW.trod_struct Try.underlying28 h
  rw [c2] at hl
  have hx2 : xs.length = 2 := hxl
  match cs, hl with
  | [v0, v1], _ =>
    have g0 : DataW.trod enc Try.prog W base spare held k 3 (([v0, v1].drop 0).take (Try.prog.cellsOf 3)) = xs[0]? := hfld 0 _ rfl
    have g1 : DataW.trod enc Try.prog W base spare held k 9 (([v0, v1].drop 1).take (Try.prog.cellsOf 9)) = xs[1]? := hfld 1 _ rfl
    rw [ci, List.getElem?_eq_getElem (by omega)] at g0
    rw [cs1, List.getElem?_eq_getElem (by omega)] at g1
    change DataW.trod enc Try.prog W base spare held k 3 [v0] = some _ at g0
    change DataW.trod enc Try.prog W base spare held k 9 [v1] = some _ at g1
    obtain ⟨i0, e0, _, w0⟩ := DataW.trod_int Try.underlying3 g0
    obtain ⟨s1, e1, _, w1⟩ := DataW.trod_string Try.underlying9 g1
    simp at e0 e1
    subst e0 e1
    exact ⟨⟨i0, s1⟩, rfl, w1, (bounds_i64 w0).1, (bounds_i64 w0).2⟩
set_option maxRecDepth 100000 in
theorem open_ensT {n : Nat} {v : Value} {y : DataW H × List MemPlace} (h : DataW.trod enc Try.prog W base spare held n 24 [v] = some y) : ∃ (a : Option Addr) (m c : Nat) (es : List En), v = .slice a m c ∧ es.length = m ∧ LgIn W a es := by
  obtain ⟨a, m, c, es, e1, hm, hL, hQ, _⟩ := open_rows (Q := fun x : En => x.d.size ≤ maxLen) (R := fun _ => True) wideN (by omega) Try.underlying24 (by kernel_rfl) (B := 24) (by kernel_rfl) (fun n cs y h => by obtain ⟨x, e, k⟩ := open_en h; exact ⟨x, e, k, fun _ => trivial⟩) h
  exact ⟨a, m, c, es, e1, hm, hL, hQ⟩

theorem open_ens {a : Option Addr} {len cap : Nat} {d : DataW H} {ps : List MemPlace} (h : DataW.Trod enc Try.prog W base spare held 24 (.slice a len cap) d ps) : ∃ es : List En, es.length = len ∧ LgIn W a es := by
  obtain ⟨fuel, hf⟩ := h
  obtain ⟨a', m, c, es, e, hm, hL⟩ := open_ensT hf
  simp only [Value.slice.injEq] at e
  obtain ⟨rfl, rfl, rfl⟩ := e
  exact ⟨es, hm, hL⟩
set_option maxRecDepth 100000 in
theorem open_entry {v : Value} {d : DataW H} {ps : List MemPlace} {r : Reach} {b0 : Nat} (hval : Value.okWide Try.prog W r b0 28 v) (h : DataW.Trod enc Try.prog W base spare held 28 v d ps) : ∃ x : En, v = .agg #[.int .i64 x.tx, .string x.d] ∧ x.d.size ≤ maxLen ∧ -9223372036854775808 ≤ x.tx ∧ x.tx ≤ 9223372036854775807 := by
  obtain ⟨cs, rfl, hsz⟩ := okWide_struct Try.underlying28 hval
  obtain ⟨fuel, hf⟩ := h
  have c2 : Try.prog.cellsOf 28 = 2 := by kernel_rfl
  rw [c2] at hsz
  match cs, hsz with
  | ⟨[v0, v1]⟩, _ =>
    have hf2 : DataW.trod enc Try.prog W base spare held fuel 28 [v0, v1] = some (d, ps) := hf
    obtain ⟨x, e, k⟩ := open_enB hf2
    simp [enC] at e
    obtain ⟨rfl, rfl⟩ := e
    exact ⟨x, rfl, k⟩
end

end Go.Proofs.Ytapnjgmihfmapaa.Jrn
