/- Part 32 of the proof: EditOpen. -/
import Derived.Test.YticiihjkgiookaaGreatB26
import Derived.Test.YticiihjkgiookaaGreatB31
import Derived.Deep.Slices
import Derived.SizedLaws

/- An edit that came in, opened. -/
namespace Go.Proofs.YticiihjkgiookaaGreat.Edi
open Go.ChangeShapes Go.WideShapes Go.ChangeAt Go.RowKit Go.Proofs.YticiihjkgiookaaGreat

section
variable {H : Type} {enc : TypeId × Value → H} {W : World} {base : Nat} {spare : Nat → Bool} {held : Bool}

theorem open_ls {n : Nat} {v : Value} {y : DataW H × List MemPlace} (h : DataW.trod enc Tryz.prog W base spare held n 40 [v] = some y) : ∃ (a : Option Addr) (m q : Nat) (zs : List Int), v = .slice a m q ∧ Nm W a m zs := by
  rcases open_ints Tryz.underlying40 Tryz.underlying3 (by kernel_rfl) h with ⟨hcs, _⟩ | ⟨x, len, cap, ss, hcs, _, hl, hm, hz, _, hcell, hws⟩
  · simp at hcs
    exact ⟨none, 0, 0, [], hcs, Nm.nil W⟩
  · simp at hcs
    have hle : len ≤ ss.length := by rw [hz]; split <;> omega
    obtain ⟨b, off, spot⟩ := x
    refine ⟨some ⟨b, off, spot⟩, len, cap, ss.take len, hcs, by rw [List.length_take]; omega, by omega, fun hp => ?_⟩
    have hspot : spot = none := by simpa [Addr.add] using World.cell?_spot (hcell 0 (by omega))
    subst hspot
    refine ⟨b, off, rfl, fun j hj => ?_⟩
    rw [List.length_take] at hj
    have h0 := hcell j (by omega)
    rw [Addr.add_lit] at h0
    rw [h0, List.getElem_take]
    simp [List.getD, List.getElem?_eq_getElem (show j < ss.length by omega)]

set_option maxRecDepth 100000 in
theorem open_ed {n : Nat} {cs : List Value} {y : DataW H × List MemPlace} (h : DataW.trod enc Tryz.prog W base spare held n 42 cs = some y) : ∃ (e : Ed) (a : Option Addr) (m q : Nat), cs = [.int .i64 e.k, .string e.p, .string e.t, .int .i64 e.c, .int .i64 e.l, .int .i64 e.n, .slice a m q] ∧ Nm W a m e.ls := by
  have c7 : Tryz.prog.cellsOf 42 = 7 := by kernel_rfl
  have ci : Tryz.prog.cellsOf 3 = 1 := by kernel_rfl
  have cs1 : Tryz.prog.cellsOf 9 = 1 := by kernel_rfl
  have cl : Tryz.prog.cellsOf 40 = 1 := by kernel_rfl
  obtain ⟨xs, k, hk, hxy, hl, hxl, hfld⟩ := DataW.trod_struct Tryz.underlying42 h
  rw [c7] at hl
  have hx7 : xs.length = 7 := hxl
  match cs, hl with
  | [v0, v1, v2, v3, v4, v5, v6], _ =>
    have g0 : DataW.trod enc Tryz.prog W base spare held k 3 (([v0, v1, v2, v3, v4, v5, v6].drop 0).take (Tryz.prog.cellsOf 3)) = xs[0]? := hfld 0 _ rfl
    have g1 : DataW.trod enc Tryz.prog W base spare held k 9 (([v0, v1, v2, v3, v4, v5, v6].drop 1).take (Tryz.prog.cellsOf 9)) = xs[1]? := hfld 1 _ rfl
    have g2 : DataW.trod enc Tryz.prog W base spare held k 9 (([v0, v1, v2, v3, v4, v5, v6].drop 2).take (Tryz.prog.cellsOf 9)) = xs[2]? := hfld 2 _ rfl
    have g3 : DataW.trod enc Tryz.prog W base spare held k 3 (([v0, v1, v2, v3, v4, v5, v6].drop 3).take (Tryz.prog.cellsOf 3)) = xs[3]? := hfld 3 _ rfl
    have g4 : DataW.trod enc Tryz.prog W base spare held k 3 (([v0, v1, v2, v3, v4, v5, v6].drop 4).take (Tryz.prog.cellsOf 3)) = xs[4]? := hfld 4 _ rfl
    have g5 : DataW.trod enc Tryz.prog W base spare held k 3 (([v0, v1, v2, v3, v4, v5, v6].drop 5).take (Tryz.prog.cellsOf 3)) = xs[5]? := hfld 5 _ rfl
    have g6 : DataW.trod enc Tryz.prog W base spare held k 40 (([v0, v1, v2, v3, v4, v5, v6].drop 6).take (Tryz.prog.cellsOf 40)) = xs[6]? := hfld 6 _ rfl
    rw [ci, List.getElem?_eq_getElem (by omega)] at g0 g3 g4 g5
    rw [cs1, List.getElem?_eq_getElem (by omega)] at g1 g2
    rw [cl, List.getElem?_eq_getElem (by omega)] at g6
    change DataW.trod enc Tryz.prog W base spare held k 3 [v0] = some _ at g0
    change DataW.trod enc Tryz.prog W base spare held k 9 [v1] = some _ at g1
    change DataW.trod enc Tryz.prog W base spare held k 9 [v2] = some _ at g2
    change DataW.trod enc Tryz.prog W base spare held k 3 [v3] = some _ at g3
    change DataW.trod enc Tryz.prog W base spare held k 3 [v4] = some _ at g4
    change DataW.trod enc Tryz.prog W base spare held k 3 [v5] = some _ at g5
    change DataW.trod enc Tryz.prog W base spare held k 40 [v6] = some _ at g6
    obtain ⟨i0, e0, _, _⟩ := DataW.trod_int Tryz.underlying3 g0
    obtain ⟨i1, e1, _, _⟩ := DataW.trod_string Tryz.underlying9 g1
    obtain ⟨i2, e2, _, _⟩ := DataW.trod_string Tryz.underlying9 g2
    obtain ⟨i3, e3, _, _⟩ := DataW.trod_int Tryz.underlying3 g3
    obtain ⟨i4, e4, _, _⟩ := DataW.trod_int Tryz.underlying3 g4
    obtain ⟨i5, e5, _, _⟩ := DataW.trod_int Tryz.underlying3 g5
    obtain ⟨a, m, q, zs, e6, hN⟩ := open_ls g6
    simp at e0 e1 e2 e3 e4 e5
    subst e0 e1 e2 e3 e4 e5 e6
    exact ⟨⟨i0, i1, i2, i3, i4, i5, zs⟩, a, m, q, rfl, hN⟩

set_option maxRecDepth 100000 in
/-- An edit that came in. -/
theorem open_edit {v : Value} {d : DataW H} {ps : List MemPlace} {r : Reach} {b0 : Nat} (hval : Value.okWide Tryz.prog W r b0 42 v) (h : DataW.Trod enc Tryz.prog W base spare held 42 v d ps) : ∃ (e : Ed) (a : Option Addr) (m q : Nat), v = edV e a m q ∧ Nm W a m e.ls := by
  obtain ⟨cs, rfl, hsz⟩ := okWide_struct Tryz.underlying42 hval
  obtain ⟨fuel, hf⟩ := h
  obtain ⟨e, a, m, q, e1, h1⟩ := open_ed hf
  refine ⟨e, a, m, q, ?_, h1⟩
  have e' : cs.toList = [.int .i64 e.k, .string e.p, .string e.t, .int .i64 e.c, .int .i64 e.l, .int .i64 e.n, .slice a m q] := by simpa [Value.cells] using e1
  unfold edV
  congr 1
  apply Array.toList_inj.1
  rw [e']

end

end Go.Proofs.YticiihjkgiookaaGreat.Edi
