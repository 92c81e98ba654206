/- Part 49 of the proof: SpaceOpn. -/
import Derived.Test.YtcnflkjkgomnoaaGreatB27
import Derived.Test.YtcnflkjkgomnoaaGreatB29
import Derived.Test.YtcnflkjkgomnoaaGreatB47
import Derived.Test.YtcnflkjkgomnoaaGreatB48
import Derived.Deep.Slices
import Derived.SizedLaws
set_option maxRecDepth 100000
set_option maxHeartbeats 8000000
namespace Go.Proofs.YtcnflkjkgomnoaaGreat.Spa
open Go.ChangeShapes Go.WideShapes Go.ChangeAt Go.RowKit Go.Proofs.YtcnflkjkgomnoaaGreat
open Go.Proofs.YtcnflkjkgomnoaaGreat.Lea (LS Ls LL)
section
variable {H : Type} {enc : TypeId × Value → H} {W : World} {base : Nat} {spare : Nat → Bool} {held : Bool}
theorem open_sl {t e : TypeId} (ht : Tryz.prog.underlying t = some (.slice e)) {n : Nat} {v : Value} {y : DataW H × List MemPlace} (h : DataW.trod enc Tryz.prog W base spare held n t [v] = some y) : ∃ (a : Option Addr) (m q : Nat), v = .slice a m q ∧ (a = none → q = 0) := by
  rcases Go.Deep.open_slice ht h with ⟨hcs, _⟩ | ⟨x, len, cap, m, k, D, Pl, hcs, _⟩
  · simp at hcs
    exact ⟨none, 0, 0, hcs, fun _ => rfl⟩
  · simp at hcs
    exact ⟨some x, len, cap, hcs, fun e => by cases e⟩
theorem open_sp {n : Nat} {cs : List Value} {y : DataW H × List MemPlace} (h : DataW.trod enc Tryz.prog W base spare held n 27 cs = some y) : ∃ (s : Sp) (N L : RS), cs = [.int .i64 s.tx, .int .i64 s.nb, .int .i64 s.ng, .int .i64 s.now, .slice N.a N.n N.c, .slice L.a L.n L.c] ∧ SpIn W s N L := by
  have c6 : Tryz.prog.cellsOf 27 = 6 := by kernel_rfl
  have ci : Tryz.prog.cellsOf 3 = 1 := by kernel_rfl
  have cn : Tryz.prog.cellsOf 24 = 1 := by kernel_rfl
  have cl : Tryz.prog.cellsOf 25 = 1 := by kernel_rfl
  obtain ⟨xs, k, hk, hxy, hl, hxl, hfld⟩ := DataW.trod_struct Tryz.underlying27 h
  rw [c6] at hl
  have hx6 : xs.length = 6 := hxl
  match cs, hl with
  | [v0, v1, v2, v3, v4, v5], _ =>
    have g0 : DataW.trod enc Tryz.prog W base spare held k 3 (([v0, v1, v2, v3, v4, v5].drop 0).take (Tryz.prog.cellsOf 3)) = xs[0]? := hfld 0 _ rfl
    have g1 : DataW.trod enc Tryz.prog W base spare held k 3 (([v0, v1, v2, v3, v4, v5].drop 1).take (Tryz.prog.cellsOf 3)) = xs[1]? := hfld 1 _ rfl
    have g2 : DataW.trod enc Tryz.prog W base spare held k 3 (([v0, v1, v2, v3, v4, v5].drop 2).take (Tryz.prog.cellsOf 3)) = xs[2]? := hfld 2 _ rfl
    have g3 : DataW.trod enc Tryz.prog W base spare held k 3 (([v0, v1, v2, v3, v4, v5].drop 3).take (Tryz.prog.cellsOf 3)) = xs[3]? := hfld 3 _ rfl
    have g4 : DataW.trod enc Tryz.prog W base spare held k 24 (([v0, v1, v2, v3, v4, v5].drop 4).take (Tryz.prog.cellsOf 24)) = xs[4]? := hfld 4 _ rfl
    have g5 : DataW.trod enc Tryz.prog W base spare held k 25 (([v0, v1, v2, v3, v4, v5].drop 5).take (Tryz.prog.cellsOf 25)) = xs[5]? := hfld 5 _ rfl
    rw [ci, List.getElem?_eq_getElem (by omega)] at g0 g1 g2 g3
    rw [cn, List.getElem?_eq_getElem (by omega)] at g4
    rw [cl, List.getElem?_eq_getElem (by omega)] at g5
    change DataW.trod enc Tryz.prog W base spare held k 3 [v0] = some _ at g0
    change DataW.trod enc Tryz.prog W base spare held k 3 [v1] = some _ at g1
    change DataW.trod enc Tryz.prog W base spare held k 3 [v2] = some _ at g2
    change DataW.trod enc Tryz.prog W base spare held k 3 [v3] = some _ at g3
    change DataW.trod enc Tryz.prog W base spare held k 24 [v4] = some _ at g4
    change DataW.trod enc Tryz.prog W base spare held k 25 [v5] = some _ at g5
    obtain ⟨i0, e0, _, _⟩ := DataW.trod_int Tryz.underlying3 g0
    obtain ⟨i1, e1, _, _⟩ := DataW.trod_int Tryz.underlying3 g1
    obtain ⟨i2, e2, _, _⟩ := DataW.trod_int Tryz.underlying3 g2
    obtain ⟨i3, e3, _, _⟩ := DataW.trod_int Tryz.underlying3 g3
    obtain ⟨na, nn, nc, e4, hnil⟩ := open_sl Tryz.underlying24 g4
    obtain ⟨la, ln, lc, e5, _⟩ := open_sl Tryz.underlying25 g5
    simp at e0 e1 e2 e3
    subst e0 e1 e2 e3 e4 e5; obtain ⟨b, off, qs, hlen, hN, _⟩ := open_nodes (a := na) (len := nn) (cap := nc) (d := xs[4].1) (ps := xs[4].2) ⟨k, g4⟩
    obtain ⟨ys, hL, _⟩ := Lea.open_leases (a := la) (len := ln) (cap := lc) (d := xs[5].1) (ps := xs[5].2) ⟨k, g5⟩
    exact ⟨⟨i0, i1, i2, i3, qs.map (·.1), ys⟩, ⟨na, nn, nc⟩, ⟨la, ln, lc⟩, rfl, ⟨⟨b, off, qs, rfl, hlen.symm, hN⟩, hL, hnil⟩⟩
theorem open_space {v : Value} {d : DataW H} {ps : List MemPlace} {r : Reach} {b0 : Nat} (hval : Value.okWide Tryz.prog W r b0 27 v) (h : DataW.Trod enc Tryz.prog W base spare held 27 v d ps) : ∃ (s : Sp) (N L : RS), v = spV s N L ∧ SpIn W s N L := by
  obtain ⟨cs, rfl, hsz⟩ := okWide_struct Tryz.underlying27 hval
  obtain ⟨fuel, hf⟩ := h
  obtain ⟨s, N, L, e1, h1⟩ := open_sp hf
  refine ⟨s, N, L, ?_, h1⟩
  have e' : cs.toList = [.int .i64 s.tx, .int .i64 s.nb, .int .i64 s.ng, .int .i64 s.now, .slice N.a N.n N.c, .slice L.a L.n L.c] := by simpa [Value.cells] using e1
  unfold spV; congr 1
  apply Array.toList_inj.1
  rw [e']
end
end Go.Proofs.YtcnflkjkgomnoaaGreat.Spa
