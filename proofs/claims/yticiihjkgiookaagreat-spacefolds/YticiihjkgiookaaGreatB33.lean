/- Part 33 of the proof: SpaceOpen. -/
import Derived.Test.YticiihjkgiookaaGreatB17
import Derived.Test.YticiihjkgiookaaGreatB32

/- A list of edits that came in, opened. -/
namespace Go.Proofs.YticiihjkgiookaaGreat.Spa
open Go.ChangeShapes Go.WideShapes Go.ChangeAt Go.RowKit Go.Proofs.YticiihjkgiookaaGreat
open Go.Proofs.YticiihjkgiookaaGreat.Edi (Ed Nm edV bel_cell)

/-- An edit, and where its lengths lie. -/
abbrev ER := Ed × RS
instance : Inhabited Ed := ⟨Edi.zeroE⟩
def edC (x : ER) : List Value := [.int .i64 x.1.k, .string x.1.p, .string x.1.t, .int .i64 x.1.c, .int .i64 x.1.l, .int .i64 x.1.n, .slice x.2.a x.2.n x.2.c]
theorem wideE : Wide edC 7 := ⟨fun _ => rfl, fun x u hu => by simp [edC] at hu; rcases hu with rfl | rfl | rfl | rfl | rfl | rfl | rfl <;> rfl⟩
structure EdOk (w : World) (x : ER) : Prop where
  nm : Nm w x.2.a x.2.n x.1.ls
  p : x.1.p.size ≤ maxLen
  t : x.1.t.size ≤ maxLen
theorem EdOk.below {w w' : World} {x : ER} (h : EdOk w x) (hb : Below w.heap.size w w') : EdOk w' x := ⟨h.nm.below hb, h.p, h.t⟩

/-- The edits ps lie in memory. -/
structure Eds (w : World) (a : Option Addr) (b off : Nat) (ps : List ER) : Prop where
  addr : 0 < ps.length → a = some ⟨b, off, none⟩
  len : ps.length ≤ maxLen
  cell : ∀ j (hj : j < ps.length) i v, (edC ps[j])[i]? = some v → w.cell? ⟨b, off + j * 7 + i, none⟩ = some v
  ok : ∀ x ∈ ps, EdOk w x
theorem Eds.below {w w' : World} {a : Option Addr} {b off : Nat} {ps : List ER} (h : Eds w a b off ps) (hb : Below w.heap.size w w') : Eds w' a b off ps :=
  ⟨h.addr, h.len, fun j hj i v hv => bel_cell hb (h.cell j hj i v hv), fun x hx => (h.ok x hx).below hb⟩
structure EdC (w : World) (b o : Nat) (x : ER) : Prop where
  c0 : w.cell? ⟨b, o, none⟩ = some (.int .i64 x.1.k)
  c1 : w.cell? ⟨b, o + 1, none⟩ = some (.string x.1.p)
  c2 : w.cell? ⟨b, o + 2, none⟩ = some (.string x.1.t)
  c3 : w.cell? ⟨b, o + 3, none⟩ = some (.int .i64 x.1.c)
  c4 : w.cell? ⟨b, o + 4, none⟩ = some (.int .i64 x.1.l)
  c5 : w.cell? ⟨b, o + 5, none⟩ = some (.int .i64 x.1.n)
  c6 : w.cell? ⟨b, o + 6, none⟩ = some (.slice x.2.a x.2.n x.2.c)
theorem EdC.below {w w' : World} {b o : Nat} {x : ER} (h : EdC w b o x) (hb : Below w.heap.size w w') : EdC w' b o x :=
  ⟨bel_cell hb h.c0, bel_cell hb h.c1, bel_cell hb h.c2, bel_cell hb h.c3, bel_cell hb h.c4, bel_cell hb h.c5, bel_cell hb h.c6⟩
theorem Eds.at {w : World} {a : Option Addr} {b off : Nat} {ps : List ER} (h : Eds w a b off ps) {j : Nat} (hj : j < ps.length) : EdC w b (off + j * 7) ps[j] :=
  ⟨h.cell j hj 0 _ rfl, h.cell j hj 1 _ rfl, h.cell j hj 2 _ rfl, h.cell j hj 3 _ rfl, h.cell j hj 4 _ rfl, h.cell j hj 5 _ rfl, h.cell j hj 6 _ rfl⟩

section
variable {H : Type} {enc : TypeId × Value → H} {W : World} {base : Nat} {spare : Nat → Bool} {held : Bool}

set_option maxRecDepth 100000 in
theorem open_edR {n : Nat} {cs : List Value} {y : DataW H × List MemPlace} (h : DataW.trod enc Tryz.prog W base spare held n 42 cs = some y) : ∃ x : ER, cs = edC x ∧ EdOk W x := by
  have c7 : Tryz.prog.cellsOf 42 = 7 := by kernel_rfl
  have ci : Tryz.prog.cellsOf 3 = 1 := by kernel_rfl
  have cs1 : Tryz.prog.cellsOf 9 = 1 := by kernel_rfl
  have cl : Tryz.prog.cellsOf 40 = 1 := by kernel_rfl
  obtain ⟨xs, k, hk, hxy, hl, hxl, hfld⟩ := DataW.trod_struct Tryz.underlying42 h
  rw [c7] at hl
  have hx7 : xs.length = 7 := hxl
  match cs, hl with
  | [v0, v1, v2, v3, v4, v5, v6], _ =>
    have g0 : DataW.trod enc Tryz.prog W base spare held k 3 (([v0, v1, v2, v3, v4, v5, v6].drop 0).take (Tryz.prog.cellsOf 3)) = xs[0]? := hfld 0 _ rfl
    have g1 : DataW.trod enc Tryz.prog W base spare held k 9 (([v0, v1, v2, v3, v4, v5, v6].drop 1).take (Tryz.prog.cellsOf 9)) = xs[1]? := hfld 1 _ rfl
    have g2 : DataW.trod enc Tryz.prog W base spare held k 9 (([v0, v1, v2, v3, v4, v5, v6].drop 2).take (Tryz.prog.cellsOf 9)) = xs[2]? := hfld 2 _ rfl
    have g3 : DataW.trod enc Tryz.prog W base spare held k 3 (([v0, v1, v2, v3, v4, v5, v6].drop 3).take (Tryz.prog.cellsOf 3)) = xs[3]? := hfld 3 _ rfl
    have g4 : DataW.trod enc Tryz.prog W base spare held k 3 (([v0, v1, v2, v3, v4, v5, v6].drop 4).take (Tryz.prog.cellsOf 3)) = xs[4]? := hfld 4 _ rfl
    have g5 : DataW.trod enc Tryz.prog W base spare held k 3 (([v0, v1, v2, v3, v4, v5, v6].drop 5).take (Tryz.prog.cellsOf 3)) = xs[5]? := hfld 5 _ rfl
    have g6 : DataW.trod enc Tryz.prog W base spare held k 40 (([v0, v1, v2, v3, v4, v5, v6].drop 6).take (Tryz.prog.cellsOf 40)) = xs[6]? := hfld 6 _ rfl
    rw [ci, List.getElem?_eq_getElem (by omega)] at g0 g3 g4 g5
    rw [cs1, List.getElem?_eq_getElem (by omega)] at g1 g2
    rw [cl, List.getElem?_eq_getElem (by omega)] at g6
    change DataW.trod enc Tryz.prog W base spare held k 3 [v0] = some _ at g0
    change DataW.trod enc Tryz.prog W base spare held k 9 [v1] = some _ at g1
    change DataW.trod enc Tryz.prog W base spare held k 9 [v2] = some _ at g2
    change DataW.trod enc Tryz.prog W base spare held k 3 [v3] = some _ at g3
    change DataW.trod enc Tryz.prog W base spare held k 3 [v4] = some _ at g4
    change DataW.trod enc Tryz.prog W base spare held k 3 [v5] = some _ at g5
    change DataW.trod enc Tryz.prog W base spare held k 40 [v6] = some _ at g6
    obtain ⟨i0, e0, _, _⟩ := DataW.trod_int Tryz.underlying3 g0
    obtain ⟨i1, e1, _, w1⟩ := DataW.trod_string Tryz.underlying9 g1
    obtain ⟨i2, e2, _, w2⟩ := DataW.trod_string Tryz.underlying9 g2
    obtain ⟨i3, e3, _, _⟩ := DataW.trod_int Tryz.underlying3 g3
    obtain ⟨i4, e4, _, _⟩ := DataW.trod_int Tryz.underlying3 g4
    obtain ⟨i5, e5, _, _⟩ := DataW.trod_int Tryz.underlying3 g5
    obtain ⟨a, m, q, zs, e6, hN⟩ := Edi.open_ls g6
    simp at e0 e1 e2 e3 e4 e5
    subst e0 e1 e2 e3 e4 e5 e6
    exact ⟨(⟨i0, i1, i2, i3, i4, i5, zs⟩, ⟨a, m, q⟩), rfl, hN, w1, w2⟩

set_option maxRecDepth 100000 in
/-- A list of edits that came in. -/
theorem open_edits {a : Option Addr} {len cap : Nat} {d : DataW H} {ps : List MemPlace} (h : DataW.Trod enc Tryz.prog W base spare held 22 (.slice a len cap) d ps) : ∃ (b off : Nat) (qs : List ER), len = qs.length ∧ Eds W a b off qs ∧ len ≤ cap := by
  have c7 : Tryz.prog.cellsOf 42 = 7 := by kernel_rfl
  obtain ⟨fuel, hf⟩ := h
  rcases Go.Deep.open_slice Tryz.underlying22 hf with ⟨hcs, _⟩ | ⟨x, l, c, m, k, D, Pl, hcs, hb, hl, hm, hmm, hd, hx⟩
  · simp [Value.cells] at hcs
    obtain ⟨rfl, rfl, rfl⟩ := hcs
    exact ⟨0, 0, [], rfl, ⟨fun h => absurd h (by simp), by simp, fun j hj => absurd hj (by simp), fun x hx => (by cases hx)⟩, Nat.le_refl _⟩
  · simp [Value.cells] at hcs
    obtain ⟨rfl, rfl, rfl⟩ := hcs
    have hlm : len ≤ m := by rw [hmm]; split <;> omega
    rw [c7] at hx
    obtain ⟨b, off, spot⟩ := x
    have each : ∀ j, j < m → ∃ x : ER, (∀ i v, (edC x)[i]? = some v → W.cell? (((⟨b, off, spot⟩ : Addr).add (j * 7)).add i) = some v) ∧ EdOk W x := fun j hj => by
      obtain ⟨cs', h1, h2⟩ := hx j hj
      obtain ⟨_, hlen, hcell⟩ := World.cells?_some h1
      obtain ⟨x, rfl, k1⟩ := open_edR h2
      refine ⟨x, fun i v hv => ?_, k1⟩
      have hi : i < 7 := by have := (List.getElem?_eq_some_iff.1 hv).1; rwa [wideE.len] at this
      rw [hcell i hi]; exact hv
    obtain ⟨q, hq⟩ := Go.Deep.choose_lt each
    have hspot : 0 < len → spot = none := fun hp => by
      have h0 := (hq 0 (by omega)).1 0 _ rfl
      have := World.cell?_spot h0
      simpa [Addr.add] using this
    refine ⟨b, off, (List.range len).map q, by simp, ⟨fun hp => ?_, by simp; omega, fun j hj i v hv => ?_, fun x hx => ?_⟩, by omega⟩
    · rw [hspot (by simpa using hp)]
    · have hj' : j < len := by simpa using hj
      have e1 : ((List.range len).map q)[j] = q j := by simp
      rw [e1] at hv
      have h0 := (hq j (by omega)).1 i v hv
      rw [hspot (by omega), Addr.add_lit, Addr.add_lit] at h0
      exact h0
    · obtain ⟨j, hj, rfl⟩ := List.mem_map.1 hx
      exact (hq j (by have := List.mem_range.1 hj; omega)).2

end

end Go.Proofs.YticiihjkgiookaaGreat.Spa
