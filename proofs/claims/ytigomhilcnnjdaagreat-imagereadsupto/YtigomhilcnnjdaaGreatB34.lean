/- Part 34 of the proof: SpaceOpen. -/
import Derived.Test.YtigomhilcnnjdaaGreatB16
import Derived.Test.YtigomhilcnnjdaaGreatB33

/- A list of edits that came in, opened. -/
namespace Go.Proofs.YtigomhilcnnjdaaGreat.Spa
open Go.ChangeShapes Go.WideShapes Go.ChangeAt Go.RowKit Go.Proofs.YtigomhilcnnjdaaGreat
open Go.Proofs.YtigomhilcnnjdaaGreat.Edi (Ed Nm edV bel_cell)

/-- An edit, and where its lengths lie. -/
abbrev ER := Ed × RS
instance : Inhabited Ed := ⟨Edi.zeroE⟩
def edC (x : ER) : List Value := [.int .i64 x.1.k, .string x.1.p, .string x.1.t, .int .i64 x.1.c, .int .i64 x.1.l, .int .i64 x.1.n, .slice x.2.a x.2.n x.2.c]
theorem wideE : Wide edC 7 := ⟨fun _ => rfl, fun x u hu => by simp [edC] at hu; rcases hu with rfl | rfl | rfl | rfl | rfl | rfl | rfl <;> rfl⟩
structure EdOk (w : World) (x : ER) : Prop where
  nm : Nm w x.2.a x.2.n x.1.ls
  p : x.1.p.size ≤ maxLen
  t : x.1.t.size ≤ maxLen
theorem EdOk.below {w w' : World} {x : ER} (h : EdOk w x) (hb : Below w.heap.size w w') : EdOk w' x := ⟨h.nm.below hb, h.p, h.t⟩

/-- The edits ps lie in memory. -/
structure Eds (w : World) (a : Option Addr) (b off : Nat) (ps : List ER) : Prop where
  addr : 0 < ps.length → a = some ⟨b, off, none⟩
  len : ps.length ≤ maxLen
  cell : ∀ j (hj : j < ps.length) i v, (edC ps[j])[i]? = some v → w.cell? ⟨b, off + j * 7 + i, none⟩ = some v
  ok : ∀ x ∈ ps, EdOk w x
theorem Eds.below {w w' : World} {a : Option Addr} {b off : Nat} {ps : List ER} (h : Eds w a b off ps) (hb : Below w.heap.size w w') : Eds w' a b off ps :=
  ⟨h.addr, h.len, fun j hj i v hv => bel_cell hb (h.cell j hj i v hv), fun x hx => (h.ok x hx).below hb⟩
structure EdC (w : World) (b o : Nat) (x : ER) : Prop where
  c0 : w.cell? ⟨b, o, none⟩ = some (.int .i64 x.1.k)
  c1 : w.cell? ⟨b, o + 1, none⟩ = some (.string x.1.p)
  c2 : w.cell? ⟨b, o + 2, none⟩ = some (.string x.1.t)
  c3 : w.cell? ⟨b, o + 3, none⟩ = some (.int .i64 x.1.c)
  c4 : w.cell? ⟨b, o + 4, none⟩ = some (.int .i64 x.1.l)
  c5 : w.cell? ⟨b, o + 5, none⟩ = some (.int .i64 x.1.n)
  c6 : w.cell? ⟨b, o + 6, none⟩ = some (.slice x.2.a x.2.n x.2.c)
theorem EdC.below {w w' : World} {b o : Nat} {x : ER} (h : EdC w b o x) (hb : Below w.heap.size w w') : EdC w' b o x :=
  ⟨bel_cell hb h.c0, bel_cell hb h.c1, bel_cell hb h.c2, bel_cell hb h.c3, bel_cell hb h.c4, bel_cell hb h.c5, bel_cell hb h.c6⟩
theorem Eds.at {w : World} {a : Option Addr} {b off : Nat} {ps : List ER} (h : Eds w a b off ps) {j : Nat} (hj : j < ps.length) : EdC w b (off + j * 7) ps[j] :=
  ⟨h.cell j hj 0 _ rfl, h.cell j hj 1 _ rfl, h.cell j hj 2 _ rfl, h.cell j hj 3 _ rfl, h.cell j hj 4 _ rfl, h.cell j hj 5 _ rfl, h.cell j hj 6 _ rfl⟩

section
variable {H : Type} {enc : TypeId × Value → H} {W : World} {base : Nat} {spare : Nat → Bool} {held : Bool}

end

end Go.Proofs.YtigomhilcnnjdaaGreat.Spa
