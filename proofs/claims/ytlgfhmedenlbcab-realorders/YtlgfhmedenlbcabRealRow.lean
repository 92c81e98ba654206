/- Slices of fractions: read, owned, opened. -/
import Derived.Test.YtlgfhmedenlbcabRealFn
import Derived.ProofKit
import Derived.OpenShut
import Derived.ShutString
import Derived.ChangeOld
import Derived.Below
import Derived.SizedLaws
import Derived.ChangeSlices
namespace Go.Proofs.Ytlgfhmedenlbcab
open Go.ChangeShapes Go.WideShapes Go.ChangeAt Go.RowKit

/-- A slice of fractions that lies in memory: their bits xs. -/
structure Flts (w : World) (a : Option Addr) (b off : Nat) (xs : List Nat) : Prop where
  addr : 0 < xs.length → a = some ⟨b, off, none⟩
  cell : ∀ j (hj : j < xs.length), w.cell? ⟨b, off + j, none⟩ = some (.float .f64 xs[j])
theorem Flts.lt {w : World} {a : Option Addr} {b off : Nat} {xs : List Nat} (h : Flts w a b off xs) (hp : 0 < xs.length) : b < w.heap.size :=
  World.block_lt_of_cell? _ _ (h.cell 0 hp)
theorem Flts.below {w w' : World} {a : Option Addr} {b off : Nat} {xs : List Nat} (h : Flts w a b off xs) (hb : Below w.heap.size w w') : Flts w' a b off xs :=
  ⟨h.addr, fun j hj => (hb.cell (p := ⟨b, off + j, none⟩) (h.lt (by omega))).trans (h.cell j hj)⟩
theorem Flts.take {w : World} {a : Option Addr} {b off : Nat} {xs : List Nat} (h : Flts w a b off xs) (n : Nat) : Flts w a b off (xs.take n) :=
  ⟨fun hp => h.addr (by rw [List.length_take] at hp; omega), fun j hj => by rw [List.length_take] at hj; rw [List.getElem_take]; exact h.cell j (by omega)⟩

def fltCells (xs : List Nat) : List Value := xs.map (.float .f64)
theorem fltCells_len (xs : List Nat) : (fltCells xs).length = xs.length := by simp [fltCells]
theorem fltCells_set (xs : List Nat) (j z : Nat) : (fltCells xs).set j (.float .f64 z) = fltCells (xs.set j z) := by simp [fltCells, List.map_set]
theorem fltCells_snoc (xs : List Nat) (z : Nat) : fltCells xs ++ [.float .f64 z] = fltCells (xs ++ [z]) := by simp [fltCells]
theorem fltCells_app (xs ys : List Nat) : fltCells xs ++ fltCells ys = fltCells (xs ++ ys) := by simp [fltCells]
theorem madeFlts (n : Nat) : (madeCells (Value.float .f64 0).cells (n * 1)).toList = fltCells (List.replicate n 0) := by
  rw [Nat.mul_one]
  show (madeCells #[Value.float .f64 0] n).toList = _
  rw [toList_madeCells_one]; simp [fltCells]

theorem own_flts {w : World} {base : Nat} {e : TypeId} {v : Value} {n : Nat} {xs : List Nat} (h : w.ownsRow base e 1 v n (fltCells xs)) :
    n = xs.length ∧ ∃ a cap b, v = .slice a xs.length cap ∧ Flts w a b 0 xs ∧ (0 < xs.length → base ≤ b) := by
  have hlen := h.1
  rw [fltCells_len] at hlen
  have hl : n = xs.length := by omega
  subst hl
  refine ⟨rfl, ?_⟩
  rcases h.2 with ⟨rfl, h0⟩ | ⟨g, cap, cur, rfl, hb, _⟩
  · refine ⟨none, 0, 0, by rw [h0], ⟨fun hp => by omega, fun j hj => by omega⟩, fun hp => by omega⟩
  · refine ⟨some ⟨g, 0, none⟩, cap, g, rfl, ⟨fun _ => rfl, fun j hj => ?_⟩, fun _ => hb⟩
    have := h.cells (g := g) rfl j (.float .f64 xs[j]) (by simp [fltCells, hj])
    rw [Addr.add_lit] at this
    exact this

theorem own_belowF {w w' : World} {base : Nat} {e : TypeId} {v : Value} {n size : Nat} {xs : List Value} (h : w.ownsRow base e size v n xs) (hb : Below w.heap.size w w') : w'.ownsRow base e size v n xs := by
  refine ⟨h.1, ?_⟩
  rcases h.2 with h0 | ⟨g, cap, cur, h1, h2, h3, h4⟩
  · exact .inl h0
  · have hg : g < w.heap.size := (Array.getElem?_eq_some_iff.1 h3).1
    exact .inr ⟨g, cap, cur, h1, h2, (hb.block g hg).trans h3, h4⟩

theorem trod_float {H : Type} {enc : TypeId × Value → H} {P : Program} {w : World} {base : Nat} {spare : Nat → Bool} {held : Bool} {t : TypeId} {fuel : Nat} {cs : List Value} {x : DataW H × List MemPlace} {k : FloatKind} (ht : P.underlying t = some (.float k)) (h : DataW.trod enc P w base spare held fuel t cs = some x) : ∃ n, cs = [.float k n] ∧ (Lit.float k n).wf = true := by
  cases fuel with
  | zero => simp [DataW.trod] at h
  | succ n =>
    unfold DataW.trod at h
    rw [ht] at h
    split at h <;> simp_all

def bitsOf : Option Value → Nat
  | some (.float _ b) => b
  | _ => 0

theorem laidOutF : laidOutB Try.prog = true := by kernel_rfl

theorem open_flts {H : Type} {enc : TypeId × Value → H} {P : Program} {W : World} {base : Nat} {spare : Nat → Bool} {held : Bool} {t e : TypeId} {a : Option Addr} {len cap : Nat} {d : DataW H} {ps : List MemPlace} (ht : P.underlying t = some (.slice e)) (he : P.underlying e = some (.float .f64)) (hc : P.cellsOf e = 1)
    (h : DataW.Trod enc P W base spare held t (.slice a len cap) d ps) : ∃ (b off : Nat) (xs : List Nat), len = xs.length ∧ (Flts W a b off xs ∧ (xs.length ≤ maxLen ∧ xs.length ≤ cap) ∧ ∀ x ∈ xs, x < 18446744073709551616) := by
  obtain ⟨fuel, hf⟩ := h
  rcases DataW.trod_slice ht hf with ⟨hcs, _⟩ | ⟨x, l, c, elems, rest, n, _, hcs, _, hb, hl, hm, hlen, hel, _, _⟩
  · simp [Value.cells] at hcs
    obtain ⟨rfl, rfl, rfl⟩ := hcs
    exact ⟨0, 0, [], rfl, ⟨fun h => absurd h (by simp), fun j hj => absurd hj (by simp)⟩, by simp, by simp⟩
  · simp [Value.cells] at hcs
    obtain ⟨rfl, rfl, rfl⟩ := hcs
    have each : ∀ i, i < len → ∃ z, W.cell? (x.add i) = some (.float .f64 z) ∧ (Lit.float .f64 z).wf = true := by
      intro i hi
      have hy := hel i hi
      rw [List.getElem?_eq_getElem (by omega), hc, Nat.mul_one, Option.bind_eq_some_iff] at hy
      obtain ⟨cs', hcs, hy'⟩ := hy
      obtain ⟨z, rfl, hw⟩ := trod_float he hy'
      exact ⟨z, cell_of_cells?_one hcs, hw⟩
    obtain ⟨b, off, spot⟩ := x
    refine ⟨b, off, (List.range len).map (fun i => bitsOf (W.cell? (Addr.add ⟨b, off, spot⟩ i))), by simp, ⟨fun hp => ?_, fun j hj => ?_⟩, by simp; omega, fun z hz => ?_⟩
    · obtain ⟨z, h0, -⟩ := each 0 (by simpa using hp)
      have hspot : spot = none := by simpa [Addr.add] using World.cell?_spot h0
      rw [hspot]
    · simp at hj
      obtain ⟨z, h0, -⟩ := each j hj
      have hspot : spot = none := by
        obtain ⟨z0, h1, -⟩ := each 0 (by omega)
        simpa [Addr.add] using World.cell?_spot h1
      subst hspot
      simp only [List.getElem_map, List.getElem_range, h0]
      rw [Addr.add_lit] at h0
      exact h0
    · simp at hz
      obtain ⟨i, hi, rfl⟩ := hz
      obtain ⟨z, h0, hw⟩ := each i hi
      rw [h0]
      simpa [Lit.wf, bitsOf] using hw

end Go.Proofs.Ytlgfhmedenlbcab
