/- Part 37 of the proof: EditF3. -/
import Derived.Test.YtigomhilcnnjdaaGreatB17
import Derived.Deep.AppendSrc
import Derived.Laws.BytesArg
import Derived.Laws.IdiomStrings
import Derived.Lib.UnsafeStr

/- The contract of edit.numbers. -/
namespace Go.Proofs.YtigomhilcnnjdaaGreat.Edi
open Go.RowKit Go.Proofs.YtigomhilcnnjdaaGreat Go.Proofs.YtigomhilcnnjdaaGreat.Wir

/-! ### bytes of the call's own -/
structure BO (base : Nat) (w : World) (a : Option Addr) (n c : Nat) (l : List UInt8) (g : Option Nat) : Prop where
  cel : Cel (fun k => base ≤ k) w 1 (.slice a n c) n (Lib.byteCells l) g
  len : l.length = n

theorem BO.none (base : Nat) (w : World) : BO base w .none 0 0 [] .none := ⟨.nil rfl rfl rfl, rfl⟩
theorem BO.below {base : Nat} {w w' : World} {a : Option Addr} {n c : Nat} {l : List UInt8} {g : Option Nat} (h : BO base w a n c l g) (hb : Below w.heap.size w w') : BO base w' a n c l g := ⟨h.cel.below hb, h.len⟩
theorem BO.own {base : Nat} {w : World} {a : Option Addr} {n c : Nat} {l : List UInt8} {g : Option Nat} (h : BO base w a n c l g) : ∀ k, g = some k → k < w.heap.size ∧ base ≤ k := fun k hk => by
  have := h.cel; rw [hk] at this; exact this.lt
theorem bytes_cells (l : List UInt8) : byteCells ⟨l.toArray⟩ = Lib.byteCells l := by simp [byteCells, Lib.byteCells]
theorem BO.app {base : Nat} {w w' : World} {a a' : Option Addr} {n c m c' : Nat} {l x : List UInt8} {g g' : Option Nat} (h : BO base w a n c l g) (hm : x.length = m)
    (hC : Cel (Grow (fun k => base ≤ k) w w') w' 1 (.slice a' (n + m) c') (n + m) (Lib.byteCells l ++ byteCells ⟨x.toArray⟩) g') (hB : base ≤ w.heap.size) : BO base w' a' (n + m) c' (l ++ x) g' := by
  refine ⟨?_, by rw [List.length_append, h.len, hm]⟩
  have e : Lib.byteCells l ++ byteCells ⟨x.toArray⟩ = Lib.byteCells (l ++ x) := by rw [bytes_cells]; simp [Lib.byteCells]
  rw [e] at hC
  exact hC.stay (Nat.le_refl _) (fun _ _ => rfl) (fun k hk => hk.elim id (fun e => Nat.le_trans hB e.1))
theorem BO.appBelow {base : Nat} {w w' : World} {a : Option Addr} {n c : Nat} {l : List UInt8} {g : Option Nat} (h : BO base w a n c l g) (hS : Stay (fun k => g = some k) w w') (hB : base ≤ w.heap.size) : Below base w w' :=
  hS.below hB (fun k hk => (h.own k hk).2)
/-- 'string(b)'. -/
theorem BO.text {base : Nat} {w : World} {a : Option Addr} {n c : Nat} {l : List UInt8} {g : Option Nat} (h : BO base w a n c l g) : (convert 50 9 (.slice a n c)).run Tryz.prog w = .ok (.string ⟨l.toArray⟩) w := by
  have hl := h.len
  have hc := h.cel
  generalize hv : Value.slice a n c = v at *
  cases hc with
  | nil h1 h2 h3 =>
    rw [← hv] at h1 ⊢
    cases h1
    obtain rfl : l = [] := List.length_eq_zero_iff.1 hl
    exact run_convert_bytes_nil _ 50 5 Tryz.underlying50 Tryz.underlying5 0 0 9 Tryz.underlying9
  | row g cap h1 h2 h3 h4 h5 h6 h7 h8 =>
    rw [h1, ← hl]
    refine run_convert_bytes_back (P := Tryz.prog) w 50 9 5 ⟨g, 0, Option.none⟩ cap l Tryz.underlying50 Tryz.underlying5 Tryz.underlying9 (fun j hj => ?_)
    rw [Addr.add_lit, Nat.zero_add, h7 j (by simpa [Lib.byteCells] using hj)]
    simp [Lib.byteCells]

theorem numsB_take (zs : List Int) (i : Nat) (hi : i < zs.length) : numsB (zs.take (i + 1)) = numsB (zs.take i) ++ numB zs[i] := by
  rw [List.take_succ_eq_append_getElem hi, numsB_snoc]

end Go.Proofs.YtigomhilcnnjdaaGreat.Edi
