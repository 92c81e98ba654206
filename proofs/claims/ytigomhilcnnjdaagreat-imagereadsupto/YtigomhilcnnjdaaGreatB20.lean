/- Part 20 of the proof: QuotaH. -/
import Derived.Test.YtigomhilcnnjdaaGreatB08
import Derived.Maps.OwnOps
import Derived.Maps.OwnSet
import Derived.Test.YtigomhilcnnjdaaGreatProg

/- A map from texts to numbers, of the call's own: what it tells, what stays when it is written. -/
namespace Go.Proofs.YtigomhilcnnjdaaGreat
open Go.RowKit

theorem lawK : Maps.Keyed Tryz.prog 9 := Maps.string_keyed Tryz.underlying9
theorem zeroI (w : World) : (zeroValue 3).run Tryz.prog w = .ok (.int .i64 0) w := by kernel_rfl

theorem wf64 {n : Nat} (h : n ≤ 1000) : (Lit.int .i64 (n : Int)).wf = true := by
  simp only [Lit.wf, Bool.and_eq_true, decide_eq_true_eq]
  have e1 : IntKind.min .i64 = -9223372036854775808 := by decide
  have e2 : IntKind.max .i64 = 9223372036854775807 := by decide
  rw [e1, e2]
  omega

/-- In block b there is a map of at most m entries, which tells f. -/
structure Held (w : World) (b m : Nat) (f : ByteArray → Nat) : Prop where
  ex : ∃ D : DataW Value, w.ownsMap Tryz.prog 9 (plainElem Tryz.prog 3) b m D ∧ ∀ q : ByteArray, D.atKey (.string q.data.toList) (.lit (.int .i64 0)) = .lit (.int .i64 (f q : Int))

theorem Held.block {w w' : World} {b m : Nat} {f : ByteArray → Nat} (h : Held w b m f) (hb : w'.heap[b]? = w.heap[b]?) : Held w' b m f := by
  obtain ⟨D, ⟨es, clock, h1, h2⟩, h3⟩ := h.ex
  exact ⟨D, ⟨es, clock, hb.trans h1, h2⟩, h3⟩
theorem Held.lt {w : World} {b m : Nat} {f : ByteArray → Nat} (h : Held w b m f) : b < w.heap.size := by
  obtain ⟨D, h1, _⟩ := h.ex
  exact h1.lt
theorem Held.below {w w' : World} {b m : Nat} {f : ByteArray → Nat} (h : Held w b m f) (hb : Below w.heap.size w w') : Held w' b m f := h.block (hb.block b h.lt)
theorem Held.mono {w : World} {b m m' : Nat} {f : ByteArray → Nat} (h : Held w b m f) (hm : m ≤ m') : Held w b m' f := by
  obtain ⟨D, h1, h2⟩ := h.ex
  exact ⟨D, h1.mono hm, h2⟩
theorem Held.as {w : World} {b m : Nat} {f f' : ByteArray → Nat} (h : Held w b m f) (hf : ∀ q, f q = f' q) : Held w b m f' := by
  obtain ⟨D, h1, h2⟩ := h.ex
  exact ⟨D, h1, fun q => by rw [h2 q, hf q]⟩
theorem Held.new (w : World) : Held (w.alloc (.map #[] 0)) w.heap.size 0 (fun _ => 0) :=
  ⟨.map [], World.ownsMap_made w _ _ _, fun q => WideAt.atKey_none _ (fun p hp => by cases hp)⟩

theorem Held.put {w' : World} {b m : Nat} {D : DataW Value} {f : ByteArray → Nat} (hD : Maps.IsMap D) (h2 : ∀ q : ByteArray, D.atKey (.string q.data.toList) (.lit (.int .i64 0)) = .lit (.int .i64 (f q : Int))) (k : ByteArray) (v : Nat)
    (ho : w'.ownsMap Tryz.prog 9 (plainElem Tryz.prog 3) b (m + 1) (D.put (.string k.data.toList) (.lit (.int .i64 (v : Int))))) : Held w' b (m + 1) (fun q => if q = k then v else f q) := by
  refine ⟨_, ho, fun q => ?_⟩
  by_cases e : q = k
  · subst e
    rw [Maps.atKey_put_same hD (by simp [WideAt.IsKeyLit]), if_pos rfl]
  · rw [Maps.atKey_put_other, h2 q, if_neg e]
    intro e2
    apply e
    apply ba_inj
    simpa using e2

end Go.Proofs.YtigomhilcnnjdaaGreat
