/- Part 10 of the proof: PathF5, PathF6. -/
import Derived.Test.YtcnflkjkgomnoaaGreatB09
import Derived.Laws.AppendOwnNone
import Derived.Lib.AppendZeros
set_option maxRecDepth 100000
set_option maxHeartbeats 8000000
namespace Go.Proofs.YtcnflkjkgomnoaaGreat
open Go.RowKit
structure Sl (w : World) (a : Option Addr) (b off cap : Nat) (ss : List ByteArray) : Prop where
  strs : Strs w a b off ss
  at2 : a = none ∨ a = some ⟨b, off, none⟩
  nil : a = none → cap = 0
  room : ss.length ≤ cap
  lid : cap ≤ maxLen
theorem Sl.below {w w' : World} {a : Option Addr} {b off cap : Nat} {ss : List ByteArray} (h : Sl w a b off cap ss) (hb : Below w.heap.size w w') : Sl w' a b off cap ss :=
  ⟨h.strs.below hb, h.at2, h.nil, h.room, h.lid⟩
theorem own_strs {w : World} {base : Nat} {v : Value} {ss : List ByteArray} (h : w.ownsRow base 9 1 v ss.length (ss.map Value.string)) (hl : ss.length ≤ 1000) (hx : ∀ x ∈ ss, x.size ≤ maxLen) :
    ∃ a b cap, v = .slice a ss.length cap ∧ Sl w a b 0 cap ss := by
  rcases h.2 with ⟨rfl, h0⟩ | ⟨g, cap, cur, rfl, hb, _, hc1, hc2, _⟩
  · exact ⟨none, 0, 0, by rw [h0], ⟨fun hp => by omega, fun j hj => by omega, hx, by unfold maxLen; omega⟩, .inl rfl, fun _ => rfl, by omega, by unfold maxLen; omega⟩
  · refine ⟨_, g, cap, rfl, ⟨fun _ => rfl, fun j hj => ?_, hx, by unfold maxLen; omega⟩, .inr rfl, fun e => (by cases e), hc1, hc2⟩
    have := h.cells (g := g) rfl j (.string ss[j]) (by simp [hj])
    rw [Addr.add_lit] at this
    exact this
theorem Sl.take {w : World} {a : Option Addr} {b off cap : Nat} {ss : List ByteArray} (h : Sl w a b off cap ss) (k : Nat) : Sl w a b off cap (ss.take k) := by
  refine ⟨⟨fun hp => h.strs.addr (by rw [List.length_take] at hp; omega), fun j hj => ?_, fun s hs => h.strs.small s (List.mem_of_mem_take hs), by rw [List.length_take]; have := h.strs.len; omega⟩, h.at2, h.nil, by rw [List.length_take]; have := h.room; omega, h.lid⟩
  rw [List.length_take] at hj
  rw [List.getElem_take]
  exact h.strs.cell j (by omega)
theorem take_eq_step {ss tt : List ByteArray} {k : Nat} (hs : k < ss.length) (ht : k < tt.length) (h : ss.take k = tt.take k) (e : ss[k] = tt[k]) : ss.take (k + 1) = tt.take (k + 1) := by
  rw [List.take_succ_eq_append_getElem hs, List.take_succ_eq_append_getElem ht, h, e]
end Go.Proofs.YtcnflkjkgomnoaaGreat
