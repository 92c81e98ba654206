/- A slice of strings that came in, opened: where it is nil it has no room; and its strings appended to a row of the call's own. -/
import Derived.Test.YtoppdclmahelmabWireOpen
import Derived.Laws.AppendOwnNone
namespace Go.Proofs.Ytoppdclmahelmab
open Go.ChangeShapes Go.WideShapes Go.ChangeAt Go.RowKit

theorem open_strs0 {H : Type} {enc : TypeId × Value → H} {P : Program} {W : World} {base : Nat} {spare : Nat → Bool} {held : Bool} {t e : TypeId} {a : Option Addr} {len cap : Nat} {d : DataW H} {ps : List MemPlace} (ht : P.underlying t = some (.slice e)) (he : P.underlying e = some .string) (hc : P.cellsOf e = 1)
    (h : DataW.Trod enc P W base spare held t (.slice a len cap) d ps) : ∃ (b off : Nat) (ss : List ByteArray), len = ss.length ∧ Strs W a b off ss ∧ (a = none → cap = 0) ∧ len ≤ cap ∧ cap ≤ maxLen := by
  obtain ⟨b, off, ss, h1, h2⟩ := open_strs ht he hc h
  refine ⟨b, off, ss, h1, h2, ?_⟩
  obtain ⟨fuel, hf⟩ := h
  rcases open_strings ht he hc hf with ⟨hcs, _⟩ | ⟨x, l, c, _, hcs, _, hl, hm, _⟩
  · simp [Value.cells] at hcs
    exact ⟨fun _ => hcs.2.2, by omega, by unfold maxLen; omega⟩
  · simp [Value.cells] at hcs
    obtain ⟨rfl, rfl, rfl⟩ := hcs
    exact ⟨fun h => (by cases h), hl, hm⟩

/-- 'append(out, xs...)', out a row of strings of the call's own, xs a slice of strings, nil or not. -/
theorem wpList_append_strs {P : Program} (w : World) {ops : Array Oper} {rest : List Oper} {o : Oper} {a : Act} {Q : Exit → Act → World → Prop} (hgd : o.guard = none) (s x : Operand) (t : TypeId)
    (ho : o.op = .call { callee := .builtin .append, args := #[s, x], argTypes := #[t, t] })
    (base : Nat) (e : TypeId) (i : TypeInfo) (ht : P.underlying t = some (.slice e)) (hi : P.info? e = some i) (hz : i.zero = some (.string ⟨#[]⟩)) (hsize : i.size = 1) (hby : i.bytes = 16)
    (v : Value) (n : Nat) (xs : List Value) (hs : a.eval s = v) (hown : w.ownsRow base e 1 v n xs)
    (ao : Option Addr) (b off c : Nat) (ss : List ByteArray) (m : Nat) (hm : ss.length = m) (hx : a.eval x = .slice ao m c) (hS : Strs w ao b off ss) (hc : ao = none → c = 0)
    (hbytes : (n + m) * 16 ≤ 140737488355328) (hbase : base ≤ w.heap.size)
    (h : ∀ v' w', w'.ownsRow base e 1 v' (n + m) (xs ++ ss.map Value.string) → w.grownBy w' v.ownBlock → wpList P ops Q rest (a.put o.dst v') w') : wpList P ops Q (o :: rest) a w := by
  subst hm
  cases ao with
  | none =>
    have h0 : ss.length = 0 := by
      rcases Nat.eq_zero_or_pos ss.length with h0 | h0
      · exact h0
      · have := hS.addr h0; cases this
    have hn : ss = [] := List.eq_nil_of_length_eq_zero h0
    subst hn
    obtain rfl := hc rfl
    refine wpList_append_own_none hgd s x t ho base e i 1 ht hi v n xs hs hown hx (h v w (by simpa using hown) (World.grownBy.refl _ _))
  | some ad =>
    refine wpList_append_own w hgd s x t ho base e i (.string ⟨#[]⟩) 1 16 ht hi hz hsize hby rfl (by decide) v n xs hs hown ad ss.length c (ss.map Value.string) hx (by simp) ?_ ?_ (by unfold maxLen; omega) hbytes hbase (fun v' w' h1 h2 _ => h v' w' h1 h2)
    · intro j u hj
      have hjl : j < ss.length := by
        have := (List.getElem?_eq_some_iff.1 hj).1
        simpa using this
      have h1 := hS.addr (by omega)
      cases h1
      rw [Addr.add_lit, hS.cell j hjl]
      simp [hjl] at hj
      rw [hj]
    · intro u hu
      obtain ⟨_, _, rfl⟩ := List.mem_map.1 hu
      rfl

end Go.Proofs.Ytoppdclmahelmab
