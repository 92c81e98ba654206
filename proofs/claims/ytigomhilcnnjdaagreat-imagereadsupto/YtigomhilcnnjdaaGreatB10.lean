/- Part 10 of the proof: PathF5, PathF6. -/
import Derived.Test.YtigomhilcnnjdaaGreatB09
import Derived.Laws.AppendOwnNone
import Derived.Lib.AppendZeros

/- The contracts of slices.Equal, slices.Grow and slices.Concat, at strings. -/
namespace Go.Proofs.YtigomhilcnnjdaaGreat
open Go.RowKit

/-- A slice of strings that lies in memory, and its room. -/
structure Sl (w : World) (a : Option Addr) (b off cap : Nat) (ss : List ByteArray) : Prop where
  strs : Strs w a b off ss
  at2 : a = none ∨ a = some ⟨b, off, none⟩
  nil : a = none → cap = 0
  room : ss.length ≤ cap
  lid : cap ≤ maxLen

theorem Sl.below {w w' : World} {a : Option Addr} {b off cap : Nat} {ss : List ByteArray} (h : Sl w a b off cap ss) (hb : Below w.heap.size w w') : Sl w' a b off cap ss :=
  ⟨h.strs.below hb, h.at2, h.nil, h.room, h.lid⟩

theorem own_strs {w : World} {base : Nat} {v : Value} {ss : List ByteArray} (h : w.ownsRow base 9 1 v ss.length (ss.map Value.string)) (hl : ss.length ≤ 1000) (hx : ∀ x ∈ ss, x.size ≤ maxLen) :
    ∃ a b cap, v = .slice a ss.length cap ∧ Sl w a b 0 cap ss := by
  rcases h.2 with ⟨rfl, h0⟩ | ⟨g, cap, cur, rfl, hb, _, hc1, hc2, _⟩
  · exact ⟨none, 0, 0, by rw [h0], ⟨fun hp => by omega, fun j hj => by omega, hx, by unfold maxLen; omega⟩, .inl rfl, fun _ => rfl, by omega, by unfold maxLen; omega⟩
  · refine ⟨_, g, cap, rfl, ⟨fun _ => rfl, fun j hj => ?_, hx, by unfold maxLen; omega⟩, .inr rfl, fun e => (by cases e), hc1, hc2⟩
    have := h.cells (g := g) rfl j (.string ss[j]) (by simp [hj])
    rw [Addr.add_lit] at this
    exact this

theorem Sl.take {w : World} {a : Option Addr} {b off cap : Nat} {ss : List ByteArray} (h : Sl w a b off cap ss) (k : Nat) : Sl w a b off cap (ss.take k) := by
  refine ⟨⟨fun hp => h.strs.addr (by rw [List.length_take] at hp; omega), fun j hj => ?_, fun s hs => h.strs.small s (List.mem_of_mem_take hs), by rw [List.length_take]; have := h.strs.len; omega⟩, h.at2, h.nil, by rw [List.length_take]; have := h.room; omega, h.lid⟩
  rw [List.length_take] at hj
  rw [List.getElem_take]
  exact h.strs.cell j (by omega)

theorem Sl.drop0 {w : World} {b off cap : Nat} {ss : List ByteArray} (h : Sl w (some ⟨b, off, none⟩) b off cap ss) (k : Nat) (e : cap = k) : Sl w (some ⟨b, off, none⟩) b off 0 (ss.drop k) := by
  have hr := h.room
  have hd : ss.drop k = [] := List.drop_of_length_le (by omega)
  rw [hd]
  exact ⟨⟨fun _ => rfl, fun j hj => by simp at hj, by simp, by simp⟩, .inr rfl, fun e => (by cases e), by simp, by simp⟩

theorem Sl.drop1 {w : World} {b off cap : Nat} {ss : List ByteArray} (h : Sl w (some ⟨b, off, none⟩) b off cap ss) (k : Nat) (hk : k ≤ ss.length) : Sl w (some ⟨b, off + k, none⟩) b (off + k) (cap - k) (ss.drop k) := by
  have hr := h.room
  have hlid := h.lid
  refine ⟨⟨fun _ => rfl, fun j hj => ?_, fun s hs => h.strs.small s (List.mem_of_mem_drop hs), by rw [List.length_drop]; have := h.strs.len; omega⟩, .inr rfl, fun e => (by cases e), by rw [List.length_drop]; omega, by omega⟩
  rw [List.length_drop] at hj
  rw [List.getElem_drop, Nat.add_assoc]
  exact h.strs.cell (k + j) (by omega)

/-- 'append(out, xs...)', out a row of strings of the call's own, xs a slice of strings, nil or not. -/
theorem wpList_append_strs {P : Program} (w : World) {ops : Array Oper} {rest : List Oper} {o : Oper} {a : Act} {Q : Exit → Act → World → Prop} (hgd : o.guard = none) (s x : Operand) (t : TypeId)
    (ho : o.op = .call { callee := .builtin .append, args := #[s, x], argTypes := #[t, t] })
    (base : Nat) (e : TypeId) (i : TypeInfo) (ht : P.underlying t = some (.slice e)) (hi : P.info? e = some i) (hz : i.zero = some (.string ⟨#[]⟩)) (hsize : i.size = 1) (hby : i.bytes = 16)
    (v : Value) (n : Nat) (xs : List Value) (hs : a.eval s = v) (hown : w.ownsRow base e 1 v n xs)
    (ao : Option Addr) (b off c : Nat) (ss : List ByteArray) (m : Nat) (hm : ss.length = m) (hx : a.eval x = .slice ao m c) (hS : Strs w ao b off ss) (hc : ao = none → c = 0)
    (hbytes : (n + m) * 16 ≤ 140737488355328) (hbase : base ≤ w.heap.size)
    (h : ∀ v' w', w'.ownsRow base e 1 v' (n + m) (xs ++ ss.map Value.string) → w.grownBy w' v.ownBlock → wpList P ops Q rest (a.put o.dst v') w') : wpList P ops Q (o :: rest) a w := by
  subst hm
  cases ao with
  | none =>
    have h0 : ss.length = 0 := by
      rcases Nat.eq_zero_or_pos ss.length with h0 | h0
      · exact h0
      · have := hS.addr h0; cases this
    have hn : ss = [] := List.eq_nil_of_length_eq_zero h0
    subst hn
    obtain rfl := hc rfl
    refine wpList_append_own_none hgd s x t ho base e i 1 ht hi v n xs hs hown hx (h v w (by simpa using hown) (World.grownBy.refl _ _))
  | some ad =>
    refine wpList_append_own w hgd s x t ho base e i (.string ⟨#[]⟩) 1 16 ht hi hz hsize hby rfl (by decide) v n xs hs hown ad ss.length c (ss.map Value.string) hx (by simp) ?_ ?_ (by unfold maxLen; omega) hbytes hbase (fun v' w' h1 h2 _ => h v' w' h1 h2)
    · intro j u hj
      have hjl : j < ss.length := by
        have := (List.getElem?_eq_some_iff.1 hj).1
        simpa using this
      have h1 := hS.addr (by omega)
      cases h1
      rw [Addr.add_lit, hS.cell j hjl]
      simp [hjl] at hj
      rw [hj]
    · intro u hu
      obtain ⟨_, _, rfl⟩ := List.mem_map.1 hu
      rfl

theorem take_eq_step {ss tt : List ByteArray} {k : Nat} (hs : k < ss.length) (ht : k < tt.length) (h : ss.take k = tt.take k) (e : ss[k] = tt[k]) : ss.take (k + 1) = tt.take (k + 1) := by
  rw [List.take_succ_eq_append_getElem hs, List.take_succ_eq_append_getElem ht, h, e]

theorem app_bel {w3 w4 : World} (g : w3.grownBy w4 (Value.slice none 0 0).ownBlock) : Below w3.heap.size w3 w4 :=
  (Below.refl _ w3).grown g (Nat.le_refl _) (by simp [Value.ownBlock])
theorem app_bel2 {w3 w4 w5 : World} {e : TypeId} {v : Value} {n : Nat} {xs : List Value} (g : w3.grownBy w4 (Value.slice none 0 0).ownBlock) (o : w4.ownsRow w3.heap.size e 1 v n xs) (g' : w4.grownBy w5 v.ownBlock) : Below w3.heap.size w3 w5 :=
  (app_bel g).grown g' (app_bel g).size (fun k hk => (o.lt k hk).1)

theorem cat_use {w : World} {base : Nat} {v : Value} {m d : Nat} {N D : List ByteArray} (o : w.ownsRow base 9 1 v (0 + m + d) ([] ++ N.map Value.string ++ D.map Value.string)) (hN : N.length = m) (hD : D.length = d) (hm : m ≤ 100) (hd : d ≤ 100)
    (xN : ∀ x ∈ N, x.size ≤ maxLen) (xD : ∀ x ∈ D, x.size ≤ maxLen) : ∃ a b cap, v = .slice a (m + d) cap ∧ Sl w a b 0 cap (N ++ D) := by
  rw [List.nil_append, ← List.map_append, Nat.zero_add] at o
  have e : (N ++ D).length = m + d := by rw [List.length_append, hN, hD]
  rw [← e] at o
  obtain ⟨a, b, cap, rfl, hS⟩ := own_strs o (by omega) (fun x hx => (List.mem_append.1 hx).elim (xN x) (xD x))
  exact ⟨a, b, cap, by rw [e], hS⟩

/-- One string more, laid in a block of its own. -/
theorem src_one (w : World) (x : ByteArray) (t : TypeId) : ∀ j u, [Value.string x][j]? = some u → (w.alloc (.cells #[.string x] t)).cell? ((⟨w.heap.size, 0, none⟩ : Addr).add j) = some u := by
  intro j u hj
  match j, hj with
  | 0, hj => simp at hj; subst hj; simp [Addr.add]
theorem one_cell (x : ByteArray) : ∀ u ∈ [Value.string x], u.oneCell' = true := by
  intro u hu; simp at hu; subst hu; rfl
theorem app_bel3 {w3 w4 w5 : World} {e : TypeId} {v : Value} {n : Nat} {xs : List Value} {ob : Obj} (g : w3.grownBy w4 (Value.slice none 0 0).ownBlock) (o : w4.ownsRow w3.heap.size e 1 v n xs) (g' : (w4.alloc ob).grownBy w5 v.ownBlock) : Below w3.heap.size w3 w5 :=
  ((app_bel g).alloc (app_bel g).size ob).grown g' (by simp; have := (app_bel g).size; omega) (fun k hk => (o.lt k hk).1)

end Go.Proofs.YtigomhilcnnjdaaGreat

/- The contracts of slices.Grow (of nothing) and slices.Concat, at strings. -/
namespace Go.Proofs.YtigomhilcnnjdaaGreat
open Go.RowKit

/-- The lists of SS, the first k of them together. -/
def catS (SS : Nat → List ByteArray) : Nat → List ByteArray
  | 0 => []
  | k + 1 => catS SS k ++ SS k

end Go.Proofs.YtigomhilcnnjdaaGreat
