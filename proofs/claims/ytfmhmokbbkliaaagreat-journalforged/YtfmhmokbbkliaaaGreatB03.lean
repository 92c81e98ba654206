/- Part 3 of the proof: WireRow. -/
import Derived.Deep.AppendSrc
import Derived.Laws.IdiomStrings
import Derived.Lib.UnsafeStr
import Derived.WalkKit

/- A row of bytes of the call's own, whatever its block's mark; a string appended to it. No program in it. -/
namespace Go.Proofs.YtfmhmokbbkliaaaGreat
open Go.RowKit

/-- The slice v holds the bytes l, in a block from base on; it may be written up to its capacity. -/
structure ByteRow (base : Nat) (w : World) (v : Value) (l : List UInt8) : Prop where
  ex : ∃ g cap, v = .slice (some ⟨g, 0, none⟩) l.length cap ∧ base ≤ g ∧ g < w.heap.size ∧ l.length ≤ cap ∧ cap ≤ maxLen ∧
    (∀ j (hj : j < l.length), w.cell? ⟨g, j, none⟩ = some (.int .u8 (l[j].toNat : Int))) ∧ (∀ j, j < cap → (w.cell? ⟨g, j, none⟩).isSome = true ∧ w.frozen? ⟨g, j, none⟩ = false)

theorem ByteRow.below {base : Nat} {w w' : World} {v : Value} {l : List UInt8} (h : ByteRow base w v l) (hb : Below w.heap.size w w') : ByteRow base w' v l := by
  obtain ⟨g, cap, h1, h2, h3, h4, h5, h6, h7⟩ := h.ex
  exact ⟨g, cap, h1, h2, Nat.lt_of_lt_of_le h3 hb.size, h4, h5, fun j hj => (hb.cell (p := ⟨g, j, none⟩) h3).trans (h6 j hj),
    fun j hj => ⟨by rw [hb.cell (p := ⟨g, j, none⟩) h3]; exact (h7 j hj).1, (hb.frozen (p := ⟨g, j, none⟩) h3).trans (h7 j hj).2⟩⟩

theorem tape_setCells (g : Nat) : ∀ (vs : List Value) (o : Nat) (w : World), (w.setCells g o vs).tape = w.tape ∧ (w.setCells g o vs).os = w.os ∧ (w.setCells g o vs).output = w.output ∧ (w.setCells g o vs).heap.size = w.heap.size
  | [], _, _ => ⟨rfl, rfl, rfl, rfl⟩
  | v :: r, o, w => by
    obtain ⟨h1, h2, h3, h4⟩ := tape_setCells g r (o + 1) (w.setCell ⟨g, o, none⟩ v)
    refine ⟨h1, h2, h3, ?_⟩
    rw [World.setCells, h4]; simp [World.setCell]

theorem block_setCells (g : Nat) (k : Nat) (hk : k ≠ g) : ∀ (vs : List Value) (o : Nat) (w : World), (w.setCells g o vs).heap[k]? = w.heap[k]?
  | [], _, _ => rfl
  | v :: r, o, w => by
    rw [World.setCells, block_setCells g k hk r (o + 1)]
    exact Below.heap_setCell _ _ _ _ hk

/-- '[]byte(s)'. -/
theorem ByteRow.made (w : World) (e : TypeId) (s : ByteArray) (hs : s.size ≤ maxLen) (base : Nat) (hb : base ≤ w.heap.size) :
    ByteRow base (w.drew.alloc (.cells (bytesRow s (grownCap w s.size 0 e)) e ((bytesRow s (grownCap w s.size 0 e)).size, (bytesRow s (grownCap w s.size 0 e)).size + 1))) (.slice (some ⟨w.heap.size, 0, none⟩) s.size (grownCap w s.size 0 e)) s.data.toList := by
  have hl : s.data.toList.length = s.size := Array.length_toList
  have hge := grownCap_ge w s.size 0 e
  have hle := grownCap_le_maxLen w s.size 0 e hs
  have hsz : (bytesRow s (grownCap w s.size 0 e)).size = grownCap w s.size 0 e := by
    unfold bytesRow
    have : s.data.size = s.size := rfl
    rw [Array.size_append, Array.size_map, Array.size_replicate, this]; omega
  generalize grownCap w s.size 0 e = cap at *
  refine ⟨w.heap.size, cap, by rw [hl], hb, by simp, by rw [hl]; exact hge, hle, fun j hj => ?_, fun j hj => ⟨?_, ?_⟩⟩
  · rw [hl] at hj
    have h1 := World.cell?_alloc_mark w.drew (bytesRow s cap) e ((bytesRow s cap).size, (bytesRow s cap).size + 1) j
    have h2 := bytesRow_at s cap j hj
    rw [h2] at h1
    exact h1
  · have h1 := World.cell?_alloc_mark w.drew (bytesRow s cap) e ((bytesRow s cap).size, (bytesRow s cap).size + 1) j
    rw [Array.getElem?_eq_getElem (by omega)] at h1
    exact (congrArg Option.isSome h1).trans rfl
  · have h1 := World.frozen?_alloc_mark w.drew (bytesRow s cap) e (bytesRow s cap).size ((bytesRow s cap).size + 1) j
    refine Eq.trans h1 ?_
    simp; omega

/-- 'append(out, s...)'. -/
theorem run_append_bytes {P : Program} (w : World) (t tx ty e : TypeId) (i : TypeInfo) (ht : P.underlying t = some (.slice e)) (hx : P.underlying tx = some .string) (hi : P.info? e = some i) (hz : i.zero = some (.int .u8 0)) (hsize : i.size = 1) (hby : i.bytes = 1)
    (base : Nat) (v : Value) (l : List UInt8) (h : ByteRow base w v l) (s : ByteArray) (hlen : l.length + s.size ≤ 140737488355328) (hbase : base ≤ w.heap.size) :
    ∃ v' w', (Builtin.append_ #[t, tx] ty #[v, .string s]).run P w = .ok v' w' ∧ ByteRow base w' v' (l ++ s.data.toList) ∧ Below base w w' := by
  obtain ⟨g, cap, rfl, h2, h3, h4, h5, h6, h7⟩ := h.ex
  have hsl : s.data.toList.length = s.size := Array.length_toList
  have hs : Src P i.size tx (.string s) s.size (byteCells s) w := by rw [hsize]; exact Src.ofString w hx s
  have hbl := byteCells_length s
  have hat : ∀ j (hj : j < s.size), (byteCells s)[j]'(by rw [hbl]; exact hj) = .int .u8 ((s.data.toList[j]'(by rw [hsl]; exact hj)).toNat : Int) := by
    intro j hj
    simp [byteCells]
  by_cases hroom : l.length + s.size ≤ cap
  · have hrun := run_append_room_src (P := P) w t tx ty e i ht hi g 0 l.length cap (.string s) s.size (byteCells s) hs hroom
      (fun j hj => (h7 _ (by rw [hsize]; omega)).1) (fun j hj => (h7 _ (by rw [hsize]; omega)).2)
    rw [hsize, Nat.mul_one, Nat.zero_add] at hrun
    obtain ⟨t1, t2, t3, t4⟩ := tape_setCells g (byteCells s) l.length w
    have hin := World.cell?_setCells_in g (byteCells s) l.length w (fun j hj => (h7 _ (by omega)).1)
    refine ⟨_, _, hrun, ⟨g, cap, by rw [List.length_append, hsl], h2, by rw [t4]; exact h3, by rw [List.length_append, hsl]; exact hroom, h5, fun j hj => ?_, fun j hj => ⟨?_, ?_⟩⟩, t2, t1, t3, by rw [t4]; exact Nat.le_refl _, fun k hk => block_setCells g k (by omega) _ _ _⟩
    · rw [List.length_append, hsl] at hj
      by_cases hlt : j < l.length
      · rw [World.cell?_setCells_out g _ _ _ _ (fun _ _ => Or.inl hlt), List.getElem_append_left hlt]
        exact h6 j hlt
      · have := hin (j - l.length) (by omega)
        rw [show l.length + (j - l.length) = j by omega, hat (j - l.length) (by omega)] at this
        rw [this, List.getElem_append_right (by omega)]
    · by_cases hlt : l.length ≤ j ∧ j < l.length + s.size
      · have := hin (j - l.length) (by omega)
        rw [show l.length + (j - l.length) = j by omega] at this
        rw [this]; rfl
      · rw [World.cell?_setCells_out g _ _ _ _ (fun _ _ => by show j < l.length ∨ l.length + (byteCells s).length ≤ j; omega)]
        exact (h7 j hj).1
    · rw [World.frozen?_setCells]; exact (h7 j hj).2
  · have hold : (Builtin.firstCells i.size l.length (.slice (some ⟨g, 0, none⟩) l.length cap)).run P w.drew = .ok (Lib.byteCells l).toArray w.drew := by
      refine run_firstCells_some w.drew i.size l.length ⟨g, 0, none⟩ l.length cap (Lib.byteCells l) (by rw [hsize]; simp [Lib.byteCells]) (fun j u hu => ?_)
      rw [Addr.add_lit, Nat.zero_add]
      have hj : j < l.length := by
        have := (List.getElem?_eq_some_iff.1 hu).1
        simpa [Lib.byteCells] using this
      have e1 := h6 j hj
      simp [Lib.byteCells, hj] at hu
      rw [← hu]
      exact e1
    have hrun := run_append_grow_src (P := P) w t tx ty e i (.int .u8 0) ht hi hz (some ⟨g, 0, none⟩) l.length cap (Lib.byteCells l) hold (.string s) s.size (byteCells s) hs (by omega) (by omega) (growslice_fits (by omega) (by rw [hby]; omega))
    have hge := grownCap_ge w (l.length + s.size) cap e
    have hcm := grownCap_le_maxLen w (l.length + s.size) cap e (by unfold maxLen; omega)
    have hL : (Lib.byteCells l ++ byteCells s).length = l.length + s.size := by rw [List.length_append, hbl]; simp [Lib.byteCells]
    generalize grownCap w (l.length + s.size) cap e = c' at *
    have hsz : ((Lib.byteCells l ++ byteCells s).toArray ++ Builtin.zeroCells (Value.int .u8 0).cells (c' - (l.length + s.size))).size = c' := by
      rw [Array.size_append, List.size_toArray, hL, size_zeroCells]
      have : (Value.int IntKind.u8 0).cells.size = 1 := rfl
      rw [this]; omega
    refine ⟨_, _, hrun, ⟨w.heap.size, c', by rw [List.length_append, hsl], hbase, by simp, by rw [List.length_append, hsl]; exact hge, hcm, fun j hj => ?_, fun j hj => ⟨?_, ?_⟩⟩, ((Below.refl base w).drew).alloc hbase _⟩
    · rw [List.length_append, hsl] at hj
      have e1 : (w.drew.alloc (.cells ((Lib.byteCells l ++ byteCells s).toArray ++ Builtin.zeroCells (Value.int .u8 0).cells (c' - (l.length + s.size))) e)).cell? ⟨w.heap.size, j, none⟩ = _ := World.cell?_alloc_new w.drew _ _ j
      rw [e1, Array.getElem?_append_left (by rw [List.size_toArray, hL]; exact hj), List.getElem?_toArray]
      by_cases hlt : j < l.length
      · rw [List.getElem?_append_left (by simp [Lib.byteCells]; exact hlt), List.getElem_append_left hlt]
        simp [Lib.byteCells, hlt]
      · have hll : (Lib.byteCells l).length = l.length := by simp [Lib.byteCells]
        rw [List.getElem?_append_right (by omega), hll, List.getElem?_eq_getElem (by omega), hat (j - l.length) (by omega), List.getElem_append_right (by omega)]
    · have e1 : (w.drew.alloc (.cells ((Lib.byteCells l ++ byteCells s).toArray ++ Builtin.zeroCells (Value.int .u8 0).cells (c' - (l.length + s.size))) e)).cell? ⟨w.heap.size, j, none⟩ = _ := World.cell?_alloc_new w.drew _ _ j
      rw [e1, Array.getElem?_eq_getElem (by rw [hsz]; exact hj)]
      rfl
    · exact World.frozen?_alloc_new w.drew _ _ j

theorem wpList_append_bytes {P : Program} (w : World) {ops : Array Oper} {rest : List Oper} {o : Oper} {a : Act} {Q : Exit → Act → World → Prop} (hgd : o.guard = none) (s x : Operand) (t tx : TypeId)
    (ho : o.op = .call { callee := .builtin .append, args := #[s, x], argTypes := #[t, tx] })
    (e : TypeId) (i : TypeInfo) (ht : P.underlying t = some (.slice e)) (hx : P.underlying tx = some .string) (hi : P.info? e = some i) (hz : i.zero = some (.int .u8 0)) (hsize : i.size = 1) (hby : i.bytes = 1)
    (base : Nat) (v : Value) (l : List UInt8) (hv : a.eval s = v) (h : ByteRow base w v l) (xs : ByteArray) (hxv : a.eval x = .string xs) (hlen : l.length + xs.size ≤ 140737488355328) (hbase : base ≤ w.heap.size)
    (hK : ∀ v' w', ByteRow base w' v' (l ++ xs.data.toList) → Below base w w' → wpList P ops Q rest (a.put o.dst v') w') : wpList P ops Q (o :: rest) a w := by
  refine wpList_plain hgd fun K hK' => ?_
  obtain ⟨v', w', hrun, r1, r2⟩ := run_append_bytes (P := P) w t tx o.type e i ht hx hi hz hsize hby base v l h xs hlen hbase
  unfold Oper.wp
  simp [execOp, ho, resolve, invoke, builtin, hv, hxv, hrun, Result.andThen]
  exact hK' _ _ (hK v' w' r1 r2)

end Go.Proofs.YtfmhmokbbkliaaaGreat
