/- Part 13 of the proof: DiskAp. -/
import Derived.Test.YtfmhmokbbkliaaaGreatB10
import Derived.Deep.Upon

/- A text appended to a file's bytes. No program in it. -/
namespace Go.Proofs.YtfmhmokbbkliaaaGreat
open Go.RowKit

theorem Stay.drew_alloc (O : Nat → Prop) (w : World) (o : Obj) : Stay O w (w.drew.alloc o) := Stay.of_below (((Below.refl _ w).drew).alloc (Nat.le_refl _) o)

theorem run_append_byt {P : Program} (w : World) (t tx ty e : TypeId) (i : TypeInfo) (ht : P.underlying t = some (.slice e)) (hx : P.underlying tx = some .string) (hi : P.info? e = some i) (hz : i.zero = some (.int .u8 0)) (hsize : i.size = 1) (hby : i.bytes = 1)
    {O : Nat → Prop} {sl : Value} {l : List UInt8} {g : Option Nat} (h : Byt O w sl l g) (s : ByteArray) (hlen : l.length + s.size ≤ 140737488355328) :
    ∃ a' c' w' g', (Builtin.append_ #[t, tx] ty #[sl, .string s]).run P w = .ok (.slice a' (l ++ s.data.toList).length c') w' ∧ Byt (Grow O w w') w' (.slice a' (l ++ s.data.toList).length c') (l ++ s.data.toList) g' ∧ Stay (fun k => g = some k) w w' ∧ (∀ k, g' = some k → g = some k ∨ w.heap.size ≤ k) := by
  have hsl : s.data.toList.length = s.size := Array.length_toList
  have hs : Src P i.size tx (.string s) s.size (byteCells s) w := by rw [hsize]; exact Src.ofString w hx s
  have hbl := byteCells_length s
  have hat : ∀ j (hj : j < s.size), (byteCells s)[j]'(by rw [hbl]; exact hj) = .int .u8 ((s.data.toList[j]'(by rw [hsl]; exact hj)).toNat : Int) := by
    intro j hj
    simp [byteCells]
  have grow : ∀ (p : Option Addr) (cap : Nat), l.length ≤ cap → cap ≤ maxLen → cap < l.length + s.size → (Builtin.firstCells i.size l.length (.slice p l.length cap)).run P w.drew = .ok (Lib.byteCells l).toArray w.drew →
      ∃ a' c' w' g', (Builtin.append_ #[t, tx] ty #[.slice p l.length cap, .string s]).run P w = .ok (.slice a' (l ++ s.data.toList).length c') w' ∧ Byt (Grow O w w') w' (.slice a' (l ++ s.data.toList).length c') (l ++ s.data.toList) g' ∧ Stay (fun k => g = some k) w w' ∧ (∀ k, g' = some k → g = some k ∨ w.heap.size ≤ k) := by
    intro p cap h4 h5 hroom hold
    have hrun := run_append_grow_src (P := P) w t tx ty e i (.int .u8 0) ht hi hz p l.length cap (Lib.byteCells l) hold (.string s) s.size (byteCells s) hs (by omega) (by omega) (growslice_fits (by omega) (by rw [hby]; omega))
    have hge := grownCap_ge w (l.length + s.size) cap e
    have hcm := grownCap_le_maxLen w (l.length + s.size) cap e (by unfold maxLen; omega)
    have hL : (Lib.byteCells l ++ byteCells s).length = l.length + s.size := by rw [List.length_append, hbl]; simp [Lib.byteCells]
    generalize grownCap w (l.length + s.size) cap e = c' at *
    generalize hZ : c' - (l.length + s.size) = nz at *
    have hsz : ((Lib.byteCells l ++ byteCells s).toArray ++ Builtin.zeroCells (Value.int .u8 0).cells nz).size = c' := by
      rw [Array.size_append, List.size_toArray, hL, size_zeroCells]
      have : (Value.int IntKind.u8 0).cells.size = 1 := rfl
      rw [this]; omega
    refine ⟨some ⟨w.heap.size, 0, none⟩, c', _, some w.heap.size, (show l.length + s.size = (l ++ s.data.toList).length by rw [List.length_append, hsl]) ▸ hrun, .row w.heap.size c' rfl (.inr ⟨Nat.le_refl _, by simp⟩) (by simp) (by rw [List.length_append, hsl]; exact hge) hcm (fun j hj => ?_) (fun j hj => ⟨?_, ?_⟩), Stay.drew_alloc _ _ _, fun k hk => .inr (by cases hk; exact Nat.le_refl _)⟩
    · rw [List.length_append, hsl] at hj
      have e1 : (w.drew.alloc (.cells ((Lib.byteCells l ++ byteCells s).toArray ++ Builtin.zeroCells (Value.int .u8 0).cells nz) e)).cell? ⟨w.heap.size, j, none⟩ = _ := World.cell?_alloc_new w.drew _ _ j
      rw [e1, Array.getElem?_append_left (by rw [List.size_toArray, hL]; exact hj), List.getElem?_toArray]
      by_cases hlt : j < l.length
      · rw [List.getElem?_append_left (by simp [Lib.byteCells]; exact hlt), List.getElem_append_left hlt]
        simp [Lib.byteCells, hlt]
      · have hll : (Lib.byteCells l).length = l.length := by simp [Lib.byteCells]
        rw [List.getElem?_append_right (by omega), hll, List.getElem?_eq_getElem (by omega), hat (j - l.length) (by omega), List.getElem_append_right (by omega)]
    · have e1 : (w.drew.alloc (.cells ((Lib.byteCells l ++ byteCells s).toArray ++ Builtin.zeroCells (Value.int .u8 0).cells nz) e)).cell? ⟨w.heap.size, j, none⟩ = _ := World.cell?_alloc_new w.drew _ _ j
      rw [e1, Array.getElem?_eq_getElem (by rw [hsz]; exact hj)]
      rfl
    · exact World.frozen?_alloc_new w.drew _ _ j
  cases h with
  | nil h1 h2 =>
    subst h1 h2
    by_cases h0 : s.size = 0
    · have hs0 : Src P i.size tx (.string s) 0 [] w := by
        have e1 : byteCells s = [] := List.length_eq_zero_iff.1 (by rw [hbl]; exact h0)
        rw [h0, e1] at hs; exact hs
      have e2 : s.data.toList = [] := List.length_eq_zero_iff.1 (by rw [hsl]; exact h0)
      have := run_append_nothing (P := P) w t tx ty e i ht hi none 0 0 (Nat.le_refl _) (.string s) hs0
      rw [e2]
      exact ⟨none, 0, w, none, this, .nil rfl rfl, Stay.refl _ _, fun k hk => by cases hk⟩
    · have := grow none 0 (Nat.le_refl _) (by unfold maxLen; omega) (by simp; omega) ?_
      · exact this
      · simp [Builtin.firstCells, Lib.byteCells]
  | row g cap h1 h2 h3 h4 h5 h6 h7 =>
    subst h1
    by_cases hroom : l.length + s.size ≤ cap
    · have hrun := run_append_room_src (P := P) w t tx ty e i ht hi g 0 l.length cap (.string s) s.size (byteCells s) hs hroom
        (fun j hj => (h7 _ (by rw [hsize]; omega)).1) (fun j hj => (h7 _ (by rw [hsize]; omega)).2)
      rw [hsize, Nat.mul_one, Nat.zero_add] at hrun
      obtain ⟨t1, t2, t3, t4⟩ := tape_setCells g (byteCells s) l.length w
      have hin := World.cell?_setCells_in g (byteCells s) l.length w (fun j hj => (h7 _ (by omega)).1)
      refine ⟨some ⟨g, 0, none⟩, cap, _, some g, (show l.length + s.size = (l ++ s.data.toList).length by rw [List.length_append, hsl]) ▸ hrun, .row g cap rfl (.inl h2) (by rw [t4]; exact h3) (by rw [List.length_append, hsl]; exact hroom) h5 (fun j hj => ?_) (fun j hj => ⟨?_, ?_⟩), ⟨t2, t1, t3, by rw [t4]; exact Nat.le_refl _, fun k hk hn => block_setCells g k (fun e => hn (by rw [e])) _ _ _⟩, fun k hk => .inl hk⟩
      · rw [List.length_append, hsl] at hj
        by_cases hlt : j < l.length
        · rw [World.cell?_setCells_out g _ _ _ _ (fun _ _ => Or.inl hlt), List.getElem_append_left hlt]
          exact h6 j hlt
        · have := hin (j - l.length) (by omega)
          rw [show l.length + (j - l.length) = j by omega, hat (j - l.length) (by omega)] at this
          rw [this, List.getElem_append_right (by omega)]
      · by_cases hlt : l.length ≤ j ∧ j < l.length + s.size
        · have := hin (j - l.length) (by omega)
          rw [show l.length + (j - l.length) = j by omega] at this
          rw [this]; rfl
        · rw [World.cell?_setCells_out g _ _ _ _ (fun _ _ => by show j < l.length ∨ l.length + (byteCells s).length ≤ j; omega)]
          exact (h7 j hj).1
      · rw [World.frozen?_setCells]; exact (h7 j hj).2
    · refine grow (some ⟨g, 0, none⟩) cap h4 h5 (by omega) ?_
      refine run_firstCells_some w.drew i.size l.length ⟨g, 0, none⟩ l.length cap (Lib.byteCells l) (by rw [hsize]; simp [Lib.byteCells]) (fun j u hu => ?_)
      rw [Addr.add_lit, Nat.zero_add]
      have hj : j < l.length := by
        have := (List.getElem?_eq_some_iff.1 hu).1
        simpa [Lib.byteCells] using this
      have e1 := h6 j hj
      simp [Lib.byteCells, hj] at hu
      rw [← hu]
      exact e1

theorem wpList_append_byt {P : Program} (w : World) {ops : Array Oper} {rest : List Oper} {o : Oper} {a : Act} {Q : Exit → Act → World → Prop} (hgd : o.guard = none) (s x : Operand) (t tx : TypeId)
    (ho : o.op = .call { callee := .builtin .append, args := #[s, x], argTypes := #[t, tx] })
    (e : TypeId) (i : TypeInfo) (ht : P.underlying t = some (.slice e)) (hx : P.underlying tx = some .string) (hi : P.info? e = some i) (hz : i.zero = some (.int .u8 0)) (hsize : i.size = 1) (hby : i.bytes = 1)
    {O : Nat → Prop} (sl : Value) (l : List UInt8) (g : Option Nat) (hv : a.eval s = sl) (h : Byt O w sl l g) (xs : ByteArray) (hxv : a.eval x = .string xs) (hlen : l.length + xs.size ≤ 140737488355328)
    (hK : ∀ a' c' w' g', Byt (Grow O w w') w' (.slice a' (l ++ xs.data.toList).length c') (l ++ xs.data.toList) g' → Stay (fun k => g = some k) w w' → (∀ k, g' = some k → g = some k ∨ w.heap.size ≤ k) → wpList P ops Q rest (a.put o.dst (.slice a' (l ++ xs.data.toList).length c')) w') : wpList P ops Q (o :: rest) a w := by
  refine wpList_plain hgd fun K hK' => ?_
  obtain ⟨a', c', w', g', hrun, r1, r2, r3⟩ := run_append_byt (P := P) w t tx o.type e i ht hx hi hz hsize hby h xs hlen
  unfold Oper.wp
  simp [execOp, ho, resolve, invoke, builtin, hv, hxv, hrun, Result.andThen]
  have hfin := hK a' c' w' g' r1 r2 r3
  rw [show (l ++ xs.data.toList).length = l.length + xs.size by rw [List.length_append]; rfl] at hfin
  exact hK' _ _ hfin

/-- 'm[k]', where it is known what stands there. -/
theorem wpList_look {P : Program} (w : World) {ops : Array Oper} {rest : List Oper} {o : Oper} {a : Act} {Q : Exit → Act → World → Prop} (hg : o.guard = none) (m x : Operand) (t : TypeId) (hop : o.op = Op.lookup t m x false)
    (k e : TypeId) (K : Maps.Keyed P k) (ht : P.underlying t = some (.map k e)) {z : Value} (hz : (zeroValue e).run P w = .ok z w) {zp : List MemPlace} (hzd : rv z = some (.held z, zp)) (b n : Nat) (D : DataW Value)
    (hm : a.eval m = .map (some b)) (hown : w.ownsMap P k rv b n D) (key : Value) (kl : Lit) (hx : a.eval x = key) (hkey : keyOf P k key = some kl) (u : Value) (hat : D.atKey kl (.held z) = .held u)
    (hK : wpList P ops Q rest (a.put o.dst u) w) : wpList P ops Q (o :: rest) a w := by
  refine wpList_plain hg fun K' hK' => ?_
  obtain ⟨v, ps, hrun, hv⟩ := hown.lookup K ht hz hzd hkey
  rw [hat] at hv
  obtain rfl := rv_held hv
  unfold Oper.wp
  simp [execOp, hop, hm, hx, hrun, Result.andThen]
  exact hK' _ _ hK

/-- 'v, ok := m[k]', where it is known what stands there. -/
theorem wpList_look_ok {P : Program} (w : World) {ops : Array Oper} {rest : List Oper} {o : Oper} {a : Act} {Q : Exit → Act → World → Prop} (hg : o.guard = none) (m x : Operand) (t : TypeId) (hop : o.op = Op.lookup t m x true)
    (k e : TypeId) (K : Maps.Keyed P k) (ht : P.underlying t = some (.map k e)) {z : Value} (hz : (zeroValue e).run P w = .ok z w) {zp : List MemPlace} (hzd : rv z = some (.held z, zp)) (b n : Nat) (D : DataW Value)
    (hm : a.eval m = .map (some b)) (hown : w.ownsMap P k rv b n D) (key : Value) (kl : Lit) (hx : a.eval x = key) (hkey : keyOf P k key = some kl) (u : Value) (y : Bool) (hat : D.atKey kl (.held z) = .held u) (hh : Maps.has D kl = y)
    (hK : wpList P ops Q rest (a.put o.dst (.tuple #[u, .bool y])) w) : wpList P ops Q (o :: rest) a w := by
  refine wpList_plain hg fun K' hK' => ?_
  obtain ⟨v, ps, hrun, hv⟩ := hown.look_ok K ht hz hzd hkey
  rw [hat] at hv
  obtain rfl := rv_held hv
  rw [hh] at hrun
  unfold Oper.wp
  simp [execOp, hop, hm, hx, hrun, Result.andThen]
  exact hK' _ _ hK

end Go.Proofs.YtfmhmokbbkliaaaGreat
