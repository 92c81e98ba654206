/- A slice of the call's own, whatever its elements, and what append makes of it. No program in it. -/
import Derived.Test.YtapnjgmihfmapaaStay
import Derived.Deep.Upon
namespace Go.Proofs.Ytapnjgmihfmapaa
open Go.RowKit

/-- The slice sl has n elements of size cells each, the cells cs: nil, or a row in a block of O. -/
inductive Cel (O : Nat → Prop) (w : World) (size : Nat) (sl : Value) (n : Nat) (cs : List Value) : Option Nat → Prop
  | nil : sl = .slice none 0 0 → n = 0 → cs = [] → Cel O w size sl n cs none
  | row (g cap : Nat) : sl = .slice (some ⟨g, 0, none⟩) n cap → cs.length = n * size → O g → g < w.heap.size → n ≤ cap → cap ≤ maxLen →
      (∀ j (hj : j < cs.length), w.cell? ⟨g, j, none⟩ = some cs[j]) → (∀ j, j < cap * size → (w.cell? ⟨g, j, none⟩).isSome = true ∧ w.frozen? ⟨g, j, none⟩ = false) → Cel O w size sl n cs (some g)

theorem Cel.stay {O : Nat → Prop} {w w' : World} {size : Nat} {sl : Value} {n : Nat} {cs : List Value} {g : Option Nat} (h : Cel O w size sl n cs g) (hs : w.heap.size ≤ w'.heap.size) (hb : ∀ k, g = some k → w'.heap[k]? = w.heap[k]?) {O2 : Nat → Prop} (hO : ∀ k, O k → O2 k) : Cel O2 w' size sl n cs g := by
  cases h with
  | nil h1 h2 h3 => exact .nil h1 h2 h3
  | row g cap h1 hl h2 h3 h4 h5 h6 h7 =>
    have e := hb g rfl
    exact .row g cap h1 hl (hO g h2) (by omega) h4 h5 (fun j hj => (World.cell?_of_block (a := ⟨g, j, none⟩) e).trans (h6 j hj))
      (fun j hj => ⟨by rw [World.cell?_of_block (a := ⟨g, j, none⟩) e]; exact (h7 j hj).1, (World.frozen?_of_block (a := ⟨g, j, none⟩) e).trans (h7 j hj).2⟩)

theorem Cel.lt {O : Nat → Prop} {w : World} {size : Nat} {sl : Value} {n : Nat} {cs : List Value} {g : Nat} (h : Cel O w size sl n cs (some g)) : g < w.heap.size ∧ O g := by
  cases h with
  | row g cap h1 hl h2 h3 h4 h5 h6 h7 => exact ⟨h3, h2⟩

theorem Cel.len {O : Nat → Prop} {w : World} {size : Nat} {sl : Value} {n : Nat} {cs : List Value} {g : Option Nat} (h : Cel O w size sl n cs g) : cs.length = n * size := by
  cases h with
  | nil h1 h2 h3 => subst h2 h3; simp
  | row g cap h1 hl h2 h3 h4 h5 h6 h7 => exact hl

theorem Cel.below {O : Nat → Prop} {w w' : World} {size : Nat} {sl : Value} {n : Nat} {cs : List Value} {g : Option Nat} (h : Cel O w size sl n cs g) (hb : Below w.heap.size w w') : Cel O w' size sl n cs g :=
  h.stay hb.size (fun k hk => hb.block k (by rw [hk] at h; exact h.lt.1)) (fun _ e => e)

theorem Cel.cell {O : Nat → Prop} {w : World} {size : Nat} {sl : Value} {n : Nat} {cs : List Value} {g : Nat} (h : Cel O w size sl n cs (some g)) (j : Nat) (hj : j < cs.length) : w.cell? ⟨g, j, none⟩ = some cs[j] := by
  cases h with
  | row g cap h1 hl h2 h3 h4 h5 h6 h7 => exact h6 j hj

theorem Stay.drewAlloc (O : Nat → Prop) (w : World) (o : Obj) : Stay O w (w.drew.alloc o) := Stay.of_below (((Below.refl _ w).drew).alloc (Nat.le_refl _) o)

theorem tape_setCellsC (g : Nat) : ∀ (vs : List Value) (o : Nat) (w : World), (w.setCells g o vs).tape = w.tape ∧ (w.setCells g o vs).os = w.os ∧ (w.setCells g o vs).output = w.output ∧ (w.setCells g o vs).heap.size = w.heap.size
  | [], _, _ => ⟨rfl, rfl, rfl, rfl⟩
  | v :: r, o, w => by
    obtain ⟨h1, h2, h3, h4⟩ := tape_setCellsC g r (o + 1) (w.setCell ⟨g, o, none⟩ v)
    refine ⟨h1, h2, h3, ?_⟩
    rw [World.setCells, h4]; simp [World.setCell]

theorem block_setCellsC (g : Nat) (k : Nat) (hk : k ≠ g) : ∀ (vs : List Value) (o : Nat) (w : World), (w.setCells g o vs).heap[k]? = w.heap[k]?
  | [], _, _ => rfl
  | v :: r, o, w => by
    rw [World.setCells, block_setCellsC g k hk r (o + 1)]
    exact Below.heap_setCell _ _ _ _ hk

theorem run_append_cel {P : Program} (w : World) (t tx ty e : TypeId) (i : TypeInfo) (z : Value) (size bytes : Nat) (ht : P.underlying t = some (.slice e)) (hi : P.info? e = some i) (hz : i.zero = some z) (hsize : i.size = size) (hby : i.bytes = bytes) (hzs : z.cells.size = size)
    {O : Nat → Prop} {sl : Value} {n : Nat} {cs : List Value} {g : Option Nat} (h : Cel O w size sl n cs g) (x : Value) (m : Nat) (news : List Value) (hs : Src P size tx x m news w) (hlen : n + m ≤ maxLen) (hlb : (n + m) * bytes ≤ 140737488355328) :
    ∃ a' c' w' g', (Builtin.append_ #[t, tx] ty #[sl, x]).run P w = .ok (.slice a' (n + m) c') w' ∧ Cel (Grow O w w') w' size (.slice a' (n + m) c') (n + m) (cs ++ news) g' ∧ Stay (fun k => g = some k) w w' ∧ (∀ k, g' = some k → g = some k ∨ w.heap.size ≤ k) := by
  have hnl := hs.newsLen
  have hcl := h.len
  have hs' : Src P i.size tx x m news w := by rw [hsize]; exact hs
  have hmul : (n + m) * size = n * size + m * size := Nat.add_mul _ _ _
  have h63 : n + m ≤ 9223372036854775807 := by unfold maxLen at hlen; omega
  have grow : ∀ (p : Option Addr) (cap : Nat), n ≤ cap → cap ≤ maxLen → cap < n + m → (Builtin.firstCells i.size n (.slice p n cap)).run P w.drew = .ok cs.toArray w.drew →
      ∃ a' c' w' g', (Builtin.append_ #[t, tx] ty #[.slice p n cap, x]).run P w = .ok (.slice a' (n + m) c') w' ∧ Cel (Grow O w w') w' size (.slice a' (n + m) c') (n + m) (cs ++ news) g' ∧ Stay (fun k => g = some k) w w' ∧ (∀ k, g' = some k → g = some k ∨ w.heap.size ≤ k) := by
    intro p cap h4 h5 hroom hold
    have hrun := run_append_grow_src (P := P) w t tx ty e i z ht hi hz p n cap cs hold x m news hs' (by omega) (by omega) (growslice_fits (by omega) (by rw [hby]; exact hlb))
    have hge := grownCap_ge w (n + m) cap e
    have hcm := grownCap_le_maxLen w (n + m) cap e hlen
    have hL : (cs ++ news).length = (n + m) * size := by rw [List.length_append, hcl, hnl, hmul]
    generalize grownCap w (n + m) cap e = c' at *
    have hsz : ((cs ++ news).toArray ++ Builtin.zeroCells z.cells (c' - (n + m))).size = c' * size := by
      rw [Array.size_append, List.size_toArray, hL, size_zeroCells, hzs, ← Nat.add_mul]
      congr 1; omega
    refine ⟨some ⟨w.heap.size, 0, none⟩, c', _, some w.heap.size, hrun, .row w.heap.size c' rfl hL (.inr ⟨Nat.le_refl _, by simp⟩) (by simp) hge hcm (fun j hj => ?_) (fun j hj => ⟨?_, ?_⟩), Stay.drewAlloc _ _ _, fun k hk => .inr (by cases hk; exact Nat.le_refl _)⟩
    · have e1 : (w.drew.alloc (.cells ((cs ++ news).toArray ++ Builtin.zeroCells z.cells (c' - (n + m))) e)).cell? ⟨w.heap.size, j, none⟩ = _ := World.cell?_alloc_new w.drew _ _ j
      rw [e1, Array.getElem?_append_left (by rw [List.size_toArray]; exact hj), List.getElem?_toArray, List.getElem?_eq_getElem hj]
    · have e1 : (w.drew.alloc (.cells ((cs ++ news).toArray ++ Builtin.zeroCells z.cells (c' - (n + m))) e)).cell? ⟨w.heap.size, j, none⟩ = _ := World.cell?_alloc_new w.drew _ _ j
      rw [e1, Array.getElem?_eq_getElem (by rw [hsz]; exact hj)]
      rfl
    · exact World.frozen?_alloc_new w.drew _ _ j
  cases h with
  | nil h1 h2 h3 =>
    subst h1 h2 h3
    by_cases h0 : m = 0
    · subst h0
      have en : news = [] := List.length_eq_zero_iff.1 (by rw [hnl]; simp)
      subst en
      have := run_append_nothing (P := P) w t tx ty e i ht hi none 0 0 (Nat.le_refl _) x hs'
      exact ⟨none, 0, w, none, this, .nil rfl rfl rfl, Stay.refl _ _, fun k hk => by cases hk⟩
    · have := grow none 0 (Nat.le_refl _) (Nat.zero_le _) (by omega) (by simp [Builtin.firstCells])
      exact this
  | row g cap h1 hl h2 h3 h4 h5 h6 h7 =>
    subst h1
    by_cases hroom : n + m ≤ cap
    · have hcs : n * size + m * size ≤ cap * size := by rw [← Nat.add_mul]; exact Nat.mul_le_mul_right _ hroom
      have hrun := run_append_room_src (P := P) w t tx ty e i ht hi g 0 n cap x m news hs' hroom
        (fun j hj => (h7 _ (by rw [hsize]; omega)).1) (fun j hj => (h7 _ (by rw [hsize]; omega)).2)
      rw [hsize, Nat.zero_add] at hrun
      obtain ⟨t1, t2, t3, t4⟩ := tape_setCellsC g news (n * size) w
      have hin := World.cell?_setCells_in g news (n * size) w (fun j hj => (h7 _ (by omega)).1)
      refine ⟨some ⟨g, 0, none⟩, cap, _, some g, hrun, .row g cap rfl (by rw [List.length_append, hl, hnl, hmul]) (.inl h2) (by rw [t4]; exact h3) hroom h5 (fun j hj => ?_) (fun j hj => ⟨?_, ?_⟩), ⟨t2, t1, t3, by rw [t4]; exact Nat.le_refl _, fun k hk hn => block_setCellsC g k (fun e => hn (by rw [e])) _ _ _⟩, fun k hk => .inl hk⟩
      · rw [List.length_append, hl, hnl] at hj
        by_cases hlt : j < cs.length
        · rw [World.cell?_setCells_out g _ _ _ _ (fun _ _ => Or.inl (by show j < n * size; omega)), List.getElem_append_left hlt]
          exact h6 j hlt
        · have := hin (j - n * size) (by omega)
          rw [show n * size + (j - n * size) = j by omega] at this
          rw [this, List.getElem_append_right (by omega)]
          simp only [hl]
      · by_cases hlt : n * size ≤ j ∧ j < n * size + m * size
        · have := hin (j - n * size) (by omega)
          rw [show n * size + (j - n * size) = j by omega] at this
          rw [this]; rfl
        · rw [World.cell?_setCells_out g _ _ _ _ (fun _ _ => by show j < n * size ∨ n * size + news.length ≤ j; omega)]
          exact (h7 j hj).1
      · rw [World.frozen?_setCells]; exact (h7 j hj).2
    · refine grow (some ⟨g, 0, none⟩) cap h4 h5 (by omega) ?_
      refine run_firstCells_some w.drew i.size n ⟨g, 0, none⟩ n cap cs (by rw [hsize]; exact hl) (fun j u hu => ?_)
      rw [Addr.add_lit, Nat.zero_add]
      have hj := (List.getElem?_eq_some_iff.1 hu)
      obtain ⟨hj1, hj2⟩ := hj
      rw [← hj2]
      exact h6 j hj1

theorem wpList_append_cel {P : Program} (w : World) {ops : Array Oper} {rest : List Oper} {o : Oper} {a : Act} {Q : Exit → Act → World → Prop} (hgd : o.guard = none) (s x : Operand) (t tx : TypeId)
    (ho : o.op = .call { callee := .builtin .append, args := #[s, x], argTypes := #[t, tx] })
    (e : TypeId) (i : TypeInfo) (z : Value) (size bytes : Nat) (ht : P.underlying t = some (.slice e)) (hi : P.info? e = some i) (hz : i.zero = some z) (hsize : i.size = size) (hby : i.bytes = bytes) (hzs : z.cells.size = size)
    {O : Nat → Prop} (sl : Value) (n : Nat) (cs : List Value) (g : Option Nat) (hv : a.eval s = sl) (h : Cel O w size sl n cs g) (xv : Value) (m : Nat) (news : List Value) (hxv : a.eval x = xv) (hs : Src P size tx xv m news w) (hlen : n + m ≤ maxLen) (hlb : (n + m) * bytes ≤ 140737488355328)
    (hK : ∀ a' c' w' g', Cel (Grow O w w') w' size (.slice a' (n + m) c') (n + m) (cs ++ news) g' → Stay (fun k => g = some k) w w' → (∀ k, g' = some k → g = some k ∨ w.heap.size ≤ k) → wpList P ops Q rest (a.put o.dst (.slice a' (n + m) c')) w') : wpList P ops Q (o :: rest) a w := by
  refine wpList_plain hgd fun K hK' => ?_
  obtain ⟨a', c', w', g', hrun, r1, r2, r3⟩ := run_append_cel (P := P) w t tx o.type e i z size bytes ht hi hz hsize hby hzs h xv m news hs hlen hlb
  unfold Oper.wp
  simp [execOp, ho, resolve, invoke, builtin, hv, hxv, hrun, Result.andThen]
  exact hK' _ _ (hK a' c' w' g' r1 r2 r3)

end Go.Proofs.Ytapnjgmihfmapaa
