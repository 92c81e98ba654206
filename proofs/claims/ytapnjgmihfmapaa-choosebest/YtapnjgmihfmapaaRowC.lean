/- Rows of elements of several cells each: cut, cleared, written, appended in a region that draws. No program in it. -/
import Derived.Test.YtapnjgmihfmapaaRowCel
import Derived.Deep.RegionLaw
import Derived.Laws.IdiomCopy
namespace Go.Proofs.Ytapnjgmihfmapaa
open Go.RowKit

/-- The cells of a list of elements. -/
def rowC {α : Type} (f : α → List Value) (xs : List α) : List Value := xs.flatMap f

/-- Each element has k cells. -/
structure Wide {α : Type} (f : α → List Value) (k : Nat) : Prop where
  len : ∀ x, (f x).length = k
  one : ∀ x, ∀ u ∈ f x, u.oneCell' = true

section
variable {α : Type} {f : α → List Value} {k : Nat}

theorem rowC_nil : rowC f [] = [] := rfl
theorem rowC_cons (x : α) (xs : List α) : rowC f (x :: xs) = f x ++ rowC f xs := by simp [rowC]
theorem rowC_app (xs ys : List α) : rowC f (xs ++ ys) = rowC f xs ++ rowC f ys := by simp [rowC]
theorem rowC_one (x : α) : rowC f [x] = f x := by simp [rowC]
theorem rowC_len (h : Wide f k) : ∀ xs : List α, (rowC f xs).length = xs.length * k
  | [] => by simp [rowC]
  | x :: xs => by rw [rowC_cons, List.length_append, rowC_len h xs, h.len, List.length_cons, Nat.add_mul, Nat.one_mul, Nat.add_comm]
theorem rowC_oneCell (h : Wide f k) (xs : List α) : ∀ u ∈ rowC f xs, u.oneCell' = true := by
  intro u hu
  obtain ⟨x, _, hx⟩ := List.mem_flatMap.1 hu
  exact h.one x u hx
theorem rowC_at (h : Wide f k) (xs : List α) (i : Nat) (hi : i < xs.length) (j : Nat) (hj : j < k) : (rowC f xs)[i * k + j]? = (f xs[i])[j]? := by
  have e : rowC f xs = rowC f (xs.take i) ++ (f xs[i] ++ rowC f (xs.drop (i + 1))) := by
    rw [← rowC_cons, ← rowC_app, ← List.drop_eq_getElem_cons hi, List.take_append_drop]
  have hl : (rowC f (xs.take i)).length = i * k := by rw [rowC_len h, List.length_take, Nat.min_eq_left (by omega)]
  rw [e, List.getElem?_append_right (by omega), hl, Nat.add_sub_cancel_left, List.getElem?_append_left (by rw [h.len]; exact hj)]
theorem rowC_take (h : Wide f k) (xs : List α) (i : Nat) (hi : i ≤ xs.length) : (rowC f xs).take (i * k) = rowC f (xs.take i) := by
  have hl : (rowC f (xs.take i)).length = i * k := by rw [rowC_len h, List.length_take, Nat.min_eq_left hi]
  conv => lhs; rw [← List.take_append_drop i xs, rowC_app, ← hl]
  exact List.take_left
theorem rowC_drop (h : Wide f k) (xs : List α) (i : Nat) (hi : i ≤ xs.length) : (rowC f xs).drop (i * k) = rowC f (xs.drop i) := by
  have hl : (rowC f (xs.take i)).length = i * k := by rw [rowC_len h, List.length_take, Nat.min_eq_left hi]
  conv => lhs; rw [← List.take_append_drop i xs, rowC_app, ← hl]
  exact List.drop_left
theorem rowC_set (xs : List α) (i : Nat) (hi : i < xs.length) (y : α) : rowC f (xs.set i y) = rowC f (xs.take i) ++ f y ++ rowC f (xs.drop (i + 1)) := by
  rw [List.set_eq_take_append_cons_drop, if_pos hi, rowC_app, rowC_cons, List.append_assoc]

end

section
variable {O : Nat → Prop} {w : World} {size : Nat} {a : Option Addr} {n c : Nat} {cs : List Value} {g : Option Nat}

theorem Cel.cap2 {m : Nat} (h : Cel O w size (.slice a m c) n cs g) : n ≤ c ∧ c ≤ maxLen ∧ m = n := by
  cases h with
  | nil h1 h2 h3 => cases h1; exact ⟨by omega, by unfold maxLen; omega, h2.symm⟩
  | row g cap h1 hl h2 h3 h4 h5 h6 h7 => cases h1; exact ⟨h4, h5, rfl⟩

theorem Cel.at2 {m : Nat} (h : Cel O w size (.slice a m c) n cs g) (hp : 0 < n) : ∃ k, a = some ⟨k, 0, none⟩ ∧ g = some k := by
  cases h with
  | nil h1 h2 h3 => omega
  | row g cap h1 hl h2 h3 h4 h5 h6 h7 => cases h1; exact ⟨g, rfl, rfl⟩

theorem Cel.live {g : Nat} (h : Cel O w size (.slice a n c) n cs (some g)) (j : Nat) (hj : j < c * size) : (w.cell? ⟨g, j, none⟩).isSome = true ∧ w.frozen? ⟨g, j, none⟩ = false := by
  cases h with
  | row g cap h1 hl h2 h3 h4 h5 h6 h7 => cases h1; exact h7 j hj

theorem Cel.setOut (h : Cel O w size (.slice a n c) n cs g) (b : Addr) (v : Value) (hne : g ≠ some b.block) : Cel O (w.setCell b v) size (.slice a n c) n cs g :=
  h.stay (by simp [World.setCell]) (fun k hk => Below.heap_setCell _ _ _ _ (fun e => hne (by rw [hk, e]))) (fun _ e => e)

/-- The first m elements. -/
theorem Cel.cut (h : Cel O w size (.slice a n c) n cs g) (m : Nat) (hm : m ≤ n) : Cel O w size (.slice a m c) m (cs.take (m * size)) g := by
  have hcl := h.len
  have hms : m * size ≤ n * size := Nat.mul_le_mul_right _ hm
  cases h with
  | nil h1 h2 h3 =>
    cases h1; subst h3
    obtain rfl : m = 0 := by omega
    exact .nil rfl rfl (by simp)
  | row g cap h1 hl h2 h3 h4 h5 h6 h7 =>
    cases h1
    refine .row g _ rfl (by rw [List.length_take]; omega) h2 h3 (by omega) h5 (fun j hj => ?_) h7
    rw [List.getElem_take]
    exact h6 j _

/-- Cells are written. -/
theorem Cel.setCells {g : Nat} (h : Cel O w size (.slice a n c) n cs (some g)) (o : Nat) (vs : List Value) (hroom : o + vs.length ≤ c * size) (n' : Nat) (cs' : List Value) (hn' : n' ≤ c) (hl' : cs'.length = n' * size)
    (hcs : ∀ j (hj : j < cs'.length), (if o ≤ j ∧ j < o + vs.length then vs[j - o]? else cs[j]?) = some cs'[j]) : Cel O (w.setCells g o vs) size (.slice a n' c) n' cs' (some g) := by
  cases h with
  | row g cap h1 hl h2 h3 h4 h5 h6 h7 =>
    cases h1
    obtain ⟨t1, t2, t3, t4⟩ := tape_setCellsC g vs o w
    have hin := World.cell?_setCells_in g vs o w (fun j hj => (h7 _ (by omega)).1)
    have hout : ∀ j, ¬ (o ≤ j ∧ j < o + vs.length) → (w.setCells g o vs).cell? ⟨g, j, none⟩ = w.cell? ⟨g, j, none⟩ := fun j hj =>
      World.cell?_setCells_out g _ _ _ _ (fun _ _ => by show j < o ∨ o + vs.length ≤ j; omega)
    refine .row g _ rfl hl' h2 (by rw [t4]; exact h3) hn' h5 (fun j hj => ?_) (fun j hj => ⟨?_, ?_⟩)
    · have e := hcs j hj
      by_cases hlt : o ≤ j ∧ j < o + vs.length
      · rw [if_pos hlt] at e
        have := hin (j - o) (by omega)
        rw [show o + (j - o) = j by omega] at this
        rw [this, ← e, List.getElem?_eq_getElem (by omega)]
      · rw [if_neg hlt] at e
        rw [hout j hlt, ← e]
        have hj2 : j < cs.length := by
          rcases Nat.lt_or_ge j cs.length with h | h
          · exact h
          · rw [List.getElem?_eq_none h] at e; cases e
        rw [List.getElem?_eq_getElem hj2]; exact h6 j hj2
    · by_cases hlt : o ≤ j ∧ j < o + vs.length
      · have := hin (j - o) (by omega)
        rw [show o + (j - o) = j by omega] at this
        rw [this]; rfl
      · rw [hout j hlt]; exact (h7 j hj).1
    · rw [World.frozen?_setCells]; exact (h7 j hj).2

theorem Stay.setCells (g o : Nat) (vs : List Value) (w : World) (h : O g) : Stay O w (w.setCells g o vs) := by
  obtain ⟨t1, t2, t3, t4⟩ := tape_setCellsC g vs o w
  exact ⟨t2, t1, t3, by rw [t4]; exact Nat.le_refl _, fun k hk hn => block_setCellsC g k (fun e => hn (by rw [e]; exact h)) _ _ _⟩

end

/-- An element. -/
theorem Cel.elem {α : Type} {f : α → List Value} {k : Nat} (hf : Wide f k) {O : Nat → Prop} {w : World} {a : Option Addr} {n c : Nat} {xs : List α} {g : Option Nat} (h : Cel O w k (.slice a n c) n (rowC f xs) g) {i : Nat} (hi : i < xs.length) (hn : xs.length = n) :
    ∃ b, a = some ⟨b, 0, none⟩ ∧ g = some b ∧ ∀ j v, (f xs[i])[j]? = some v → w.cell? ⟨b, i * k + j, none⟩ = some v := by
  obtain ⟨b, rfl, rfl⟩ := h.at2 (by omega)
  refine ⟨b, rfl, rfl, fun j v hv => ?_⟩
  have hj : j < k := by have := (List.getElem?_eq_some_iff.1 hv).1; rwa [hf.len] at this
  rw [← rowC_at hf xs i hi j hj] at hv
  obtain ⟨h1, h2⟩ := List.getElem?_eq_some_iff.1 hv
  rw [← h2]; exact h.cell _ h1

/-- 'clear(s)': s has n elements. -/
theorem run_clear_cel {P : Program} (w : World) (t e ty : TypeId) (z : Value) (ht : P.underlying t = some (.slice e)) (hv : ∀ w, (zeroValue e).run P w = .ok z w) (h1 : ∀ i : Nat, (z.cells[i % z.cells.size]!).oneCell' = true) (b o n c : Nat) (hn : 0 < n)
    (hc : ∀ j, j < n * z.cells.size → (w.cell? ⟨b, o + j, none⟩).isSome = true) (hf : ∀ j, j < n * z.cells.size → w.frozen? ⟨b, o + j, none⟩ = false) :
    (Builtin.clear_ #[t] ty #[.slice (some ⟨b, o, none⟩) n c]).run P w = .ok (.tuple #[]) (w.setCells b o (Builtin.zeroCells z.cells n).toList) := by
  have hlen : (Builtin.zeroCells z.cells n).toList.length = n * z.cells.size := by rw [Array.length_toList, size_zeroCells]
  have hst := run_storeCells_cells (P := P) b o (Builtin.zeroCells z.cells n).toList 0 w (by rw [hlen]; simpa using hc) (by rw [hlen]; simpa using hf) (by
    intro v hv'
    simp only [Builtin.zeroCells] at hv'
    rw [Array.toList_map] at hv'
    obtain ⟨i, _, rfl⟩ := List.mem_map.1 hv'
    exact h1 i)
  simp only [Nat.add_zero] at hst
  obtain ⟨m, rfl⟩ : ∃ m, n = m + 1 := ⟨n - 1, by omega⟩
  simp [Builtin.clear_, run_underlying ht, hv, hst]

/-- append, as one step of a region that draws. -/
theorem step_append_cel {P : Program} {ops : Array Oper} {o : Oper} {a : Act} {w : World} {K : Act → World → Prop} {Q : Exit → Act → World → Prop} {E : Prop}
    (hgd : o.guard = none) (s x : Operand) (t tx : TypeId) (ho : o.op = .call { callee := .builtin .append, args := #[s, x], argTypes := #[t, tx] })
    (e : TypeId) (i : TypeInfo) (z : Value) (size bytes : Nat) (ht : P.underlying t = some (.slice e)) (hi : P.info? e = some i) (hz : i.zero = some z) (hsize : i.size = size) (hby : i.bytes = bytes) (hzs : z.cells.size = size)
    {O : Nat → Prop} (sl : Value) (n : Nat) (cs : List Value) (g : Option Nat) (hv : a.eval s = sl) (h : Cel O w size sl n cs g) (xv : Value) (m : Nat) (news : List Value) (hxv : a.eval x = xv) (hs : Src P size tx xv m news w) (hlen : n + m ≤ maxLen) (hlb : (n + m) * bytes ≤ 140737488355328)
    (hK : ∀ a' c' w' g', Cel (Grow O w w') w' size (.slice a' (n + m) c') (n + m) (cs ++ news) g' → Stay (fun k => g = some k) w w' → (∀ k, g' = some k → g = some k ∨ w.heap.size ≤ k) → K (a.put o.dst (.slice a' (n + m) c')) w') :
    if Region.wanted o (yielded ops a.tmps) = true then Oper.wp P o a w K Q else E := by
  have hw : Region.wanted o (yielded ops a.tmps) = true := by simp [Region.wanted, hgd]
  rw [if_pos hw]
  obtain ⟨a', c', w', g', hrun, r1, r2, r3⟩ := run_append_cel (P := P) w t tx o.type e i z size bytes ht hi hz hsize hby hzs h xv m news hs hlen hlb
  unfold Oper.wp
  simp [execOp, ho, resolve, invoke, builtin, hv, hxv, hrun, Result.andThen]
  exact hK a' c' w' g' r1 r2 r3

section
variable {α : Type} {f : α → List Value} {k : Nat}

/-- The first m elements, as what is appended. -/
theorem src_firstC {P : Program} {t e : TypeId} (ht : P.underlying t = some (.slice e)) (hf : Wide f k) {O : Nat → Prop} {w : World} {a : Option Addr} {n c : Nat} {xs : List α} {g : Option Nat} (h : Cel O w k (.slice a n c) n (rowC f xs) g) (hn : xs.length = n) (m : Nat) (hm : m ≤ n) : Src P k t (.slice a m c) m (rowC f (xs.take m)) w := by
  have h2 := h.cut m hm
  rw [rowC_take hf xs m (by omega)] at h2
  cases h2 with
  | nil h1 h2 h3 =>
    cases h1; rw [h3]
    exact Src.ofNil w ht 0
  | row g cap h1 hl h2 h3 h4 h5 h6 h7 =>
    cases h1
    refine Src.ofSlice w ht ⟨g, 0, none⟩ m _ _ hl (fun j u hu => ?_) (rowC_oneCell hf _)
    rw [Addr.add_lit, Nat.zero_add]
    obtain ⟨hj1, hj2⟩ := List.getElem?_eq_some_iff.1 hu
    rw [h6 j hj1, ← hj2]

/-- Those from i on, as what is appended. -/
theorem src_lastC {P : Program} {t e : TypeId} (ht : P.underlying t = some (.slice e)) (hf : Wide f k) {O : Nat → Prop} {w : World} {g n c : Nat} {xs : List α} (h : Cel O w k (.slice (some ⟨g, 0, none⟩) n c) n (rowC f xs) (some g)) (hn : xs.length = n) (i m c2 : Nat) (hi : i + m = n) :
    Src P k t (.slice (if c = i then some ⟨g, 0, none⟩ else some ⟨g, i * k, none⟩) m c2) m (rowC f (xs.drop i)) w := by
  have hcap := h.cap2.1
  by_cases e : c = i
  · rw [if_pos e]
    obtain rfl : m = 0 := by omega
    rw [List.drop_of_length_le (by omega)]
    exact Src.ofSlice w ht ⟨g, 0, none⟩ 0 _ [] (by simp) (fun j u hu => by simp at hu) (fun u hu => by cases hu)
  · rw [if_neg e]
    refine Src.ofSlice w ht ⟨g, i * k, none⟩ m _ _ (by rw [rowC_len hf, List.length_drop]; congr 1; omega) (fun j u hu => ?_) (rowC_oneCell hf _)
    rw [Addr.add_lit]
    rw [← rowC_drop hf xs i (by omega), List.getElem?_drop] at hu
    obtain ⟨hj1, hj2⟩ := List.getElem?_eq_some_iff.1 hu
    rw [h.cell _ hj1, ← hj2]

end

end Go.Proofs.Ytapnjgmihfmapaa
