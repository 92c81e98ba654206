/- A row that begins at some cell of a block: what append makes of it; its parts. No program in it. -/
import Derived.Test.YthogpaojdlfjcaaRowC
import Derived.Test.YthogpaojdlfjcaaRetryR
namespace Go.Proofs.Ythogpaojdlfjcaa.Rty
open Go.RowKit Go.Proofs.Ythogpaojdlfjcaa Go.Proofs.Ythogpaojdlfjcaa.Edi
set_option linter.unusedVariables false

inductive CelO (O : Nat → Prop) (w : World) (size : Nat) (sl : Value) (n : Nat) (cs : List Value) : Option Nat → Prop
  | nil : sl = .slice none 0 0 → n = 0 → cs = [] → CelO O w size sl n cs none
  | row (g off cap : Nat) : sl = .slice (some ⟨g, off, none⟩) n cap → cs.length = n * size → O g → g < w.heap.size → n ≤ cap → cap ≤ maxLen →
      (∀ j (hj : j < cs.length), w.cell? ⟨g, off + j, none⟩ = some cs[j]) → (∀ j, j < cap * size → (w.cell? ⟨g, off + j, none⟩).isSome = true ∧ w.frozen? ⟨g, off + j, none⟩ = false) → CelO O w size sl n cs (some g)

section
variable {O O2 : Nat → Prop} {w w' : World} {size : Nat} {sl : Value} {n : Nat} {cs : List Value} {g : Option Nat}

theorem CelO.of (h : Cel O w size sl n cs g) : CelO O w size sl n cs g := by
  cases h with
  | nil h1 h2 h3 => exact .nil h1 h2 h3
  | row g cap h1 hl h2 h3 h4 h5 h6 h7 => exact .row g 0 cap h1 hl h2 h3 h4 h5 (fun j hj => by rw [Nat.zero_add]; exact h6 j hj) (fun j hj => by rw [Nat.zero_add]; exact h7 j hj)
theorem CelO.stay (h : CelO O w size sl n cs g) (hs : w.heap.size ≤ w'.heap.size) (hb : ∀ k, g = some k → w'.heap[k]? = w.heap[k]?) (hO : ∀ k, O k → O2 k) : CelO O2 w' size sl n cs g := by
  cases h with
  | nil h1 h2 h3 => exact .nil h1 h2 h3
  | row g off cap h1 hl h2 h3 h4 h5 h6 h7 =>
    have e := hb g rfl
    exact .row g off cap h1 hl (hO g h2) (by omega) h4 h5 (fun j hj => (World.cell?_of_block (a := ⟨g, off + j, none⟩) e).trans (h6 j hj))
      (fun j hj => ⟨by rw [World.cell?_of_block (a := ⟨g, off + j, none⟩) e]; exact (h7 j hj).1, (World.frozen?_of_block (a := ⟨g, off + j, none⟩) e).trans (h7 j hj).2⟩)
theorem CelO.lt {g : Nat} (h : CelO O w size sl n cs (some g)) : g < w.heap.size ∧ O g := by
  cases h with
  | row g off cap h1 hl h2 h3 h4 h5 h6 h7 => exact ⟨h3, h2⟩
theorem CelO.len (h : CelO O w size sl n cs g) : cs.length = n * size := by
  cases h with
  | nil h1 h2 h3 => subst h2 h3; simp
  | row g off cap h1 hl h2 h3 h4 h5 h6 h7 => exact hl
theorem CelO.below (h : CelO O w size sl n cs g) (hb : Below w.heap.size w w') : CelO O w' size sl n cs g :=
  h.stay hb.size (fun k hk => hb.block k (by rw [hk] at h; exact h.lt.1)) (fun _ e => e)
theorem CelO.cap2 {a : Option Addr} {m c : Nat} (h : CelO O w size (.slice a m c) n cs g) : n ≤ c ∧ c ≤ maxLen ∧ m = n := by
  cases h with
  | nil h1 h2 h3 => cases h1; exact ⟨by omega, by unfold maxLen; omega, h2.symm⟩
  | row g off cap h1 hl h2 h3 h4 h5 h6 h7 => cases h1; exact ⟨h4, h5, rfl⟩
theorem CelO.at2 {a : Option Addr} {m c : Nat} (h : CelO O w size (.slice a m c) n cs g) (hp : 0 < n) : ∃ k off, a = some ⟨k, off, none⟩ ∧ g = some k ∧ ∀ j (hj : j < cs.length), w.cell? ⟨k, off + j, none⟩ = some cs[j] := by
  cases h with
  | nil h1 h2 h3 => omega
  | row g off cap h1 hl h2 h3 h4 h5 h6 h7 => cases h1; exact ⟨g, off, rfl, rfl, h6⟩
/-- Without the first one. -/
theorem CelO.tail {k off c m : Nat} (h : CelO O w size (.slice (some ⟨k, off, none⟩) (m + 1) c) (m + 1) cs g) : CelO O w size (.slice (some ⟨k, off + size, none⟩) m (c - 1)) m (cs.drop size) g := by
  cases h with
  | nil h1 h2 h3 => cases h1
  | row g' off' cap h1 hl h2 h3 h4 h5 h6 h7 =>
    cases h1
    rw [Nat.add_mul, Nat.one_mul] at hl
    refine .row k (off + size) (c - 1) rfl (by rw [List.length_drop]; omega) h2 h3 (by omega) (by omega) (fun j hj => ?_) (fun j hj => ?_)
    · rw [List.length_drop] at hj
      rw [List.getElem_drop, Nat.add_assoc]
      exact h6 (size + j) (by omega)
    · have hm : (c - 1) * size + size = c * size := by
        have : c = (c - 1) + 1 := by omega
        conv => rhs; rw [this, Nat.add_mul, Nat.one_mul]
      rw [Nat.add_assoc]
      exact h7 (size + j) (by omega)

theorem run_append_celO {P : Program} (w : World) (t tx ty e : TypeId) (i : TypeInfo) (z : Value) (size bytes : Nat) (ht : P.underlying t = some (.slice e)) (hi : P.info? e = some i) (hz : i.zero = some z) (hsize : i.size = size) (hby : i.bytes = bytes) (hzs : z.cells.size = size)
    {O : Nat → Prop} {sl : Value} {n : Nat} {cs : List Value} {g : Option Nat} (h : CelO O w size sl n cs g) (x : Value) (m : Nat) (news : List Value) (hs : Src P size tx x m news w) (hlen : n + m ≤ maxLen) (hlb : (n + m) * bytes ≤ 140737488355328) :
    ∃ a' c' w' g', (Builtin.append_ #[t, tx] ty #[sl, x]).run P w = .ok (.slice a' (n + m) c') w' ∧ CelO (Grow O w w') w' size (.slice a' (n + m) c') (n + m) (cs ++ news) g' ∧ Stay (fun k => g = some k) w w' ∧ (∀ k, g' = some k → g = some k ∨ w.heap.size ≤ k) := by
  have hnl := hs.newsLen
  have hcl := h.len
  have hs' : Src P i.size tx x m news w := by rw [hsize]; exact hs
  have hmul : (n + m) * size = n * size + m * size := Nat.add_mul _ _ _
  have h63 : n + m ≤ 9223372036854775807 := by unfold maxLen at hlen; omega
  have grow : ∀ (p : Option Addr) (cap : Nat), n ≤ cap → cap ≤ maxLen → cap < n + m → (Builtin.firstCells i.size n (.slice p n cap)).run P w.drew = .ok cs.toArray w.drew →
      ∃ a' c' w' g', (Builtin.append_ #[t, tx] ty #[.slice p n cap, x]).run P w = .ok (.slice a' (n + m) c') w' ∧ CelO (Grow O w w') w' size (.slice a' (n + m) c') (n + m) (cs ++ news) g' ∧ Stay (fun k => g = some k) w w' ∧ (∀ k, g' = some k → g = some k ∨ w.heap.size ≤ k) := by
    intro p cap h4 h5 hroom hold
    have hrun := run_append_grow_src (P := P) w t tx ty e i z ht hi hz p n cap cs hold x m news hs' (by omega) (by omega) (growslice_fits (by omega) (by rw [hby]; exact hlb))
    have hge := grownCap_ge w (n + m) cap e
    have hcm := grownCap_le_maxLen w (n + m) cap e hlen
    have hL : (cs ++ news).length = (n + m) * size := by rw [List.length_append, hcl, hnl, hmul]
    generalize grownCap w (n + m) cap e = c' at *
    have hsz : ((cs ++ news).toArray ++ Builtin.zeroCells z.cells (c' - (n + m))).size = c' * size := by
      rw [Array.size_append, List.size_toArray, hL, size_zeroCells, hzs, ← Nat.add_mul]
      congr 1; omega
    refine ⟨some ⟨w.heap.size, 0, none⟩, c', _, some w.heap.size, hrun, .row w.heap.size 0 c' rfl hL (.inr ⟨Nat.le_refl _, by simp⟩) (by simp) hge hcm (fun j hj => ?_) (fun j hj => ⟨?_, ?_⟩), Stay.drewAlloc _ _ _, fun k hk => .inr (by cases hk; exact Nat.le_refl _)⟩
    · have e1 : (w.drew.alloc (.cells ((cs ++ news).toArray ++ Builtin.zeroCells z.cells (c' - (n + m))) e)).cell? ⟨w.heap.size, j, none⟩ = _ := World.cell?_alloc_new w.drew _ _ j
      rw [Nat.zero_add, e1, Array.getElem?_append_left (by rw [List.size_toArray]; exact hj), List.getElem?_toArray, List.getElem?_eq_getElem hj]
    · have e1 : (w.drew.alloc (.cells ((cs ++ news).toArray ++ Builtin.zeroCells z.cells (c' - (n + m))) e)).cell? ⟨w.heap.size, j, none⟩ = _ := World.cell?_alloc_new w.drew _ _ j
      rw [Nat.zero_add, e1, Array.getElem?_eq_getElem (by rw [hsz]; exact hj)]
      rfl
    · rw [Nat.zero_add]; exact World.frozen?_alloc_new w.drew _ _ j
  cases h with
  | nil h1 h2 h3 =>
    subst h1 h2 h3
    by_cases h0 : m = 0
    · subst h0
      have en : news = [] := List.length_eq_zero_iff.1 (by rw [hnl]; simp)
      subst en
      have := run_append_nothing (P := P) w t tx ty e i ht hi none 0 0 (Nat.le_refl _) x hs'
      exact ⟨none, 0, w, none, this, .nil rfl rfl rfl, Stay.refl _ _, fun k hk => by cases hk⟩
    · have := grow none 0 (Nat.le_refl _) (Nat.zero_le _) (by omega) (by simp [Builtin.firstCells])
      exact this
  | row g off cap h1 hl h2 h3 h4 h5 h6 h7 =>
    subst h1
    by_cases hroom : n + m ≤ cap
    · have hcs : n * size + m * size ≤ cap * size := by rw [← Nat.add_mul]; exact Nat.mul_le_mul_right _ hroom
      have hrun := run_append_room_src (P := P) w t tx ty e i ht hi g off n cap x m news hs' hroom
        (fun j hj => by rw [Nat.add_assoc]; exact (h7 _ (by rw [hsize]; omega)).1) (fun j hj => by rw [Nat.add_assoc]; exact (h7 _ (by rw [hsize]; omega)).2)
      rw [hsize] at hrun
      obtain ⟨t1, t2, t3, t4⟩ := tape_setCellsC g news (off + n * size) w
      have hin := World.cell?_setCells_in g news (off + n * size) w (fun j hj => by rw [Nat.add_assoc]; exact (h7 _ (by omega)).1)
      refine ⟨some ⟨g, off, none⟩, cap, _, some g, hrun, .row g off cap rfl (by rw [List.length_append, hl, hnl, hmul]) (.inl h2) (by rw [t4]; exact h3) hroom h5 (fun j hj => ?_) (fun j hj => ⟨?_, ?_⟩), ⟨t2, t1, t3, by rw [t4]; exact Nat.le_refl _, fun k hk hn => block_setCellsC g k (fun e => hn (by rw [e])) _ _ _⟩, fun k hk => .inl hk⟩
      · rw [List.length_append, hl, hnl] at hj
        by_cases hlt : j < cs.length
        · rw [World.cell?_setCells_out g _ _ _ _ (fun _ _ => Or.inl (by show off + j < off + n * size; omega)), List.getElem_append_left hlt]
          exact h6 j hlt
        · have := hin (j - n * size) (by omega)
          rw [show off + n * size + (j - n * size) = off + j by omega] at this
          rw [this, List.getElem_append_right (by omega)]
          simp only [hl]
      · by_cases hlt : n * size ≤ j ∧ j < n * size + m * size
        · have := hin (j - n * size) (by omega)
          rw [show off + n * size + (j - n * size) = off + j by omega] at this
          rw [this]; rfl
        · rw [World.cell?_setCells_out g _ _ _ _ (fun _ _ => by show off + j < off + n * size ∨ off + n * size + news.length ≤ off + j; omega)]
          exact (h7 j hj).1
      · rw [World.frozen?_setCells]; exact (h7 j hj).2
    · refine grow (some ⟨g, off, none⟩) cap h4 h5 (by omega) ?_
      refine run_firstCells_some w.drew i.size n ⟨g, off, none⟩ n cap cs (by rw [hsize]; exact hl) (fun j u hu => ?_)
      rw [Addr.add_lit]
      obtain ⟨hj1, hj2⟩ := List.getElem?_eq_some_iff.1 hu
      rw [← hj2]
      exact h6 j hj1

/-- append, as one step of a region that draws. -/
theorem step_append_celO {P : Program} {ops : Array Oper} {o : Oper} {a : Act} {w : World} {K : Act → World → Prop} {Q : Exit → Act → World → Prop} {E : Prop}
    (hgd : o.guard = none) (s x : Operand) (t tx : TypeId) (ho : o.op = .call { callee := .builtin .append, args := #[s, x], argTypes := #[t, tx] })
    (e : TypeId) (i : TypeInfo) (z : Value) (size bytes : Nat) (ht : P.underlying t = some (.slice e)) (hi : P.info? e = some i) (hz : i.zero = some z) (hsize : i.size = size) (hby : i.bytes = bytes) (hzs : z.cells.size = size)
    {O : Nat → Prop} (sl : Value) (n : Nat) (cs : List Value) (g : Option Nat) (hv : a.eval s = sl) (h : CelO O w size sl n cs g) (xv : Value) (m : Nat) (news : List Value) (hxv : a.eval x = xv) (hs : Src P size tx xv m news w) (hlen : n + m ≤ maxLen) (hlb : (n + m) * bytes ≤ 140737488355328)
    (hK : ∀ a' c' w' g', CelO (Grow O w w') w' size (.slice a' (n + m) c') (n + m) (cs ++ news) g' → Stay (fun k => g = some k) w w' → (∀ k, g' = some k → g = some k ∨ w.heap.size ≤ k) → K (a.put o.dst (.slice a' (n + m) c')) w') :
    if Region.wanted o (yielded ops a.tmps) = true then Oper.wp P o a w K Q else E := by
  have hw : Region.wanted o (yielded ops a.tmps) = true := by simp [Region.wanted, hgd]
  rw [if_pos hw]
  obtain ⟨a', c', w', g', hrun, r1, r2, r3⟩ := run_append_celO (P := P) w t tx o.type e i z size bytes ht hi hz hsize hby hzs h xv m news hs hlen hlb
  unfold Oper.wp
  simp [execOp, ho, resolve, invoke, builtin, hv, hxv, hrun, Result.andThen]
  exact hK a' c' w' g' r1 r2 r3
end

/-- A part of a row, as what is appended. -/
theorem src_part {P : Program} {t e : TypeId} (ht : P.underlying t = some (.slice e)) {α : Type} {f : α → List Value} {k : Nat} (hf : Wide f k) {O : Nat → Prop} {w : World} {b off n c : Nat} {xs : List α} {g : Option Nat} (h : CelO O w k (.slice (some ⟨b, off, none⟩) n c) n (rowC f xs) g) (hn : xs.length = n) (i m q : Nat) (hm : i + m ≤ n) : Src P k t (.slice (some ⟨b, off + i * k, none⟩) m q) m (rowC f ((xs.drop i).take m)) w := by
  cases h with
  | nil h1 h2 h3 => cases h1
  | row g off' cap h1 hl h2 h3 h4 h5 h6 h7 =>
    cases h1
    have hlen : ((xs.drop i).take m).length = m := by rw [List.length_take, List.length_drop]; omega
    refine Src.ofSlice w ht ⟨b, off + i * k, none⟩ m q _ (by rw [rowC_len hf, hlen]) (fun j u hu => ?_) (rowC_oneCell hf _)
    rw [Addr.add_lit]
    have hj := (List.getElem?_eq_some_iff.1 hu).1
    rw [rowC_len hf, hlen] at hj
    have e1 : rowC f ((xs.drop i).take m) = ((rowC f xs).drop (i * k)).take (m * k) := by
      rw [rowC_drop hf xs i (by omega), rowC_take hf (xs.drop i) m (by rw [List.length_drop]; omega)]
    rw [e1, List.getElem?_take_of_lt hj, List.getElem?_drop] at hu
    obtain ⟨h8, h9⟩ := List.getElem?_eq_some_iff.1 hu
    have := h6 (i * k + j) h8
    rw [← h9, ← this, Nat.add_assoc]

end Go.Proofs.Ythogpaojdlfjcaa.Rty
