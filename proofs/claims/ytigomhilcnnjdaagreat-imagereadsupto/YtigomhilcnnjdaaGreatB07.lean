/- Part 7 of the proof: RowC, LeaseM, LeaseP. -/
import Derived.Test.YtigomhilcnnjdaaGreatB00
import Derived.Test.YtigomhilcnnjdaaGreatB06
import Derived.Deep.RegionLaw
import Derived.Laws.IdiomCopy

/- Rows of elements of several cells each: cut, cleared, written, appended in a region that draws. No program in it. -/
namespace Go.Proofs.YtigomhilcnnjdaaGreat
open Go.RowKit

/-- The cells of a list of elements. -/
def rowC {α : Type} (f : α → List Value) (xs : List α) : List Value := xs.flatMap f

/-- Each element has k cells. -/
structure Wide {α : Type} (f : α → List Value) (k : Nat) : Prop where
  len : ∀ x, (f x).length = k
  one : ∀ x, ∀ u ∈ f x, u.oneCell' = true

section
variable {α : Type} {f : α → List Value} {k : Nat}

theorem rowC_nil : rowC f [] = [] := rfl
theorem rowC_cons (x : α) (xs : List α) : rowC f (x :: xs) = f x ++ rowC f xs := by simp [rowC]
theorem rowC_app (xs ys : List α) : rowC f (xs ++ ys) = rowC f xs ++ rowC f ys := by simp [rowC]
theorem rowC_one (x : α) : rowC f [x] = f x := by simp [rowC]
theorem rowC_len (h : Wide f k) : ∀ xs : List α, (rowC f xs).length = xs.length * k
  | [] => by simp [rowC]
  | x :: xs => by rw [rowC_cons, List.length_append, rowC_len h xs, h.len, List.length_cons, Nat.add_mul, Nat.one_mul, Nat.add_comm]
theorem rowC_oneCell (h : Wide f k) (xs : List α) : ∀ u ∈ rowC f xs, u.oneCell' = true := by
  intro u hu
  obtain ⟨x, _, hx⟩ := List.mem_flatMap.1 hu
  exact h.one x u hx
theorem rowC_at (h : Wide f k) (xs : List α) (i : Nat) (hi : i < xs.length) (j : Nat) (hj : j < k) : (rowC f xs)[i * k + j]? = (f xs[i])[j]? := by
  have e : rowC f xs = rowC f (xs.take i) ++ (f xs[i] ++ rowC f (xs.drop (i + 1))) := by
    rw [← rowC_cons, ← rowC_app, ← List.drop_eq_getElem_cons hi, List.take_append_drop]
  have hl : (rowC f (xs.take i)).length = i * k := by rw [rowC_len h, List.length_take, Nat.min_eq_left (by omega)]
  rw [e, List.getElem?_append_right (by omega), hl, Nat.add_sub_cancel_left, List.getElem?_append_left (by rw [h.len]; exact hj)]
theorem rowC_take (h : Wide f k) (xs : List α) (i : Nat) (hi : i ≤ xs.length) : (rowC f xs).take (i * k) = rowC f (xs.take i) := by
  have hl : (rowC f (xs.take i)).length = i * k := by rw [rowC_len h, List.length_take, Nat.min_eq_left hi]
  conv => lhs; rw [← List.take_append_drop i xs, rowC_app, ← hl]
  exact List.take_left
theorem rowC_drop (h : Wide f k) (xs : List α) (i : Nat) (hi : i ≤ xs.length) : (rowC f xs).drop (i * k) = rowC f (xs.drop i) := by
  have hl : (rowC f (xs.take i)).length = i * k := by rw [rowC_len h, List.length_take, Nat.min_eq_left hi]
  conv => lhs; rw [← List.take_append_drop i xs, rowC_app, ← hl]
  exact List.drop_left
theorem rowC_set (xs : List α) (i : Nat) (hi : i < xs.length) (y : α) : rowC f (xs.set i y) = rowC f (xs.take i) ++ f y ++ rowC f (xs.drop (i + 1)) := by
  rw [List.set_eq_take_append_cons_drop, if_pos hi, rowC_app, rowC_cons, List.append_assoc]

end

section
variable {O : Nat → Prop} {w : World} {size : Nat} {a : Option Addr} {n c : Nat} {cs : List Value} {g : Option Nat}

theorem Cel.cap2 {m : Nat} (h : Cel O w size (.slice a m c) n cs g) : n ≤ c ∧ c ≤ maxLen ∧ m = n := by
  cases h with
  | nil h1 h2 h3 => cases h1; exact ⟨by omega, by unfold maxLen; omega, h2.symm⟩
  | row g cap h1 hl h2 h3 h4 h5 h6 h7 => cases h1; exact ⟨h4, h5, rfl⟩

theorem Cel.at2 {m : Nat} (h : Cel O w size (.slice a m c) n cs g) (hp : 0 < n) : ∃ k, a = some ⟨k, 0, none⟩ ∧ g = some k := by
  cases h with
  | nil h1 h2 h3 => omega
  | row g cap h1 hl h2 h3 h4 h5 h6 h7 => cases h1; exact ⟨g, rfl, rfl⟩

theorem Cel.live {g : Nat} (h : Cel O w size (.slice a n c) n cs (some g)) (j : Nat) (hj : j < c * size) : (w.cell? ⟨g, j, none⟩).isSome = true ∧ w.frozen? ⟨g, j, none⟩ = false := by
  cases h with
  | row g cap h1 hl h2 h3 h4 h5 h6 h7 => cases h1; exact h7 j hj

theorem Cel.setOut (h : Cel O w size (.slice a n c) n cs g) (b : Addr) (v : Value) (hne : g ≠ some b.block) : Cel O (w.setCell b v) size (.slice a n c) n cs g :=
  h.stay (by simp [World.setCell]) (fun k hk => Below.heap_setCell _ _ _ _ (fun e => hne (by rw [hk, e]))) (fun _ e => e)

/-- The first m elements. -/
theorem Cel.cut (h : Cel O w size (.slice a n c) n cs g) (m : Nat) (hm : m ≤ n) : Cel O w size (.slice a m c) m (cs.take (m * size)) g := by
  have hcl := h.len
  have hms : m * size ≤ n * size := Nat.mul_le_mul_right _ hm
  cases h with
  | nil h1 h2 h3 =>
    cases h1; subst h3
    obtain rfl : m = 0 := by omega
    exact .nil rfl rfl (by simp)
  | row g cap h1 hl h2 h3 h4 h5 h6 h7 =>
    cases h1
    refine .row g _ rfl (by rw [List.length_take]; omega) h2 h3 (by omega) h5 (fun j hj => ?_) h7
    rw [List.getElem_take]
    exact h6 j _

/-- Cells are written. -/
theorem Cel.setCells {g : Nat} (h : Cel O w size (.slice a n c) n cs (some g)) (o : Nat) (vs : List Value) (hroom : o + vs.length ≤ c * size) (n' : Nat) (cs' : List Value) (hn' : n' ≤ c) (hl' : cs'.length = n' * size)
    (hcs : ∀ j (hj : j < cs'.length), (if o ≤ j ∧ j < o + vs.length then vs[j - o]? else cs[j]?) = some cs'[j]) : Cel O (w.setCells g o vs) size (.slice a n' c) n' cs' (some g) := by
  cases h with
  | row g cap h1 hl h2 h3 h4 h5 h6 h7 =>
    cases h1
    obtain ⟨t1, t2, t3, t4⟩ := tape_setCellsC g vs o w
    have hin := World.cell?_setCells_in g vs o w (fun j hj => (h7 _ (by omega)).1)
    have hout : ∀ j, ¬ (o ≤ j ∧ j < o + vs.length) → (w.setCells g o vs).cell? ⟨g, j, none⟩ = w.cell? ⟨g, j, none⟩ := fun j hj =>
      World.cell?_setCells_out g _ _ _ _ (fun _ _ => by show j < o ∨ o + vs.length ≤ j; omega)
    refine .row g _ rfl hl' h2 (by rw [t4]; exact h3) hn' h5 (fun j hj => ?_) (fun j hj => ⟨?_, ?_⟩)
    · have e := hcs j hj
      by_cases hlt : o ≤ j ∧ j < o + vs.length
      · rw [if_pos hlt] at e
        have := hin (j - o) (by omega)
        rw [show o + (j - o) = j by omega] at this
        rw [this, ← e, List.getElem?_eq_getElem (by omega)]
      · rw [if_neg hlt] at e
        rw [hout j hlt, ← e]
        have hj2 : j < cs.length := by
          rcases Nat.lt_or_ge j cs.length with h | h
          · exact h
          · rw [List.getElem?_eq_none h] at e; cases e
        rw [List.getElem?_eq_getElem hj2]; exact h6 j hj2
    · by_cases hlt : o ≤ j ∧ j < o + vs.length
      · have := hin (j - o) (by omega)
        rw [show o + (j - o) = j by omega] at this
        rw [this]; rfl
      · rw [hout j hlt]; exact (h7 j hj).1
    · rw [World.frozen?_setCells]; exact (h7 j hj).2

theorem Stay.setCells (g o : Nat) (vs : List Value) (w : World) (h : O g) : Stay O w (w.setCells g o vs) := by
  obtain ⟨t1, t2, t3, t4⟩ := tape_setCellsC g vs o w
  exact ⟨t2, t1, t3, by rw [t4]; exact Nat.le_refl _, fun k hk hn => block_setCellsC g k (fun e => hn (by rw [e]; exact h)) _ _ _⟩

end

/-- An element. -/
theorem Cel.elem {α : Type} {f : α → List Value} {k : Nat} (hf : Wide f k) {O : Nat → Prop} {w : World} {a : Option Addr} {n c : Nat} {xs : List α} {g : Option Nat} (h : Cel O w k (.slice a n c) n (rowC f xs) g) {i : Nat} (hi : i < xs.length) (hn : xs.length = n) :
    ∃ b, a = some ⟨b, 0, none⟩ ∧ g = some b ∧ ∀ j v, (f xs[i])[j]? = some v → w.cell? ⟨b, i * k + j, none⟩ = some v := by
  obtain ⟨b, rfl, rfl⟩ := h.at2 (by omega)
  refine ⟨b, rfl, rfl, fun j v hv => ?_⟩
  have hj : j < k := by have := (List.getElem?_eq_some_iff.1 hv).1; rwa [hf.len] at this
  rw [← rowC_at hf xs i hi j hj] at hv
  obtain ⟨h1, h2⟩ := List.getElem?_eq_some_iff.1 hv
  rw [← h2]; exact h.cell _ h1

/-- 'clear(s)': s has n elements. -/
theorem run_clear_cel {P : Program} (w : World) (t e ty : TypeId) (z : Value) (ht : P.underlying t = some (.slice e)) (hv : ∀ w, (zeroValue e).run P w = .ok z w) (h1 : ∀ i : Nat, (z.cells[i % z.cells.size]!).oneCell' = true) (b o n c : Nat) (hn : 0 < n)
    (hc : ∀ j, j < n * z.cells.size → (w.cell? ⟨b, o + j, none⟩).isSome = true) (hf : ∀ j, j < n * z.cells.size → w.frozen? ⟨b, o + j, none⟩ = false) :
    (Builtin.clear_ #[t] ty #[.slice (some ⟨b, o, none⟩) n c]).run P w = .ok (.tuple #[]) (w.setCells b o (Builtin.zeroCells z.cells n).toList) := by
  have hlen : (Builtin.zeroCells z.cells n).toList.length = n * z.cells.size := by rw [Array.length_toList, size_zeroCells]
  have hst := run_storeCells_cells (P := P) b o (Builtin.zeroCells z.cells n).toList 0 w (by rw [hlen]; simpa using hc) (by rw [hlen]; simpa using hf) (by
    intro v hv'
    simp only [Builtin.zeroCells] at hv'
    rw [Array.toList_map] at hv'
    obtain ⟨i, _, rfl⟩ := List.mem_map.1 hv'
    exact h1 i)
  simp only [Nat.add_zero] at hst
  obtain ⟨m, rfl⟩ : ∃ m, n = m + 1 := ⟨n - 1, by omega⟩
  simp [Builtin.clear_, run_underlying ht, hv, hst]

/-- append, as one step of a region that draws. -/
theorem step_append_cel {P : Program} {ops : Array Oper} {o : Oper} {a : Act} {w : World} {K : Act → World → Prop} {Q : Exit → Act → World → Prop} {E : Prop}
    (hgd : o.guard = none) (s x : Operand) (t tx : TypeId) (ho : o.op = .call { callee := .builtin .append, args := #[s, x], argTypes := #[t, tx] })
    (e : TypeId) (i : TypeInfo) (z : Value) (size bytes : Nat) (ht : P.underlying t = some (.slice e)) (hi : P.info? e = some i) (hz : i.zero = some z) (hsize : i.size = size) (hby : i.bytes = bytes) (hzs : z.cells.size = size)
    {O : Nat → Prop} (sl : Value) (n : Nat) (cs : List Value) (g : Option Nat) (hv : a.eval s = sl) (h : Cel O w size sl n cs g) (xv : Value) (m : Nat) (news : List Value) (hxv : a.eval x = xv) (hs : Src P size tx xv m news w) (hlen : n + m ≤ maxLen) (hlb : (n + m) * bytes ≤ 140737488355328)
    (hK : ∀ a' c' w' g', Cel (Grow O w w') w' size (.slice a' (n + m) c') (n + m) (cs ++ news) g' → Stay (fun k => g = some k) w w' → (∀ k, g' = some k → g = some k ∨ w.heap.size ≤ k) → K (a.put o.dst (.slice a' (n + m) c')) w') :
    if Region.wanted o (yielded ops a.tmps) = true then Oper.wp P o a w K Q else E := by
  have hw : Region.wanted o (yielded ops a.tmps) = true := by simp [Region.wanted, hgd]
  rw [if_pos hw]
  obtain ⟨a', c', w', g', hrun, r1, r2, r3⟩ := run_append_cel (P := P) w t tx o.type e i z size bytes ht hi hz hsize hby hzs h xv m news hs hlen hlb
  unfold Oper.wp
  simp [execOp, ho, resolve, invoke, builtin, hv, hxv, hrun, Result.andThen]
  exact hK a' c' w' g' r1 r2 r3

section
variable {α : Type} {f : α → List Value} {k : Nat}

/-- The first m elements, as what is appended. -/
theorem src_firstC {P : Program} {t e : TypeId} (ht : P.underlying t = some (.slice e)) (hf : Wide f k) {O : Nat → Prop} {w : World} {a : Option Addr} {n c : Nat} {xs : List α} {g : Option Nat} (h : Cel O w k (.slice a n c) n (rowC f xs) g) (hn : xs.length = n) (m : Nat) (hm : m ≤ n) : Src P k t (.slice a m c) m (rowC f (xs.take m)) w := by
  have h2 := h.cut m hm
  rw [rowC_take hf xs m (by omega)] at h2
  cases h2 with
  | nil h1 h2 h3 =>
    cases h1; rw [h3]
    exact Src.ofNil w ht 0
  | row g cap h1 hl h2 h3 h4 h5 h6 h7 =>
    cases h1
    refine Src.ofSlice w ht ⟨g, 0, none⟩ m _ _ hl (fun j u hu => ?_) (rowC_oneCell hf _)
    rw [Addr.add_lit, Nat.zero_add]
    obtain ⟨hj1, hj2⟩ := List.getElem?_eq_some_iff.1 hu
    rw [h6 j hj1, ← hj2]

/-- Those from i on, as what is appended. -/
theorem src_lastC {P : Program} {t e : TypeId} (ht : P.underlying t = some (.slice e)) (hf : Wide f k) {O : Nat → Prop} {w : World} {g n c : Nat} {xs : List α} (h : Cel O w k (.slice (some ⟨g, 0, none⟩) n c) n (rowC f xs) (some g)) (hn : xs.length = n) (i m c2 : Nat) (hi : i + m = n) :
    Src P k t (.slice (if c = i then some ⟨g, 0, none⟩ else some ⟨g, i * k, none⟩) m c2) m (rowC f (xs.drop i)) w := by
  have hcap := h.cap2.1
  by_cases e : c = i
  · rw [if_pos e]
    obtain rfl : m = 0 := by omega
    rw [List.drop_of_length_le (by omega)]
    exact Src.ofSlice w ht ⟨g, 0, none⟩ 0 _ [] (by simp) (fun j u hu => by simp at hu) (fun u hu => by cases hu)
  · rw [if_neg e]
    refine Src.ofSlice w ht ⟨g, i * k, none⟩ m _ _ (by rw [rowC_len hf, List.length_drop]; congr 1; omega) (fun j u hu => ?_) (rowC_oneCell hf _)
    rw [Addr.add_lit]
    rw [← rowC_drop hf xs i (by omega), List.getElem?_drop] at hu
    obtain ⟨hj1, hj2⟩ := List.getElem?_eq_some_iff.1 hu
    rw [h.cell _ hj1, ← hj2]

end

end Go.Proofs.YtigomhilcnnjdaaGreat

/- Leases, in plain words and in memory. No program in it. -/
namespace Go.Proofs.YtigomhilcnnjdaaGreat.Lea
open Go.RowKit Go.Proofs.YtigomhilcnnjdaaGreat

/-- A lease: whose, and until when. -/
structure Ls where
  c : Int
  u : Int
abbrev LS := List Ls
instance : Inhabited Ls := ⟨⟨0, 0⟩⟩

def lsC (x : Ls) : List Value := [.int .i64 x.c, .int .i64 x.u]
def lsV (x : Ls) : Value := .agg #[.int .i64 x.c, .int .i64 x.u]
def intC (z : Int) : List Value := [.int .i64 z]
theorem wideL : Wide lsC 2 := ⟨fun _ => rfl, fun x u hu => by simp [lsC] at hu; rcases hu with rfl | rfl <;> rfl⟩
theorem wideI : Wide intC 1 := ⟨fun _ => rfl, fun x u hu => by simp [intC] at hu; subst hu; rfl⟩

/-! ### right leases -/
structure Rt (xs : LS) : Prop where
  ok : ∀ x ∈ xs, 0 ≤ x.c ∧ x.c < 4 ∧ 0 ≤ x.u ∧ x.u ≤ 9007199254740991
  up : xs.Pairwise (fun x y => x.c < y.c)

instance (xs : LS) : Decidable (Rt xs) :=
  decidable_of_iff ((∀ x ∈ xs, 0 ≤ x.c ∧ x.c < 4 ∧ 0 ≤ x.u ∧ x.u ≤ 9007199254740991) ∧ xs.Pairwise (fun x y => x.c < y.c)) ⟨fun h => ⟨h.1, h.2⟩, fun h => ⟨h.ok, h.up⟩⟩

theorem Rt.nil : Rt [] := ⟨fun x hx => (by cases hx), List.Pairwise.nil⟩

theorem few_up : ∀ (xs : LS) (lo : Int), lo ≤ 4 → (∀ x ∈ xs, lo ≤ x.c ∧ x.c < 4) → xs.Pairwise (fun x y => x.c < y.c) → (xs.length : Int) ≤ 4 - lo
  | [], lo, h, _, _ => by simp; omega
  | x :: xs, lo, h, hx, hp => by
    have h1 := hx x (by simp)
    obtain ⟨hp1, hp2⟩ := List.pairwise_cons.1 hp
    have := few_up xs (x.c + 1) (by omega) (fun y hy => ⟨by have := hp1 y hy; omega, (hx y (by simp [hy])).2⟩) hp2
    simp
    omega

theorem Rt.few {xs : LS} (h : Rt xs) : xs.length ≤ 4 := by
  have := few_up xs 0 (by omega) (fun x hx => ⟨(h.ok x hx).1, (h.ok x hx).2.1⟩) h.up
  omega

theorem Rt.filter {xs : LS} (h : Rt xs) (f : Ls → Bool) : Rt (xs.filter f) :=
  ⟨fun x hx => h.ok x (List.mem_filter.1 hx).1, h.up.filter f⟩

theorem up_at {xs : LS} (h : xs.Pairwise (fun x y => x.c < y.c)) {i j : Nat} (hj : j < xs.length) (hij : i < j) : (xs[i]'(by omega)).c < xs[j].c :=
  List.pairwise_iff_getElem.1 h i j (by omega) hj hij

/-- One more. -/
theorem rt_next {xs : LS} {i : Nat} (hi : i < xs.length) (h : Rt (xs.take i)) (ho : 0 ≤ xs[i].c ∧ xs[i].c < 4 ∧ 0 ≤ xs[i].u ∧ xs[i].u ≤ 9007199254740991) (hu : ∀ j (hj : j < xs.length), j + 1 = i → xs[j].c < xs[i].c) : Rt (xs.take (i + 1)) := by
  rw [List.take_succ_eq_append_getElem hi]
  refine ⟨fun x hx => ?_, ?_⟩
  · rcases List.mem_append.1 hx with hx | hx
    · exact h.ok x hx
    · rw [List.mem_singleton.1 hx]; exact ho
  · rw [List.pairwise_append]
    refine ⟨h.up, List.pairwise_singleton _ _, fun x hx y hy => ?_⟩
    rw [List.mem_singleton.1 hy]
    obtain ⟨k, hk, rfl⟩ := List.mem_iff_getElem.1 hx
    have hk' : k < i := by rw [List.length_take] at hk; omega
    rw [List.getElem_take]
    have h1 := hu (i - 1) (by omega) (by omega)
    by_cases e : k = i - 1
    · subst e; exact h1
    · have h2 := up_at h.up (i := k) (j := i - 1) (by rw [List.length_take]; omega) (by omega)
      rw [List.getElem_take, List.getElem_take] at h2
      omega

theorem rt_not {xs : LS} {i : Nat} (hi : i < xs.length) (hn : ¬ (0 ≤ xs[i].c ∧ xs[i].c < 4 ∧ 0 ≤ xs[i].u ∧ xs[i].u ≤ 9007199254740991)) : ¬ Rt xs := fun h => hn (h.ok _ (List.getElem_mem hi))
theorem rt_not2 {xs : LS} {i : Nat} (hi : i + 1 < xs.length) (hn : ¬ (xs[i].c < xs[i + 1].c)) : ¬ Rt xs := fun h => hn (up_at h.up hi (by omega))

/-! ### what is told -/
def isAt (c : Int) (x : Ls) : Bool := decide (x.c = c)
def findX (xs : LS) (c : Int) : Int × Bool := match xs.find? (isAt c) with
  | some x => (x.u, true)
  | none => (0, false)
def untilX (xs : LS) (c : Int) : Int × Bool := if Rt xs then findX xs c else (0, false)
def lateL (now : Int) (xs : LS) : List Int := (xs.filter (fun x => decide (x.u < now))).map (·.c)
def dropL (c : Int) (xs : LS) : LS := xs.filter (fun x => decide (x.c ≠ c))
def putL (xs : LS) (x : Ls) : LS := xs.filter (fun y => decide (y.c < x.c)) ++ [x] ++ xs.filter (fun y => decide (x.c < y.c))
def lateX (xs : LS) (now : Int) : List Int × Bool := if Rt xs then (lateL now xs, true) else ([], false)
def dropX (xs : LS) (c : Int) : LS × Bool := if Rt xs then (dropL c xs, true) else ([], false)
def renX (xs : LS) (c now : Int) : LS × Bool := if Rt xs ∧ (0 ≤ c ∧ c < 4) ∧ 0 ≤ now ∧ now ≤ 9007199254740981 then (putL xs ⟨c, max (findX xs c).1 (now + 10)⟩, true) else ([], false)
/-- The error, or whether it went well. -/
def errV (v : Bool) : Value := .int .i64 (if v then 0 else 1)

theorem untilX_yes {xs : LS} {c : Int} (h : Rt xs) : untilX xs c = findX xs c := if_pos h
theorem untilX_no {xs : LS} {c : Int} (h : ¬ Rt xs) : untilX xs c = (0, false) := if_neg h
theorem lateX_yes {xs : LS} {c : Int} (h : Rt xs) : lateX xs c = (lateL c xs, true) := if_pos h
theorem lateX_no {xs : LS} {c : Int} (h : ¬ Rt xs) : lateX xs c = ([], false) := if_neg h
theorem dropX_yes {xs : LS} {c : Int} (h : Rt xs) : dropX xs c = (dropL c xs, true) := if_pos h
theorem dropX_no {xs : LS} {c : Int} (h : ¬ Rt xs) : dropX xs c = ([], false) := if_neg h

theorem find_here {xs : LS} {c : Int} {i : Nat} (hi : i < xs.length) (hx : xs[i].c = c) (hb : ∀ j (hj : j < xs.length), j < i → xs[j].c ≠ c) : findX xs c = (xs[i].u, true) := by
  have : xs.find? (isAt c) = some xs[i] := by
    rw [List.find?_eq_some_iff_getElem]
    refine ⟨by simpa [isAt] using hx, i, hi, rfl, fun j hj => ?_⟩
    have := hb j (by omega) hj
    simpa [isAt] using this
  unfold findX; rw [this]
theorem find_none {xs : LS} {c : Int} (hb : ∀ j (hj : j < xs.length), xs[j].c ≠ c) : findX xs c = (0, false) := by
  have : xs.find? (isAt c) = none := by
    rw [List.find?_eq_none]
    intro x hx
    obtain ⟨j, hj, rfl⟩ := List.mem_iff_getElem.1 hx
    have := hb j hj
    simpa [isAt] using this
  unfold findX; rw [this]

theorem late_take (now : Int) (xs : LS) (i : Nat) (hi : i < xs.length) : lateL now (xs.take (i + 1)) = lateL now (xs.take i) ++ (if xs[i].u < now then [xs[i].c] else []) := by
  unfold lateL
  rw [List.take_succ_eq_append_getElem hi, List.filter_append, List.map_append]
  congr 1
  by_cases h : xs[i].u < now <;> simp [h]
theorem drop_take (c : Int) (xs : LS) (i : Nat) (hi : i < xs.length) : dropL c (xs.take (i + 1)) = dropL c (xs.take i) ++ (if xs[i].c = c then [] else [xs[i]]) := by
  unfold dropL
  rw [List.take_succ_eq_append_getElem hi, List.filter_append]
  congr 1
  by_cases h : xs[i].c = c <;> simp [h]
theorem late_len (now : Int) (xs : LS) : (lateL now xs).length ≤ xs.length := by
  unfold lateL; rw [List.length_map]; exact List.length_filter_le _ _
theorem drop_len (c : Int) (xs : LS) : (dropL c xs).length ≤ xs.length := List.length_filter_le _ _

/-! ### where one stands -/
structure IsAt (xs : LS) (c : Int) (k : Nat) : Prop where
  le : k ≤ xs.length
  lo : ∀ j (hj : j < xs.length), j < k → xs[j].c < c
  hi : ∀ j (hj : j < xs.length), k ≤ j → c ≤ xs[j].c

theorem isAt_ex {xs : LS} (h : xs.Pairwise (fun x y => x.c < y.c)) (c : Int) : ∃ k, IsAt xs c k := by
  induction xs with
  | nil => exact ⟨0, by simp, fun j hj => absurd hj (by simp), fun j hj => absurd hj (by simp)⟩
  | cons x xs ih =>
    obtain ⟨hp1, hp2⟩ := List.pairwise_cons.1 h
    by_cases hx : x.c < c
    · obtain ⟨k, h1, h2, h3⟩ := ih hp2
      refine ⟨k + 1, by simpa using h1, fun j hj hjk => ?_, fun j hj hjk => ?_⟩
      · cases j with
        | zero => exact hx
        | succ j => simpa using h2 j (by simpa using hj) (by omega)
      · cases j with
        | zero => omega
        | succ j => simpa using h3 j (by simpa using hj) (by omega)
    · refine ⟨0, by simp, fun j hj hjk => by omega, fun j hj _ => ?_⟩
      cases j with
      | zero => simpa using hx
      | succ j =>
        have hj' : j < xs.length := by simpa using hj
        have := hp1 xs[j] (List.getElem_mem hj')
        simp; omega

theorem filter_lt {xs : LS} {c : Int} {k : Nat} (h : IsAt xs c k) : xs.filter (fun y => decide (y.c < c)) = xs.take k := by
  conv => lhs; rw [← List.take_append_drop k xs, List.filter_append]
  rw [List.filter_eq_self.2, List.filter_eq_nil_iff.2, List.append_nil]
  · intro y hy
    obtain ⟨j, hj, rfl⟩ := List.mem_iff_getElem.1 hy
    rw [List.getElem_drop]
    rw [List.length_drop] at hj
    have := h.hi (k + j) (by omega) (by omega)
    simp; omega
  · intro y hy
    obtain ⟨j, hj, rfl⟩ := List.mem_iff_getElem.1 hy
    rw [List.getElem_take]
    rw [List.length_take] at hj
    have := h.lo j (by omega) (by omega)
    simp; omega

theorem filter_gt {xs : LS} (hp : xs.Pairwise (fun x y => x.c < y.c)) {c : Int} {k : Nat} (h : IsAt xs c k) : xs.filter (fun y => decide (c < y.c)) = if (∃ h : k < xs.length, xs[k].c = c) then xs.drop (k + 1) else xs.drop k := by
  have hlo : (xs.take k).filter (fun y => decide (c < y.c)) = [] := by
    rw [List.filter_eq_nil_iff]
    intro y hy
    obtain ⟨j, hj, rfl⟩ := List.mem_iff_getElem.1 hy
    rw [List.getElem_take]
    rw [List.length_take] at hj
    have := h.lo j (by omega) (by omega)
    simp; omega
  have hup : ∀ m, (∀ j (hj : j < xs.length), m ≤ j → c < xs[j].c) → (xs.drop m).filter (fun y => decide (c < y.c)) = xs.drop m := fun m hm => by
    rw [List.filter_eq_self]
    intro y hy
    obtain ⟨j, hj, rfl⟩ := List.mem_iff_getElem.1 hy
    rw [List.getElem_drop]
    rw [List.length_drop] at hj
    have := hm (m + j) (by omega) (by omega)
    simpa using this
  conv => lhs; rw [← List.take_append_drop k xs, List.filter_append, hlo, List.nil_append]
  split
  · rename_i he
    obtain ⟨hk, he⟩ := he
    rw [List.drop_eq_getElem_cons hk, List.filter_cons_of_neg (by simp; omega)]
    refine hup (k + 1) (fun j hj hjk => ?_)
    have := up_at hp hj (show k < j by omega)
    omega
  · rename_i he
    refine hup k (fun j hj hjk => ?_)
    have h1 := h.hi j hj hjk
    by_cases e : k = j
    · subst e
      have : xs[k].c ≠ c := fun e => he ⟨hj, e⟩
      omega
    · have := up_at hp hj (show k < j by omega)
      have := h.hi k (by omega) (Nat.le_refl _)
      omega

theorem put_is {xs : LS} (hp : xs.Pairwise (fun x y => x.c < y.c)) {x : Ls} {k : Nat} (h : IsAt xs x.c k) : putL xs x = xs.take k ++ [x] ++ (if (∃ h : k < xs.length, xs[k].c = x.c) then xs.drop (k + 1) else xs.drop k) := by
  unfold putL; rw [filter_lt h, filter_gt hp h]

theorem put_drop {xs : LS} {x : Ls} : putL (dropL x.c xs) x = putL xs x := by
  unfold putL dropL
  rw [List.filter_filter, List.filter_filter]
  congr 1
  · congr 1
    refine List.filter_congr fun y _ => ?_
    by_cases h : y.c < x.c
    · simp [h]; omega
    · simp [h]
  · refine List.filter_congr fun y _ => ?_
    by_cases h : x.c < y.c
    · simp [h]; omega
    · simp [h]

/-! ### leases in memory -/
structure LL (w : World) (a : Option Addr) (n c : Nat) (xs : LS) : Prop where
  len : xs.length = n
  nil : a = none → c = 0
  room : n ≤ c
  lid : c ≤ maxLen
  cells : 0 < n → ∃ b off, a = some ⟨b, off, none⟩ ∧ ∀ j (hj : j < xs.length) i v, (lsC xs[j])[i]? = some v → w.cell? ⟨b, off + j * 2 + i, none⟩ = some v

theorem LL.lt {w : World} {a : Option Addr} {n c : Nat} {xs : LS} (h : LL w a n c xs) (hp : 0 < n) : ∀ x, a = some x → x.block < w.heap.size := by
  intro x hx
  obtain ⟨b, off, ha, hc⟩ := h.cells hp
  rw [ha] at hx
  cases hx
  exact World.block_lt_of_cell? _ _ (hc 0 (by rw [h.len]; omega) 0 _ rfl)

theorem LL.keep {w w' : World} {a : Option Addr} {n c : Nat} {xs : LS} (h : LL w a n c xs) (hb : 0 < n → ∀ x, a = some x → w'.heap[x.block]? = w.heap[x.block]?) : LL w' a n c xs := by
  refine ⟨h.len, h.nil, h.room, h.lid, fun hp => ?_⟩
  obtain ⟨b, off, ha, hc⟩ := h.cells hp
  exact ⟨b, off, ha, fun j hj i v hv => (World.cell?_of_block (a := ⟨b, off + j * 2 + i, none⟩) (show w'.heap[b]? = w.heap[b]? from hb hp ⟨b, off, none⟩ ha)).trans (hc j hj i v hv)⟩

theorem LL.below {w w' : World} {a : Option Addr} {n c : Nat} {xs : LS} (h : LL w a n c xs) (hb : Below w.heap.size w w') : LL w' a n c xs :=
  h.keep fun hp x hx => hb.block _ (h.lt hp x hx)

theorem LL.at {w : World} {a : Option Addr} {n c : Nat} {xs : LS} (h : LL w a n c xs) (hp : 0 < n) : ∃ b off, a = some ⟨b, off, none⟩ ∧ ∀ j (hj : j < xs.length), w.cell? ⟨b, off + j * 2, none⟩ = some (.int .i64 xs[j].c) ∧ w.cell? ⟨b, off + j * 2 + 1, none⟩ = some (.int .i64 xs[j].u) := by
  obtain ⟨b, off, ha, hc⟩ := h.cells hp
  exact ⟨b, off, ha, fun j hj => ⟨hc j hj 0 _ rfl, hc j hj 1 _ rfl⟩⟩

theorem LL.src {P : Program} {t e : TypeId} (ht : P.underlying t = some (.slice e)) {w : World} {a : Option Addr} {n c : Nat} {xs : LS} (h : LL w a n c xs) : Src P 2 t (.slice a n c) n (rowC lsC xs) w := by
  have hl := h.len
  by_cases h0 : n = 0
  · subst h0
    have : xs = [] := List.length_eq_zero_iff.1 hl
    subst this
    cases a with
    | none => exact Src.ofNil w ht c
    | some x => exact Src.ofSlice w ht x 0 c [] (by simp) (fun j u hu => by simp at hu) (fun u hu => by cases hu)
  · obtain ⟨b, off, rfl, hc⟩ := h.cells (by omega)
    refine Src.ofSlice w ht ⟨b, off, none⟩ n c (rowC lsC xs) (by rw [rowC_len wideL, hl]) (fun j u hu => ?_) (rowC_oneCell wideL xs)
    rw [Addr.add_lit]
    have hj : j < (rowC lsC xs).length := (List.getElem?_eq_some_iff.1 hu).1
    rw [rowC_len wideL] at hj
    obtain ⟨i, r, rfl, hr⟩ : ∃ i r, j = i * 2 + r ∧ r < 2 := ⟨j / 2, j % 2, by omega, by omega⟩
    have hi : i < xs.length := by omega
    rw [rowC_at wideL xs i hi r hr] at hu
    rw [← Nat.add_assoc]
    exact hc i hi r u hu

/-- The first k. -/
theorem LL.cut {w : World} {a : Option Addr} {n c : Nat} {xs : LS} (h : LL w a n c xs) (k : Nat) (hk : k ≤ n) : LL w a k c (xs.take k) := by
  have hl := h.len
  have hr := h.room
  refine ⟨by rw [List.length_take]; omega, h.nil, by omega, h.lid, fun hp => ?_⟩
  obtain ⟨b, off, ha, hc⟩ := h.cells (by omega)
  refine ⟨b, off, ha, fun j hj i v hv => ?_⟩
  rw [List.length_take] at hj
  rw [List.getElem_take] at hv
  exact hc j (by omega) i v hv

/-- Those behind the first k. -/
theorem LL.rest {w : World} {ad : Addr} {d q k : Nat} {xs : LS} (h : LL w (some ad) (k + d) (k + q) xs) : LL w (some (ad.add (k * 2))) d q (xs.drop k) := by
  have hl := h.len
  have hr := h.room
  have hd := h.lid
  refine ⟨by rw [List.length_drop]; omega, fun e => (by cases e), by omega, by omega, fun hp => ?_⟩
  obtain ⟨b, off, ha, hc⟩ := h.cells (by omega)
  cases ha
  refine ⟨b, off + k * 2, by rw [Addr.add_lit], fun j hj i v hv => ?_⟩
  rw [List.length_drop] at hj
  rw [List.getElem_drop] at hv
  have := hc (k + j) (by omega) i v hv
  rw [← this]
  congr 2
  omega

/-- None. -/
theorem LL.zero (w : World) (a : Option Addr) (c : Nat) (h : a = none → c = 0) (hc : c ≤ maxLen) : LL w a 0 c [] :=
  ⟨rfl, h, Nat.zero_le _, hc, fun hp => absurd hp (Nat.lt_irrefl 0)⟩

/-! ### leases of the call's own -/
structure LO (base : Nat) (w : World) (a : Option Addr) (n c : Nat) (xs : LS) (g : Option Nat) : Prop where
  cel : Cel (fun k => base ≤ k) w 2 (.slice a n c) n (rowC lsC xs) g
  len : xs.length = n

theorem LO.none (base : Nat) (w : World) : LO base w .none 0 0 [] .none := ⟨.nil rfl rfl rfl, rfl⟩
theorem LO.below {base : Nat} {w w' : World} {a : Option Addr} {n c : Nat} {xs : LS} {g : Option Nat} (h : LO base w a n c xs g) (hb : Below w.heap.size w w') : LO base w' a n c xs g := ⟨h.cel.below hb, h.len⟩
theorem LO.mono {b1 b2 : Nat} {w : World} {a : Option Addr} {n c : Nat} {xs : LS} {g : Option Nat} (h : LO b1 w a n c xs g) (hb : b2 ≤ b1) : LO b2 w a n c xs g :=
  ⟨h.cel.stay (Nat.le_refl _) (fun _ _ => rfl) (fun _ e => Nat.le_trans hb e), h.len⟩
theorem LO.ll {base : Nat} {w : World} {a : Option Addr} {n c : Nat} {xs : LS} {g : Option Nat} (h : LO base w a n c xs g) : LL w a n c xs := by
  have hl := h.len
  obtain ⟨hc1, hc2, _⟩ := h.cel.cap2
  refine ⟨hl, fun ha => ?_, hc1, hc2, fun hp => ?_⟩
  · have := h.cel
    subst ha
    cases this with
    | nil h1 h2 h3 => cases h1; rfl
    | row g cap h1 => cases h1
  · obtain ⟨b, rfl, rfl⟩ := h.cel.at2 hp
    refine ⟨b, 0, rfl, fun j hj i v hv => ?_⟩
    obtain ⟨b', e1, e2, e3⟩ := h.cel.elem wideL hj hl
    cases e1
    rw [Nat.zero_add]; exact e3 i v hv
theorem LO.own {base : Nat} {w : World} {a : Option Addr} {n c : Nat} {xs : LS} {g : Option Nat} (h : LO base w a n c xs g) : ∀ k, g = some k → k < w.heap.size ∧ base ≤ k := fun k hk => by
  have := h.cel; rw [hk] at this; exact this.lt

/-- Some are appended. -/
theorem LO.app {base : Nat} {w w' : World} {a a' : Option Addr} {n c m c' : Nat} {xs ys : LS} {g g' : Option Nat} (h : LO base w a n c xs g) (hm : ys.length = m)
    (hC : Cel (Grow (fun k => base ≤ k) w w') w' 2 (.slice a' (n + m) c') (n + m) (rowC lsC xs ++ rowC lsC ys) g') (hB : base ≤ w.heap.size) : LO base w' a' (n + m) c' (xs ++ ys) g' := by
  refine ⟨?_, by rw [List.length_append, h.len, hm]⟩
  rw [rowC_app]
  exact hC.stay (Nat.le_refl _) (fun _ _ => rfl) (fun k hk => hk.elim id (fun e => Nat.le_trans hB e.1))
theorem LO.appBelow {base : Nat} {w w' : World} {a : Option Addr} {n c : Nat} {xs : LS} {g : Option Nat} (h : LO base w a n c xs g) (hS : Stay (fun k => g = some k) w w') (hB : base ≤ w.heap.size) : Below base w w' :=
  hS.below hB (fun k hk => (h.own k hk).2)

/-! ### numbers of the call's own -/
structure NO (base : Nat) (w : World) (a : Option Addr) (n c : Nat) (zs : List Int) (g : Option Nat) : Prop where
  cel : Cel (fun k => base ≤ k) w 1 (.slice a n c) n (rowC intC zs) g
  len : zs.length = n

theorem NO.none (base : Nat) (w : World) : NO base w .none 0 0 [] .none := ⟨.nil rfl rfl rfl, rfl⟩
theorem NO.below {base : Nat} {w w' : World} {a : Option Addr} {n c : Nat} {zs : List Int} {g : Option Nat} (h : NO base w a n c zs g) (hb : Below w.heap.size w w') : NO base w' a n c zs g := ⟨h.cel.below hb, h.len⟩
theorem NO.ints {base : Nat} {w : World} {a : Option Addr} {n c : Nat} {zs : List Int} {g : Option Nat} (h : NO base w a n c zs g) : ∃ b, Ints w .i64 a b 0 zs := by
  have hl := h.len
  by_cases h0 : n = 0
  · exact ⟨0, fun hp => by omega, fun j hj => by omega⟩
  · obtain ⟨b, rfl, rfl⟩ := h.cel.at2 (by omega)
    refine ⟨b, fun _ => rfl, fun j hj => ?_⟩
    obtain ⟨b', e1, e2, e3⟩ := h.cel.elem wideI hj hl
    cases e1
    have := e3 0 _ rfl
    rw [Nat.mul_one, Nat.add_zero] at this
    rw [Nat.zero_add]; exact this
theorem NO.app {base : Nat} {w w' : World} {a a' : Option Addr} {n c m c' : Nat} {xs ys : List Int} {g g' : Option Nat} (h : NO base w a n c xs g) (hm : ys.length = m)
    (hC : Cel (Grow (fun k => base ≤ k) w w') w' 1 (.slice a' (n + m) c') (n + m) (rowC intC xs ++ rowC intC ys) g') (hB : base ≤ w.heap.size) : NO base w' a' (n + m) c' (xs ++ ys) g' := by
  refine ⟨?_, by rw [List.length_append, h.len, hm]⟩
  rw [rowC_app]
  exact hC.stay (Nat.le_refl _) (fun _ _ => rfl) (fun k hk => hk.elim id (fun e => Nat.le_trans hB e.1))
theorem NO.own {base : Nat} {w : World} {a : Option Addr} {n c : Nat} {xs : List Int} {g : Option Nat} (h : NO base w a n c xs g) : ∀ k, g = some k → k < w.heap.size ∧ base ≤ k := fun k hk => by
  have := h.cel; rw [hk] at this; exact this.lt
theorem NO.appBelow {base : Nat} {w w' : World} {a : Option Addr} {n c : Nat} {xs : List Int} {g : Option Nat} (h : NO base w a n c xs g) (hS : Stay (fun k => g = some k) w w') (hB : base ≤ w.heap.size) : Below base w w' :=
  hS.below hB (fun k hk => (h.own k hk).2)

/-! ### how calls end -/
/-- Leases, and how it went. -/
structure LsR (base : Nat) (xs : LS) (n : Nat) (E : Value) (e : Ending) (w' : World) : Prop where
  ex : ∃ a c g, e = .returned (.tuple #[.slice a n c, E]) ∧ LO base w' a n c xs g
theorem LsR.no (base : Nat) {E : Value} {e : Ending} {w' : World} (h : e = .returned (.tuple #[.slice .none 0 0, E])) : LsR base [] 0 E e w' := ⟨_, _, _, h, LO.none _ _⟩
/-- Leases. -/
structure LsR1 (base : Nat) (xs : LS) (n : Nat) (e : Ending) (w' : World) : Prop where
  ex : ∃ a c g, e = .returned (.slice a n c) ∧ LO base w' a n c xs g
/-- Numbers, and how it went. -/
structure NumR (zs : List Int) (n : Nat) (E : Value) (e : Ending) (w' : World) : Prop where
  ex : ∃ a b c, e = .returned (.tuple #[.slice a n c, E]) ∧ zs.length = n ∧ Ints w' .i64 a b 0 zs
theorem NumR.no {E : Value} {e : Ending} {w' : World} (h : e = .returned (.tuple #[.slice .none 0 0, E])) : NumR [] 0 E e w' := ⟨.none, 0, 0, h, rfl, fun hp => absurd hp (by simp), fun j hj => absurd hj (by simp)⟩

/-! ### what stays -/
theorem bel_tr {a b c : World} (h : Below a.heap.size a b) (k : Below b.heap.size b c) : Below a.heap.size a c := h.trans (k.mono h.size)
theorem bel_al (w : World) (o : Obj) : Below w.heap.size w (w.alloc o) := (Below.refl _ w).alloc (Nat.le_refl _) o
theorem bel_cell {w w' : World} (h : Below w.heap.size w w') {a : Addr} {v : Value} (hc : w.cell? a = some v) : w'.cell? a = some v := (h.cell (World.block_lt_of_cell? _ _ hc)).trans hc
theorem cell_al {w : World} {a : Addr} {v : Value} (h : w.cell? a = some v) (o : Obj) : (w.alloc o).cell? a = some v := ((Below.refl _ w).alloc (Nat.le_refl _) o |>.cell (World.block_lt_of_cell? _ _ h)).trans h
theorem froz_al {w : World} {a : Addr} {v : Value} (h : w.cell? a = some v) (h2 : w.frozen? a = false) (o : Obj) : (w.alloc o).frozen? a = false :=
  (World.frozen?_of_block (((Below.refl w.heap.size w).alloc (Nat.le_refl _) o).block a.block (World.block_lt_of_cell? _ _ h))).trans h2
theorem info_parts3 {i : Option TypeInfo} {z : Value} {s b : Nat} (h : i.map (fun i => (i.zero, i.size, i.bytes)) = some (some z, s, b)) : ∃ j, i = some j ∧ j.zero = some z ∧ j.size = s ∧ j.bytes = b := by
  cases i with
  | none => cases h
  | some j => simp at h; exact ⟨j, rfl, h.1, h.2.1, h.2.2⟩
theorem below_none {w w' : World} (h : Stay (fun k => (none : Option Nat) = some k) w w') : Below w.heap.size w w' := ⟨h.os, h.tape, h.output, h.size, fun _ hk => h.block _ hk (fun e => nomatch e)⟩

end Go.Proofs.YtigomhilcnnjdaaGreat.Lea

/- Leases: what the laws need in plain words. No program in it. -/
namespace Go.Proofs.YtigomhilcnnjdaaGreat.Lea
open Go.RowKit Go.Proofs.YtigomhilcnnjdaaGreat

theorem late_app (now : Int) (xs ys : LS) : lateL now (xs ++ ys) = lateL now xs ++ lateL now ys := by
  unfold lateL; rw [List.filter_append, List.map_append]

theorem late_at {now : Int} {xs : LS} {i : Nat} (hi : i < xs.length) (hu : xs[i].u < now) {zs : List Int} (hz : lateL now xs = zs) : ∃ h : (lateL now (xs.take i)).length < zs.length, zs[(lateL now (xs.take i)).length] = xs[i].c := by
  have e : zs = lateL now (xs.take i) ++ (xs[i].c :: lateL now (xs.drop (i + 1))) := by
    rw [← hz]
    conv => lhs; rw [← List.take_append_drop (i + 1) xs, late_app, late_take now xs i hi, if_pos hu]
    simp
  subst e
  refine ⟨by simp, ?_⟩
  simp

theorem late_more {now later : Int} (h : now ≤ later) : ∀ xs : LS, (lateL now xs).length ≤ (lateL later xs).length
  | [] => Nat.le_refl _
  | x :: xs => by
    have ih := late_more h xs
    unfold lateL at *
    by_cases h1 : x.u < now
    · have h2 : x.u < later := by omega
      simp [h1, h2] at ih ⊢; exact ih
    · by_cases h2 : x.u < later
      · simp [h1, h2] at ih ⊢; omega
      · simp [h1, h2] at ih ⊢; exact ih

/-! ### a lease that is put -/
theorem mem_put {xs : LS} {x y : Ls} : y ∈ putL xs x ↔ (y ∈ xs ∧ y.c < x.c) ∨ y = x ∨ (y ∈ xs ∧ x.c < y.c) := by
  unfold putL
  simp [List.mem_append, List.mem_filter]

theorem put_right {xs : LS} {x : Ls} (h : Rt xs) (hx : 0 ≤ x.c ∧ x.c < 4 ∧ 0 ≤ x.u ∧ x.u ≤ 9007199254740991) : Rt (putL xs x) := by
  refine ⟨fun y hy => ?_, ?_⟩
  · rcases mem_put.1 hy with ⟨h1, _⟩ | rfl | ⟨h1, _⟩
    · exact h.ok y h1
    · exact hx
    · exact h.ok y h1
  · unfold putL
    rw [List.pairwise_append, List.pairwise_append]
    refine ⟨⟨h.up.filter _, List.pairwise_singleton _ _, fun a ha b hb => ?_⟩, h.up.filter _, fun a ha b hb => ?_⟩
    · have := (List.mem_filter.1 ha).2
      rw [List.mem_singleton.1 hb]
      simpa using this
    · have hb2 : x.c < b.c := by simpa using (List.mem_filter.1 hb).2
      rcases List.mem_append.1 ha with ha | ha
      · have : a.c < x.c := by simpa using (List.mem_filter.1 ha).2
        omega
      · rw [List.mem_singleton.1 ha]; exact hb2

/-- What is there is found. -/
theorem find_mem {xs : LS} (h : Rt xs) {y : Ls} (hy : y ∈ xs) : findX xs y.c = (y.u, true) := by
  obtain ⟨i, hi, rfl⟩ := List.mem_iff_getElem.1 hy
  refine find_here hi rfl (fun j hj hji => ?_)
  have := up_at h.up hi hji
  omega
theorem find_out {xs : LS} {c : Int} (h : ∀ y ∈ xs, y.c ≠ c) : findX xs c = (0, false) := find_none (fun _ hj => h _ (List.getElem_mem hj))
theorem find_cases (xs : LS) (c : Int) : (∃ y ∈ xs, y.c = c ∧ findX xs c = (y.u, true)) ∨ ((∀ y ∈ xs, y.c ≠ c) ∧ findX xs c = (0, false)) := by
  unfold findX
  cases hf : xs.find? (isAt c) with
  | none =>
    refine .inr ⟨fun y hy e => ?_, rfl⟩
    have := List.find?_eq_none.1 hf y hy
    simp [isAt, e] at this
  | some y =>
    refine .inl ⟨y, List.mem_of_find?_eq_some hf, ?_, rfl⟩
    have := List.find?_some hf
    simpa [isAt] using this

theorem put_find {xs : LS} {x : Ls} (h : Rt (putL xs x)) : findX (putL xs x) x.c = (x.u, true) := find_mem h (mem_put.2 (.inr (.inl rfl)))
theorem put_other {xs : LS} {x : Ls} (h : Rt (putL xs x)) {y : Ls} (hy : y ∈ xs) (hc : y.c ≠ x.c) : findX (putL xs x) y.c = (y.u, true) := by
  refine find_mem h (mem_put.2 ?_)
  by_cases hl : y.c < x.c
  · exact .inl ⟨hy, hl⟩
  · exact .inr (.inr ⟨hy, by omega⟩)

theorem drop_find {xs : LS} {c : Int} : findX (dropL c xs) c = (0, false) := find_out fun y hy => by
  have := (List.mem_filter.1 hy).2
  simpa using this
theorem drop_one {xs : LS} (h : Rt xs) {y : Ls} (hy : y ∈ xs) : (dropL y.c xs).length + 1 = xs.length := by
  have hp := h.up
  clear h
  induction xs with
  | nil => cases hy
  | cons x xs ih =>
    obtain ⟨hp1, hp2⟩ := List.pairwise_cons.1 hp
    rcases List.mem_cons.1 hy with rfl | hy
    · have : dropL y.c (y :: xs) = xs := by
        unfold dropL
        rw [List.filter_cons_of_neg (by simp), List.filter_eq_self]
        intro a ha
        have := hp1 a ha
        simp; omega
      rw [this]; rfl
    · have h1 := hp1 y hy
      have : dropL y.c (x :: xs) = x :: dropL y.c xs := by
        unfold dropL
        rw [List.filter_cons_of_pos (by simp; omega)]
      rw [this, List.length_cons, List.length_cons, ih hy hp2]

theorem late_not {now : Int} {xs : LS} (h : Rt xs) {y : Ls} (hy : y ∈ xs) (hu : now ≤ y.u) : ∀ z ∈ lateL now xs, z ≠ y.c := by
  intro z hz e
  unfold lateL at hz
  obtain ⟨a, ha, rfl⟩ := List.mem_map.1 hz
  obtain ⟨ha1, ha2⟩ := List.mem_filter.1 ha
  have ha3 : a.u < now := by simpa using ha2
  have h1 := find_mem h ha1
  have h2 := find_mem h hy
  rw [e, h2] at h1
  simp only [Prod.mk.injEq] at h1
  omega

/-- What is renewed. -/
structure Ren (xs ys : LS) (c now u : Int) : Prop where
  right : Rt ys
  find : findX ys c = (u, true)
  ge : now + 10 ≤ u
  le : u ≤ 9007199254740991
  len : ys.length ≤ xs.length + 1
  mem : ∃ y ∈ ys, y.c = c ∧ y.u = u
  keep : ∀ y ∈ xs, ∃ u2, y.u ≤ u2 ∧ findX ys y.c = (u2, true)

theorem find_le {xs : LS} (h : Rt xs) (c : Int) : 0 ≤ (findX xs c).1 ∧ (findX xs c).1 ≤ 9007199254740991 := by
  rcases find_cases xs c with ⟨y, hy, _, e⟩ | ⟨_, e⟩
  · rw [e]; exact ⟨(h.ok y hy).2.2.1, (h.ok y hy).2.2.2⟩
  · rw [e]; decide

theorem put_len {xs : LS} {x : Ls} : (putL xs x).length ≤ xs.length + 1 := by
  unfold putL
  rw [List.length_append, List.length_append, List.length_singleton]
  induction xs with
  | nil => simp
  | cons y ys ih =>
    by_cases h1 : y.c < x.c
    · have h2 : ¬ x.c < y.c := by omega
      simp [h1, h2] at ih ⊢; omega
    · by_cases h2 : x.c < y.c
      · simp [h1, h2] at ih ⊢; omega
      · simp [h1, h2] at ih ⊢; omega

theorem ren_of {xs : LS} {c now : Int} (h : Rt xs) (hc : 0 ≤ c ∧ c < 4) (h1 : 0 ≤ now) (h2 : now ≤ 9007199254740981) : Ren xs (putL xs ⟨c, max (findX xs c).1 (now + 10)⟩) c now (max (findX xs c).1 (now + 10)) := by
  have hf := find_le h c
  have hM : now + 10 ≤ max (findX xs c).1 (now + 10) ∧ (findX xs c).1 ≤ max (findX xs c).1 (now + 10) ∧ max (findX xs c).1 (now + 10) ≤ 9007199254740991 := by omega
  have hfc := find_cases xs c
  generalize hfx : findX xs c = F at *
  obtain ⟨f, b⟩ := F
  simp only at *
  generalize max f (now + 10) = M at *
  have hR : Rt (putL xs ⟨c, M⟩) := put_right h ⟨hc.1, hc.2, by show 0 ≤ M; omega, hM.2.2⟩
  refine ⟨hR, put_find hR, hM.1, hM.2.2, put_len, ⟨⟨c, M⟩, mem_put.2 (.inr (.inl rfl)), rfl, rfl⟩, fun y hy => ?_⟩
  by_cases e : y.c = c
  · refine ⟨M, ?_, by rw [e]; exact put_find (x := ⟨c, M⟩) hR⟩
    have := find_mem h hy
    rw [e, hfx] at this
    simp only [Prod.mk.injEq] at this
    omega
  · exact ⟨y.u, Int.le_refl _, put_other hR hy e⟩

end Go.Proofs.YtigomhilcnnjdaaGreat.Lea
