/- Part 7 of the proof: RowC, LeaseM, LeaseP. -/
import Derived.Test.YtcnflkjkgomnoaaGreatB00
import Derived.Test.YtcnflkjkgomnoaaGreatB06
import Derived.Deep.RegionLaw
import Derived.Laws.IdiomCopy
set_option maxRecDepth 100000
set_option maxHeartbeats 8000000
namespace Go.Proofs.YtcnflkjkgomnoaaGreat
open Go.RowKit
def rowC {α : Type} (f : α → List Value) (xs : List α) : List Value := xs.flatMap f
structure Wide {α : Type} (f : α → List Value) (k : Nat) : Prop where
  len : ∀ x, (f x).length = k
  one : ∀ x, ∀ u ∈ f x, u.oneCell' = true
section
variable {α : Type} {f : α → List Value} {k : Nat}
theorem rowC_cons (x : α) (xs : List α) : rowC f (x :: xs) = f x ++ rowC f xs := by simp [rowC]
theorem rowC_app (xs ys : List α) : rowC f (xs ++ ys) = rowC f xs ++ rowC f ys := by simp [rowC]
theorem rowC_one (x : α) : rowC f [x] = f x := by simp [rowC]
theorem rowC_len (h : Wide f k) : ∀ xs : List α, (rowC f xs).length = xs.length * k
  | [] => by simp [rowC]
  | x :: xs => by rw [rowC_cons, List.length_append, rowC_len h xs, h.len, List.length_cons, Nat.add_mul, Nat.one_mul, Nat.add_comm]
theorem rowC_oneCell (h : Wide f k) (xs : List α) : ∀ u ∈ rowC f xs, u.oneCell' = true := by
  intro u hu
  obtain ⟨x, _, hx⟩ := List.mem_flatMap.1 hu
  exact h.one x u hx
theorem rowC_at (h : Wide f k) (xs : List α) (i : Nat) (hi : i < xs.length) (j : Nat) (hj : j < k) : (rowC f xs)[i * k + j]? = (f xs[i])[j]? := by
  have e : rowC f xs = rowC f (xs.take i) ++ (f xs[i] ++ rowC f (xs.drop (i + 1))) := by
    rw [← rowC_cons, ← rowC_app, ← List.drop_eq_getElem_cons hi, List.take_append_drop]
  have hl : (rowC f (xs.take i)).length = i * k := by rw [rowC_len h, List.length_take, Nat.min_eq_left (by omega)]
  rw [e, List.getElem?_append_right (by omega), hl, Nat.add_sub_cancel_left, List.getElem?_append_left (by rw [h.len]; exact hj)]
end
section
variable {O : Nat → Prop} {w : World} {size : Nat} {a : Option Addr} {n c : Nat} {cs : List Value} {g : Option Nat}
theorem Cel.cap2 {m : Nat} (h : Cel O w size (.slice a m c) n cs g) : n ≤ c ∧ c ≤ maxLen ∧ m = n := by
  cases h with
  | nil h1 h2 h3 => cases h1; exact ⟨by omega, by unfold maxLen; omega, h2.symm⟩
  | row g cap h1 hl h2 h3 h4 h5 h6 h7 => cases h1; exact ⟨h4, h5, rfl⟩
theorem Cel.at2 {m : Nat} (h : Cel O w size (.slice a m c) n cs g) (hp : 0 < n) : ∃ k, a = some ⟨k, 0, none⟩ ∧ g = some k := by
  cases h with
  | nil h1 h2 h3 => omega
  | row g cap h1 hl h2 h3 h4 h5 h6 h7 => cases h1; exact ⟨g, rfl, rfl⟩
theorem Cel.live {g : Nat} (h : Cel O w size (.slice a n c) n cs (some g)) (j : Nat) (hj : j < c * size) : (w.cell? ⟨g, j, none⟩).isSome = true ∧ w.frozen? ⟨g, j, none⟩ = false := by
  cases h with
  | row g cap h1 hl h2 h3 h4 h5 h6 h7 => cases h1; exact h7 j hj
theorem Stay.setCells (g o : Nat) (vs : List Value) (w : World) (h : O g) : Stay O w (w.setCells g o vs) := by
  obtain ⟨t1, t2, t3, t4⟩ := tape_setCellsC g vs o w
  exact ⟨t2, t1, t3, by rw [t4]; exact Nat.le_refl _, fun k hk hn => block_setCellsC g k (fun e => hn (by rw [e]; exact h)) _ _ _⟩
end
theorem Cel.elem {α : Type} {f : α → List Value} {k : Nat} (hf : Wide f k) {O : Nat → Prop} {w : World} {a : Option Addr} {n c : Nat} {xs : List α} {g : Option Nat} (h : Cel O w k (.slice a n c) n (rowC f xs) g) {i : Nat} (hi : i < xs.length) (hn : xs.length = n) :
    ∃ b, a = some ⟨b, 0, none⟩ ∧ g = some b ∧ ∀ j v, (f xs[i])[j]? = some v → w.cell? ⟨b, i * k + j, none⟩ = some v := by
  obtain ⟨b, rfl, rfl⟩ := h.at2 (by omega)
  refine ⟨b, rfl, rfl, fun j v hv => ?_⟩
  have hj : j < k := by have := (List.getElem?_eq_some_iff.1 hv).1; rwa [hf.len] at this
  rw [← rowC_at hf xs i hi j hj] at hv
  obtain ⟨h1, h2⟩ := List.getElem?_eq_some_iff.1 hv
  rw [← h2]; exact h.cell _ h1
theorem step_append_cel {P : Program} {ops : Array Oper} {o : Oper} {a : Act} {w : World} {K : Act → World → Prop} {Q : Exit → Act → World → Prop} {E : Prop}
    (hgd : o.guard = none) (s x : Operand) (t tx : TypeId) (ho : o.op = .call { callee := .builtin .append, args := #[s, x], argTypes := #[t, tx] })
    (e : TypeId) (i : TypeInfo) (z : Value) (size bytes : Nat) (ht : P.underlying t = some (.slice e)) (hi : P.info? e = some i) (hz : i.zero = some z) (hsize : i.size = size) (hby : i.bytes = bytes) (hzs : z.cells.size = size)
    {O : Nat → Prop} (sl : Value) (n : Nat) (cs : List Value) (g : Option Nat) (hv : a.eval s = sl) (h : Cel O w size sl n cs g) (xv : Value) (m : Nat) (news : List Value) (hxv : a.eval x = xv) (hs : Src P size tx xv m news w) (hlen : n + m ≤ maxLen) (hlb : (n + m) * bytes ≤ 140737488355328)
    (hK : ∀ a' c' w' g', Cel (Grow O w w') w' size (.slice a' (n + m) c') (n + m) (cs ++ news) g' → Stay (fun k => g = some k) w w' → (∀ k, g' = some k → g = some k ∨ w.heap.size ≤ k) → K (a.put o.dst (.slice a' (n + m) c')) w') :
    if Region.wanted o (yielded ops a.tmps) = true then Oper.wp P o a w K Q else E := by
  have hw : Region.wanted o (yielded ops a.tmps) = true := by simp [Region.wanted, hgd]
  rw [if_pos hw]
  obtain ⟨a', c', w', g', hrun, r1, r2, r3⟩ := run_append_cel (P := P) w t tx o.type e i z size bytes ht hi hz hsize hby hzs h xv m news hs hlen hlb
  unfold Oper.wp; simp [execOp, ho, resolve, invoke, builtin, hv, hxv, hrun, Result.andThen]
  exact hK a' c' w' g' r1 r2 r3
section
variable {α : Type} {f : α → List Value} {k : Nat}
end
end Go.Proofs.YtcnflkjkgomnoaaGreat
namespace Go.Proofs.YtcnflkjkgomnoaaGreat.Lea
open Go.RowKit Go.Proofs.YtcnflkjkgomnoaaGreat
structure Ls where
  c : Int
  u : Int
abbrev LS := List Ls
instance : Inhabited Ls := ⟨⟨0, 0⟩⟩
def lsC (x : Ls) : List Value := [.int .i64 x.c, .int .i64 x.u]
def lsV (x : Ls) : Value := .agg #[.int .i64 x.c, .int .i64 x.u]
def intC (z : Int) : List Value := [.int .i64 z]
theorem wideL : Wide lsC 2 := ⟨fun _ => rfl, fun x u hu => by simp [lsC] at hu; rcases hu with rfl | rfl <;> rfl⟩
theorem wideI : Wide intC 1 := ⟨fun _ => rfl, fun x u hu => by simp [intC] at hu; subst hu; rfl⟩
structure Rt (xs : LS) : Prop where
  ok : ∀ x ∈ xs, 0 ≤ x.c ∧ x.c < 4 ∧ 0 ≤ x.u ∧ x.u ≤ 9007199254740991
  up : xs.Pairwise (fun x y => x.c < y.c)
instance (xs : LS) : Decidable (Rt xs) :=
  decidable_of_iff ((∀ x ∈ xs, 0 ≤ x.c ∧ x.c < 4 ∧ 0 ≤ x.u ∧ x.u ≤ 9007199254740991) ∧ xs.Pairwise (fun x y => x.c < y.c)) ⟨fun h => ⟨h.1, h.2⟩, fun h => ⟨h.ok, h.up⟩⟩
theorem Rt.nil : Rt [] := ⟨fun x hx => (by cases hx), List.Pairwise.nil⟩
theorem few_up : ∀ (xs : LS) (lo : Int), lo ≤ 4 → (∀ x ∈ xs, lo ≤ x.c ∧ x.c < 4) → xs.Pairwise (fun x y => x.c < y.c) → (xs.length : Int) ≤ 4 - lo
  | [], lo, h, _, _ => by simp; omega
  | x :: xs, lo, h, hx, hp => by
    have h1 := hx x (by simp)
    obtain ⟨hp1, hp2⟩ := List.pairwise_cons.1 hp
    have := few_up xs (x.c + 1) (by omega) (fun y hy => ⟨by have := hp1 y hy; omega, (hx y (by simp [hy])).2⟩) hp2
    simp
    omega
theorem Rt.few {xs : LS} (h : Rt xs) : xs.length ≤ 4 := by
  have := few_up xs 0 (by omega) (fun x hx => ⟨(h.ok x hx).1, (h.ok x hx).2.1⟩) h.up
  omega
theorem Rt.filter {xs : LS} (h : Rt xs) (f : Ls → Bool) : Rt (xs.filter f) :=
  ⟨fun x hx => h.ok x (List.mem_filter.1 hx).1, h.up.filter f⟩
theorem up_at {xs : LS} (h : xs.Pairwise (fun x y => x.c < y.c)) {i j : Nat} (hj : j < xs.length) (hij : i < j) : (xs[i]'(by omega)).c < xs[j].c :=
  List.pairwise_iff_getElem.1 h i j (by omega) hj hij
theorem rt_next {xs : LS} {i : Nat} (hi : i < xs.length) (h : Rt (xs.take i)) (ho : 0 ≤ xs[i].c ∧ xs[i].c < 4 ∧ 0 ≤ xs[i].u ∧ xs[i].u ≤ 9007199254740991) (hu : ∀ j (hj : j < xs.length), j + 1 = i → xs[j].c < xs[i].c) : Rt (xs.take (i + 1)) := by
  rw [List.take_succ_eq_append_getElem hi]
  refine ⟨fun x hx => ?_, ?_⟩
  · rcases List.mem_append.1 hx with hx | hx
    · exact h.ok x hx
    · rw [List.mem_singleton.1 hx]; exact ho
  · rw [List.pairwise_append]
    refine ⟨h.up, List.pairwise_singleton _ _, fun x hx y hy => ?_⟩
    rw [List.mem_singleton.1 hy]
    obtain ⟨k, hk, rfl⟩ := List.mem_iff_getElem.1 hx
    have hk' : k < i := by rw [List.length_take] at hk; omega
    rw [List.getElem_take]
    have h1 := hu (i - 1) (by omega) (by omega)
    by_cases e : k = i - 1
    · subst e; exact h1
    · have h2 := up_at h.up (i := k) (j := i - 1) (by rw [List.length_take]; omega) (by omega)
      rw [List.getElem_take, List.getElem_take] at h2
      omega
theorem rt_not {xs : LS} {i : Nat} (hi : i < xs.length) (hn : ¬ (0 ≤ xs[i].c ∧ xs[i].c < 4 ∧ 0 ≤ xs[i].u ∧ xs[i].u ≤ 9007199254740991)) : ¬ Rt xs := fun h => hn (h.ok _ (List.getElem_mem hi))
theorem rt_not2 {xs : LS} {i : Nat} (hi : i + 1 < xs.length) (hn : ¬ (xs[i].c < xs[i + 1].c)) : ¬ Rt xs := fun h => hn (up_at h.up hi (by omega))
def isAt (c : Int) (x : Ls) : Bool := decide (x.c = c)
def findX (xs : LS) (c : Int) : Int × Bool := match xs.find? (isAt c) with
  | some x => (x.u, true)
  | none => (0, false)
def untilX (xs : LS) (c : Int) : Int × Bool := if Rt xs then findX xs c else (0, false)
def putL (xs : LS) (x : Ls) : LS := xs.filter (fun y => decide (y.c < x.c)) ++ [x] ++ xs.filter (fun y => decide (x.c < y.c))
def renX (xs : LS) (c now : Int) : LS × Bool := if Rt xs ∧ (0 ≤ c ∧ c < 4) ∧ 0 ≤ now ∧ now ≤ 9007199254740981 then (putL xs ⟨c, max (findX xs c).1 (now + 10)⟩, true) else ([], false)
theorem untilX_yes {xs : LS} {c : Int} (h : Rt xs) : untilX xs c = findX xs c := if_pos h
theorem untilX_no {xs : LS} {c : Int} (h : ¬ Rt xs) : untilX xs c = (0, false) := if_neg h
theorem find_here {xs : LS} {c : Int} {i : Nat} (hi : i < xs.length) (hx : xs[i].c = c) (hb : ∀ j (hj : j < xs.length), j < i → xs[j].c ≠ c) : findX xs c = (xs[i].u, true) := by
  have : xs.find? (isAt c) = some xs[i] := by
    rw [List.find?_eq_some_iff_getElem]
    refine ⟨by simpa [isAt] using hx, i, hi, rfl, fun j hj => ?_⟩
    have := hb j (by omega) hj
    simpa [isAt] using this
  unfold findX; rw [this]
theorem find_none {xs : LS} {c : Int} (hb : ∀ j (hj : j < xs.length), xs[j].c ≠ c) : findX xs c = (0, false) := by
  have : xs.find? (isAt c) = none := by
    rw [List.find?_eq_none]
    intro x hx
    obtain ⟨j, hj, rfl⟩ := List.mem_iff_getElem.1 hx
    have := hb j hj
    simpa [isAt] using this
  unfold findX; rw [this]
structure LL (w : World) (a : Option Addr) (n c : Nat) (xs : LS) : Prop where
  len : xs.length = n
  nil : a = none → c = 0
  room : n ≤ c
  lid : c ≤ maxLen
  cells : 0 < n → ∃ b off, a = some ⟨b, off, none⟩ ∧ ∀ j (hj : j < xs.length) i v, (lsC xs[j])[i]? = some v → w.cell? ⟨b, off + j * 2 + i, none⟩ = some v
theorem LL.lt {w : World} {a : Option Addr} {n c : Nat} {xs : LS} (h : LL w a n c xs) (hp : 0 < n) : ∀ x, a = some x → x.block < w.heap.size := by
  intro x hx
  obtain ⟨b, off, ha, hc⟩ := h.cells hp
  rw [ha] at hx
  cases hx
  exact World.block_lt_of_cell? _ _ (hc 0 (by rw [h.len]; omega) 0 _ rfl)
theorem LL.keep {w w' : World} {a : Option Addr} {n c : Nat} {xs : LS} (h : LL w a n c xs) (hb : 0 < n → ∀ x, a = some x → w'.heap[x.block]? = w.heap[x.block]?) : LL w' a n c xs := by
  refine ⟨h.len, h.nil, h.room, h.lid, fun hp => ?_⟩
  obtain ⟨b, off, ha, hc⟩ := h.cells hp
  exact ⟨b, off, ha, fun j hj i v hv => (World.cell?_of_block (a := ⟨b, off + j * 2 + i, none⟩) (show w'.heap[b]? = w.heap[b]? from hb hp ⟨b, off, none⟩ ha)).trans (hc j hj i v hv)⟩
theorem LL.below {w w' : World} {a : Option Addr} {n c : Nat} {xs : LS} (h : LL w a n c xs) (hb : Below w.heap.size w w') : LL w' a n c xs :=
  h.keep fun hp x hx => hb.block _ (h.lt hp x hx)
theorem LL.at {w : World} {a : Option Addr} {n c : Nat} {xs : LS} (h : LL w a n c xs) (hp : 0 < n) : ∃ b off, a = some ⟨b, off, none⟩ ∧ ∀ j (hj : j < xs.length), w.cell? ⟨b, off + j * 2, none⟩ = some (.int .i64 xs[j].c) ∧ w.cell? ⟨b, off + j * 2 + 1, none⟩ = some (.int .i64 xs[j].u) := by
  obtain ⟨b, off, ha, hc⟩ := h.cells hp
  exact ⟨b, off, ha, fun j hj => ⟨hc j hj 0 _ rfl, hc j hj 1 _ rfl⟩⟩
theorem LL.rest {w : World} {ad : Addr} {d q k : Nat} {xs : LS} (h : LL w (some ad) (k + d) (k + q) xs) : LL w (some (ad.add (k * 2))) d q (xs.drop k) := by
  have hl := h.len
  have hr := h.room
  have hd := h.lid
  refine ⟨by rw [List.length_drop]; omega, fun e => (by cases e), by omega, by omega, fun hp => ?_⟩
  obtain ⟨b, off, ha, hc⟩ := h.cells (by omega)
  cases ha
  refine ⟨b, off + k * 2, by rw [Addr.add_lit], fun j hj i v hv => ?_⟩
  rw [List.length_drop] at hj
  rw [List.getElem_drop] at hv
  have := hc (k + j) (by omega) i v hv
  rw [← this]
  congr 2
  omega
theorem LL.zero (w : World) (a : Option Addr) (c : Nat) (h : a = none → c = 0) (hc : c ≤ maxLen) : LL w a 0 c [] :=
  ⟨rfl, h, Nat.zero_le _, hc, fun hp => absurd hp (Nat.lt_irrefl 0)⟩
structure LO (base : Nat) (w : World) (a : Option Addr) (n c : Nat) (xs : LS) (g : Option Nat) : Prop where
  cel : Cel (fun k => base ≤ k) w 2 (.slice a n c) n (rowC lsC xs) g
  len : xs.length = n
theorem LO.none (base : Nat) (w : World) : LO base w .none 0 0 [] .none := ⟨.nil rfl rfl rfl, rfl⟩
theorem LO.below {base : Nat} {w w' : World} {a : Option Addr} {n c : Nat} {xs : LS} {g : Option Nat} (h : LO base w a n c xs g) (hb : Below w.heap.size w w') : LO base w' a n c xs g := ⟨h.cel.below hb, h.len⟩
theorem LO.mono {b1 b2 : Nat} {w : World} {a : Option Addr} {n c : Nat} {xs : LS} {g : Option Nat} (h : LO b1 w a n c xs g) (hb : b2 ≤ b1) : LO b2 w a n c xs g :=
  ⟨h.cel.stay (Nat.le_refl _) (fun _ _ => rfl) (fun _ e => Nat.le_trans hb e), h.len⟩
theorem LO.ll {base : Nat} {w : World} {a : Option Addr} {n c : Nat} {xs : LS} {g : Option Nat} (h : LO base w a n c xs g) : LL w a n c xs := by
  have hl := h.len
  obtain ⟨hc1, hc2, _⟩ := h.cel.cap2
  refine ⟨hl, fun ha => ?_, hc1, hc2, fun hp => ?_⟩
  · have := h.cel
    subst ha; cases this with
    | nil h1 h2 h3 => cases h1; rfl
    | row g cap h1 => cases h1
  · obtain ⟨b, rfl, rfl⟩ := h.cel.at2 hp
    refine ⟨b, 0, rfl, fun j hj i v hv => ?_⟩
    obtain ⟨b', e1, e2, e3⟩ := h.cel.elem wideL hj hl
    cases e1
    rw [Nat.zero_add]; exact e3 i v hv
theorem LO.own {base : Nat} {w : World} {a : Option Addr} {n c : Nat} {xs : LS} {g : Option Nat} (h : LO base w a n c xs g) : ∀ k, g = some k → k < w.heap.size ∧ base ≤ k := fun k hk => by
  have := h.cel; rw [hk] at this; exact this.lt
theorem LO.app {base : Nat} {w w' : World} {a a' : Option Addr} {n c m c' : Nat} {xs ys : LS} {g g' : Option Nat} (h : LO base w a n c xs g) (hm : ys.length = m)
    (hC : Cel (Grow (fun k => base ≤ k) w w') w' 2 (.slice a' (n + m) c') (n + m) (rowC lsC xs ++ rowC lsC ys) g') (hB : base ≤ w.heap.size) : LO base w' a' (n + m) c' (xs ++ ys) g' := by
  refine ⟨?_, by rw [List.length_append, h.len, hm]⟩
  rw [rowC_app]
  exact hC.stay (Nat.le_refl _) (fun _ _ => rfl) (fun k hk => hk.elim id (fun e => Nat.le_trans hB e.1))
theorem LO.appBelow {base : Nat} {w w' : World} {a : Option Addr} {n c : Nat} {xs : LS} {g : Option Nat} (h : LO base w a n c xs g) (hS : Stay (fun k => g = some k) w w') (hB : base ≤ w.heap.size) : Below base w w' :=
  hS.below hB (fun k hk => (h.own k hk).2)
structure NO (base : Nat) (w : World) (a : Option Addr) (n c : Nat) (zs : List Int) (g : Option Nat) : Prop where
  cel : Cel (fun k => base ≤ k) w 1 (.slice a n c) n (rowC intC zs) g
  len : zs.length = n
theorem NO.none (base : Nat) (w : World) : NO base w .none 0 0 [] .none := ⟨.nil rfl rfl rfl, rfl⟩
theorem NO.below {base : Nat} {w w' : World} {a : Option Addr} {n c : Nat} {zs : List Int} {g : Option Nat} (h : NO base w a n c zs g) (hb : Below w.heap.size w w') : NO base w' a n c zs g := ⟨h.cel.below hb, h.len⟩
theorem NO.ints {base : Nat} {w : World} {a : Option Addr} {n c : Nat} {zs : List Int} {g : Option Nat} (h : NO base w a n c zs g) : ∃ b, Ints w .i64 a b 0 zs := by
  have hl := h.len
  by_cases h0 : n = 0
  · exact ⟨0, fun hp => by omega, fun j hj => by omega⟩
  · obtain ⟨b, rfl, rfl⟩ := h.cel.at2 (by omega)
    refine ⟨b, fun _ => rfl, fun j hj => ?_⟩
    obtain ⟨b', e1, e2, e3⟩ := h.cel.elem wideI hj hl
    cases e1
    have := e3 0 _ rfl
    rw [Nat.mul_one, Nat.add_zero] at this
    rw [Nat.zero_add]; exact this
theorem NO.app {base : Nat} {w w' : World} {a a' : Option Addr} {n c m c' : Nat} {xs ys : List Int} {g g' : Option Nat} (h : NO base w a n c xs g) (hm : ys.length = m)
    (hC : Cel (Grow (fun k => base ≤ k) w w') w' 1 (.slice a' (n + m) c') (n + m) (rowC intC xs ++ rowC intC ys) g') (hB : base ≤ w.heap.size) : NO base w' a' (n + m) c' (xs ++ ys) g' := by
  refine ⟨?_, by rw [List.length_append, h.len, hm]⟩
  rw [rowC_app]
  exact hC.stay (Nat.le_refl _) (fun _ _ => rfl) (fun k hk => hk.elim id (fun e => Nat.le_trans hB e.1))
theorem NO.own {base : Nat} {w : World} {a : Option Addr} {n c : Nat} {xs : List Int} {g : Option Nat} (h : NO base w a n c xs g) : ∀ k, g = some k → k < w.heap.size ∧ base ≤ k := fun k hk => by
  have := h.cel; rw [hk] at this; exact this.lt
theorem NO.appBelow {base : Nat} {w w' : World} {a : Option Addr} {n c : Nat} {xs : List Int} {g : Option Nat} (h : NO base w a n c xs g) (hS : Stay (fun k => g = some k) w w') (hB : base ≤ w.heap.size) : Below base w w' :=
  hS.below hB (fun k hk => (h.own k hk).2)
structure LsR (base : Nat) (xs : LS) (n : Nat) (E : Value) (e : Ending) (w' : World) : Prop where
  ex : ∃ a c g, e = .returned (.tuple #[.slice a n c, E]) ∧ LO base w' a n c xs g
theorem bel_tr {a b c : World} (h : Below a.heap.size a b) (k : Below b.heap.size b c) : Below a.heap.size a c := h.trans (k.mono h.size)
theorem bel_al (w : World) (o : Obj) : Below w.heap.size w (w.alloc o) := (Below.refl _ w).alloc (Nat.le_refl _) o
theorem bel_cell {w w' : World} (h : Below w.heap.size w w') {a : Addr} {v : Value} (hc : w.cell? a = some v) : w'.cell? a = some v := (h.cell (World.block_lt_of_cell? _ _ hc)).trans hc
theorem cell_al {w : World} {a : Addr} {v : Value} (h : w.cell? a = some v) (o : Obj) : (w.alloc o).cell? a = some v := ((Below.refl _ w).alloc (Nat.le_refl _) o |>.cell (World.block_lt_of_cell? _ _ h)).trans h
theorem info_parts3 {i : Option TypeInfo} {z : Value} {s b : Nat} (h : i.map (fun i => (i.zero, i.size, i.bytes)) = some (some z, s, b)) : ∃ j, i = some j ∧ j.zero = some z ∧ j.size = s ∧ j.bytes = b := by
  cases i with
  | none => cases h
  | some j => simp at h; exact ⟨j, rfl, h.1, h.2.1, h.2.2⟩
end Go.Proofs.YtcnflkjkgomnoaaGreat.Lea
