/- A retry cache in memory: its cells, its map, its rows; what stays when it is written. -/
import Derived.Test.YthogpaojdlfjcaaRetryM
import Derived.Test.YthogpaojdlfjcaaEditR
import Derived.Test.YthogpaojdlfjcaaRows
import Derived.Test.YthogpaojdlfjcaaOpenAll
namespace Go.Proofs.Ythogpaojdlfjcaa.Rty
open Go.RowKit Go.Proofs.Ythogpaojdlfjcaa Go.Proofs.Ythogpaojdlfjcaa.Edi
set_option linter.unusedVariables false

def strC (s : ByteArray) : List Value := [.string s]
def bkC (b : Bk) : List Value := [.int .i64 b.i, .int .i64 b.g, .int .i64 b.l]
theorem wideS : Wide strC 1 := ⟨fun _ => rfl, fun x u hu => by simp [strC] at hu; subst hu; rfl⟩
theorem wideB : Wide bkC 3 := ⟨fun _ => rfl, fun x u hu => by simp [bkC] at hu; rcases hu with rfl | rfl | rfl <;> rfl⟩

/-! ### lists that lie in blocks of O -/
structure Lie {α : Type} (f : α → List Value) (O : Nat → Prop) (w : World) (a : Option Addr) (xs : List α) : Prop where
  lid : xs.length ≤ maxLen
  cells : 0 < xs.length → ∃ b off, a = some ⟨b, off, none⟩ ∧ O b ∧ b < w.heap.size ∧ ∀ (j : Nat) (u : Value), (rowC f xs)[j]? = some u → w.cell? ⟨b, off + j, none⟩ = some u

section
variable {α : Type} {f : α → List Value} {O O2 : Nat → Prop} {w w' : World} {a : Option Addr} {xs : List α}

theorem Lie.nil (f : α → List Value) (O : Nat → Prop) (w : World) (a : Option Addr) : Lie f O w a [] := ⟨Nat.zero_le _, fun h => absurd h (Nat.lt_irrefl 0)⟩
theorem Lie.stay (h : Lie f O w a xs) (hs : Stay O2 w w') (hd : ∀ k, O k → ¬ O2 k) : Lie f O w' a xs := by
  refine ⟨h.lid, fun hp => ?_⟩
  obtain ⟨b, off, h1, h2, h3, h4⟩ := h.cells hp
  exact ⟨b, off, h1, h2, Nat.lt_of_lt_of_le h3 hs.size, fun j u hu => (World.cell?_of_block (a := ⟨b, off + j, none⟩) (hs.block b h3 (hd b h2))).trans (h4 j u hu)⟩
theorem Lie.below (h : Lie f O w a xs) (hb : Below w.heap.size w w') : Lie f O w' a xs := h.stay (O2 := fun _ => False) (Stay.of_below hb) (fun _ _ => id)
theorem Lie.mono (h : Lie f O w a xs) (hO : ∀ k, O k → k < w.heap.size → O2 k) : Lie f O2 w a xs := by
  refine ⟨h.lid, fun hp => ?_⟩
  obtain ⟨b, off, h1, h2, h3, h4⟩ := h.cells hp
  exact ⟨b, off, h1, hO b h2 h3, h3, h4⟩
theorem Lie.src {P : Program} {t e : TypeId} (ht : P.underlying t = some (.slice e)) {k : Nat} (hf : Wide f k) (h : Lie f O w a xs) (q : Nat) : Src P k t (.slice a xs.length q) xs.length (rowC f xs) w := by
  by_cases h0 : xs.length = 0
  · have : xs = [] := List.length_eq_zero_iff.1 h0
    subst this
    cases a with
    | none => exact Src.ofNil w ht q
    | some x => exact Src.ofSlice w ht x 0 q [] (by simp) (fun j u hu => by simp at hu) (fun u hu => by cases hu)
  · obtain ⟨b, off, rfl, _, _, hc⟩ := h.cells (by omega)
    exact Src.ofSlice w ht ⟨b, off, none⟩ xs.length q _ (rowC_len hf xs) (fun j u hu => by rw [Addr.add_lit]; exact hc j u hu) (rowC_oneCell hf xs)
theorem Lie.at {k : Nat} (hf : Wide f k) (h : Lie f O w a xs) {i : Nat} (hi : i < xs.length) : ∃ b off, a = some ⟨b, off, none⟩ ∧ ∀ (j : Nat) (u : Value), (f xs[i])[j]? = some u → w.cell? ⟨b, off + (i * k + j), none⟩ = some u := by
  obtain ⟨b, off, h1, _, _, h4⟩ := h.cells (by omega)
  refine ⟨b, off, h1, fun j u hu => h4 _ u ?_⟩
  have hj : j < k := by have := (List.getElem?_eq_some_iff.1 hu).1; rw [hf.len] at this; exact this
  rw [rowC_at hf xs i hi j hj]; exact hu
end

/-- A row of the call's own lies there. -/
theorem lie_of_cel {α : Type} {f : α → List Value} {k : Nat} (hf : Wide f k) {O : Nat → Prop} {w : World} {a : Option Addr} {n c : Nat} {xs : List α} {g : Option Nat} (h : Cel O w k (.slice a n c) n (rowC f xs) g) (hl : xs.length = n) : Lie f O w a xs := by
  have h2 := h.cap2
  refine ⟨by omega, fun hp => ?_⟩
  obtain ⟨b, rfl, rfl⟩ := h.at2 (by omega)
  refine ⟨b, 0, rfl, h.lt.2, h.lt.1, fun j u hu => ?_⟩
  obtain ⟨h3, h4⟩ := List.getElem?_eq_some_iff.1 hu
  rw [Nat.zero_add, ← h4]
  exact h.cell j h3

/-- An answer's lists lie in blocks of O. -/
structure AnIn (O : Nat → Prop) (w : World) (x : Ans) (s : Sls) : Prop where
  one : Lie strC O w s.a1 x.names
  two : Lie bkC O w s.a2 x.blocks
  m1 : x.names.length * 16 ≤ 140737488355328
  m2 : x.blocks.length * 24 ≤ 140737488355328

theorem AnIn.stay {O O2 : Nat → Prop} {w w' : World} {x : Ans} {s : Sls} (h : AnIn O w x s) (hs : Stay O2 w w') (hd : ∀ k, O k → ¬ O2 k) : AnIn O w' x s := ⟨h.one.stay hs hd, h.two.stay hs hd, h.m1, h.m2⟩
theorem AnIn.below {O : Nat → Prop} {w w' : World} {x : Ans} {s : Sls} (h : AnIn O w x s) (hb : Below w.heap.size w w') : AnIn O w' x s := ⟨h.one.below hb, h.two.below hb, h.m1, h.m2⟩
theorem AnIn.mono {O O2 : Nat → Prop} {w : World} {x : Ans} {s : Sls} (h : AnIn O w x s) (hO : ∀ k, O k → k < w.heap.size → O2 k) : AnIn O2 w x s := ⟨h.one.mono hO, h.two.mono hO, h.m1, h.m2⟩
theorem anIn_zero (O : Nat → Prop) (w : World) (s : Sls) : AnIn O w zeroA s := ⟨Lie.nil _ _ _ _, Lie.nil _ _ _ _, by simp [zeroA], by simp [zeroA]⟩

/-! ### elements of the map -/
def rv : Value → Option (DataW Value × List MemPlace)
  | .agg ⟨[.string b, .int .i64 e, .int .i64 i, .int .i64 g, .int .i64 l, .slice a1 n1 c1, .string p, .bool d, .int .i64 q, .slice a2 n2 c2, .int .i64 wr, .int .i64 n, .int .i64 t]⟩ => some (.held (.agg #[.string b, .int .i64 e, .int .i64 i, .int .i64 g, .int .i64 l, .slice a1 n1 c1, .string p, .bool d, .int .i64 q, .slice a2 n2 c2, .int .i64 wr, .int .i64 n, .int .i64 t]), [])
  | _ => none
structure KV where
  b : ByteArray
  e : Int
  i : Int
  g : Int
  l : Int
  a1 : Option Addr
  n1 : Nat
  c1 : Nat
  p : ByteArray
  d : Bool
  q : Int
  a2 : Option Addr
  n2 : Nat
  c2 : Nat
  wr : Int
  n : Int
  t : Int
def mkV (x : KV) : Value := .agg #[.string x.b, .int .i64 x.e, .int .i64 x.i, .int .i64 x.g, .int .i64 x.l, .slice x.a1 x.n1 x.c1, .string x.p, .bool x.d, .int .i64 x.q, .slice x.a2 x.n2 x.c2, .int .i64 x.wr, .int .i64 x.n, .int .i64 x.t]
def zeroK : KV := ⟨⟨#[]⟩, 0, 0, 0, 0, none, 0, 0, ⟨#[]⟩, false, 0, none, 0, 0, 0, 0, 0⟩
theorem rv_mk (x : KV) : rv (mkV x) = some (.held (mkV x), []) := rfl
theorem rv_inv {v : Value} {y : DataW Value × List MemPlace} (h : rv v = some y) : ∃ x, v = mkV x ∧ y = (.held v, []) := by
  unfold rv at h
  split at h
  · rename_i b e i g l a1 n1 c1 p d q a2 n2 c2 wr n t
    cases h
    exact ⟨⟨b, e, i, g, l, a1, n1, c1, p, d, q, a2, n2, c2, wr, n, t⟩, rfl, rfl⟩
  · cases h
theorem rv_held {v u : Value} {ps : List MemPlace} (h : rv v = some (.held u, ps)) : v = u := by
  obtain ⟨x, hx, hy⟩ := rv_inv h
  have := congrArg Prod.fst hy
  simp at this
  exact this.symm
def kvE (e : Ent) : KV := ⟨encS e.ed, e.x.err, e.x.bk.i, e.x.bk.g, e.x.bk.l, e.s.a1, e.x.names.length, e.s.c1, e.x.path, e.x.dir, e.x.quota, e.s.a2, e.x.blocks.length, e.s.c2, e.x.writer, e.x.n, (e.t : Int)⟩
theorem entV_mk (e : Ent) : entV e = mkV (kvE e) := rfl
theorem invV_rv : ∀ v y, rv v = some y → ∃ c, v = mkV c := fun v y h => by
  obtain ⟨x, hx, _⟩ := rv_inv h
  exact ⟨x, hx⟩

/-! ### keys -/
def mkI (p : Int × Int) : Value := .agg #[.int .i64 p.1, .int .i64 p.2]
theorem rowI : (61 : TypeId) < Try.prog.types.size := of_decide_eq_true (by kernel_rfl)
theorem wideI : (match Try.prog.underlying 61 with | some (.array _ _) | some (.struct _) => true | _ => false) = true := by kernel_rfl
theorem lawI : Maps.Keyed Try.prog 61 := Maps.Keyed.of_law (deep_law_laid laidOut (m := 2) (by omega) rowI (by kernel_rfl) wideI)
theorem keyI {c k : Int} (hc : In64 c) (hk : In64 k) : keyOf Try.prog 61 (.agg #[.int .i64 c, .int .i64 k]) = some (kl c k) := by
  have hkt : Try.prog.keyType 61 = true := by kernel_rfl
  have h2 : Try.prog.cellsOf 61 = 2 := by kernel_rfl
  have h1 : Try.prog.cellsOf 3 = 1 := by kernel_rfl
  have hsz : ∃ m, Try.prog.types.size = m + 1 := ⟨Try.prog.types.size - 1, by have : 0 < Try.prog.types.size := of_decide_eq_true (by kernel_rfl); omega⟩
  obtain ⟨m, hm⟩ := hsz
  unfold keyOf
  simp only [Try.underlying61]
  rw [if_pos (by simp [hkt, Value.formed, Try.underlying61, h2]), hm]
  unfold Program.keyLits
  simp only [Try.underlying61, Value.cells]
  rw [if_pos ⟨h2.symm, by simp⟩]
  simp [Program.keyLits, h1, Try.underlying3, in64_wf hc, in64_wf hk, kl]
theorem invI : ∀ key l, keyOf Try.prog 61 key = some l → ∃ p, key = mkI p := by
  intro key l h
  have hw := wideI
  unfold keyOf at h
  simp only [Try.underlying61] at h
  split at h
  · rename_i hf
    have hfm : key.formed Try.prog 61 = true := by simp at hf; exact hf.2
    have h2 : Try.prog.cellsOf 61 = 2 := by kernel_rfl
    have h1 : Try.prog.cellsOf 3 = 1 := by kernel_rfl
    obtain ⟨m, hm⟩ : ∃ m, Try.prog.types.size = m + 1 := ⟨Try.prog.types.size - 1, by have : 0 < Try.prog.types.size := of_decide_eq_true (by kernel_rfl); omega⟩
    cases key <;> simp [Value.formed, Try.underlying61, h2] at hfm
    rename_i cs
    obtain ⟨cl⟩ := cs
    have hl : cl.length = 2 := by simpa using hfm
    match cl, hl with
    | [u, v], _ =>
      rw [hm] at h
      unfold Program.keyLits at h
      simp only [Try.underlying61, Value.cells] at h
      rw [if_pos ⟨h2.symm, by simp⟩] at h
      simp [h1] at h
      have one : ∀ {x : Value} {y : List Lit}, Try.prog.keyLits (m + 1) 3 [x] = some y → ∃ z, x = .int .i64 z := by
        intro x y hx
        unfold Program.keyLits at hx
        simp only [Try.underlying3] at hx
        cases x <;> simp at hx
        obtain ⟨⟨rfl, _⟩, _⟩ := hx
        exact ⟨_, rfl⟩
      cases g0 : Try.prog.keyLits (m + 1) 3 [u] with
      | none => rw [g0] at h; cases h
      | some y0 =>
        cases g1 : Try.prog.keyLits (m + 1) 3 [v] with
        | none => rw [g0, g1] at h; cases h
        | some y1 =>
          obtain ⟨z0, rfl⟩ := one g0
          obtain ⟨z1, rfl⟩ := one g1
          exact ⟨(z0, z1), rfl⟩
  · cases h

/-! ### the cache -/
structure CAt (O : Nat → Prop) (w : World) (cb mb : Nat) (S : List Ent) (t : Nat) : Prop where
  lt : ∀ k, O k → k < w.heap.size
  oC : O cb
  oM : O mb
  ne : cb ≠ mb
  c0 : w.cell? ⟨cb, 0, none⟩ = some (.map (some mb))
  c1 : w.cell? ⟨cb, 1, none⟩ = some (.int .i64 (t : Int))
  f1 : w.frozen? ⟨cb, 1, none⟩ = false
  own : ∃ D, w.ownsMap Try.prog 61 rv mb S.length D ∧ Tells D S
  good : Good S
  most : S.length ≤ 21
  old : S.Pairwise (fun a b => a.t < b.t)
  top : ∀ e ∈ S, e.t ≤ t
  rows : ∀ e ∈ S, AnIn (fun k => O k ∧ k ≠ cb ∧ k ≠ mb) w e.x e.s

theorem ownsMap_tight {P : Program} {K : TypeId} {w : World} {b n : Nat} {D : DataW Value} (h : w.ownsMap P K rv b n D) : w.ownsMap P K rv b (Maps.size D) D := by
  obtain ⟨es, clock, hb, F, hs, rfl⟩ := h
  exact ⟨es, clock, hb, F, by simp [Maps.size, length_sorted], rfl⟩

section
variable {O O2 : Nat → Prop} {w w' : World} {cb mb : Nat} {S : List Ent} {t : Nat}

theorem CAt.stay (h : CAt O w cb mb S t) (hs : Stay O2 w w') (hd : ∀ k, O k → ¬ O2 k) : CAt O w' cb mb S t := by
  have hb : ∀ k, O k → w'.heap[k]? = w.heap[k]? := fun k hk => hs.block k (h.lt k hk) (hd k hk)
  refine { h with lt := fun k hk => Nat.lt_of_lt_of_le (h.lt k hk) hs.size, c0 := (World.cell?_of_block (a := ⟨cb, 0, none⟩) (hb cb h.oC)).trans h.c0, c1 := (World.cell?_of_block (a := ⟨cb, 1, none⟩) (hb cb h.oC)).trans h.c1, f1 := (World.frozen?_of_block (a := ⟨cb, 1, none⟩) (hb cb h.oC)).trans h.f1, own := ?_, rows := fun e he => (h.rows e he).stay hs (fun k hk => hd k hk.1) }
  obtain ⟨D, ⟨es, clock, h1, h2⟩, h3⟩ := h.own
  exact ⟨D, ⟨es, clock, (hb mb h.oM).trans h1, h2⟩, h3⟩
theorem CAt.below (h : CAt O w cb mb S t) (hb : Below w.heap.size w w') : CAt O w' cb mb S t := h.stay (O2 := fun _ => False) (Stay.of_below hb) (fun _ _ => id)
theorem CAt.wide (h : CAt O w cb mb S t) (hO : ∀ k, O k → O2 k) (hl : ∀ k, O2 k → k < w.heap.size) : CAt O2 w cb mb S t :=
  { h with lt := hl, oC := hO _ h.oC, oM := hO _ h.oM, rows := fun e he => (h.rows e he).mono (fun k hk _ => ⟨hO _ hk.1, hk.2⟩) }
end

end Go.Proofs.Ythogpaojdlfjcaa.Rty
