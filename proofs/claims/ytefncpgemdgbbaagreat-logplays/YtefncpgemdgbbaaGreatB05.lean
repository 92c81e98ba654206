/- Part 5 of the proof: PlayM, DiskAp. -/
import Derived.Test.YtefncpgemdgbbaaGreatB00
import Derived.Test.YtefncpgemdgbbaaGreatB03
import Derived.Test.YtefncpgemdgbbaaGreatB04
import Derived.Deep.Upon

/- The document's own disk in memory: its cells, its files in a row. No program in it. -/
namespace Go.Proofs.YtefncpgemdgbbaaGreat
open Go.RowKit

def ba (l : List UInt8) : ByteArray := ⟨⟨l⟩⟩
theorem ba_of (s : ByteArray) : ∃ l, s = ba l ∧ s.data.toList = l := ⟨s.data.toList, rfl, rfl⟩
theorem ba_size (l : List UInt8) : (ba l).size = l.length := rfl
theorem ba_data (l : List UInt8) : (ba l).data.toList = l := rfl
theorem ba_inj {a b : List UInt8} (h : ba a = ba b) : a = b := by
  have := congrArg (fun s : ByteArray => s.data.toList) h
  exact this
theorem ba_list (l : List UInt8) : (ba l).toList = l := by rw [ByteArray.toList_eq]; rfl

def filC (p : Fl) : List Value := [.string (ba p.1), .string (ba p.2.1), .int .i64 (p.2.2 : Int)]
def filCs : FS → List Value
  | [] => []
  | p :: S => filC p ++ filCs S

theorem filCs_len : ∀ S : FS, (filCs S).length = S.length * 3
  | [] => rfl
  | p :: S => by
    show (filC p ++ filCs S).length = (S.length + 1) * 3
    rw [List.length_append, filCs_len S]
    show 3 + _ = _
    omega
theorem filCs_app : ∀ A B : FS, filCs (A ++ B) = filCs A ++ filCs B
  | [], _ => rfl
  | p :: A, B => by
    show filC p ++ filCs (A ++ B) = filC p ++ filCs A ++ filCs B
    rw [filCs_app A B, List.append_assoc]
theorem filCs_one (p : Fl) : filCs [p] = filC p := rfl
theorem filCs_at : ∀ (S : FS) (i : Nat) (h : i < S.length), (filCs S)[i * 3]? = some (.string (ba S[i].1)) ∧ (filCs S)[i * 3 + 1]? = some (.string (ba S[i].2.1)) ∧ (filCs S)[i * 3 + 2]? = some (.int .i64 (S[i].2.2 : Int))
  | [], i, h => by simp at h
  | p :: S, 0, _ => ⟨rfl, rfl, rfl⟩
  | p :: S, i + 1, h => by
    have := filCs_at S i (by simpa using h)
    have e : ∀ j, (filCs (p :: S))[(i + 1) * 3 + j]? = (filCs S)[i * 3 + j]? := fun j => by
      show (filC p ++ filCs S)[(i + 1) * 3 + j]? = _
      rw [List.getElem?_append_right (by show 3 ≤ _; omega)]
      congr 1
      show _ - 3 = _
      omega
    exact ⟨(e 0).trans this.1, (e 1).trans this.2.1, (e 2).trans this.2.2⟩
theorem filCs_oneCell : ∀ (S : FS), ∀ u ∈ filCs S, u.oneCell' = true
  | [], u, h => by cases h
  | p :: S, u, h => by
    rcases List.mem_append.1 h with h | h
    · simp only [filC, List.mem_cons, List.not_mem_nil, or_false] at h
      rcases h with rfl | rfl | rfl <;> rfl
    · exact filCs_oneCell S u h

/-- What every disk keeps to. -/
structure Fit (ds : DS) : Prop where
  rise : Rise ds.S
  name : ∀ p ∈ ds.S, 1 ≤ p.1.length ∧ p.1.length ≤ 30
  data : ∀ p ∈ ds.S, p.2.1.length ≤ 400000 ∧ p.2.2 ≤ p.2.1.length
  most : ds.S.length ≤ 20
  r0 : 0 ≤ ds.room ∧ ds.room < 9223372036854775808
  fu : 0 ≤ ds.fuse ∧ ds.fuse < 9223372036854775808

theorem Fit.tot8 {ds : DS} (h : Fit ds) : tot ds.S ≤ 8000000 := by
  have := tot_most (S := ds.S) (fun p hp => (h.data p hp).1)
  have := h.most
  omega

/-- The document's disk at p: its files lie in a row. -/
structure RAt (O : Nat → Prop) (w : World) (p : Nat) (a : Option Addr) (c : Nat) (g : Option Nat) (ds : DS) : Prop where
  lt : ∀ k, O k → k < w.heap.size
  oP : O p
  c0 : w.cell? ⟨p, 0, none⟩ = some (.int .i64 ds.room)
  c1 : w.cell? ⟨p, 1, none⟩ = some (.slice a ds.S.length c)
  c2 : w.cell? ⟨p, 2, none⟩ = some (.int .i64 ds.fuse)
  c3 : w.cell? ⟨p, 3, none⟩ = some (.bool ds.down)
  f1 : w.frozen? ⟨p, 1, none⟩ = false
  f2 : w.frozen? ⟨p, 2, none⟩ = false
  f3 : w.frozen? ⟨p, 3, none⟩ = false
  cel : Cel O w 3 (.slice a ds.S.length c) ds.S.length (filCs ds.S) g
  ne : g ≠ some p

theorem Cel.cap {O : Nat → Prop} {w : World} {size : Nat} {a : Option Addr} {m c n : Nat} {cs : List Value} {g : Option Nat} (h : Cel O w size (.slice a m c) n cs g) : n ≤ c ∧ c ≤ maxLen ∧ m = n := by
  cases h with
  | nil h1 h2 h3 => cases h1; exact ⟨by omega, by unfold maxLen; omega, h2.symm⟩
  | row g cap h1 hl h2 h3 h4 h5 h6 h7 => cases h1; exact ⟨h4, h5, rfl⟩

theorem Cel.at {O : Nat → Prop} {w : World} {size : Nat} {a : Option Addr} {m c n : Nat} {cs : List Value} {g : Option Nat} (h : Cel O w size (.slice a m c) n cs g) (hp : 0 < n) : ∃ k, a = some ⟨k, 0, none⟩ ∧ g = some k := by
  cases h with
  | nil h1 h2 h3 => omega
  | row g cap h1 hl h2 h3 h4 h5 h6 h7 => cases h1; exact ⟨g, rfl, rfl⟩

section
variable {O : Nat → Prop} {w : World} {p : Nat} {a : Option Addr} {c : Nat} {g : Option Nat} {ds : DS}

theorem RAt.stay {O2 : Nat → Prop} {w' : World} (h : RAt O w p a c g ds) (hs : Stay O2 w w') (hd : ∀ k, O k → ¬ O2 k) : RAt O w' p a c g ds := by
  have e := hs.block p (h.lt p h.oP) (hd p h.oP)
  have ec : ∀ j, w'.cell? ⟨p, j, none⟩ = w.cell? ⟨p, j, none⟩ := fun j => World.cell?_of_block (a := ⟨p, j, none⟩) e
  have ef : ∀ j, w'.frozen? ⟨p, j, none⟩ = w.frozen? ⟨p, j, none⟩ := fun j => World.frozen?_of_block (a := ⟨p, j, none⟩) e
  have hc := h.cel
  refine ⟨fun k hk => Nat.lt_of_lt_of_le (h.lt k hk) hs.size, h.oP, (ec 0).trans h.c0, (ec 1).trans h.c1, (ec 2).trans h.c2, (ec 3).trans h.c3, (ef 1).trans h.f1, (ef 2).trans h.f2, (ef 3).trans h.f3, hc.stay hs.size (fun k hk => ?_) (fun _ e => e), h.ne⟩
  rw [hk] at hc
  exact hs.block k hc.lt.1 (hd k hc.lt.2)

theorem RAt.below {w' : World} (h : RAt O w p a c g ds) (hs : Below w.heap.size w w') : RAt O w' p a c g ds :=
  h.stay (O2 := fun _ => False) (Stay.of_below hs) (fun _ _ e => e)

theorem RAt.file (h : RAt O w p a c g ds) {i : Nat} (hi : i < ds.S.length) : ∃ k, a = some ⟨k, 0, none⟩ ∧ g = some k ∧ w.cell? ⟨k, i * 3, none⟩ = some (.string (ba ds.S[i].1)) ∧ w.cell? ⟨k, i * 3 + 1, none⟩ = some (.string (ba ds.S[i].2.1)) ∧ w.cell? ⟨k, i * 3 + 2, none⟩ = some (.int .i64 (ds.S[i].2.2 : Int)) := by
  have hc := h.cel
  obtain ⟨k, rfl, rfl⟩ := hc.at (by omega)
  have hl := filCs_len ds.S
  obtain ⟨e0, e1, e2⟩ := filCs_at ds.S i hi
  have q : ∀ j v, (filCs ds.S)[j]? = some v → w.cell? ⟨k, j, none⟩ = some v := fun j v hv => by
    obtain ⟨h1, h2⟩ := List.getElem?_eq_some_iff.1 hv
    rw [← h2]; exact hc.cell j h1
  exact ⟨k, rfl, rfl, q _ _ e0, q _ _ e1, q _ _ e2⟩

theorem cell_setP {w : World} {p k : Nat} {j : Nat} {v u : Value} (hne : j ≠ k) (h : w.cell? ⟨p, j, none⟩ = some u) : (w.setCell ⟨p, k, none⟩ v).cell? ⟨p, j, none⟩ = some u := by
  rw [World.cell?_setCell_other]
  · exact h
  · intro e; exact hne (Addr.mk.inj e).2.1.symm

theorem Cel.setCell {w : World} {size : Nat} {sl : Value} {n : Nat} {cs : List Value} (h : Cel O w size sl n cs g) (b : Addr) (v : Value) (hne : g ≠ some b.block) : Cel O (w.setCell b v) size sl n cs g :=
  h.stay (by simp [World.setCell]) (fun k hk => Below.heap_setCell _ _ _ _ (fun e => hne (by rw [hk, e]))) (fun _ e => e)

theorem RAt.setFuse (h : RAt O w p a c g ds) (x : Int) : RAt O (w.setCell ⟨p, 2, none⟩ (.int .i64 x)) p a c g { ds with fuse := x } :=
  ⟨fun k hk => by simpa [World.setCell] using h.lt k hk, h.oP, cell_setP (by decide) h.c0, cell_setP (by decide) h.c1, World.cell?_setCell_same _ _ _ h.c2, cell_setP (by decide) h.c3, by rw [World.frozen?_setCell]; exact h.f1, by rw [World.frozen?_setCell]; exact h.f2, by rw [World.frozen?_setCell]; exact h.f3, h.cel.setCell _ _ h.ne, h.ne⟩

theorem RAt.setDown (h : RAt O w p a c g ds) (x : Bool) : RAt O (w.setCell ⟨p, 3, none⟩ (.bool x)) p a c g { ds with down := x } :=
  ⟨fun k hk => by simpa [World.setCell] using h.lt k hk, h.oP, cell_setP (by decide) h.c0, cell_setP (by decide) h.c1, cell_setP (by decide) h.c2, World.cell?_setCell_same _ _ _ h.c3, by rw [World.frozen?_setCell]; exact h.f1, by rw [World.frozen?_setCell]; exact h.f2, by rw [World.frozen?_setCell]; exact h.f3, h.cel.setCell _ _ h.ne, h.ne⟩

/-- Another row of files. -/
theorem RAt.setFiles (h : RAt O w p a c g ds) {w1 : World} {a' : Option Addr} {c' n' : Nat} {g' : Option Nat} {S' : FS} (hs : Stay (fun _ => False) w w1) (hn : S'.length = n') (hc : Cel (fun k => w.heap.size ≤ k) w1 3 (.slice a' n' c') n' (filCs S') g') :
    RAt (Grow O w (w1.setCell ⟨p, 1, none⟩ (.slice a' n' c'))) (w1.setCell ⟨p, 1, none⟩ (.slice a' n' c')) p a' c' g' { ds with S := S' } := by
  subst hn
  have h1 := h.stay hs (fun _ _ e => e)
  have hz : (w1.setCell ⟨p, 1, none⟩ (.slice a' S'.length c')).heap.size = w1.heap.size := by simp [World.setCell]
  have hp := h.lt p h.oP
  have hne : g' ≠ some p := fun e => by
    rw [e] at hc
    have := hc.lt.2
    omega
  refine ⟨fun k hk => ?_, .inl h.oP, cell_setP (by decide) h1.c0, World.cell?_setCell_same _ _ _ h1.c1, cell_setP (by decide) h1.c2, cell_setP (by decide) h1.c3, by rw [World.frozen?_setCell]; exact h1.f1, by rw [World.frozen?_setCell]; exact h1.f2, by rw [World.frozen?_setCell]; exact h1.f3, ?_, hne⟩
  · rcases hk with hk | hk
    · rw [hz]; exact h1.lt k hk
    · exact hk.2
  · cases hc with
    | nil e1 e2 e3 => exact .nil e1 e2 e3
    | row g cap e1 hl e2 e3 e4 e5 e6 e7 =>
      have hc2 : Cel (fun k => w.heap.size ≤ k) w1 3 (.slice a' S'.length c') S'.length (filCs S') (some g) := .row g cap e1 hl e2 e3 e4 e5 e6 e7
      cases (hc2.setCell (O := fun k => w.heap.size ≤ k) ⟨p, 1, none⟩ (.slice a' S'.length c') hne) with
      | row g cap e1 hl e2 e3 e4 e5 e6 e7 => exact .row g cap e1 hl (.inr ⟨e2, e3⟩) e3 e4 e5 e6 e7

end

end Go.Proofs.YtefncpgemdgbbaaGreat

/- A text appended to a file's bytes. No program in it. -/
namespace Go.Proofs.YtefncpgemdgbbaaGreat
open Go.RowKit

theorem Stay.drew_alloc (O : Nat → Prop) (w : World) (o : Obj) : Stay O w (w.drew.alloc o) := Stay.of_below (((Below.refl _ w).drew).alloc (Nat.le_refl _) o)

theorem run_append_byt {P : Program} (w : World) (t tx ty e : TypeId) (i : TypeInfo) (ht : P.underlying t = some (.slice e)) (hx : P.underlying tx = some .string) (hi : P.info? e = some i) (hz : i.zero = some (.int .u8 0)) (hsize : i.size = 1) (hby : i.bytes = 1)
    {O : Nat → Prop} {sl : Value} {l : List UInt8} {g : Option Nat} (h : Byt O w sl l g) (s : ByteArray) (hlen : l.length + s.size ≤ 140737488355328) :
    ∃ a' c' w' g', (Builtin.append_ #[t, tx] ty #[sl, .string s]).run P w = .ok (.slice a' (l ++ s.data.toList).length c') w' ∧ Byt (Grow O w w') w' (.slice a' (l ++ s.data.toList).length c') (l ++ s.data.toList) g' ∧ Stay (fun k => g = some k) w w' ∧ (∀ k, g' = some k → g = some k ∨ w.heap.size ≤ k) := by
  have hsl : s.data.toList.length = s.size := Array.length_toList
  have hs : Src P i.size tx (.string s) s.size (byteCells s) w := by rw [hsize]; exact Src.ofString w hx s
  have hbl := byteCells_length s
  have hat : ∀ j (hj : j < s.size), (byteCells s)[j]'(by rw [hbl]; exact hj) = .int .u8 ((s.data.toList[j]'(by rw [hsl]; exact hj)).toNat : Int) := by
    intro j hj
    simp [byteCells]
  have grow : ∀ (p : Option Addr) (cap : Nat), l.length ≤ cap → cap ≤ maxLen → cap < l.length + s.size → (Builtin.firstCells i.size l.length (.slice p l.length cap)).run P w.drew = .ok (Lib.byteCells l).toArray w.drew →
      ∃ a' c' w' g', (Builtin.append_ #[t, tx] ty #[.slice p l.length cap, .string s]).run P w = .ok (.slice a' (l ++ s.data.toList).length c') w' ∧ Byt (Grow O w w') w' (.slice a' (l ++ s.data.toList).length c') (l ++ s.data.toList) g' ∧ Stay (fun k => g = some k) w w' ∧ (∀ k, g' = some k → g = some k ∨ w.heap.size ≤ k) := by
    intro p cap h4 h5 hroom hold
    have hrun := run_append_grow_src (P := P) w t tx ty e i (.int .u8 0) ht hi hz p l.length cap (Lib.byteCells l) hold (.string s) s.size (byteCells s) hs (by omega) (by omega) (growslice_fits (by omega) (by rw [hby]; omega))
    have hge := grownCap_ge w (l.length + s.size) cap e
    have hcm := grownCap_le_maxLen w (l.length + s.size) cap e (by unfold maxLen; omega)
    have hL : (Lib.byteCells l ++ byteCells s).length = l.length + s.size := by rw [List.length_append, hbl]; simp [Lib.byteCells]
    generalize grownCap w (l.length + s.size) cap e = c' at *
    generalize hZ : c' - (l.length + s.size) = nz at *
    have hsz : ((Lib.byteCells l ++ byteCells s).toArray ++ Builtin.zeroCells (Value.int .u8 0).cells nz).size = c' := by
      rw [Array.size_append, List.size_toArray, hL, size_zeroCells]
      have : (Value.int IntKind.u8 0).cells.size = 1 := rfl
      rw [this]; omega
    refine ⟨some ⟨w.heap.size, 0, none⟩, c', _, some w.heap.size, (show l.length + s.size = (l ++ s.data.toList).length by rw [List.length_append, hsl]) ▸ hrun, .row w.heap.size c' rfl (.inr ⟨Nat.le_refl _, by simp⟩) (by simp) (by rw [List.length_append, hsl]; exact hge) hcm (fun j hj => ?_) (fun j hj => ⟨?_, ?_⟩), Stay.drew_alloc _ _ _, fun k hk => .inr (by cases hk; exact Nat.le_refl _)⟩
    · rw [List.length_append, hsl] at hj
      have e1 : (w.drew.alloc (.cells ((Lib.byteCells l ++ byteCells s).toArray ++ Builtin.zeroCells (Value.int .u8 0).cells nz) e)).cell? ⟨w.heap.size, j, none⟩ = _ := World.cell?_alloc_new w.drew _ _ j
      rw [e1, Array.getElem?_append_left (by rw [List.size_toArray, hL]; exact hj), List.getElem?_toArray]
      by_cases hlt : j < l.length
      · rw [List.getElem?_append_left (by simp [Lib.byteCells]; exact hlt), List.getElem_append_left hlt]
        simp [Lib.byteCells, hlt]
      · have hll : (Lib.byteCells l).length = l.length := by simp [Lib.byteCells]
        rw [List.getElem?_append_right (by omega), hll, List.getElem?_eq_getElem (by omega), hat (j - l.length) (by omega), List.getElem_append_right (by omega)]
    · have e1 : (w.drew.alloc (.cells ((Lib.byteCells l ++ byteCells s).toArray ++ Builtin.zeroCells (Value.int .u8 0).cells nz) e)).cell? ⟨w.heap.size, j, none⟩ = _ := World.cell?_alloc_new w.drew _ _ j
      rw [e1, Array.getElem?_eq_getElem (by rw [hsz]; exact hj)]
      rfl
    · exact World.frozen?_alloc_new w.drew _ _ j
  cases h with
  | nil h1 h2 =>
    subst h1 h2
    by_cases h0 : s.size = 0
    · have hs0 : Src P i.size tx (.string s) 0 [] w := by
        have e1 : byteCells s = [] := List.length_eq_zero_iff.1 (by rw [hbl]; exact h0)
        rw [h0, e1] at hs; exact hs
      have e2 : s.data.toList = [] := List.length_eq_zero_iff.1 (by rw [hsl]; exact h0)
      have := run_append_nothing (P := P) w t tx ty e i ht hi none 0 0 (Nat.le_refl _) (.string s) hs0
      rw [e2]
      exact ⟨none, 0, w, none, this, .nil rfl rfl, Stay.refl _ _, fun k hk => by cases hk⟩
    · have := grow none 0 (Nat.le_refl _) (by unfold maxLen; omega) (by simp; omega) ?_
      · exact this
      · simp [Builtin.firstCells, Lib.byteCells]
  | row g cap h1 h2 h3 h4 h5 h6 h7 =>
    subst h1
    by_cases hroom : l.length + s.size ≤ cap
    · have hrun := run_append_room_src (P := P) w t tx ty e i ht hi g 0 l.length cap (.string s) s.size (byteCells s) hs hroom
        (fun j hj => (h7 _ (by rw [hsize]; omega)).1) (fun j hj => (h7 _ (by rw [hsize]; omega)).2)
      rw [hsize, Nat.mul_one, Nat.zero_add] at hrun
      obtain ⟨t1, t2, t3, t4⟩ := tape_setCells g (byteCells s) l.length w
      have hin := World.cell?_setCells_in g (byteCells s) l.length w (fun j hj => (h7 _ (by omega)).1)
      refine ⟨some ⟨g, 0, none⟩, cap, _, some g, (show l.length + s.size = (l ++ s.data.toList).length by rw [List.length_append, hsl]) ▸ hrun, .row g cap rfl (.inl h2) (by rw [t4]; exact h3) (by rw [List.length_append, hsl]; exact hroom) h5 (fun j hj => ?_) (fun j hj => ⟨?_, ?_⟩), ⟨t2, t1, t3, by rw [t4]; exact Nat.le_refl _, fun k hk hn => block_setCells g k (fun e => hn (by rw [e])) _ _ _⟩, fun k hk => .inl hk⟩
      · rw [List.length_append, hsl] at hj
        by_cases hlt : j < l.length
        · rw [World.cell?_setCells_out g _ _ _ _ (fun _ _ => Or.inl hlt), List.getElem_append_left hlt]
          exact h6 j hlt
        · have := hin (j - l.length) (by omega)
          rw [show l.length + (j - l.length) = j by omega, hat (j - l.length) (by omega)] at this
          rw [this, List.getElem_append_right (by omega)]
      · by_cases hlt : l.length ≤ j ∧ j < l.length + s.size
        · have := hin (j - l.length) (by omega)
          rw [show l.length + (j - l.length) = j by omega] at this
          rw [this]; rfl
        · rw [World.cell?_setCells_out g _ _ _ _ (fun _ _ => by show j < l.length ∨ l.length + (byteCells s).length ≤ j; omega)]
          exact (h7 j hj).1
      · rw [World.frozen?_setCells]; exact (h7 j hj).2
    · refine grow (some ⟨g, 0, none⟩) cap h4 h5 (by omega) ?_
      refine run_firstCells_some w.drew i.size l.length ⟨g, 0, none⟩ l.length cap (Lib.byteCells l) (by rw [hsize]; simp [Lib.byteCells]) (fun j u hu => ?_)
      rw [Addr.add_lit, Nat.zero_add]
      have hj : j < l.length := by
        have := (List.getElem?_eq_some_iff.1 hu).1
        simpa [Lib.byteCells] using this
      have e1 := h6 j hj
      simp [Lib.byteCells, hj] at hu
      rw [← hu]
      exact e1

theorem wpList_append_byt {P : Program} (w : World) {ops : Array Oper} {rest : List Oper} {o : Oper} {a : Act} {Q : Exit → Act → World → Prop} (hgd : o.guard = none) (s x : Operand) (t tx : TypeId)
    (ho : o.op = .call { callee := .builtin .append, args := #[s, x], argTypes := #[t, tx] })
    (e : TypeId) (i : TypeInfo) (ht : P.underlying t = some (.slice e)) (hx : P.underlying tx = some .string) (hi : P.info? e = some i) (hz : i.zero = some (.int .u8 0)) (hsize : i.size = 1) (hby : i.bytes = 1)
    {O : Nat → Prop} (sl : Value) (l : List UInt8) (g : Option Nat) (hv : a.eval s = sl) (h : Byt O w sl l g) (xs : ByteArray) (hxv : a.eval x = .string xs) (hlen : l.length + xs.size ≤ 140737488355328)
    (hK : ∀ a' c' w' g', Byt (Grow O w w') w' (.slice a' (l ++ xs.data.toList).length c') (l ++ xs.data.toList) g' → Stay (fun k => g = some k) w w' → (∀ k, g' = some k → g = some k ∨ w.heap.size ≤ k) → wpList P ops Q rest (a.put o.dst (.slice a' (l ++ xs.data.toList).length c')) w') : wpList P ops Q (o :: rest) a w := by
  refine wpList_plain hgd fun K hK' => ?_
  obtain ⟨a', c', w', g', hrun, r1, r2, r3⟩ := run_append_byt (P := P) w t tx o.type e i ht hx hi hz hsize hby h xs hlen
  unfold Oper.wp
  simp [execOp, ho, resolve, invoke, builtin, hv, hxv, hrun, Result.andThen]
  have hfin := hK a' c' w' g' r1 r2 r3
  rw [show (l ++ xs.data.toList).length = l.length + xs.size by rw [List.length_append]; rfl] at hfin
  exact hK' _ _ hfin

/-- 'm[k]', where it is known what stands there. -/
theorem wpList_look {P : Program} (w : World) {ops : Array Oper} {rest : List Oper} {o : Oper} {a : Act} {Q : Exit → Act → World → Prop} (hg : o.guard = none) (m x : Operand) (t : TypeId) (hop : o.op = Op.lookup t m x false)
    (k e : TypeId) (K : Maps.Keyed P k) (ht : P.underlying t = some (.map k e)) {z : Value} (hz : (zeroValue e).run P w = .ok z w) {zp : List MemPlace} (hzd : rv z = some (.held z, zp)) (b n : Nat) (D : DataW Value)
    (hm : a.eval m = .map (some b)) (hown : w.ownsMap P k rv b n D) (key : Value) (kl : Lit) (hx : a.eval x = key) (hkey : keyOf P k key = some kl) (u : Value) (hat : D.atKey kl (.held z) = .held u)
    (hK : wpList P ops Q rest (a.put o.dst u) w) : wpList P ops Q (o :: rest) a w := by
  refine wpList_plain hg fun K' hK' => ?_
  obtain ⟨v, ps, hrun, hv⟩ := hown.lookup K ht hz hzd hkey
  rw [hat] at hv
  obtain rfl := rv_held hv
  unfold Oper.wp
  simp [execOp, hop, hm, hx, hrun, Result.andThen]
  exact hK' _ _ hK

/-- 'v, ok := m[k]', where it is known what stands there. -/
theorem wpList_look_ok {P : Program} (w : World) {ops : Array Oper} {rest : List Oper} {o : Oper} {a : Act} {Q : Exit → Act → World → Prop} (hg : o.guard = none) (m x : Operand) (t : TypeId) (hop : o.op = Op.lookup t m x true)
    (k e : TypeId) (K : Maps.Keyed P k) (ht : P.underlying t = some (.map k e)) {z : Value} (hz : (zeroValue e).run P w = .ok z w) {zp : List MemPlace} (hzd : rv z = some (.held z, zp)) (b n : Nat) (D : DataW Value)
    (hm : a.eval m = .map (some b)) (hown : w.ownsMap P k rv b n D) (key : Value) (kl : Lit) (hx : a.eval x = key) (hkey : keyOf P k key = some kl) (u : Value) (y : Bool) (hat : D.atKey kl (.held z) = .held u) (hh : Maps.has D kl = y)
    (hK : wpList P ops Q rest (a.put o.dst (.tuple #[u, .bool y])) w) : wpList P ops Q (o :: rest) a w := by
  refine wpList_plain hg fun K' hK' => ?_
  obtain ⟨v, ps, hrun, hv⟩ := hown.look_ok K ht hz hzd hkey
  rw [hat] at hv
  obtain rfl := rv_held hv
  rw [hh] at hrun
  unfold Oper.wp
  simp [execOp, hop, hm, hx, hrun, Result.andThen]
  exact hK' _ _ hK

end Go.Proofs.YtefncpgemdgbbaaGreat
