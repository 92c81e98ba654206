/- Part 10 of the proof: DiskR. -/
import Derived.Test.YtfmhmokbbkliaaaGreatB03
import Derived.Test.YtfmhmokbbkliaaaGreatB08
import Derived.Test.YtfmhmokbbkliaaaGreatB09
import Derived.Maps.OwnSet
import Derived.Maps.RangeWalk

/- A disk in memory: its cells, its map, the bytes of each file; what stays when it is written. No program in it. -/
namespace Go.Proofs.YtfmhmokbbkliaaaGreat
open Go.RowKit

/-! ### elements -/
/-- How an element reads: as itself. -/
def rv : Value → Option (DataW Value × List MemPlace)
  | .agg ⟨[.slice a l c, .int .i64 s]⟩ => some (.held (.agg #[.slice a l c, .int .i64 s]), [])
  | _ => none

structure FV where
  a : Option Addr
  l : Nat
  c : Nat
  s : Int
def mkV (x : FV) : Value := .agg #[.slice x.a x.l x.c, .int .i64 x.s]

theorem rv_mk (a : Option Addr) (l c : Nat) (s : Int) : rv (.agg #[.slice a l c, .int .i64 s]) = some (.held (.agg #[.slice a l c, .int .i64 s]), []) := rfl

theorem rv_inv {v : Value} {y : DataW Value × List MemPlace} (h : rv v = some y) : ∃ x, v = mkV x ∧ y = (.held v, []) := by
  unfold rv at h
  split at h
  · rename_i a l c s
    cases h
    exact ⟨⟨a, l, c, s⟩, rfl, rfl⟩
  · cases h

theorem rv_held {v u : Value} {ps : List MemPlace} (h : rv v = some (.held u, ps)) : v = u := by
  obtain ⟨x, hx, hy⟩ := rv_inv h
  have := congrArg Prod.fst hy
  simp at this
  exact this.symm

theorem invK_str {P : Program} {K : TypeId} (hK : P.underlying K = some .string) : ∀ key kl, keyOf P K key = some kl → ∃ x : List UInt8, key = Go.Proofs.encStr x := fun key kl h => by
  obtain ⟨x, h1, _, _⟩ := Maps.keyOf_str hK h
  exact ⟨x, h1⟩

theorem invV_rv : ∀ v y, rv v = some y → ∃ c, v = mkV c := fun v y h => by
  obtain ⟨x, hx, _⟩ := rv_inv h
  exact ⟨x, hx⟩

/-! ### a file's bytes -/
/-- The slice sl holds the bytes l: nil, or a row in a block of O. -/
inductive Byt (O : Nat → Prop) (w : World) (sl : Value) (l : List UInt8) : Option Nat → Prop
  | nil : sl = .slice none 0 0 → l = [] → Byt O w sl l none
  | row (g cap : Nat) : sl = .slice (some ⟨g, 0, none⟩) l.length cap → O g → g < w.heap.size → l.length ≤ cap → cap ≤ maxLen →
      (∀ j (hj : j < l.length), w.cell? ⟨g, j, none⟩ = some (.int .u8 (l[j].toNat : Int))) → (∀ j, j < cap → (w.cell? ⟨g, j, none⟩).isSome = true ∧ w.frozen? ⟨g, j, none⟩ = false) → Byt O w sl l (some g)

theorem Byt.stay {O : Nat → Prop} {w w' : World} {sl : Value} {l : List UInt8} {g : Option Nat} (h : Byt O w sl l g) (hs : w.heap.size ≤ w'.heap.size) (hb : ∀ k, g = some k → w'.heap[k]? = w.heap[k]?) {O2 : Nat → Prop} (hO : ∀ k, O k → O2 k) : Byt O2 w' sl l g := by
  cases h with
  | nil h1 h2 => exact .nil h1 h2
  | row g cap h1 h2 h3 h4 h5 h6 h7 =>
    have e := hb g rfl
    exact .row g cap h1 (hO g h2) (by omega) h4 h5 (fun j hj => (World.cell?_of_block (a := ⟨g, j, none⟩) e).trans (h6 j hj))
      (fun j hj => ⟨by rw [World.cell?_of_block (a := ⟨g, j, none⟩) e]; exact (h7 j hj).1, (World.frozen?_of_block (a := ⟨g, j, none⟩) e).trans (h7 j hj).2⟩)

theorem Byt.lt {O : Nat → Prop} {w : World} {sl : Value} {l : List UInt8} {g : Nat} (h : Byt O w sl l (some g)) : g < w.heap.size ∧ O g := by
  cases h with
  | row g cap h1 h2 h3 h4 h5 h6 h7 => exact ⟨h3, h2⟩

/-- Cut. -/
theorem Byt.cut {O : Nat → Prop} {w : World} {a : Option Addr} {n c : Nat} {l : List UInt8} {g : Option Nat} (h : Byt O w (.slice a n c) l g) (e : Nat) (he : e ≤ l.length) : Byt O w (.slice a e c) (l.take e) g := by
  have hl : (l.take e).length = e := by rw [List.length_take]; omega
  cases h with
  | nil h1 h2 =>
    subst h2
    simp at he
    subst he
    cases h1
    exact .nil rfl rfl
  | row g cap h1 h2 h3 h4 h5 h6 h7 =>
    cases h1
    refine .row g _ (by rw [hl]) h2 h3 (by omega) h5 (fun j hj => ?_) h7
    rw [List.getElem_take]
    exact h6 j _

theorem Byt.len {O : Nat → Prop} {w : World} {a : Option Addr} {n c : Nat} {l : List UInt8} {g : Option Nat} (h : Byt O w (.slice a n c) l g) : n = l.length ∧ n ≤ c := by
  cases h with
  | nil h1 h2 => cases h1; subst h2; exact ⟨rfl, Nat.le_refl _⟩
  | row g cap h1 h2 h3 h4 h5 h6 h7 => cases h1; exact ⟨rfl, h4⟩

/-! ### the disk -/
structure DiskAt (P : Program) (K : TypeId) (O : Nat → Prop) (w : World) (pd b : Nat) (V : List UInt8 → Value) (B : List UInt8 → Option Nat) (room fuse : Int) (down : Bool) (S : FS) : Prop where
  lt : ∀ k, O k → k < w.heap.size
  oP : O pd
  oB : O b
  ne : pd ≠ b
  c0 : w.cell? ⟨pd, 0, none⟩ = some (.int .i64 room)
  c1 : w.cell? ⟨pd, 1, none⟩ = some (.map (some b))
  c2 : w.cell? ⟨pd, 2, none⟩ = some (.int .i64 fuse)
  c3 : w.cell? ⟨pd, 3, none⟩ = some (.bool down)
  f2 : w.frozen? ⟨pd, 2, none⟩ = false
  f3 : w.frozen? ⟨pd, 3, none⟩ = false
  own : w.ownsMap P K rv b S.length (dm V S)
  rise : Rise S
  file : ∀ p ∈ S, ∃ sl, V p.1 = .agg #[sl, .int .i64 (p.2.2 : Int)] ∧ Byt O w sl p.2.1 (B p.1)
  nP : ∀ p ∈ S, B p.1 ≠ some pd ∧ B p.1 ≠ some b
  apart : ∀ p ∈ S, ∀ q ∈ S, p.1 ≠ q.1 → ∀ g, B p.1 = some g → B q.1 ≠ some g
  name : ∀ p ∈ S, 1 ≤ p.1.length ∧ p.1.length ≤ 30
  data : ∀ p ∈ S, p.2.1.length ≤ 400000 ∧ p.2.2 ≤ p.2.1.length
  most : S.length ≤ 20
  r0 : 0 ≤ room ∧ room < 9223372036854775808
  used : (tot S : Int) ≤ room
  fu : 0 ≤ fuse ∧ fuse < 9223372036854775808

section
variable {P : Program} {K : TypeId} {O : Nat → Prop} {w : World} {pd b : Nat} {V : List UInt8 → Value} {B : List UInt8 → Option Nat} {room fuse : Int} {down : Bool} {S : FS}

theorem ownsMap_tight {w : World} {b n : Nat} {D : DataW Value} (h : w.ownsMap P K rv b n D) : w.ownsMap P K rv b (Maps.size D) D := by
  obtain ⟨es, clock, hb, F, hs, rfl⟩ := h
  exact ⟨es, clock, hb, F, by simp [Maps.size, length_sorted], rfl⟩

/-- Other blocks are written, and new ones are made. -/
theorem DiskAt.stay {O2 : Nat → Prop} {w' : World} (h : DiskAt P K O w pd b V B room fuse down S) (hs : Stay O2 w w') (hd : ∀ k, O k → ¬ O2 k) : DiskAt P K O w' pd b V B room fuse down S := by
  have hb : ∀ k, O k → w'.heap[k]? = w.heap[k]? := fun k hk => hs.block k (h.lt k hk) (hd k hk)
  have eP := hb pd h.oP
  have eB := hb b h.oB
  refine { h with lt := fun k hk => Nat.lt_of_lt_of_le (h.lt k hk) hs.size, c0 := (World.cell?_of_block (a := ⟨pd, 0, none⟩) eP).trans h.c0, c1 := (World.cell?_of_block (a := ⟨pd, 1, none⟩) eP).trans h.c1, c2 := (World.cell?_of_block (a := ⟨pd, 2, none⟩) eP).trans h.c2, c3 := (World.cell?_of_block (a := ⟨pd, 3, none⟩) eP).trans h.c3, f2 := (World.frozen?_of_block (a := ⟨pd, 2, none⟩) eP).trans h.f2, f3 := (World.frozen?_of_block (a := ⟨pd, 3, none⟩) eP).trans h.f3, own := ?_, file := ?_ }
  · obtain ⟨es, clock, h1, h2⟩ := h.own
    exact ⟨es, clock, eB.trans h1, h2⟩
  · intro p hp
    obtain ⟨sl, h1, h2⟩ := h.file p hp
    refine ⟨sl, h1, h2.stay hs.size (fun k hk => ?_) (fun _ e => e)⟩
    rw [hk] at h2
    exact hb k h2.lt.2

theorem DiskAt.below {w' : World} (h : DiskAt P K O w pd b V B room fuse down S) (hs : Below w.heap.size w w') : DiskAt P K O w' pd b V B room fuse down S :=
  h.stay (O2 := fun _ => False) (Stay.of_below hs) (fun _ _ => id)

theorem DiskAt.tot8 (h : DiskAt P K O w pd b V B room fuse down S) : tot S ≤ 8000000 := by
  have h1 := tot_most (fun p hp => (h.data p hp).1)
  have h2 := h.most
  omega

/-- More blocks are its own. -/
theorem DiskAt.wide {O2 : Nat → Prop} (h : DiskAt P K O w pd b V B room fuse down S) (hO : ∀ k, O k → O2 k) (hl : ∀ k, O2 k → k < w.heap.size) : DiskAt P K O2 w pd b V B room fuse down S := by
  refine { h with lt := hl, oP := hO _ h.oP, oB := hO _ h.oB, file := fun p hp => ?_ }
  obtain ⟨sl, h1, h2⟩ := h.file p hp
  exact ⟨sl, h1, h2.stay (Nat.le_refl _) (fun _ _ => rfl) hO⟩

theorem cell_set {w : World} {p j k : Nat} {v u : Value} (hne : j ≠ k) (h : w.cell? ⟨p, j, none⟩ = some u) : (w.setCell ⟨p, k, none⟩ v).cell? ⟨p, j, none⟩ = some u := by
  rw [World.cell?_setCell_other]
  · exact h
  · intro e
    exact hne (Addr.mk.inj e).2.1.symm

theorem Byt.setCell {w : World} {sl : Value} {l : List UInt8} {g : Option Nat} (h : Byt O w sl l g) (a : Addr) (v : Value) (hne : g ≠ some a.block) : Byt O (w.setCell a v) sl l g :=
  h.stay (by simp [World.setCell]) (fun k hk => Below.heap_setCell _ _ _ _ (by rintro rfl; exact hne hk)) (fun _ e => e)

theorem DiskAt.setFuse (h : DiskAt P K O w pd b V B room fuse down S) (x : Int) (hx : 0 ≤ x ∧ x < 9223372036854775808) : DiskAt P K O (w.setCell ⟨pd, 2, none⟩ (.int .i64 x)) pd b V B room x down S := by
  refine { h with lt := fun k hk => by simpa [World.setCell] using h.lt k hk, c0 := cell_set (by decide) h.c0, c1 := cell_set (by decide) h.c1, c2 := World.cell?_setCell_same _ _ _ h.c2, c3 := cell_set (by decide) h.c3, f2 := by rw [World.frozen?_setCell]; exact h.f2, f3 := by rw [World.frozen?_setCell]; exact h.f3, own := h.own.setCell (Ne.symm h.ne) _, file := ?_, fu := hx }
  intro p hp
  obtain ⟨sl, h1, h2⟩ := h.file p hp
  exact ⟨sl, h1, h2.setCell _ _ (h.nP p hp).1⟩

theorem DiskAt.setDown (h : DiskAt P K O w pd b V B room fuse down S) (x : Bool) : DiskAt P K O (w.setCell ⟨pd, 3, none⟩ (.bool x)) pd b V B room fuse x S := by
  refine { h with lt := fun k hk => by simpa [World.setCell] using h.lt k hk, c0 := cell_set (by decide) h.c0, c1 := cell_set (by decide) h.c1, c2 := cell_set (by decide) h.c2, c3 := World.cell?_setCell_same _ _ _ h.c3, f2 := by rw [World.frozen?_setCell]; exact h.f2, f3 := by rw [World.frozen?_setCell]; exact h.f3, own := h.own.setCell (Ne.symm h.ne) _, file := ?_ }
  intro p hp
  obtain ⟨sl, h1, h2⟩ := h.file p hp
  exact ⟨sl, h1, h2.setCell _ _ (h.nP p hp).1⟩

/-- A file is laid (its bytes lie in its own block, or a new one), and nothing else has turned. -/
theorem DiskAt.put (h : DiskAt P K O w pd b V B room fuse down S) {w1 w2 : World} {O1 : Nat → Prop} {n : List UInt8} {sl : Value} {l : List UInt8} {s : Nat} {g : Option Nat}
    (hO : ∀ k, O k → O1 k) (hl1 : ∀ k, O1 k → k < w1.heap.size) (hy : Byt O1 w1 sl l g) (hst : Stay (fun k => B n = some k ∧ (fget S n).isSome) w w1)
    (hg : ∀ k, g = some k → k ≠ pd ∧ k ≠ b ∧ ∀ q ∈ S, q.1 ≠ n → B q.1 ≠ some k)
    (ho : w2.ownsMap P K rv b (S.length + 1) ((dm V S).put (.string n) (.held (.agg #[sl, .int .i64 (s : Int)])))) (ht : w1.mapTurned w2 b)
    (hn : 1 ≤ n.length ∧ n.length ≤ 30) (hd : l.length ≤ 400000 ∧ s ≤ l.length) (hm : (fput S n (l, s)).length ≤ 20) (hu : (tot (fput S n (l, s)) : Int) ≤ room) :
    DiskAt P K O1 w2 pd b (upd V n (.agg #[sl, .int .i64 (s : Int)])) (fun m => if m = n then g else B m) room fuse down (fput S n (l, s)) := by
  have hgr := ht.grown
  have ne2 : ∀ p ∈ S, ∀ k, B p.1 = some k → O k ∧ k ≠ b ∧ k ≠ pd ∧ k < w.heap.size := fun p hp k hk => by
    obtain ⟨sl', _, h2⟩ := h.file p hp
    rw [hk] at h2
    exact ⟨h2.lt.2, fun e => (h.nP p hp).2 (by rw [hk, e]), fun e => (h.nP p hp).1 (by rw [hk, e]), h2.lt.1⟩
  have hold : ∀ k, (B n = some k ∧ (fget S n).isSome) → O k ∧ k ≠ b ∧ k ≠ pd := fun k ⟨h1, h2⟩ => by
    obtain ⟨f, hf⟩ := Option.isSome_iff_exists.1 h2
    have := ne2 (n, f) (fget_mem hf) k h1
    exact ⟨this.1, this.2.1, this.2.2.1⟩
  have hpdlt := h.lt pd h.oP
  have hblt := h.lt b h.oB
  have hbl : ∀ k, O k → k ≠ b → ¬ (B n = some k ∧ (fget S n).isSome) → w2.heap[k]? = w.heap[k]? := fun k hk hkb hn' =>
    (hgr.block k (Nat.lt_of_lt_of_le (h.lt k hk) hst.size) (by simpa using hkb)).trans (hst.block k (h.lt k hk) hn')
  have eP : w2.heap[pd]? = w.heap[pd]? := hbl pd h.oP h.ne (fun e => (hold pd e).2.2 rfl)
  refine { lt := fun k hk => Nat.lt_of_lt_of_le (hl1 k hk) hgr.size, oP := hO _ h.oP, oB := hO _ h.oB, ne := h.ne, c0 := (World.cell?_of_block (a := ⟨pd, 0, none⟩) eP).trans h.c0, c1 := (World.cell?_of_block (a := ⟨pd, 1, none⟩) eP).trans h.c1, c2 := (World.cell?_of_block (a := ⟨pd, 2, none⟩) eP).trans h.c2, c3 := (World.cell?_of_block (a := ⟨pd, 3, none⟩) eP).trans h.c3, f2 := (World.frozen?_of_block (a := ⟨pd, 2, none⟩) eP).trans h.f2, f3 := (World.frozen?_of_block (a := ⟨pd, 3, none⟩) eP).trans h.f3, own := ?_, rise := rise_fput h.rise n _, file := ?_, nP := ?_, apart := ?_, name := ?_, data := ?_, most := hm, r0 := h.r0, used := hu, fu := h.fu }
  · rw [dm_put V S n (l, s)] at ho
    have := ownsMap_tight ho
    rwa [dm_size] at this
  · intro p hp
    rcases mem_fput.1 hp with e | ⟨e, e2⟩
    · subst e
      refine ⟨sl, upd_same _ _ _, ?_⟩
      simp only [if_true]
      refine hy.stay hgr.size (fun k hk => hgr.block k ?_ ?_) (fun _ e => e)
      · rw [hk] at hy; exact hy.lt.1
      · intro e
        cases e
        exact (hg b hk).2.1 rfl
    · obtain ⟨sl', h1, h2⟩ := h.file p e
      refine ⟨sl', by rw [upd_other V _ e2]; exact h1, ?_⟩
      simp only [e2, if_false]
      refine h2.stay (Nat.le_trans hst.size hgr.size) (fun k hk => ?_) hO
      obtain ⟨k1, k2, k3, k4⟩ := ne2 p e k hk
      refine hbl k k1 k2 (fun ⟨q1, q2⟩ => ?_)
      obtain ⟨f, hf⟩ := Option.isSome_iff_exists.1 q2
      exact h.apart p e (n, f) (fget_mem hf) e2 k hk q1
  · intro p hp
    rcases mem_fput.1 hp with e | ⟨e, e2⟩
    · subst e
      simp only [if_true]
      exact ⟨fun e => (hg pd e).1 rfl, fun e => (hg b e).2.1 rfl⟩
    · simp only [e2, if_false]
      exact h.nP p e
  · intro p hp q hq hne k hk
    rcases mem_fput.1 hp with e | ⟨e, e2⟩
    · subst e
      rcases mem_fput.1 hq with e' | ⟨e', e2'⟩
      · subst e'; exact absurd rfl hne
      · simp only [if_true] at hk
        simp only [e2', if_false]
        exact (hg k hk).2.2 q e' e2'
    · simp only [e2, if_false] at hk
      rcases mem_fput.1 hq with e' | ⟨e', e2'⟩
      · subst e'
        simp only [if_true]
        exact fun hq2 => (hg k hq2).2.2 p e e2 hk
      · simp only [e2', if_false]
        exact h.apart p e q e' hne k hk
  · intro p hp
    rcases mem_fput.1 hp with e | ⟨e, e2⟩
    · subst e; exact hn
    · exact h.name p e
  · intro p hp
    rcases mem_fput.1 hp with e | ⟨e, e2⟩
    · subst e; exact hd
    · exact h.data p e

/-- One file's row is written, and new blocks are made: the map is still there. -/
theorem DiskAt.but (h : DiskAt P K O w pd b V B room fuse down S) {W : World} {n : List UInt8} (hst : Stay (fun k => B n = some k ∧ (fget S n).isSome) w W) :
    W.cell? ⟨pd, 1, none⟩ = some (.map (some b)) ∧ W.ownsMap P K rv b S.length (dm V S) := by
  have hno : ∀ k, (k = pd ∨ k = b) → ¬ (B n = some k ∧ (fget S n).isSome) := fun k hk ⟨e1, e2⟩ => by
    obtain ⟨f, hf⟩ := Option.isSome_iff_exists.1 e2
    have := h.nP _ (fget_mem hf)
    rcases hk with rfl | rfl
    · exact this.1 e1
    · exact this.2 e1
  have e1 := hst.block pd (h.lt _ h.oP) (hno pd (.inl rfl))
  have e2 := hst.block b (h.lt _ h.oB) (hno b (.inr rfl))
  refine ⟨(World.cell?_of_block (a := ⟨pd, 1, none⟩) e1).trans h.c1, ?_⟩
  obtain ⟨es, clock, h1, h2⟩ := h.own
  exact ⟨es, clock, e2.trans h1, h2⟩

theorem Stay.drew {O : Nat → Prop} {w w' : World} (h : Stay O w w') : Stay O w w'.drew := ⟨h.os, h.tape, h.output, h.size, h.block⟩
theorem Byt.drew {w : World} {sl : Value} {l : List UInt8} {g : Option Nat} (h : Byt O w sl l g) : Byt O w.drew sl l g := h.stay (w' := w.drew) (Nat.le_refl w.heap.size) (fun _ _ => rfl) (fun _ e => e)

theorem turned_size {w w' : World} {b : Nat} (h : w.mapTurned w' b) : w'.heap.size = w.heap.size := by
  obtain ⟨es, clock, es', clock', _, rfl⟩ := h
  simp [ChangeMaps.setBlock]

/-- A block of the file's own, or a new one, is no other's. -/
theorem DiskAt.fresh (h : DiskAt P K O w pd b V B room fuse down S) {n : List UInt8} {g : Option Nat} (hg : ∀ k, g = some k → (B n = some k ∧ (fget S n).isSome) ∨ w.heap.size ≤ k) :
    ∀ k, g = some k → k ≠ pd ∧ k ≠ b ∧ ∀ q ∈ S, q.1 ≠ n → B q.1 ≠ some k := by
  intro k hk
  have h1 := h.lt pd h.oP
  have h2 := h.lt b h.oB
  rcases hg k hk with ⟨e1, e2⟩ | e
  · obtain ⟨f, hf⟩ := Option.isSome_iff_exists.1 e2
    have hm := fget_mem hf
    exact ⟨fun e => (h.nP _ hm).1 (by rw [← e]; exact e1), fun e => (h.nP _ hm).2 (by rw [← e]; exact e1), fun q hq hne hq2 => h.apart q hq (n, f) hm hne k hq2 e1⟩
  · refine ⟨by omega, by omega, fun q hq _ hq2 => ?_⟩
    obtain ⟨sl, _, h4⟩ := h.file q hq
    rw [hq2] at h4
    have := h4.lt.1
    omega

/-- What stands at a key. -/
theorem DiskAt.at (h : DiskAt P K O w pd b V B room fuse down S) {n : List UInt8} {f : List UInt8 × Nat} (hf : fget S n = some f) :
    ∃ a c, V n = .agg #[.slice a f.1.length c, .int .i64 (f.2 : Int)] ∧ Byt O w (.slice a f.1.length c) f.1 (B n) := by
  obtain ⟨sl, h1, h2⟩ := h.file (n, f) (fget_mem hf)
  generalize hB : B (n, f).1 = g at h2
  cases h2 with
  | nil e1 e2 =>
    have e2' : f.1 = [] := e2
    refine ⟨none, 0, by rw [show V n = _ from h1, e1, e2']; rfl, ?_⟩
    rw [e2']; exact .nil rfl rfl
  | row g cap e1 e2 e3 e4 e5 e6 e7 =>
    refine ⟨_, cap, by rw [show V n = _ from h1, e1], ?_⟩
    exact .row g cap rfl e2 e3 e4 e5 e6 e7

theorem DiskAt.entry (h : DiskAt P K O w pd b V B room fuse down S) (hK : P.underlying K = some .string) {x : List UInt8} {kl : Lit} {c : FV} {y : DataW Value × List MemPlace}
    (hkey : keyOf P K (Go.Proofs.encStr x) = some kl) (hv : rv (mkV c) = some y) (hat : ∀ zd, (dm V S).atKey kl zd = y.1) : ∃ f, fget S x = some f ∧ kl = .string x ∧ c.l = f.1.length := by
  obtain ⟨x', e1, e2, _⟩ := Maps.keyOf_str hK hkey
  obtain rfl := encStr_inj e1
  subst e2
  obtain ⟨c', _, hy⟩ := rv_inv hv
  have h1 := hat .nil
  rw [dm_at, hy] at h1
  cases hf : fget S x with
  | none => rw [hf] at h1; cases h1
  | some f =>
    rw [hf] at h1
    simp at h1
    obtain ⟨a, c2, h2, _⟩ := h.at hf
    rw [h2] at h1
    unfold mkV at h1
    simp at h1
    exact ⟨f, rfl, rfl, h1.1.2.1.symm⟩

/-- A file goes. -/
theorem DiskAt.del (h : DiskAt P K O w pd b V B room fuse down S) {w2 : World} {n : List UInt8} (ho : w2.ownsMap P K rv b S.length ((dm V S).del (.string n))) (ht : w.mapTurned w2 b) :
    DiskAt P K O w2 pd b V B room fuse down (fdel S n) := by
  have hgr := ht.grown
  have hbl : ∀ k, O k → k ≠ b → w2.heap[k]? = w.heap[k]? := fun k hk hkb => hgr.block k (h.lt k hk) (by simpa using hkb)
  have eP := hbl pd h.oP h.ne
  have ht2 := tot_fdel h.rise n
  have hl2 := len_fdel h.rise n
  refine { lt := fun k hk => Nat.lt_of_lt_of_le (h.lt k hk) hgr.size, oP := h.oP, oB := h.oB, ne := h.ne, c0 := (World.cell?_of_block (a := ⟨pd, 0, none⟩) eP).trans h.c0, c1 := (World.cell?_of_block (a := ⟨pd, 1, none⟩) eP).trans h.c1, c2 := (World.cell?_of_block (a := ⟨pd, 2, none⟩) eP).trans h.c2, c3 := (World.cell?_of_block (a := ⟨pd, 3, none⟩) eP).trans h.c3, f2 := (World.frozen?_of_block (a := ⟨pd, 2, none⟩) eP).trans h.f2, f3 := (World.frozen?_of_block (a := ⟨pd, 3, none⟩) eP).trans h.f3, own := ?_, rise := rise_fdel h.rise n, file := ?_, nP := ?_, apart := ?_, name := ?_, data := ?_, most := by have := h.most; omega, r0 := h.r0, used := by have := h.used; omega, fu := h.fu }
  · rw [dm_del] at ho
    have := ownsMap_tight ho
    rwa [dm_size] at this
  · intro p hp
    obtain ⟨e, e2⟩ := mem_fdel.1 hp
    obtain ⟨sl', h1, h2⟩ := h.file p e
    refine ⟨sl', h1, h2.stay hgr.size (fun k hk => ?_) (fun _ e => e)⟩
    rw [hk] at h2
    exact hbl k h2.lt.2 (fun e3 => (h.nP p e).2 (by rw [hk, e3]))
  · intro p hp; exact h.nP p (mem_fdel.1 hp).1
  · intro p hp q hq; exact h.apart p (mem_fdel.1 hp).1 q (mem_fdel.1 hq).1
  · intro p hp; exact h.name p (mem_fdel.1 hp).1
  · intro p hp; exact h.data p (mem_fdel.1 hp).1

end

end Go.Proofs.YtfmhmokbbkliaaaGreat
