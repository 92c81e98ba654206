/- Part 24 of the proof: PlayM. -/
import Derived.Test.YtfmhmokbbkliaaaGreatB08
import Derived.Test.YtfmhmokbbkliaaaGreatB10
import Derived.Test.YtfmhmokbbkliaaaGreatB16

/- The document's own disk in memory: its cells, its files in a row. No program in it. -/
namespace Go.Proofs.YtfmhmokbbkliaaaGreat
open Go.RowKit

def ba (l : List UInt8) : ByteArray := ⟨⟨l⟩⟩
theorem ba_of (s : ByteArray) : ∃ l, s = ba l ∧ s.data.toList = l := ⟨s.data.toList, rfl, rfl⟩
theorem ba_size (l : List UInt8) : (ba l).size = l.length := rfl
theorem ba_data (l : List UInt8) : (ba l).data.toList = l := rfl
theorem ba_inj {a b : List UInt8} (h : ba a = ba b) : a = b := by
  have := congrArg (fun s : ByteArray => s.data.toList) h
  exact this
theorem ba_list (l : List UInt8) : (ba l).toList = l := by rw [ByteArray.toList_eq]; rfl

def filC (p : Fl) : List Value := [.string (ba p.1), .string (ba p.2.1), .int .i64 (p.2.2 : Int)]
def filCs : FS → List Value
  | [] => []
  | p :: S => filC p ++ filCs S

theorem filCs_len : ∀ S : FS, (filCs S).length = S.length * 3
  | [] => rfl
  | p :: S => by
    show (filC p ++ filCs S).length = (S.length + 1) * 3
    rw [List.length_append, filCs_len S]
    show 3 + _ = _
    omega
theorem filCs_app : ∀ A B : FS, filCs (A ++ B) = filCs A ++ filCs B
  | [], _ => rfl
  | p :: A, B => by
    show filC p ++ filCs (A ++ B) = filC p ++ filCs A ++ filCs B
    rw [filCs_app A B, List.append_assoc]
theorem filCs_one (p : Fl) : filCs [p] = filC p := rfl
theorem filCs_at : ∀ (S : FS) (i : Nat) (h : i < S.length), (filCs S)[i * 3]? = some (.string (ba S[i].1)) ∧ (filCs S)[i * 3 + 1]? = some (.string (ba S[i].2.1)) ∧ (filCs S)[i * 3 + 2]? = some (.int .i64 (S[i].2.2 : Int))
  | [], i, h => by simp at h
  | p :: S, 0, _ => ⟨rfl, rfl, rfl⟩
  | p :: S, i + 1, h => by
    have := filCs_at S i (by simpa using h)
    have e : ∀ j, (filCs (p :: S))[(i + 1) * 3 + j]? = (filCs S)[i * 3 + j]? := fun j => by
      show (filC p ++ filCs S)[(i + 1) * 3 + j]? = _
      rw [List.getElem?_append_right (by show 3 ≤ _; omega)]
      congr 1
      show _ - 3 = _
      omega
    exact ⟨(e 0).trans this.1, (e 1).trans this.2.1, (e 2).trans this.2.2⟩
theorem filCs_oneCell : ∀ (S : FS), ∀ u ∈ filCs S, u.oneCell' = true
  | [], u, h => by cases h
  | p :: S, u, h => by
    rcases List.mem_append.1 h with h | h
    · simp only [filC, List.mem_cons, List.not_mem_nil, or_false] at h
      rcases h with rfl | rfl | rfl <;> rfl
    · exact filCs_oneCell S u h

/-- What every disk keeps to. -/
structure Fit (ds : DS) : Prop where
  rise : Rise ds.S
  name : ∀ p ∈ ds.S, 1 ≤ p.1.length ∧ p.1.length ≤ 30
  data : ∀ p ∈ ds.S, p.2.1.length ≤ 400000 ∧ p.2.2 ≤ p.2.1.length
  most : ds.S.length ≤ 20
  r0 : 0 ≤ ds.room ∧ ds.room < 9223372036854775808
  fu : 0 ≤ ds.fuse ∧ ds.fuse < 9223372036854775808

theorem Fit.tot8 {ds : DS} (h : Fit ds) : tot ds.S ≤ 8000000 := by
  have := tot_most (S := ds.S) (fun p hp => (h.data p hp).1)
  have := h.most
  omega

/-- The document's disk at p: its files lie in a row. -/
structure RAt (O : Nat → Prop) (w : World) (p : Nat) (a : Option Addr) (c : Nat) (g : Option Nat) (ds : DS) : Prop where
  lt : ∀ k, O k → k < w.heap.size
  oP : O p
  c0 : w.cell? ⟨p, 0, none⟩ = some (.int .i64 ds.room)
  c1 : w.cell? ⟨p, 1, none⟩ = some (.slice a ds.S.length c)
  c2 : w.cell? ⟨p, 2, none⟩ = some (.int .i64 ds.fuse)
  c3 : w.cell? ⟨p, 3, none⟩ = some (.bool ds.down)
  f1 : w.frozen? ⟨p, 1, none⟩ = false
  f2 : w.frozen? ⟨p, 2, none⟩ = false
  f3 : w.frozen? ⟨p, 3, none⟩ = false
  cel : Cel O w 3 (.slice a ds.S.length c) ds.S.length (filCs ds.S) g
  ne : g ≠ some p

theorem Cel.cap {O : Nat → Prop} {w : World} {size : Nat} {a : Option Addr} {m c n : Nat} {cs : List Value} {g : Option Nat} (h : Cel O w size (.slice a m c) n cs g) : n ≤ c ∧ c ≤ maxLen ∧ m = n := by
  cases h with
  | nil h1 h2 h3 => cases h1; exact ⟨by omega, by unfold maxLen; omega, h2.symm⟩
  | row g cap h1 hl h2 h3 h4 h5 h6 h7 => cases h1; exact ⟨h4, h5, rfl⟩

theorem Cel.at {O : Nat → Prop} {w : World} {size : Nat} {a : Option Addr} {m c n : Nat} {cs : List Value} {g : Option Nat} (h : Cel O w size (.slice a m c) n cs g) (hp : 0 < n) : ∃ k, a = some ⟨k, 0, none⟩ ∧ g = some k := by
  cases h with
  | nil h1 h2 h3 => omega
  | row g cap h1 hl h2 h3 h4 h5 h6 h7 => cases h1; exact ⟨g, rfl, rfl⟩

section
variable {O : Nat → Prop} {w : World} {p : Nat} {a : Option Addr} {c : Nat} {g : Option Nat} {ds : DS}

theorem RAt.stay {O2 : Nat → Prop} {w' : World} (h : RAt O w p a c g ds) (hs : Stay O2 w w') (hd : ∀ k, O k → ¬ O2 k) : RAt O w' p a c g ds := by
  have e := hs.block p (h.lt p h.oP) (hd p h.oP)
  have ec : ∀ j, w'.cell? ⟨p, j, none⟩ = w.cell? ⟨p, j, none⟩ := fun j => World.cell?_of_block (a := ⟨p, j, none⟩) e
  have ef : ∀ j, w'.frozen? ⟨p, j, none⟩ = w.frozen? ⟨p, j, none⟩ := fun j => World.frozen?_of_block (a := ⟨p, j, none⟩) e
  have hc := h.cel
  refine ⟨fun k hk => Nat.lt_of_lt_of_le (h.lt k hk) hs.size, h.oP, (ec 0).trans h.c0, (ec 1).trans h.c1, (ec 2).trans h.c2, (ec 3).trans h.c3, (ef 1).trans h.f1, (ef 2).trans h.f2, (ef 3).trans h.f3, hc.stay hs.size (fun k hk => ?_) (fun _ e => e), h.ne⟩
  rw [hk] at hc
  exact hs.block k hc.lt.1 (hd k hc.lt.2)

theorem RAt.below {w' : World} (h : RAt O w p a c g ds) (hs : Below w.heap.size w w') : RAt O w' p a c g ds :=
  h.stay (O2 := fun _ => False) (Stay.of_below hs) (fun _ _ e => e)

theorem RAt.file (h : RAt O w p a c g ds) {i : Nat} (hi : i < ds.S.length) : ∃ k, a = some ⟨k, 0, none⟩ ∧ g = some k ∧ w.cell? ⟨k, i * 3, none⟩ = some (.string (ba ds.S[i].1)) ∧ w.cell? ⟨k, i * 3 + 1, none⟩ = some (.string (ba ds.S[i].2.1)) ∧ w.cell? ⟨k, i * 3 + 2, none⟩ = some (.int .i64 (ds.S[i].2.2 : Int)) := by
  have hc := h.cel
  obtain ⟨k, rfl, rfl⟩ := hc.at (by omega)
  have hl := filCs_len ds.S
  obtain ⟨e0, e1, e2⟩ := filCs_at ds.S i hi
  have q : ∀ j v, (filCs ds.S)[j]? = some v → w.cell? ⟨k, j, none⟩ = some v := fun j v hv => by
    obtain ⟨h1, h2⟩ := List.getElem?_eq_some_iff.1 hv
    rw [← h2]; exact hc.cell j h1
  exact ⟨k, rfl, rfl, q _ _ e0, q _ _ e1, q _ _ e2⟩

theorem cell_setP {w : World} {p k : Nat} {j : Nat} {v u : Value} (hne : j ≠ k) (h : w.cell? ⟨p, j, none⟩ = some u) : (w.setCell ⟨p, k, none⟩ v).cell? ⟨p, j, none⟩ = some u := by
  rw [World.cell?_setCell_other]
  · exact h
  · intro e; exact hne (Addr.mk.inj e).2.1.symm

theorem Cel.setCell {w : World} {size : Nat} {sl : Value} {n : Nat} {cs : List Value} (h : Cel O w size sl n cs g) (b : Addr) (v : Value) (hne : g ≠ some b.block) : Cel O (w.setCell b v) size sl n cs g :=
  h.stay (by simp [World.setCell]) (fun k hk => Below.heap_setCell _ _ _ _ (fun e => hne (by rw [hk, e]))) (fun _ e => e)

theorem RAt.setFuse (h : RAt O w p a c g ds) (x : Int) : RAt O (w.setCell ⟨p, 2, none⟩ (.int .i64 x)) p a c g { ds with fuse := x } :=
  ⟨fun k hk => by simpa [World.setCell] using h.lt k hk, h.oP, cell_setP (by decide) h.c0, cell_setP (by decide) h.c1, World.cell?_setCell_same _ _ _ h.c2, cell_setP (by decide) h.c3, by rw [World.frozen?_setCell]; exact h.f1, by rw [World.frozen?_setCell]; exact h.f2, by rw [World.frozen?_setCell]; exact h.f3, h.cel.setCell _ _ h.ne, h.ne⟩

theorem RAt.setDown (h : RAt O w p a c g ds) (x : Bool) : RAt O (w.setCell ⟨p, 3, none⟩ (.bool x)) p a c g { ds with down := x } :=
  ⟨fun k hk => by simpa [World.setCell] using h.lt k hk, h.oP, cell_setP (by decide) h.c0, cell_setP (by decide) h.c1, cell_setP (by decide) h.c2, World.cell?_setCell_same _ _ _ h.c3, by rw [World.frozen?_setCell]; exact h.f1, by rw [World.frozen?_setCell]; exact h.f2, by rw [World.frozen?_setCell]; exact h.f3, h.cel.setCell _ _ h.ne, h.ne⟩

/-- Another row of files. -/
theorem RAt.setFiles (h : RAt O w p a c g ds) {w1 : World} {a' : Option Addr} {c' n' : Nat} {g' : Option Nat} {S' : FS} (hs : Stay (fun _ => False) w w1) (hn : S'.length = n') (hc : Cel (fun k => w.heap.size ≤ k) w1 3 (.slice a' n' c') n' (filCs S') g') :
    RAt (Grow O w (w1.setCell ⟨p, 1, none⟩ (.slice a' n' c'))) (w1.setCell ⟨p, 1, none⟩ (.slice a' n' c')) p a' c' g' { ds with S := S' } := by
  subst hn
  have h1 := h.stay hs (fun _ _ e => e)
  have hz : (w1.setCell ⟨p, 1, none⟩ (.slice a' S'.length c')).heap.size = w1.heap.size := by simp [World.setCell]
  have hp := h.lt p h.oP
  have hne : g' ≠ some p := fun e => by
    rw [e] at hc
    have := hc.lt.2
    omega
  refine ⟨fun k hk => ?_, .inl h.oP, cell_setP (by decide) h1.c0, World.cell?_setCell_same _ _ _ h1.c1, cell_setP (by decide) h1.c2, cell_setP (by decide) h1.c3, by rw [World.frozen?_setCell]; exact h1.f1, by rw [World.frozen?_setCell]; exact h1.f2, by rw [World.frozen?_setCell]; exact h1.f3, ?_, hne⟩
  · rcases hk with hk | hk
    · rw [hz]; exact h1.lt k hk
    · exact hk.2
  · cases hc with
    | nil e1 e2 e3 => exact .nil e1 e2 e3
    | row g cap e1 hl e2 e3 e4 e5 e6 e7 =>
      have hc2 : Cel (fun k => w.heap.size ≤ k) w1 3 (.slice a' S'.length c') S'.length (filCs S') (some g) := .row g cap e1 hl e2 e3 e4 e5 e6 e7
      cases (hc2.setCell (O := fun k => w.heap.size ≤ k) ⟨p, 1, none⟩ (.slice a' S'.length c') hne) with
      | row g cap e1 hl e2 e3 e4 e5 e6 e7 => exact .row g cap e1 hl (.inr ⟨e2, e3⟩) e3 e4 e5 e6 e7

end

end Go.Proofs.YtfmhmokbbkliaaaGreat
