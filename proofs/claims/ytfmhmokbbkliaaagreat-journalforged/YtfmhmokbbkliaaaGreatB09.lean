/- Part 9 of the proof: Stay, SepG. -/
import Derived.Below
import Derived.Laws.AppendOwn
import Derived.WalkKit

/- What stays when some blocks are written. No program in it. -/
namespace Go.Proofs.YtfmhmokbbkliaaaGreat
open Go.RowKit

/-- What was there stays but for the blocks of O. -/
structure Stay (O : Nat → Prop) (w w' : World) : Prop where
  os : w'.os = w.os
  tape : w'.tape = w.tape
  output : w'.output = w.output
  size : w.heap.size ≤ w'.heap.size
  block : ∀ k, k < w.heap.size → ¬ O k → w'.heap[k]? = w.heap[k]?

/-- O, and what is new. -/
def Grow (O : Nat → Prop) (w w' : World) : Nat → Prop := fun k => O k ∨ (w.heap.size ≤ k ∧ k < w'.heap.size)

theorem Stay.refl (O : Nat → Prop) (w : World) : Stay O w w := ⟨rfl, rfl, rfl, Nat.le_refl _, fun _ _ _ => rfl⟩

theorem Stay.trans {O O2 : Nat → Prop} {a b c : World} (h : Stay O a b) (k : Stay O2 b c) (hO : ∀ i, i < a.heap.size → O2 i → O i) : Stay O a c :=
  ⟨k.os.trans h.os, k.tape.trans h.tape, k.output.trans h.output, Nat.le_trans h.size k.size, fun i hi ho => (k.block i (Nat.lt_of_lt_of_le hi h.size) (fun e => ho (hO i hi e))).trans (h.block i hi ho)⟩

theorem Stay.of_below {O : Nat → Prop} {w w' : World} (h : Below w.heap.size w w') : Stay O w w' := ⟨h.os, h.tape, h.output, h.size, fun k hk _ => h.block k hk⟩

theorem Stay.below {O : Nat → Prop} {w w' : World} {B : Nat} (h : Stay O w w') (hB : B ≤ w.heap.size) (hO : ∀ k, O k → B ≤ k) : Below B w w' :=
  ⟨h.os, h.tape, h.output, h.size, fun k hk => h.block k (by omega) (fun e => by have := hO k e; omega)⟩

theorem Stay.mono {O O2 : Nat → Prop} {w w' : World} (h : Stay O w w') (hO : ∀ i, O i → O2 i) : Stay O2 w w' := ⟨h.os, h.tape, h.output, h.size, fun k hk ho => h.block k hk (fun e => ho (hO k e))⟩

theorem Stay.of_grown {O : Nat → Prop} {w w' : World} {row : Option Nat} (h : w.grownBy w' row) (hr : ∀ k, row = some k → O k) : Stay O w w' :=
  ⟨h.os, h.tape, h.output, h.size, fun k hk ho => h.block k hk (fun e => ho (hr k e.symm))⟩

theorem Stay.setCell {O : Nat → Prop} (w : World) (a : Addr) (v : Value) (h : O a.block) : Stay O w (w.setCell a v) := by
  refine ⟨rfl, rfl, rfl, by simp [World.setCell], fun k hk ho => Below.heap_setCell _ _ _ _ ?_⟩
  rintro rfl; exact ho h

theorem Stay.andThen {O : Nat → Prop} {a b c : World} (h : Stay O a b) (k : Stay (Grow O a b) b c) : Stay O a c :=
  h.trans k (fun i hi e => e.elim id (fun e => by omega))

theorem Stay.then_same {O : Nat → Prop} {a b c : World} (h : Stay O a b) (k : Stay O b c) : Stay O a c := h.trans k (fun _ _ e => e)

theorem Stay.then_below {O : Nat → Prop} {a b c : World} (h : Stay O a b) (k : Below b.heap.size b c) : Stay O a c := h.trans (O2 := fun _ => False) (Stay.of_below k) (fun _ _ e => e.elim)

end Go.Proofs.YtfmhmokbbkliaaaGreat

/- Things in memory, side by side: what a call does to one of them leaves the others. No program in it. -/
namespace Go.Proofs.YtfmhmokbbkliaaaGreat.Sep
open Go.RowKit Go.Proofs.YtfmhmokbbkliaaaGreat
set_option linter.unusedVariables false

theorem sbel_tr {a b c : World} (h : Below a.heap.size a b) (k : Below b.heap.size b c) : Below a.heap.size a c := h.trans (k.mono h.size)
theorem sbel_al (w : World) (o : Obj) : Below w.heap.size w (w.alloc o) := (Below.refl _ w).alloc (Nat.le_refl _) o

/-- Something that lies in the blocks of O: what is done beside it leaves it, and it may have more room. -/
structure Th where
  A : (Nat → Prop) → World → Prop
  stay : ∀ {O O2 : Nat → Prop} {w w' : World}, A O w → Stay O2 w w' → (∀ k, O k → ¬ O2 k) → A O w'
  lt : ∀ {O : Nat → Prop} {w : World}, A O w → ∀ k, O k → k < w.heap.size
  wide : ∀ {O O' : Nat → Prop} {w : World}, A O w → (∀ k, O k → O' k) → (∀ k, O' k → k < w.heap.size) → A O' w

/-- Things side by side. -/
def Stars : List Th → (Nat → Prop) → World → Prop
  | [], O, w => ∀ k, O k → k < w.heap.size
  | T :: L, O, w => ∃ O1 O2, T.A O1 w ∧ Stars L O2 w ∧ (∀ k, O1 k → ¬ O2 k) ∧ (∀ k, O1 k → O k) ∧ (∀ k, O2 k → O k) ∧ ∀ k, O k → k < w.heap.size

theorem Stars.lt : ∀ {L : List Th} {O : Nat → Prop} {w : World}, Stars L O w → ∀ k, O k → k < w.heap.size
  | [], _, _, h => h
  | _ :: _, _, _, ⟨_, _, _, _, _, _, _, h⟩ => h
theorem Stars.stay : ∀ {L : List Th} {O O2 : Nat → Prop} {w w' : World}, Stars L O w → Stay O2 w w' → (∀ k, O k → ¬ O2 k) → Stars L O w'
  | [], _, _, _, _, h, hs, _ => fun k hk => Nat.lt_of_lt_of_le (h k hk) hs.size
  | T :: L, _, _, _, _, ⟨O1, O2, h1, h2, h3, h4, h5, h6⟩, hs, hd =>
    ⟨O1, O2, T.stay h1 hs (fun k hk => hd k (h4 k hk)), Stars.stay h2 hs (fun k hk => hd k (h5 k hk)), h3, h4, h5, fun k hk => Nat.lt_of_lt_of_le (h6 k hk) hs.size⟩
theorem Stars.wide : ∀ {L : List Th} {O O' : Nat → Prop} {w : World}, Stars L O w → (∀ k, O k → O' k) → (∀ k, O' k → k < w.heap.size) → Stars L O' w
  | [], _, _, _, _, _, hl => hl
  | T :: L, _, _, _, ⟨O1, O2, h1, h2, h3, h4, h5, h6⟩, ho, hl => ⟨O1, O2, h1, h2, h3, fun k hk => ho k (h4 k hk), fun k hk => ho k (h5 k hk), hl⟩
/-- Some things are one thing. -/
def all (L : List Th) : Th := ⟨Stars L, Stars.stay, Stars.lt, Stars.wide⟩
/-- A thing of some kind. -/
def some' {ι : Sort _} (f : ι → Th) : Th :=
  ⟨fun O w => ∃ i, (f i).A O w, fun ⟨i, h⟩ hs hd => ⟨i, (f i).stay h hs hd⟩, fun ⟨i, h⟩ => (f i).lt h, fun ⟨i, h⟩ ho hl => ⟨i, (f i).wide h ho hl⟩⟩
/-- A thing of which something holds. -/
def when (p : Prop) (T : Th) : Th := ⟨fun O w => p ∧ T.A O w, fun h hs hd => ⟨h.1, T.stay h.2 hs hd⟩, fun h => T.lt h.2, fun h ho hl => ⟨h.1, T.wide h.2 ho hl⟩⟩

/-- Cells of a block of its own. -/
structure BoxA (b : Nat) (vs : List Value) (O : Nat → Prop) (w : World) : Prop where
  own : O b
  cell : ∀ (j : Nat) (u : Value), vs[j]? = some u → w.cell? ⟨b, j, none⟩ = some u
  fr : ∀ j, w.frozen? ⟨b, j, none⟩ = false
  lt : ∀ k, O k → k < w.heap.size
def box (b : Nat) (vs : List Value) : Th :=
  ⟨BoxA b vs, fun h hs hd => ⟨h.own, fun j u hu => (World.cell?_of_block (a := ⟨b, j, none⟩) (hs.block b (h.lt b h.own) (hd b h.own))).trans (h.cell j u hu), fun j => (World.frozen?_of_block (a := ⟨b, j, none⟩) (hs.block b (h.lt b h.own) (hd b h.own))).trans (h.fr j), fun k hk => Nat.lt_of_lt_of_le (h.lt k hk) hs.size⟩,
    fun h => h.lt, fun h ho hl => ⟨ho b h.own, h.cell, h.fr, hl⟩⟩

/-- What a call does with a thing: Q is told of its end, it becomes A'. -/
def Acts (P : Program) (F : Nat) (args : Array Value) (T : Th) (w : World) (Q : Ending → World → Prop) (T' : Th) : Prop :=
  ∀ O, T.A O w → Calls P F args w fun e w' => Q e w' ∧ T'.A (Grow O w w') w' ∧ Stay O w w'

section
variable {P : Program} {F : Nat} {args : Array Value} {w : World} {Q : Ending → World → Prop}

theorem Grow.mono {O O2 : Nat → Prop} {w w' : World} (h : ∀ k, O k → O2 k) : ∀ k, Grow O w w' k → Grow O2 w w' k := fun k hk => hk.elim (fun e => .inl (h k e)) .inr
/-- The first one does. -/
theorem stars_first {T T' : Th} {L : List Th} (H : Acts P F args T w Q T') : Acts P F args (all (T :: L)) w Q (all (T' :: L)) := by
  rintro O ⟨O1, O2, h1, h2, h3, h4, h5, h6⟩
  refine (H O1 h1).mono fun e w' ⟨k1, k2, k3⟩ => ⟨k1, ⟨Grow O1 w w', O2, k2, h2.stay k3 (fun k a b => h3 k b a), fun k hk hk2 => ?_, Grow.mono h4, fun k hk => .inl (h5 k hk), fun k hk => ?_⟩, k3.mono h4⟩
  · rcases hk with e | e
    · exact h3 k e hk2
    · have := h6 k (h5 k hk2); omega
  · rcases hk with e | e
    · exact Nat.lt_of_lt_of_le (h6 k e) k3.size
    · exact e.2
/-- One of the rest does. -/
theorem stars_rest {T : Th} {L L' : List Th} (H : Acts P F args (all L) w Q (all L')) : Acts P F args (all (T :: L)) w Q (all (T :: L')) := by
  rintro O ⟨O1, O2, h1, h2, h3, h4, h5, h6⟩
  refine (H O2 h2).mono fun e w' ⟨k1, k2, k3⟩ => ⟨k1, ⟨O1, Grow O2 w w', T.stay h1 k3 (fun k a b => h3 k a b), k2, fun k hk hk2 => ?_, fun k hk => .inl (h4 k hk), Grow.mono h5, fun k hk => ?_⟩, k3.mono h5⟩
  · rcases hk2 with e | e
    · exact h3 k hk e
    · have := h6 k (h4 k hk); omega
  · rcases hk with e | e
    · exact Nat.lt_of_lt_of_le (h6 k e) k3.size
    · exact e.2
/-- The i-th one does. -/
theorem stars_at {T T' : Th} : ∀ {L : List Th} (i : Nat), L[i]? = some T → Acts P F args T w Q T' → Acts P F args (all L) w Q (all (L.set i T'))
  | [], _, h, _ => by simp at h
  | _ :: _, 0, h, H => by simp at h; subst h; exact stars_first H
  | _ :: _, i + 1, h, H => stars_rest (stars_at i (by simpa using h) H)
end

theorem Stars.get {T : Th} {w : World} : ∀ {L : List Th} {O : Nat → Prop} (i : Nat), L[i]? = some T → Stars L O w → ∃ O1, T.A O1 w ∧ ∀ k, O1 k → O k
  | [], _, _, h, _ => by simp at h
  | _ :: _, _, 0, h, ⟨O1, O2, h1, h2, h3, h4, h5, h6⟩ => by simp at h; subst h; exact ⟨O1, h1, h4⟩
  | _ :: _, _, i + 1, h, ⟨O1, O2, h1, h2, h3, h4, h5, h6⟩ => by
    obtain ⟨O', k1, k2⟩ := Stars.get i (by simpa using h) h2
    exact ⟨O', k1, fun k hk => h5 k (k2 k hk)⟩
/-- Without calls: one of them becomes another one. -/
theorem Stars.turn {T T' : Th} {w w' : World} : ∀ {L : List Th} {O : Nat → Prop} (i : Nat), L[i]? = some T → Stars L O w → (∀ O1, T.A O1 w → (∀ k, O1 k → O k) → T'.A (Grow O1 w w') w' ∧ Stay O1 w w') → Stars (L.set i T') (Grow O w w') w' ∧ Stay O w w'
  | [], _, _, h, _, _ => by simp at h
  | _ :: _, _, 0, h, ⟨O1, O2, h1, h2, h3, h4, h5, h6⟩, H => by
    simp at h; subst h
    obtain ⟨k2, k3⟩ := H O1 h1 h4
    refine ⟨⟨Grow O1 w w', O2, k2, h2.stay k3 (fun k a b => h3 k b a), fun k hk hk2 => ?_, Grow.mono h4, fun k hk => .inl (h5 k hk), fun k hk => ?_⟩, k3.mono h4⟩
    · rcases hk with e | e
      · exact h3 k e hk2
      · have := h6 k (h5 k hk2); omega
    · rcases hk with e | e
      · exact Nat.lt_of_lt_of_le (h6 k e) k3.size
      · exact e.2
  | T0 :: _, _, i + 1, h, ⟨O1, O2, h1, h2, h3, h4, h5, h6⟩, H => by
    obtain ⟨k2, k3⟩ := Stars.turn i (by simpa using h) h2 (fun O3 a b => H O3 a (fun k hk => h5 k (b k hk)))
    refine ⟨⟨O1, Grow O2 w w', T0.stay h1 k3 (fun k a b => h3 k a b), k2, fun k hk hk2 => ?_, fun k hk => .inl (h4 k hk), Grow.mono h5, fun k hk => ?_⟩, k3.mono h5⟩
    · rcases hk2 with e | e
      · exact h3 k hk e
      · have := h6 k (h4 k hk); omega
    · rcases hk with e | e
      · exact Nat.lt_of_lt_of_le (h6 k e) k3.size
      · exact e.2

/-- What a walk holds: things of its own, made since w0. -/
structure Hv (w0 : World) (L : List Th) (w : World) : Prop where
  ex : ∃ O, Stars L O w ∧ (∀ k, O k → w0.heap.size ≤ k) ∧ Below w0.heap.size w0 w
section
variable {w0 w w' : World} {L : List Th} {P : Program} {F : Nat} {args : Array Value} {Q : Ending → World → Prop}
theorem Hv.bel (h : Hv w0 L w) : Below w0.heap.size w0 w := by obtain ⟨_, _, _, h⟩ := h.ex; exact h
theorem Hv.start (w : World) : Hv w [] w := ⟨fun _ => False, fun _ e => e.elim, fun _ e => e.elim, Below.refl _ _⟩
theorem Hv.below (h : Hv w0 L w) (hb : Below w.heap.size w w') : Hv w0 L w' := by
  obtain ⟨O, h1, h2, h3⟩ := h.ex
  exact ⟨O, h1.stay (O2 := fun _ => False) (Stay.of_below hb) (fun _ _ => id), h2, sbel_tr h3 hb⟩
theorem Hv.act {T T' : Th} (h : Hv w0 L w) (i : Nat) (hi : L[i]? = some T) (H : Acts P F args T w Q T') : Calls P F args w fun e w' => Q e w' ∧ Hv w0 (L.set i T') w' := by
  obtain ⟨O, h1, h2, h3⟩ := h.ex
  refine (stars_at i hi H O h1).mono fun e w' ⟨k1, k2, k3⟩ => ⟨k1, _, k2, fun k hk => hk.elim (h2 k) (fun e => Nat.le_trans h3.size e.1), h3.trans (k3.below h3.size h2)⟩
theorem Hv.get {T : Th} (h : Hv w0 L w) (i : Nat) (hi : L[i]? = some T) : ∃ O, T.A O w ∧ ∀ k, O k → w0.heap.size ≤ k := by
  obtain ⟨O, h1, h2, h3⟩ := h.ex
  obtain ⟨O1, k1, k2⟩ := h1.get i hi
  exact ⟨O1, k1, fun k hk => h2 k (k2 k hk)⟩
theorem Hv.turn {T T' : Th} (h : Hv w0 L w) (i : Nat) (hi : L[i]? = some T) (H : ∀ O1, T.A O1 w → (∀ k, O1 k → w0.heap.size ≤ k) → T'.A (Grow O1 w w') w' ∧ Stay O1 w w') : Hv w0 (L.set i T') w' := by
  obtain ⟨O, h1, h2, h3⟩ := h.ex
  obtain ⟨k2, k3⟩ := h1.turn (w' := w') i hi (fun O1 a b => H O1 a (fun k hk => h2 k (b k hk)))
  exact ⟨_, k2, fun k hk => hk.elim (h2 k) (fun e => Nat.le_trans h3.size e.1), h3.trans (k3.below h3.size h2)⟩
/-- Something new. -/
theorem Hv.put {T : Th} (h : Hv w0 L w) (hb : Below w.heap.size w w') (hT : T.A (fun k => w.heap.size ≤ k ∧ k < w'.heap.size) w') : Hv w0 (T :: L) w' := by
  obtain ⟨O, h1, h2, h3⟩ := h.ex
  refine ⟨fun k => O k ∨ (w.heap.size ≤ k ∧ k < w'.heap.size), ⟨_, O, hT, h1.stay (O2 := fun _ => False) (Stay.of_below hb) (fun _ _ => id), fun k a b => ?_, fun k hk => .inr hk, fun k hk => .inl hk, fun k hk => hk.elim (fun e => Nat.lt_of_lt_of_le (h1.lt k e) hb.size) And.right⟩, fun k hk => hk.elim (h2 k) (fun e => Nat.le_trans h3.size e.1), sbel_tr h3 hb⟩
  have := h1.lt k b
  omega
theorem Hv.less {T : Th} (h : Hv w0 (T :: L) w) : Hv w0 L w := by
  obtain ⟨O, ⟨O1, O2, k1, k2, k3, k4, k5, k6⟩, h2, h3⟩ := h.ex
  exact ⟨O2, k2, fun k hk => h2 k (k5 k hk), h3⟩
theorem Hv.swap {T U : Th} (h : Hv w0 (T :: U :: L) w) : Hv w0 (U :: T :: L) w := by
  obtain ⟨O, ⟨O1, O2, k1, ⟨O3, O4, j1, j2, j3, j4, j5, j6⟩, k3, k4, k5, k6⟩, h2, h3⟩ := h.ex
  exact ⟨O, ⟨O3, fun k => O1 k ∨ O4 k, j1, ⟨O1, O4, k1, j2, fun k a b => k3 k a (j5 k b), fun k hk => .inl hk, fun k hk => .inr hk, fun k hk => k6 k (hk.elim (k4 k) (fun e => k5 k (j5 k e)))⟩, fun k a b => b.elim (fun e => k3 k e (j4 k a)) (j3 k a), fun k hk => k5 k (j4 k hk), fun k hk => hk.elim (k4 k) (fun e => k5 k (j5 k e)), k6⟩, h2, h3⟩
theorem boxA_new (w : World) (vs : List Value) (t : TypeId) : BoxA w.heap.size vs (fun k => w.heap.size ≤ k ∧ k < (w.alloc (.cells vs.toArray t)).heap.size) (w.alloc (.cells vs.toArray t)) :=
  ⟨⟨Nat.le_refl _, by simp⟩, fun j u hu => by rw [World.cell?_alloc_new w _ _ j]; simpa using hu, fun j => World.frozen?_alloc_new w _ _ j, fun k hk => hk.2⟩
/-- A box of the walk's own. -/
theorem Hv.box (h : Hv w0 L w) (vs : List Value) (t : TypeId) : Hv w0 (box w.heap.size vs :: L) (w.alloc (.cells vs.toArray t)) := h.put (sbel_al w _) (boxA_new w vs t)
theorem Hv.cell {b : Nat} {vs : List Value} (h : Hv w0 L w) (i : Nat) (hi : L[i]? = some (Sep.box b vs)) {j : Nat} {u : Value} (hj : vs[j]? = some u) : w.cell? ⟨b, j, none⟩ = some u := by
  obtain ⟨O, k1, _⟩ := h.get i hi
  exact k1.cell j u hj
theorem Hv.fr {b : Nat} {vs : List Value} (h : Hv w0 L w) (i : Nat) (hi : L[i]? = some (Sep.box b vs)) (j : Nat) : w.frozen? ⟨b, j, none⟩ = false := by
  obtain ⟨O, k1, _⟩ := h.get i hi
  exact k1.fr j
theorem boxA_set {b : Nat} {vs : List Value} {O : Nat → Prop} (h : BoxA b vs O w) (j : Nat) (u : Value) (hj : j < vs.length) : BoxA b (vs.set j u) O (w.setCell ⟨b, j, none⟩ u) := by
  refine ⟨h.own, fun i x hx => ?_, fun i => by rw [World.frozen?_setCell]; exact h.fr i, fun k hk => by have := h.lt k hk; simpa [World.setCell] using this⟩
  by_cases e : i = j
  · subst e
    rw [List.getElem?_set_self hj] at hx
    cases hx
    exact World.cell?_setCell_same _ _ _ (h.cell i _ (List.getElem?_eq_getElem hj))
  · rw [List.getElem?_set_ne (fun q => e q.symm)] at hx
    rw [World.cell?_setCell_other]
    · exact h.cell i x hx
    · intro q; exact e (Addr.mk.inj q).2.1.symm
theorem Hv.setBox {b : Nat} {vs : List Value} (h : Hv w0 L w) (i : Nat) (hi : L[i]? = some (Sep.box b vs)) (j : Nat) (u : Value) (hj : j < vs.length) : Hv w0 (L.set i (Sep.box b (vs.set j u))) (w.setCell ⟨b, j, none⟩ u) :=
  h.turn i hi (fun O1 a _ => ⟨(Sep.box b (vs.set j u)).wide (boxA_set a j u hj) (fun k hk => .inl hk) (fun k hk => hk.elim (fun e => by have := a.lt k e; simpa [World.setCell] using this) And.right), Stay.setCell w ⟨b, j, none⟩ u a.own⟩)
end
/-- One of them is taken out, and laid back as another one. -/
theorem Stars.out {T : Th} {w : World} : ∀ {L : List Th} {O : Nat → Prop} (i : Nat), L[i]? = some T → Stars L O w → ∃ O1, T.A O1 w ∧ (∀ k, O1 k → O k) ∧ ∀ (T' : Th) (w' : World), T'.A (Grow O1 w w') w' → Stay O1 w w' → Stars (L.set i T') (Grow O w w') w' ∧ Stay O w w'
  | [], _, _, h, _ => by simp at h
  | _ :: _, _, 0, h, ⟨O1, O2, h1, h2, h3, h4, h5, h6⟩ => by
    simp at h; subst h
    refine ⟨O1, h1, h4, fun T' w' k2 k3 => ⟨⟨Grow O1 w w', O2, k2, h2.stay k3 (fun k a b => h3 k b a), fun k hk hk2 => ?_, Grow.mono h4, fun k hk => .inl (h5 k hk), fun k hk => ?_⟩, k3.mono h4⟩⟩
    · rcases hk with e | e
      · exact h3 k e hk2
      · have := h6 k (h5 k hk2); omega
    · rcases hk with e | e
      · exact Nat.lt_of_lt_of_le (h6 k e) k3.size
      · exact e.2
  | T0 :: _, _, i + 1, h, ⟨O1, O2, h1, h2, h3, h4, h5, h6⟩ => by
    obtain ⟨O3, j1, j2, j3⟩ := Stars.out i (by simpa using h) h2
    refine ⟨O3, j1, fun k hk => h5 k (j2 k hk), fun T' w' a b => ?_⟩
    obtain ⟨k2, k3⟩ := j3 T' w' a b
    refine ⟨⟨O1, Grow O2 w w', T0.stay h1 k3 (fun k a b => h3 k a b), k2, fun k hk hk2 => ?_, fun k hk => .inl (h4 k hk), Grow.mono h5, fun k hk => ?_⟩, k3.mono h5⟩
    · rcases hk2 with e | e
      · exact h3 k hk e
      · have := h6 k (h4 k hk); omega
    · rcases hk with e | e
      · exact Nat.lt_of_lt_of_le (h6 k e) k3.size
      · exact e.2

/-- What a call holds that began at w with the blocks of O. -/
structure Hz (w : World) (O : Nat → Prop) (L : List Th) (w1 : World) : Prop where
  stars : Stars L (Grow O w w1) w1
  stay : Stay O w w1
section
variable {w w1 w2 : World} {O : Nat → Prop} {L : List Th} {P : Program} {F : Nat} {args : Array Value} {Q : Ending → World → Prop}
theorem grow_two {O : Nat → Prop} {w w1 w2 : World} (h1 : w.heap.size ≤ w1.heap.size) (h2 : w1.heap.size ≤ w2.heap.size) : ∀ k, Grow (Grow O w w1) w1 w2 k → Grow O w w2 k := fun k hk => by
  rcases hk with (h | h) | h
  · exact .inl h
  · exact .inr ⟨h.1, Nat.lt_of_lt_of_le h.2 h2⟩
  · exact .inr ⟨Nat.le_trans h1 h.1, h.2⟩
theorem grow_lt {O : Nat → Prop} (h : ∀ k, O k → k < w.heap.size) (hs : w.heap.size ≤ w1.heap.size) : ∀ k, Grow O w w1 k → k < w1.heap.size := fun k hk => hk.elim (fun e => Nat.lt_of_lt_of_le (h k e) hs) And.right
theorem Hz.start (h : Stars L O w) : Hz w O L w := ⟨h.wide (fun k hk => .inl hk) (grow_lt h.lt (Nat.le_refl _)), Stay.refl _ _⟩
theorem Hz.of (h : Hz w O L w1) {L' : List Th} (k : Stars L' (Grow (Grow O w w1) w1 w2) w2 ∧ Stay (Grow O w w1) w1 w2) : Hz w O L' w2 :=
  ⟨k.1.wide (grow_two h.stay.size k.2.size) (fun q hq => by
    rcases hq with hq | hq
    · exact k.1.lt q (.inl (.inl hq))
    · exact hq.2), h.stay.andThen k.2⟩
theorem Hz.act {T T' : Th} (h : Hz w O L w1) (i : Nat) (hi : L[i]? = some T) (H : Acts P F args T w1 Q T') : Calls P F args w1 fun e w' => Q e w' ∧ Hz w O (L.set i T') w' := by
  refine (stars_at i hi H _ h.stars).mono fun e w' ⟨k1, k2, k3⟩ => ⟨k1, h.of ⟨k2, k3⟩⟩
theorem Hz.below (h : Hz w O L w1) (hb : Below w1.heap.size w1 w2) : Hz w O L w2 :=
  h.of ⟨(h.stars.stay (O2 := fun _ => False) (Stay.of_below hb) (fun _ _ => id)).wide (fun k hk => .inl hk) (grow_lt h.stars.lt hb.size), Stay.of_below hb⟩
theorem Hz.get {T : Th} (h : Hz w O L w1) (i : Nat) (hi : L[i]? = some T) : ∃ O1, T.A O1 w1 := by
  obtain ⟨O1, k1, _⟩ := h.stars.get i hi
  exact ⟨O1, k1⟩
theorem Hz.out {T : Th} (h : Hz w O L w1) (i : Nat) (hi : L[i]? = some T) : ∃ O1, T.A O1 w1 ∧ (∀ k, O1 k → k < w1.heap.size) ∧ ∀ (T' : Th) (w' : World), T'.A (Grow O1 w1 w') w' → Stay O1 w1 w' → Hz w O (L.set i T') w' := by
  obtain ⟨O1, k1, k2, k3⟩ := h.stars.out i hi
  exact ⟨O1, k1, T.lt k1, fun T' w' a b => h.of (k3 T' w' a b)⟩
theorem Hz.put {T : Th} (h : Hz w O L w1) (hb : Below w1.heap.size w1 w2) (hT : T.A (fun k => w1.heap.size ≤ k ∧ k < w2.heap.size) w2) : Hz w O (T :: L) w2 := by
  refine h.of ⟨⟨_, Grow O w w1, hT, h.stars.stay (O2 := fun _ => False) (Stay.of_below hb) (fun _ _ => id), fun k a b => ?_, fun k hk => .inr hk, fun k hk => .inl hk, fun k hk => hk.elim (fun e => Nat.lt_of_lt_of_le (h.stars.lt k e) hb.size) And.right⟩, Stay.of_below hb⟩
  have := h.stars.lt k b
  omega
theorem Hz.less {T : Th} (h : Hz w O (T :: L) w1) : Hz w O L w1 := by
  obtain ⟨⟨O1, O2, k1, k2, k3, k4, k5, k6⟩, h2⟩ := h
  exact ⟨k2.wide k5 k6, h2⟩
theorem Hz.swap {T U : Th} (h : Hz w O (T :: U :: L) w1) : Hz w O (U :: T :: L) w1 := by
  obtain ⟨⟨O1, O2, k1, ⟨O3, O4, j1, j2, j3, j4, j5, j6⟩, k3, k4, k5, k6⟩, h2⟩ := h
  exact ⟨⟨O3, fun k => O1 k ∨ O4 k, j1, ⟨O1, O4, k1, j2, fun k a b => k3 k a (j5 k b), fun k hk => .inl hk, fun k hk => .inr hk, fun k hk => k6 k (hk.elim (k4 k) (fun e => k5 k (j5 k e)))⟩, fun k a b => b.elim (fun e => k3 k e (j4 k a)) (j3 k a), fun k hk => k5 k (j4 k hk), fun k hk => hk.elim (k4 k) (fun e => k5 k (j5 k e)), k6⟩, h2⟩
theorem Hz.swap2 {A T U : Th} (h : Hz w O (A :: T :: U :: L) w1) : Hz w O (A :: U :: T :: L) w1 := by
  obtain ⟨⟨O0, O9, a1, ⟨O1, O2, k1, ⟨O3, O4, j1, j2, j3, j4, j5, j6⟩, k3, k4, k5, k6⟩, a3, a4, a5, a6⟩, h2⟩ := h
  exact ⟨⟨O0, O9, a1, ⟨O3, fun k => O1 k ∨ O4 k, j1, ⟨O1, O4, k1, j2, fun k a b => k3 k a (j5 k b), fun k hk => .inl hk, fun k hk => .inr hk, fun k hk => k6 k (hk.elim (k4 k) (fun e => k5 k (j5 k e)))⟩, fun k a b => b.elim (fun e => k3 k e (j4 k a)) (j3 k a), fun k hk => k5 k (j4 k hk), fun k hk => hk.elim (k4 k) (fun e => k5 k (j5 k e)), k6⟩, a3, a4, a5, a6⟩, h2⟩
theorem Hz.box (h : Hz w O L w1) (vs : List Value) (t : TypeId) : Hz w O (Sep.box w1.heap.size vs :: L) (w1.alloc (.cells vs.toArray t)) := h.put (sbel_al w1 _) (boxA_new w1 vs t)
theorem Hz.cell {b : Nat} {vs : List Value} (h : Hz w O L w1) (i : Nat) (hi : L[i]? = some (Sep.box b vs)) {j : Nat} {u : Value} (hj : vs[j]? = some u) : w1.cell? ⟨b, j, none⟩ = some u := by
  obtain ⟨O, k1⟩ := h.get i hi
  exact k1.cell j u hj
theorem Hz.fr {b : Nat} {vs : List Value} (h : Hz w O L w1) (i : Nat) (hi : L[i]? = some (Sep.box b vs)) (j : Nat) : w1.frozen? ⟨b, j, none⟩ = false := by
  obtain ⟨O, k1⟩ := h.get i hi
  exact k1.fr j
theorem Hz.setBox {b : Nat} {vs : List Value} (h : Hz w O L w1) (i : Nat) (hi : L[i]? = some (Sep.box b vs)) (j : Nat) (u : Value) (hj : j < vs.length) : Hz w O (L.set i (Sep.box b (vs.set j u))) (w1.setCell ⟨b, j, none⟩ u) := by
  obtain ⟨O1, k1, k2, k3⟩ := h.out i hi
  exact k3 _ _ ((Sep.box b (vs.set j u)).wide (boxA_set k1 j u hj) (fun k hk => .inl hk) (fun k hk => hk.elim (fun e => by have := k1.lt k e; simpa [World.setCell] using this) And.right)) (Stay.setCell w1 ⟨b, j, none⟩ u k1.own)
/-- A thing is seen as another one. -/
theorem Hz.as {T T' : Th} (h : Hz w O L w1) (i : Nat) (hi : L[i]? = some T) (H : ∀ O1, T.A O1 w1 → T'.A O1 w1) : Hz w O (L.set i T') w1 := by
  obtain ⟨O1, k1, k2, k3⟩ := h.out i hi
  exact k3 T' w1 (T'.wide (H O1 k1) (fun k hk => .inl hk) (grow_lt k2 (Nat.le_refl _))) (Stay.refl _ _)
theorem Hz.done {T : Th} (h : Hz w O [T] w1) : T.A (Grow O w w1) w1 ∧ Stay O w w1 := by
  obtain ⟨⟨O1, O2, k1, k2, k3, k4, k5, k6⟩, h2⟩ := h
  exact ⟨T.wide k1 k4 k6, h2⟩
theorem Hz.done_all (h : Hz w O L w1) : (all L).A (Grow O w w1) w1 ∧ Stay O w w1 := ⟨h.stars, h.stay⟩
end
/-! ### several things as one -/
theorem Stars.unfold {M : List Th} {w : World} : ∀ {L : List Th} {O : Nat → Prop}, Stars (all L :: M) O w → Stars (L ++ M) O w
  | [], O, ⟨O1, O2, h1, h2, h3, h4, h5, h6⟩ => h2.wide h5 h6
  | T :: L, O, ⟨O1, O2, ⟨O3, O4, k1, k2, k3, k4, k5, k6⟩, h2, h3, h4, h5, h6⟩ =>
    ⟨O3, fun k => O4 k ∨ O2 k, k1, Stars.unfold (L := L) ⟨O4, O2, k2, h2, fun k a b => h3 k (k5 k a) b, fun k hk => .inl hk, fun k hk => .inr hk, fun k hk => h6 k (hk.elim (fun e => h4 k (k5 k e)) (h5 k))⟩,
      fun k a b => b.elim (k3 k a) (fun e => h3 k (k4 k a) e), fun k hk => h4 k (k4 k hk), fun k hk => hk.elim (fun e => h4 k (k5 k e)) (h5 k), h6⟩
theorem Stars.fold {M : List Th} {w : World} : ∀ {L : List Th} {O : Nat → Prop}, Stars (L ++ M) O w → Stars (all L :: M) O w
  | [], O, h => ⟨fun _ => False, O, fun _ e => e.elim, h, fun _ e => e.elim, fun _ e => e.elim, fun _ e => e, Stars.lt h⟩
  | T :: L, O, ⟨O1, O2, h1, h2, h3, h4, h5, h6⟩ => by
    obtain ⟨O3, O4, k1, k2, k3, k4, k5, k6⟩ := Stars.fold (L := L) h2
    refine ⟨fun k => O1 k ∨ O3 k, O4, ⟨O1, O3, h1, k1, fun k a b => h3 k a (k4 k b), fun k hk => .inl hk, fun k hk => .inr hk, fun k hk => h6 k (hk.elim (h4 k) (fun e => h5 k (k4 k e)))⟩, k2, fun k a b => a.elim (fun e => h3 k e (k5 k b)) (fun e => k3 k e b), fun k hk => hk.elim (h4 k) (fun e => h5 k (k4 k e)), fun k hk => h5 k (k5 k hk), h6⟩
theorem Stars.erase {w : World} : ∀ {L : List Th} {O : Nat → Prop} (i : Nat), Stars L O w → Stars (L.eraseIdx i) O w
  | [], _, _, h => h
  | _ :: _, _, 0, ⟨O1, O2, h1, h2, h3, h4, h5, h6⟩ => h2.wide h5 h6
  | _ :: _, _, i + 1, ⟨O1, O2, h1, h2, h3, h4, h5, h6⟩ => ⟨O1, O2, h1, h2.erase i, h3, h4, h5, h6⟩
section
variable {w w1 : World} {O : Nat → Prop} {L M : List Th}
theorem Hz.fold (h : Hz w O (L ++ M) w1) : Hz w O (all L :: M) w1 := ⟨h.stars.fold, h.stay⟩
theorem Hz.unfold (h : Hz w O (all L :: M) w1) : Hz w O (L ++ M) w1 := ⟨h.stars.unfold, h.stay⟩
theorem Hz.erase (h : Hz w O L w1) (i : Nat) : Hz w O (L.eraseIdx i) w1 := ⟨h.stars.erase i, h.stay⟩
/-- Behind all, the first one; the rest is left. -/
theorem Hz.done1 {T : Th} (h : Hz w O (T :: L) w1) : T.A (Grow O w w1) w1 ∧ Stay O w w1 := by
  obtain ⟨⟨O1, O2, k1, k2, k3, k4, k5, k6⟩, h2⟩ := h
  exact ⟨T.wide k1 k4 k6, h2⟩
theorem Hz.mk' {ι : Sort _} {f : ι → Th} {x : ι} (h : Hz w O (f x :: M) w1) : Hz w O (some' f :: M) w1 := by
  obtain ⟨⟨O1, O2, k1, k2, k3⟩, h2⟩ := h
  exact ⟨⟨O1, O2, ⟨x, k1⟩, k2, k3⟩, h2⟩
theorem Hz.ex' {ι : Sort _} {f : ι → Th} (h : Hz w O (some' f :: M) w1) : ∃ x, Hz w O (f x :: M) w1 := by
  obtain ⟨⟨O1, O2, ⟨x, k1⟩, k2, k3⟩, h2⟩ := h
  exact ⟨x, ⟨⟨O1, O2, k1, k2, k3⟩, h2⟩⟩
end
section
variable {w0 w1 : World} {L M : List Th}
theorem Hv.fold (h : Hv w0 (L ++ M) w1) : Hv w0 (all L :: M) w1 := by obtain ⟨O, h1, h2⟩ := h.ex; exact ⟨O, h1.fold, h2⟩
theorem Hv.unfold (h : Hv w0 (all L :: M) w1) : Hv w0 (L ++ M) w1 := by obtain ⟨O, h1, h2⟩ := h.ex; exact ⟨O, h1.unfold, h2⟩
theorem Hv.erase (h : Hv w0 L w1) (i : Nat) : Hv w0 (L.eraseIdx i) w1 := by obtain ⟨O, h1, h2⟩ := h.ex; exact ⟨O, h1.erase i, h2⟩
end
end Go.Proofs.YtfmhmokbbkliaaaGreat.Sep
