/- A cache and another thing in memory that have nothing in common, and blocks that stay. -/
import Derived.Test.YthogpaojdlfjcaaRetryA
namespace Go.Proofs.Ythogpaojdlfjcaa.Rty
open Go.RowKit Go.Proofs.Ythogpaojdlfjcaa Go.Proofs.Ythogpaojdlfjcaa.Edi
set_option linter.unusedVariables false

abbrev Thing := (Nat → Prop) → World → Prop
def St (B : Thing) : Prop := ∀ (O O2 : Nat → Prop) (w w' : World), B O w → Stay O2 w w' → (∀ k, O k → ¬ O2 k) → B O w'
def Non : Thing := fun _ _ => True
theorem stNon : St Non := fun _ _ _ _ _ _ _ => trivial
/-- A cache, into which at most n calls have been put. -/
def Cac (cb : Nat) (A : CL) (n : Nat) : Thing := fun O w => ∃ t, t ≤ n ∧ CA O w cb A t
theorem stCac (cb : Nat) (A : CL) (n : Nat) : St (Cac cb A n) := fun _ _ _ _ ⟨t, h1, h2⟩ hs hd => ⟨t, h1, h2.stay hs hd⟩

structure Sep (w0 : World) (L : List (Nat × List Value)) (w : World) (A1 A2 : Thing) : Prop where
  out : ∃ O1 O2, A1 O1 w ∧ A2 O2 w ∧ (∀ k, O1 k → ¬ O2 k) ∧ (∀ k, O1 k → w0.heap.size ≤ k ∧ k < w.heap.size) ∧ (∀ k, O2 k → w0.heap.size ≤ k ∧ k < w.heap.size) ∧ Below w0.heap.size w0 w ∧ (∀ q ∈ L, ¬ O1 q.1 ∧ ¬ O2 q.1 ∧ w0.heap.size ≤ q.1 ∧ Cells w q.1 q.2)

section
variable {w0 w : World} {L : List (Nat × List Value)} {A1 A2 : Thing}

theorem Sep.bel (h : Sep w0 L w A1 A2) : Below w0.heap.size w0 w := by
  obtain ⟨_, _, _, _, _, _, _, h, _⟩ := h.out
  exact h
theorem Sep.swap (h : Sep w0 L w A1 A2) : Sep w0 L w A2 A1 := by
  obtain ⟨O1, O2, h1, h2, h3, h4, h5, h6, h7⟩ := h.out
  exact ⟨O2, O1, h2, h1, fun k a b => h3 k b a, h5, h4, h6, fun q hq => by obtain ⟨a, b, c⟩ := h7 q hq; exact ⟨b, a, c⟩⟩
theorem Sep.below {w' : World} (h : Sep w0 L w A1 A2) (s1 : St A1) (s2 : St A2) (hb : Below w.heap.size w w') : Sep w0 L w' A1 A2 := by
  obtain ⟨O1, O2, h1, h2, h3, h4, h5, h6, h7⟩ := h.out
  have hs : Stay (fun _ => False) w w' := Stay.of_below hb
  exact ⟨O1, O2, s1 _ _ _ _ h1 hs (fun _ _ e => e), s2 _ _ _ _ h2 hs (fun _ _ e => e), h3, fun k hk => ⟨(h4 k hk).1, Nat.lt_of_lt_of_le (h4 k hk).2 hb.size⟩, fun k hk => ⟨(h5 k hk).1, Nat.lt_of_lt_of_le (h5 k hk).2 hb.size⟩, bel_tr h6 hb,
    fun q hq => by obtain ⟨a, b, c, d⟩ := h7 q hq; exact ⟨a, b, c, d.below hb⟩⟩
/-- A block of the walk's own, kept. -/
theorem Sep.box (h : Sep w0 L w A1 A2) (s1 : St A1) (s2 : St A2) (vs : List Value) (T : TypeId) : Sep w0 ((w.heap.size, vs) :: L) (w.alloc (.cells vs.toArray T)) A1 A2 := by
  obtain ⟨O1, O2, h1, h2, h3, h4, h5, h6, h7⟩ := h.out
  have hb : Below w.heap.size w (w.alloc (.cells vs.toArray T)) := bel_al _ _
  have hs : Stay (fun _ => False) w (w.alloc (.cells vs.toArray T)) := Stay.of_below hb
  refine ⟨O1, O2, s1 _ _ _ _ h1 hs (fun _ _ e => e), s2 _ _ _ _ h2 hs (fun _ _ e => e), h3, fun k hk => ⟨(h4 k hk).1, Nat.lt_of_lt_of_le (h4 k hk).2 hb.size⟩, fun k hk => ⟨(h5 k hk).1, Nat.lt_of_lt_of_le (h5 k hk).2 hb.size⟩, bel_tr h6 hb, fun q hq => ?_⟩
  rcases List.mem_cons.1 hq with rfl | hq
  · exact ⟨fun e => by have := (h4 _ e).2; simp at this, fun e => by have := (h5 _ e).2; simp at this, h6.size, Cells.new w T vs⟩
  · obtain ⟨a, b, c, d⟩ := h7 q hq; exact ⟨a, b, c, d.below hb⟩
theorem Sep.cells (h : Sep w0 L w A1 A2) {b : Nat} {vs : List Value} (hq : (b, vs) ∈ L) : Cells w b vs := by
  obtain ⟨O1, O2, _, _, _, _, _, _, h7⟩ := h.out
  exact (h7 _ hq).2.2.2
theorem Sep.less (h : Sep w0 L w A1 A2) {L2 : List (Nat × List Value)} (hL : ∀ q ∈ L2, q ∈ L) : Sep w0 L2 w A1 A2 := by
  obtain ⟨O1, O2, h1, h2, h3, h4, h5, h6, h7⟩ := h.out
  exact ⟨O1, O2, h1, h2, h3, h4, h5, h6, fun q hq => h7 q (hL q hq)⟩
/-- A block that is no thing's is written. -/
theorem Sep.wrote (h : Sep w0 L w A1 A2) (s1 : St A1) (s2 : St A2) {w' : World} {O : Nat → Prop} (hs : Stay O w w') (hO : ∀ k, O k → w0.heap.size ≤ k) (h1 : ∀ O1 O2, A1 O1 w → A2 O2 w → (∀ k, O1 k → k < w.heap.size) → (∀ k, O2 k → k < w.heap.size) → ∀ k, O k → ¬ O1 k ∧ ¬ O2 k) (hL : ∀ q ∈ L, ¬ O q.1) : Sep w0 L w' A1 A2 := by
  obtain ⟨O1, O2, k1, k2, k3, k4, k5, k6, k7⟩ := h.out
  have hd := h1 O1 O2 k1 k2 (fun k hk => (k4 k hk).2) (fun k hk => (k5 k hk).2)
  exact ⟨O1, O2, s1 _ _ _ _ k1 hs (fun k a b => (hd k b).1 a), s2 _ _ _ _ k2 hs (fun k a b => (hd k b).2 a), k3, fun k hk => ⟨(k4 k hk).1, Nat.lt_of_lt_of_le (k4 k hk).2 hs.size⟩, fun k hk => ⟨(k5 k hk).1, Nat.lt_of_lt_of_le (k5 k hk).2 hs.size⟩, k6.trans (hs.below k6.size hO), fun q hq => by obtain ⟨a, b, c, d⟩ := k7 q hq; exact ⟨a, b, c, d.stay hs (hL q hq)⟩⟩

/-- What the first one does. -/
theorem Sep.did {w' : World} {A1' : Thing} {O1 O2 : Nat → Prop} (s2 : St A2) (h2 : A2 O2 w) (h3 : ∀ k, O1 k → ¬ O2 k) (h4 : ∀ k, O1 k → w0.heap.size ≤ k ∧ k < w.heap.size) (h5 : ∀ k, O2 k → w0.heap.size ≤ k ∧ k < w.heap.size) (h6 : Below w0.heap.size w0 w) (h7 : ∀ q ∈ L, ¬ O1 q.1 ∧ ¬ O2 q.1 ∧ w0.heap.size ≤ q.1 ∧ Cells w q.1 q.2)
    (e2 : A1' (Grow O1 w w') w') (e3 : Stay O1 w w') : Sep w0 L w' A1' A2 := by
  refine ⟨Grow O1 w w', O2, e2, s2 _ _ _ _ h2 e3 (fun k a b => h3 k b a), fun k hk e => ?_, fun k hk => ?_, fun k hk => ⟨(h5 k hk).1, Nat.lt_of_lt_of_le (h5 k hk).2 e3.size⟩, h6.trans (e3.below h6.size (fun k hk => (h4 k hk).1)), fun q hq => ?_⟩
  · rcases hk with hk | hk
    · exact h3 k hk e
    · have := (h5 k e).2; omega
  · rcases hk with hk | hk
    · exact ⟨(h4 k hk).1, Nat.lt_of_lt_of_le (h4 k hk).2 e3.size⟩
    · exact ⟨Nat.le_trans h6.size hk.1, hk.2⟩
  · obtain ⟨a, b, c, d⟩ := h7 q hq
    have := d.lt
    exact ⟨fun e => e.elim a (fun e => by omega), b, c, d.stay e3 a⟩
theorem Sep.act {P : Program} {f : Nat} {args : Array Value} {R : Ending} {A1' : Thing} (h : Sep w0 L w A1 A2) (s2 : St A2) (H : ∀ O, A1 O w → (∀ k, O k → w0.heap.size ≤ k) → Calls P f args w fun e w' => e = R ∧ A1' (Grow O w w') w' ∧ Stay O w w') : Calls P f args w fun e w' => e = R ∧ Sep w0 L w' A1' A2 := by
  obtain ⟨O1, O2, h1, h2, h3, h4, h5, h6, h7⟩ := h.out
  exact (H O1 h1 (fun k hk => (h4 k hk).1)).mono fun e w' ⟨e1, e2, e3⟩ => ⟨e1, Sep.did s2 h2 h3 h4 h5 h6 h7 e2 e3⟩

variable {cb n : Nat} {A A' : CL}

theorem s_new (hb : Below w0.heap.size w0 w) : Calls Try.prog 5 #[] w fun e w' => e = .returned (.pointer (some ⟨w.heap.size + 1, 0, none⟩)) ∧ Sep w0 [] w' (Cac (w.heap.size + 1) [] 0) Non :=
  (new_abs w).mono fun e w' ⟨e1, e2, e3⟩ => ⟨e1, _, fun _ => False, ⟨0, Nat.le_refl _, e2⟩, trivial, fun _ _ e => e, fun k hk => ⟨by have := hb.size; omega, e2.lt k hk⟩, fun _ e => e.elim, bel_tr hb e3, fun q hq => by cases hq⟩
theorem s_put (h : Sep w0 L w (Cac cb A n) A2) (s2 : St A2) (hn : n ≤ 1000) {e : Ed} {a : Option Addr} {m q : Nat} (hnm : Nm w a m e.ls) {x : Ans} {s : Sls} (hx : AnIn (fun k => k < w0.heap.size) w x s) {c k : Int} {er : Int} (hp : PutE A c k e x er A') :
    Calls Try.prog 7 #[.pointer (some ⟨cb, 0, none⟩), .int .i64 c, .int .i64 k, edV e a m q, anV x s] w fun y w' => y = .returned (.int .i64 er) ∧ Sep w0 L w' (Cac cb A' (n + 1)) A2 :=
  h.act s2 (fun O ⟨t, h1, h2⟩ hO => (put_abs h2 (by omega) hnm hx (fun k hk e => by have := hO cb h2.oC; omega) hp).mono fun y w' ⟨k1, ⟨t', k2, k3⟩, k4⟩ => ⟨k1, ⟨t', by omega, k3⟩, k4⟩)
theorem s_get (h : Sep w0 L w (Cac cb A n) A2) (s2 : St A2) {e : Ed} {a : Option Addr} {m q : Nat} (hnm : Nm w a m e.ls) {c k : Int} (hc : In64 c) (hk : In64 k) (o : Option Ans) (err : Int) (ho : getA A c k e = (o, err)) :
    Calls Try.prog 9 #[.pointer (some ⟨cb, 0, none⟩), .int .i64 c, .int .i64 k, edV e a m q] w fun e w' => GetR w.heap.size o err e w' ∧ Sep w0 L w' (Cac cb A n) A2 := by
  obtain ⟨O1, O2, ⟨t, h1, h2⟩, _⟩ := h.out
  exact (get_abs h2 hnm hc hk o err ho).mono fun e w' ⟨k1, k2⟩ => ⟨k1, h.below (stCac cb A n) s2 k2⟩
theorem s_forget (h : Sep w0 L w (Cac cb A n) A2) (s2 : St A2) (cl bl : Int) :
    Calls Try.prog 12 #[.pointer (some ⟨cb, 0, none⟩), .int .i64 cl, .int .i64 bl] w fun e w' => e = .returned (.tuple #[]) ∧ Sep w0 L w' (Cac cb (forA A cl bl) n) A2 :=
  h.act s2 (fun O ⟨t, h1, h2⟩ hO => (forget_abs h2 cl bl).mono fun y w' ⟨k1, k2, k3⟩ => ⟨k1, ⟨t, h1, k2.grow⟩, k3⟩)
theorem s_len (h : Sep w0 L w (Cac cb A n) A2) (k : Nat) (hk : A.length = k) :
    Calls Try.prog 14 #[.pointer (some ⟨cb, 0, none⟩)] w fun e w' => e = .returned (.int .i64 (k : Int)) ∧ w' = w := by
  obtain ⟨O1, O2, ⟨t, h1, h2⟩, _⟩ := h.out
  exact len_abs h2 k hk
theorem Sep.apart (h : Sep w0 L w (Cac cb A n) A2) : A.Pairwise (fun a b => ¬ (a.1.c = b.1.c ∧ a.1.l = b.1.l)) ∧ A.length ≤ 20 ∧ ∀ p ∈ A, Rt p.1 := by
  obtain ⟨O1, O2, ⟨t, h1, h2⟩, _⟩ := h.out
  exact ⟨h2.apart, h2.le, h2.rt⟩
end

end Go.Proofs.Ythogpaojdlfjcaa.Rty
