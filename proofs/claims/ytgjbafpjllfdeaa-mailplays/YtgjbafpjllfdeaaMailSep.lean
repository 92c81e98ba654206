/- Two things in memory that have nothing in common, and blocks that stay. -/
import Derived.Test.YtgjbafpjllfdeaaMailF7
namespace Go.Proofs.Ytgjbafpjllfdeaa
open Go.RowKit

abbrev Thing := (Nat → Prop) → World → Prop
def St (A : Thing) : Prop := ∀ (O O2 : Nat → Prop) (w w' : World), A O w → Stay O2 w w' → (∀ k, O k → ¬ O2 k) → A O w'

structure Sep (w0 : World) (L : List (Nat × Option Obj)) (w : World) (A1 A2 : Thing) : Prop where
  out : ∃ O1 O2, A1 O1 w ∧ A2 O2 w ∧ (∀ k, O1 k → ¬ O2 k) ∧ (∀ k, O1 k → w0.heap.size ≤ k ∧ k < w.heap.size) ∧ (∀ k, O2 k → w0.heap.size ≤ k ∧ k < w.heap.size) ∧ Below w0.heap.size w0 w ∧ (∀ q ∈ L, ¬ O1 q.1 ∧ ¬ O2 q.1 ∧ q.1 < w.heap.size ∧ w.heap[q.1]? = q.2)

def Non : Thing := fun _ _ => True
theorem stNon : St Non := fun _ _ _ _ _ _ _ => trivial
theorem stM (p : Nat) (xs : ML) : St (fun O w => MAt O w p xs) := fun _ _ _ _ h hs hd => h.stay hs hd

section
variable {w0 w : World} {L : List (Nat × Option Obj)} {A1 A2 : Thing}

theorem Sep.bel (h : Sep w0 L w A1 A2) : Below w0.heap.size w0 w := by
  obtain ⟨_, _, _, _, _, _, _, h, _⟩ := h.out
  exact h
theorem Sep.swap (h : Sep w0 L w A1 A2) : Sep w0 L w A2 A1 := by
  obtain ⟨O1, O2, h1, h2, h3, h4, h5, h6, h7⟩ := h.out
  exact ⟨O2, O1, h2, h1, fun k a b => h3 k b a, h5, h4, h6, fun q hq => by obtain ⟨a, b, c⟩ := h7 q hq; exact ⟨b, a, c⟩⟩
theorem Sep.below {w' : World} (h : Sep w0 L w A1 A2) (s1 : St A1) (s2 : St A2) (hb : Below w.heap.size w w') : Sep w0 L w' A1 A2 := by
  obtain ⟨O1, O2, h1, h2, h3, h4, h5, h6, h7⟩ := h.out
  have hs : Stay (fun _ => False) w w' := Stay.of_below hb
  exact ⟨O1, O2, s1 _ _ _ _ h1 hs (fun _ _ e => e), s2 _ _ _ _ h2 hs (fun _ _ e => e), h3, fun k hk => ⟨(h4 k hk).1, Nat.lt_of_lt_of_le (h4 k hk).2 hb.size⟩, fun k hk => ⟨(h5 k hk).1, Nat.lt_of_lt_of_le (h5 k hk).2 hb.size⟩, bel_tr h6 hb,
    fun q hq => by obtain ⟨a, b, c, d⟩ := h7 q hq; exact ⟨a, b, Nat.lt_of_lt_of_le c hb.size, (hb.block q.1 c).trans d⟩⟩
/-- A block of the walk's own, kept. -/
theorem Sep.box (h : Sep w0 L w A1 A2) (s1 : St A1) (s2 : St A2) (o : Obj) : Sep w0 ((w.heap.size, (w.alloc o).heap[w.heap.size]?) :: L) (w.alloc o) A1 A2 := by
  have h' := h.below s1 s2 ((Below.refl _ w).alloc (Nat.le_refl _) o)
  obtain ⟨O1, O2, h1, h2, h3, h4, h5, h6, h7⟩ := h.out
  have hb : Below w.heap.size w (w.alloc o) := (Below.refl _ w).alloc (Nat.le_refl _) o
  have hs : Stay (fun _ => False) w (w.alloc o) := Stay.of_below hb
  refine ⟨O1, O2, s1 _ _ _ _ h1 hs (fun _ _ e => e), s2 _ _ _ _ h2 hs (fun _ _ e => e), h3, fun k hk => ⟨(h4 k hk).1, Nat.lt_of_lt_of_le (h4 k hk).2 hb.size⟩, fun k hk => ⟨(h5 k hk).1, Nat.lt_of_lt_of_le (h5 k hk).2 hb.size⟩, bel_tr h6 hb, fun q hq => ?_⟩
  rcases List.mem_cons.1 hq with rfl | hq
  · exact ⟨fun e => by have := (h4 _ e).2; simp at this, fun e => by have := (h5 _ e).2; simp at this, by simp, rfl⟩
  · obtain ⟨a, b, c, d⟩ := h7 q hq; exact ⟨a, b, Nat.lt_of_lt_of_le c hb.size, (hb.block q.1 c).trans d⟩
theorem Sep.cell (h : Sep w0 L w A1 A2) {wa : World} {b j : Nat} {v : Value} {B : Option Obj} (hq : (b, B) ∈ L) (hB : B = wa.heap[b]?) (hc : wa.cell? ⟨b, j, none⟩ = some v) : w.cell? ⟨b, j, none⟩ = some v := by
  obtain ⟨O1, O2, _, _, _, _, _, _, h7⟩ := h.out
  obtain ⟨_, _, _, d⟩ := h7 _ hq
  exact (World.cell?_of_block (a := ⟨b, j, none⟩) (d.trans hB)).trans hc
theorem Sep.froz (h : Sep w0 L w A1 A2) {wa : World} {b j : Nat} {B : Option Obj} (hq : (b, B) ∈ L) (hB : B = wa.heap[b]?) (hc : wa.frozen? ⟨b, j, none⟩ = false) : w.frozen? ⟨b, j, none⟩ = false := by
  obtain ⟨O1, O2, _, _, _, _, _, _, h7⟩ := h.out
  obtain ⟨_, _, _, d⟩ := h7 _ hq
  exact (World.frozen?_of_block (a := ⟨b, j, none⟩) (d.trans hB)).trans hc
theorem Sep.less (h : Sep w0 L w A1 A2) {L2 : List (Nat × Option Obj)} (hL : ∀ q ∈ L2, q ∈ L) : Sep w0 L2 w A1 A2 := by
  obtain ⟨O1, O2, h1, h2, h3, h4, h5, h6, h7⟩ := h.out
  exact ⟨O1, O2, h1, h2, h3, h4, h5, h6, fun q hq => h7 q (hL q hq)⟩

/-- What the first one does. -/
theorem Sep.did {w' : World} {A1' : Thing} {O1 O2 : Nat → Prop} (s2 : St A2) (h2 : A2 O2 w) (h3 : ∀ k, O1 k → ¬ O2 k) (h4 : ∀ k, O1 k → w0.heap.size ≤ k ∧ k < w.heap.size) (h5 : ∀ k, O2 k → w0.heap.size ≤ k ∧ k < w.heap.size) (h6 : Below w0.heap.size w0 w) (h7 : ∀ q ∈ L, ¬ O1 q.1 ∧ ¬ O2 q.1 ∧ q.1 < w.heap.size ∧ w.heap[q.1]? = q.2)
    (e2 : A1' (Grow O1 w w') w') (e3 : Stay O1 w w') : Sep w0 L w' A1' A2 := by
  refine ⟨Grow O1 w w', O2, e2, s2 _ _ _ _ h2 e3 (fun k a b => h3 k b a), fun k hk e => ?_, fun k hk => ?_, fun k hk => ⟨(h5 k hk).1, Nat.lt_of_lt_of_le (h5 k hk).2 e3.size⟩, h6.trans (e3.below h6.size (fun k hk => (h4 k hk).1)), fun q hq => ?_⟩
  · rcases hk with hk | hk
    · exact h3 k hk e
    · have := (h5 k e).2; omega
  · rcases hk with hk | hk
    · exact ⟨(h4 k hk).1, Nat.lt_of_lt_of_le (h4 k hk).2 e3.size⟩
    · exact ⟨Nat.le_trans h6.size hk.1, hk.2⟩
  · obtain ⟨a, b, c, d⟩ := h7 q hq
    exact ⟨fun e => e.elim a (fun e => by omega), b, Nat.lt_of_lt_of_le c e3.size, (e3.block q.1 c a).trans d⟩

theorem Sep.act {P : Program} {f : Nat} {args : Array Value} {R : Ending} {A1' : Thing} (h : Sep w0 L w A1 A2) (s2 : St A2) (H : ∀ O, A1 O w → Calls P f args w fun e w' => e = R ∧ A1' (Grow O w w') w' ∧ Stay O w w') : Calls P f args w fun e w' => e = R ∧ Sep w0 L w' A1' A2 := by
  obtain ⟨O1, O2, h1, h2, h3, h4, h5, h6, h7⟩ := h.out
  exact (H O1 h1).mono fun e w' ⟨e1, e2, e3⟩ => ⟨e1, Sep.did s2 h2 h3 h4 h5 h6 h7 e2 e3⟩

variable {p : Nat} {xs ys : ML}

theorem s_new (hb : Below w0.heap.size w0 w) : Calls Try.prog 8 #[] w fun e w' => ∃ p, e = .returned (.pointer (some ⟨p, 0, none⟩)) ∧ Sep w0 [] w' (fun O w => MAt O w p []) Non :=
  (new_val w).mono fun e w' ⟨e1, e2, e3⟩ => ⟨_, e1, _, fun _ => False, ⟨_, _, _, e2⟩, trivial, fun _ _ e => e, fun k hk => ⟨by rw [hk]; exact hb.size, by rw [hk]; exact e2.lt _ rfl⟩, fun _ e => e.elim, bel_tr hb e3, fun q hq => by cases hq⟩
theorem s_new2 (h : Sep w0 L w A1 Non) (s1 : St A1) : Calls Try.prog 8 #[] w fun e w' => ∃ p, e = .returned (.pointer (some ⟨p, 0, none⟩)) ∧ Sep w0 L w' A1 (fun O w => MAt O w p []) := by
  obtain ⟨O1, O2, h1, h2, h3, h4, h5, h6, h7⟩ := h.out
  refine (new_val w).mono fun e w' ⟨e1, e2, e3⟩ => ⟨_, e1, O1, _, s1 _ (fun _ => False) _ _ h1 (Stay.of_below e3) (fun _ _ e => e), ⟨_, _, _, e2⟩, fun k hk e => ?_, fun k hk => ⟨(h4 k hk).1, Nat.lt_of_lt_of_le (h4 k hk).2 e3.size⟩, fun k hk => ⟨by rw [hk]; exact h6.size, by rw [hk]; exact e2.lt _ rfl⟩, bel_tr h6 e3, fun q hq => ?_⟩
  · have := (h4 k hk).2; omega
  · obtain ⟨a, b, c, d⟩ := h7 q hq
    exact ⟨a, fun e => by omega, Nat.lt_of_lt_of_le c e3.size, (e3.block q.1 c).trans d⟩

theorem s_send (h : Sep w0 L w (fun O w => MAt O w p xs) A2) (s2 : St A2) (t : Int) (d : ByteArray) (hle : xs.length ≤ 1000) (hd : d.size ≤ maxLen) (q : Int) (hq : sendE xs ⟨t, d⟩ = q) (hy : sendL xs ⟨t, d⟩ = ys) :
    Calls Try.prog 10 #[.pointer (some ⟨p, 0, none⟩), .agg #[.int .i64 t, .string d]] w fun e w' => e = .returned (.int .i64 q) ∧ Sep w0 L w' (fun O w => MAt O w p ys) A2 :=
  h.act s2 (fun _ h1 => send_val h1 ⟨t, d⟩ hle hd q hq hy)
theorem s_take (h : Sep w0 L w (fun O w => MAt O w p xs) A2) (s2 : St A2) (i : Int) (hle : xs.length ≤ 1000) (o : Option Msg) (ho : atM xs i = o) (hy : takeL xs i = ys) :
    Calls Try.prog 12 #[.pointer (some ⟨p, 0, none⟩), .int .i64 i] w fun e w' => e = .returned (.tuple #[.agg #[.int .i64 (o.getD zeroM).t, .string (o.getD zeroM).d], .bool o.isSome]) ∧ Sep w0 L w' (fun O w => MAt O w p ys) A2 :=
  h.act s2 (fun _ h1 => take_val h1 i hle o ho hy)
theorem s_twin (h : Sep w0 L w (fun O w => MAt O w p xs) A2) (s2 : St A2) (i : Int) (hle : xs.length ≤ 1000) (q : Int) (hq : twinE xs i = q) (hy : twinL xs i = ys) :
    Calls Try.prog 14 #[.pointer (some ⟨p, 0, none⟩), .int .i64 i] w fun e w' => e = .returned (.int .i64 q) ∧ Sep w0 L w' (fun O w => MAt O w p ys) A2 :=
  h.act s2 (fun _ h1 => twin_val h1 i hle q hq hy)
theorem s_age (h : Sep w0 L w (fun O w => MAt O w p xs) A2) (s2 : St A2) (t : Int) (hle : xs.length ≤ 1000) (hag : ∀ x ∈ xs, x.2 ≤ 1000000) (q : Int) (hq : (xs.length : Int) - ((keptL t xs).length : Int) = q) (hy : ageL t xs = ys) :
    Calls Try.prog 16 #[.pointer (some ⟨p, 0, none⟩), .int .i64 t] w fun e w' => e = .returned (.int .i64 q) ∧ Sep w0 L w' (fun O w => MAt O w p ys) A2 :=
  h.act s2 (fun _ h1 => age_val h1 hle hag t q hq hy)
theorem s_len (h : Sep w0 L w (fun O w => MAt O w p xs) A2) (n : Nat) (hn : xs.length = n) :
    Calls Try.prog 20 #[.pointer (some ⟨p, 0, none⟩)] w fun e w' => e = .returned (.int .i64 (n : Int)) ∧ w' = w := by
  obtain ⟨O1, O2, h1, _⟩ := h.out
  obtain ⟨a, c, g, h1⟩ := h1.ex
  exact mailLen_val p a n c w (by rw [← hn]; exact h1.c0)
/-- What comes is the caller's: it lies in new memory. -/
theorem s_all (h : Sep w0 L w (fun O w => MAt O w p xs) A2) (n : Nat) (hn : xs.length = n) (hle : n ≤ 1000) :
    Calls Try.prog 18 #[.pointer (some ⟨p, 0, none⟩)] w fun e w' => ∃ oa oc og, e = .returned (.slice oa n oc) ∧ Cel (fun k => w.heap.size ≤ k) w' 2 (.slice oa n oc) n (rowC msgC (xs.map (·.1))) og ∧ Below w.heap.size w w' := by
  obtain ⟨O1, O2, h1, _⟩ := h.out
  exact all_val h1 n hn hle

end
end Go.Proofs.Ytgjbafpjllfdeaa
