/- Mail in memory: its messages lie in a row, each with its age; what the chapter makes of each call. No program in it. -/
import Derived.Test.YtgjbafpjllfdeaaRowC
namespace Go.Proofs.Ytgjbafpjllfdeaa
open Go.RowKit

structure Msg where
  t : Int
  d : ByteArray
instance : Inhabited Msg := ⟨⟨0, ⟨#[]⟩⟩⟩
/-- A message and how many calls of Age it has outlasted. -/
abbrev Ag := Msg × Nat
abbrev ML := List Ag

def msgC (m : Msg) : List Value := [.int .i64 m.t, .string m.d]
def agC (x : Ag) : List Value := [.int .i64 x.1.t, .string x.1.d, .int .i64 (x.2 : Int)]
def numC (n : Nat) : List Value := [.int .i64 (n : Int)]
def msgV (m : Msg) : Value := .agg #[.int .i64 m.t, .string m.d]
def agV (x : Ag) : Value := .agg #[.int .i64 x.1.t, .string x.1.d, .int .i64 (x.2 : Int)]

theorem wideM : Wide msgC 2 := ⟨fun _ => rfl, fun x u hu => by simp [msgC] at hu; rcases hu with rfl | rfl <;> rfl⟩
theorem wideA : Wide agC 3 := ⟨fun _ => rfl, fun x u hu => by simp [agC] at hu; rcases hu with rfl | rfl | rfl <;> rfl⟩
theorem wideN : Wide numC 1 := ⟨fun _ => rfl, fun x u hu => by simp [numC] at hu; subst hu; rfl⟩

/-! ### what each call makes -/
def sendE (xs : ML) (m : Msg) : Int := if 50 ≤ xs.length ∨ 4000 < m.d.size then 4 else 0
def sendL (xs : ML) (m : Msg) : ML := if 50 ≤ xs.length ∨ 4000 < m.d.size then xs else xs ++ [(m, 0)]
def atM (xs : ML) (i : Int) : Option Msg := if 0 ≤ i then (xs[i.toNat]?).map (·.1) else none
def takeL (xs : ML) (i : Int) : ML := if 0 ≤ i then xs.eraseIdx i.toNat else xs
def twinE (xs : ML) (i : Int) : Int := match atM xs i with
  | none => 5
  | some _ => if 50 ≤ xs.length then 4 else 0
def twinL (xs : ML) (i : Int) : ML := match atM xs i with
  | none => xs
  | some m => if 50 ≤ xs.length then xs else xs ++ [(m, 0)]
def old (t : Int) (x : Ag) : Bool := decide (t ≤ (x.2 : Int))
def keptL (t : Int) (xs : ML) : ML := xs.filter (fun x => !old t x)
def ageL (t : Int) (xs : ML) : ML := (keptL t xs).map (fun x => (x.1, x.2 + 1))
def zeroM : Msg := ⟨0, ⟨#[]⟩⟩

theorem keptL_len (t : Int) (xs : ML) : (keptL t xs).length ≤ xs.length := List.length_filter_le _ _
theorem ageL_len (t : Int) (xs : ML) : (ageL t xs).length = (keptL t xs).length := by simp [ageL]
theorem atM_hit {xs : ML} {i : Int} {m : Msg} (h : atM xs i = some m) : ∃ k : Nat, i = (k : Int) ∧ ∃ hk : k < xs.length, xs[k].1 = m := by
  unfold atM at h
  split at h
  · rename_i h0
    refine ⟨i.toNat, by omega, ?_⟩
    cases e : xs[i.toNat]? with
    | none => rw [e] at h; cases h
    | some x =>
      rw [e] at h
      obtain ⟨h1, h2⟩ := List.getElem?_eq_some_iff.1 e
      exact ⟨h1, by rw [h2]; exact Option.some.inj h⟩
  · cases h
theorem atM_miss {xs : ML} {i : Int} (h : atM xs i = none) : i < 0 ∨ (xs.length : Int) ≤ i := by
  unfold atM at h
  split at h
  · rename_i h0
    cases e : xs[i.toNat]? with
    | none => rw [List.getElem?_eq_none_iff] at e; omega
    | some x => rw [e] at h; cases h
  · omega
theorem atM_nat {xs : ML} {k : Nat} (hk : k < xs.length) : atM xs (k : Int) = some xs[k].1 := by
  unfold atM
  rw [if_pos (by omega), Int.toNat_natCast, List.getElem?_eq_getElem hk]; rfl
theorem atM_out {xs : ML} {i : Int} (h : i < 0 ∨ (xs.length : Int) ≤ i) : atM xs i = none := by
  unfold atM
  split
  · rw [List.getElem?_eq_none (by omega)]; rfl
  · rfl

/-! ### in memory -/
structure MailAt (O : Nat → Prop) (w : World) (p : Nat) (a : Option Addr) (c : Nat) (g : Option Nat) (xs : ML) : Prop where
  lt : ∀ k, O k → k < w.heap.size
  oP : O p
  c0 : w.cell? ⟨p, 0, none⟩ = some (.slice a xs.length c)
  f0 : w.frozen? ⟨p, 0, none⟩ = false
  cel : Cel O w 3 (.slice a xs.length c) xs.length (rowC agC xs) g
  ne : g ≠ some p

section
variable {O : Nat → Prop} {w : World} {p : Nat} {a : Option Addr} {c : Nat} {g : Option Nat} {xs : ML}

theorem MailAt.stay {O2 : Nat → Prop} {w' : World} (h : MailAt O w p a c g xs) (hs : Stay O2 w w') (hd : ∀ k, O k → ¬ O2 k) : MailAt O w' p a c g xs := by
  have e := hs.block p (h.lt p h.oP) (hd p h.oP)
  have hc := h.cel
  refine ⟨fun k hk => Nat.lt_of_lt_of_le (h.lt k hk) hs.size, h.oP, (World.cell?_of_block (a := ⟨p, 0, none⟩) e).trans h.c0, (World.frozen?_of_block (a := ⟨p, 0, none⟩) e).trans h.f0, hc.stay hs.size (fun k hk => ?_) (fun _ e => e), h.ne⟩
  rw [hk] at hc
  exact hs.block k hc.lt.1 (hd k hc.lt.2)

theorem MailAt.below {w' : World} (h : MailAt O w p a c g xs) (hs : Below w.heap.size w w') : MailAt O w' p a c g xs :=
  h.stay (O2 := fun _ => False) (Stay.of_below hs) (fun _ _ e => e)

theorem MailAt.wide {O2 : Nat → Prop} (h : MailAt O w p a c g xs) (hO : ∀ k, O k → O2 k) (hl : ∀ k, O2 k → k < w.heap.size) : MailAt O2 w p a c g xs :=
  ⟨hl, hO _ h.oP, h.c0, h.f0, h.cel.stay (Nat.le_refl _) (fun _ _ => rfl) hO, h.ne⟩

theorem MailAt.grow (h : MailAt O w p a c g xs) (w0 : World) : MailAt (Grow O w0 w) w p a c g xs :=
  h.wide (fun _ e => .inl e) (fun k hk => hk.elim (h.lt k) (fun e => e.2))

theorem MailAt.elem (h : MailAt O w p a c g xs) {i : Nat} (hi : i < xs.length) : ∃ b, a = some ⟨b, 0, none⟩ ∧ g = some b ∧ w.cell? ⟨b, i * 3, none⟩ = some (.int .i64 xs[i].1.t) ∧ w.cell? ⟨b, i * 3 + 1, none⟩ = some (.string xs[i].1.d) ∧ w.cell? ⟨b, i * 3 + 2, none⟩ = some (.int .i64 (xs[i].2 : Int)) := by
  obtain ⟨b, h1, h2, h3⟩ := h.cel.elem wideA hi rfl
  exact ⟨b, h1, h2, h3 0 _ rfl, h3 1 _ rfl, h3 2 _ rfl⟩

theorem Cel.regrow {w0 w1 w' : World} {size : Nat} {sl : Value} {n : Nat} {cs : List Value} {g : Option Nat} (h : Cel (Grow O w1 w') w' size sl n cs g) (hs : w0.heap.size ≤ w1.heap.size) : Cel (Grow O w0 w') w' size sl n cs g :=
  h.stay (Nat.le_refl _) (fun _ _ => rfl) (fun _ hk => hk.elim .inl (fun e => .inr ⟨Nat.le_trans hs e.1, e.2⟩))

/-- Another row of messages. -/
theorem MailAt.setRow (h : MailAt O w p a c g xs) {w1 : World} {a' : Option Addr} {c' n' : Nat} {g' : Option Nat} {ys : ML} (hs : Stay O w w1) (hn : ys.length = n') (hc : Cel (Grow O w w1) w1 3 (.slice a' n' c') n' (rowC agC ys) g') (hg : g' ≠ some p)
    {u : Value} (h0 : w1.cell? ⟨p, 0, none⟩ = some u) (h1 : w1.frozen? ⟨p, 0, none⟩ = false) :
    MailAt (Grow O w (w1.setCell ⟨p, 0, none⟩ (.slice a' n' c'))) (w1.setCell ⟨p, 0, none⟩ (.slice a' n' c')) p a' c' g' ys ∧ Stay O w (w1.setCell ⟨p, 0, none⟩ (.slice a' n' c')) := by
  subst hn
  have hz : (w1.setCell ⟨p, 0, none⟩ (.slice a' ys.length c')).heap.size = w1.heap.size := by simp [World.setCell]
  refine ⟨⟨fun k hk => ?_, .inl h.oP, World.cell?_setCell_same _ _ _ h0, by rw [World.frozen?_setCell]; exact h1, ?_, hg⟩, hs.then_same (Stay.setCell _ _ _ h.oP)⟩
  · rcases hk with hk | hk
    · rw [hz]; exact Nat.lt_of_lt_of_le (h.lt k hk) hs.size
    · exact hk.2
  · exact (hc.setOut ⟨p, 0, none⟩ _ hg).stay (Nat.le_refl _) (fun _ _ => rfl) (fun _ hk => hk.elim .inl (fun e => .inr ⟨e.1, by rw [hz]; exact e.2⟩))

end

end Go.Proofs.Ytgjbafpjllfdeaa
