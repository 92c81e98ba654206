/- The reference's row: one more, and without the first. -/
import Derived.Test.YthogpaojdlfjcaaRetryR3
namespace Go.Proofs.Ythogpaojdlfjcaa.Rty
open Go.RowKit Go.Proofs.Ythogpaojdlfjcaa Go.Proofs.Ythogpaojdlfjcaa.Edi
set_option linter.unusedVariables false

section
variable {w0 : World} {O : Nat → Prop} {W W' w5 : World} {xb : Nat} {R : List Rc}

/-- Another row is stored. -/
theorem RAt.lay (h : RAt w0 O W xb R) {R' : List Rc} {O1 : Nat → Prop} {a5 : Option Addr} {c5 : Nat} {g5 : Option Nat} (hst : Stay (fun k => O k ∧ k ≠ xb) W w5) (hC5 : CelO (fun k => (O k ∨ W.heap.size ≤ k) ∧ k ≠ xb) w5 18 (.slice a5 R'.length c5) R'.length (rowC rcC R') g5) (hm : R'.length ≤ 21) (he : ∀ r ∈ R', Nm w0 r.a r.m r.ed.ls ∧ AnIn (fun b => b < w0.heap.size) w0 r.x r.s) :
    RAt w0 (Grow O W (w5.setCell ⟨xb, 0, none⟩ (.slice a5 R'.length c5))) (w5.setCell ⟨xb, 0, none⟩ (.slice a5 R'.length c5)) xb R' ∧ Stay O W (w5.setCell ⟨xb, 0, none⟩ (.slice a5 R'.length c5)) := by
  have hx := h.lt xb h.oX
  have hb : w5.heap[xb]? = W.heap[xb]? := hst.block xb hx (fun e => e.2 rfl)
  obtain ⟨a0, c0, g0, h1, _⟩ := h.ex
  have hcell : w5.cell? ⟨xb, 0, none⟩ = some (.slice a0 R.length c0) := (World.cell?_of_block (a := ⟨xb, 0, none⟩) hb).trans h1
  have hsz : (w5.setCell ⟨xb, 0, none⟩ (.slice a5 R'.length c5)).heap.size = w5.heap.size := by simp [World.setCell]
  refine ⟨⟨fun k hk => ?_, .inl h.oX, ⟨a5, c5, g5, World.cell?_setCell_same _ _ _ hcell, ?_⟩, ?_, hm, he⟩, ?_⟩
  · rcases hk with hk | hk
    · rw [hsz]; exact Nat.lt_of_lt_of_le (h.lt k hk) hst.size
    · exact hk.2
  · cases hC5 with
    | nil e1 e2 e3 => exact .nil e1 e2 e3
    | row g off cap e1 el e2 e3 e4 e5 e6 e7 =>
      have hne : g ≠ xb := e2.2
      refine .row g off cap e1 el ⟨?_, hne⟩ (by rw [hsz]; exact e3) e4 e5 (fun j hj => ?_) (fun j hj => ?_)
      · rcases e2.1 with h2 | h2
        · exact .inl h2
        · exact .inr ⟨h2, by rw [hsz]; exact e3⟩
      · rw [World.cell?_of_block (a := ⟨g, off + j, none⟩) (Below.heap_setCell _ _ _ _ hne)]
        exact e6 j hj
      · rw [World.cell?_of_block (a := ⟨g, off + j, none⟩) (Below.heap_setCell _ _ _ _ hne), World.frozen?_setCell]
        exact e7 j hj
  · rw [World.frozen?_setCell, World.frozen?_of_block (a := ⟨xb, 0, none⟩) hb]
    exact h.fr
  · exact (hst.mono (fun k hk => hk.1)).then_same (Stay.setCell _ _ _ h.oX)
/-- One more. -/
theorem RAt.app (h : RAt w0 O W xb R) (hle : R.length ≤ 20) {a : Option Addr} {c : Nat} {g : Option Nat} (hC : CelO (fun k => O k ∧ k ≠ xb) W 18 (.slice a R.length c) R.length (rowC rcC R) g) (hb : Below W.heap.size W W') {r : Rc} {a5 : Option Addr} {c5 : Nat} {g5 : Option Nat}
    (hC5 : CelO (Grow (fun k => O k ∧ k ≠ xb) W' w5) w5 18 (.slice a5 (R.length + 1) c5) (R.length + 1) (rowC rcC R ++ rcC r) g5) (hS5 : Stay (fun k => g = some k) W' w5) (he : Nm w0 r.a r.m r.ed.ls ∧ AnIn (fun b => b < w0.heap.size) w0 r.x r.s) :
    RAt w0 (Grow O W (w5.setCell ⟨xb, 0, none⟩ (.slice a5 (R.length + 1) c5))) (w5.setCell ⟨xb, 0, none⟩ (.slice a5 (R.length + 1) c5)) xb (R ++ [r]) ∧ Stay O W (w5.setCell ⟨xb, 0, none⟩ (.slice a5 (R.length + 1) c5)) ∧ w5.cell? ⟨xb, 0, none⟩ = W.cell? ⟨xb, 0, none⟩ ∧ w5.frozen? ⟨xb, 0, none⟩ = false := by
  have hx := h.lt xb h.oX
  have hst : Stay (fun k => O k ∧ k ≠ xb) W w5 := (Stay.of_below hb).then_same (hS5.mono (fun k hk => by have h1 := hC; rw [hk] at h1; exact h1.lt.2))
  have hblk : w5.heap[xb]? = W.heap[xb]? := hst.block xb hx (fun e => e.2 rfl)
  have e1 : R.length + 1 = (R ++ [r]).length := by simp
  have e2 : rowC rcC R ++ rcC r = rowC rcC (R ++ [r]) := by rw [rowC_app, rowC_one]
  rw [e1, e2] at hC5
  rw [e1]
  have hl := h.lay (O1 := O) hst (hC5.stay (Nat.le_refl _) (fun _ _ => rfl) (fun k hk => by
    rcases hk with hk | hk
    · exact ⟨.inl hk.1, hk.2⟩
    · have := hb.size; exact ⟨.inr (by omega), by omega⟩)) (by simp; omega) (fun x hx => by
    rcases List.mem_append.1 hx with hx | hx
    · exact h.each x hx
    · rw [List.mem_singleton.1 hx]; exact he)
  exact ⟨hl.1, hl.2, World.cell?_of_block (a := ⟨xb, 0, none⟩) hblk, (World.frozen?_of_block (a := ⟨xb, 0, none⟩) hblk).trans h.fr⟩

/-- Without the first. -/
theorem RAt.tl {r : Rc} (h : RAt w0 O W xb (r :: R)) {g off c : Nat} (hc : W.cell? ⟨xb, 0, none⟩ = some (.slice (some ⟨g, off, none⟩) (R.length + 1) c)) :
    RAt w0 (Grow O W (W.setCell ⟨xb, 0, none⟩ (.slice (some ⟨g, off + 18, none⟩) R.length (c - 1)))) (W.setCell ⟨xb, 0, none⟩ (.slice (some ⟨g, off + 18, none⟩) R.length (c - 1))) xb R ∧ Stay O W (W.setCell ⟨xb, 0, none⟩ (.slice (some ⟨g, off + 18, none⟩) R.length (c - 1))) := by
  obtain ⟨a0, c0, g0, h1, h2⟩ := h.ex
  rw [hc] at h1
  simp only [Option.some.injEq, Value.slice.injEq] at h1
  obtain ⟨rfl, _, rfl⟩ := h1
  have h3 := h2.tail (m := R.length)
  have e : (rowC rcC (r :: R)).drop 18 = rowC rcC R := by
    rw [rowC_cons]
    exact List.drop_left' (wideR.len r)
  rw [e] at h3
  have hm := h.most
  exact h.lay (O1 := O) (Stay.refl _ _) (h3.stay (Nat.le_refl _) (fun _ _ => rfl) (fun k hk => ⟨.inl hk.1, hk.2⟩)) (by simp at hm; omega) (fun x hx => h.each x (List.mem_cons_of_mem _ hx))
end

end Go.Proofs.Ythogpaojdlfjcaa.Rty
