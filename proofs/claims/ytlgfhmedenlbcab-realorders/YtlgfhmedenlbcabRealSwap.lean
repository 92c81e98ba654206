/- A row of fractions that is turned in place; the contract of slices.swapRangeCmpFunc. -/
import Derived.Test.YtlgfhmedenlbcabRealSymM
import Derived.Test.YtlgfhmedenlbcabRealRow
import Derived.BigRegion
namespace Go.Proofs.Ytlgfhmedenlbcab
open Go.RowKit

/-- The row xs lies in block g, from its first cell on, and may be written. -/
structure RowF (base : Nat) (w : World) (g : Nat) (xs : List Nat) : Prop where
  lo : base ≤ g
  hi : g < w.heap.size
  cell : ∀ j, j < xs.length → w.cell? ⟨g, j, none⟩ = some (.float .f64 (at0 xs j))
  live : ∀ j, j < xs.length → w.frozen? ⟨g, j, none⟩ = false
theorem RowF.below {base : Nat} {w w' : World} {g : Nat} {xs : List Nat} (h : RowF base w g xs) (hb : Below w.heap.size w w') : RowF base w' g xs :=
  ⟨h.lo, Nat.lt_of_lt_of_le h.hi hb.size, fun j hj => (hb.cell (p := ⟨g, j, none⟩) h.hi).trans (h.cell j hj), fun j hj => (hb.frozen (p := ⟨g, j, none⟩) h.hi).trans (h.live j hj)⟩
theorem RowF.set {base : Nat} {w : World} {g : Nat} {xs : List Nat} (h : RowF base w g xs) (p : Nat) (hp : p < xs.length) (y : Nat) :
    RowF base (w.setCell ⟨g, p, none⟩ (.float .f64 y)) g (xs.set p y) := by
  refine ⟨h.lo, by simpa [World.setCell] using h.hi, fun j hj => ?_, fun j hj => ?_⟩
  · rw [List.length_set] at hj
    rw [at0_set _ _ _ _ hp]
    by_cases e : p = j
    · subst e
      rw [if_pos rfl]
      exact World.cell?_setCell_same _ _ _ (h.cell p hp)
    · rw [if_neg e, World.cell?_setCell_other]
      · exact h.cell j hj
      · intro e2
        apply e
        exact (Addr.mk.inj e2).2.1
  · rw [List.length_set] at hj
    rw [World.frozen?_setCell]; exact h.live j hj
theorem RowF.swap {base : Nat} {w : World} {g : Nat} {xs : List Nat} (h : RowF base w g xs) (i j : Nat) (hi : i < xs.length) (hj : j < xs.length) :
    RowF base ((w.setCell ⟨g, i, none⟩ (.float .f64 (at0 xs j))).setCell ⟨g, j, none⟩ (.float .f64 (at0 xs i))) g (swp xs i j) :=
  (h.set i hi _).set j (by rw [List.length_set]; exact hj) _
theorem RowF.swap_below {base base0 : Nat} {w0 w : World} {g : Nat} {xs : List Nat} (h : RowF base w g xs) (hb : Below base0 w0 w) (h0 : base0 ≤ base) (i j : Nat) (u v : Value) : Below base0 w0 ((w.setCell ⟨g, i, none⟩ u).setCell ⟨g, j, none⟩ v) :=
  (hb.setCell (p := ⟨g, i, none⟩) (Nat.le_trans h0 h.lo) u).setCell (p := ⟨g, j, none⟩) (Nat.le_trans h0 h.lo) v
theorem RowF.drew {base : Nat} {w : World} {g : Nat} {xs : List Nat} (h : RowF base w g xs) (n : Nat) : RowF base (w.drewN n) g xs := h.below (belD w n)

theorem run_store_flt (w : World) (a : Addr) (x : Nat) (m : Mode) : (store a (.float .f64 x) m).run Try.prog w = stored Try.prog w a (.float .f64 x) m := run_store Try.prog w a _ m rfl

set_option maxRecDepth 100000 in
set_option maxHeartbeats 1000000 in
theorem swapRange_val (base g cap n a b c : Nat) (F : Value) (xs : List Nat) (w : World) (hn : xs.length = n) (hl : n ≤ 1000) (hR : RowF base w g xs) (hab : a + c ≤ b) (hb : b + c ≤ n) :
    Calls Try.prog 31 #[.slice (some ⟨g, 0, none⟩) n cap, .int .i64 a, .int .i64 b, .int .i64 c, F] w fun e w' => e = .returned (.tuple #[]) ∧ ∃ ys, Swapped a b c xs ys ∧ RowF base w' g ys ∧ Below base w w' := by
  have HN : Hid _ := hn
  have HR : Hid _ := hR
  clear hn hR
  go_enter Try.func31, Try.ntmps31
  go_wp2
  go_loopw [10] (fun v wr => ∃ (k : Nat) (ys : List Nat), k ≤ c ∧ v = .int .i64 k ∧ Swapped a b k xs ys ∧ RowF base wr g ys ∧ Below base w wr) (fun v _ => c - (intOf v).toNat)
  case atStart => exact ⟨0, xs, by omega, rfl, Swapped.zero _ _ _, HR.out, (Below.refl _ _).mono HR.out.lo⟩
  case round =>
    obtain ⟨k, ys, hk, rfl, hsw, hrow, hbel⟩ := hrel
    have hlen : ys.length = n := by rw [hsw.len, HN.out]
    by_cases hlt : k < c
    · have c1 := hrow.cell (a + k) (by omega)
      have c2 := hrow.cell (b + k) (by omega)
      have f1 := hrow.live (a + k) (by omega)
      have f2 := hrow.live (b + k) (by omega)
      have hsw2 := hsw.next (by omega) (by rw [HN.out]; omega)
      have hR2 := fun d => (hrow.drew d).swap (a + k) (b + k) (by omega) (by omega)
      have hB2 := fun d => (hrow.drew d).swap_below (below_drewN hbel d) (Nat.le_refl _) (a + k) (b + k) (.float .f64 (at0 ys (b + k))) (.float .f64 (at0 ys (a + k)))
      generalize hx1 : at0 ys (a + k) = x1 at *
      generalize hx2 : at0 ys (b + k) = x2 at *
      have HS : Hid _ := hsw2
      have HR2 : Hid _ := hR2
      have HB2 : Hid _ := hB2
      have HL : Hid _ := hlen
      clear hsw2 hR2 hB2 hsw hrow hbel HN HR hlen hx1 hx2
      have hst := run_store_flt
      go_wp2
      go_region
      go_wp2
      go_roundw
      case rel => exact ⟨k + 1, _, by omega, by go_num, HS.out, HR2.out 1, HB2.out 1⟩
      case measure => simp [intOf]; omega
    · obtain rfl : k = c := by omega
      clear HN HR
      go_wp2
      go_end0
      exact ⟨rfl, ys, hsw, hrow, hbel⟩

end Go.Proofs.Ytlgfhmedenlbcab
