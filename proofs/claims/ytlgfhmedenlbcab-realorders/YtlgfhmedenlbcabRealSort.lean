/- The contracts of slices.SortStableFunc, by real.Order, and of real.Sort. -/
import Derived.Test.YtlgfhmedenlbcabRealStab
import Derived.Laws.IdiomCopy
namespace Go.Proofs.Ytlgfhmedenlbcab
open Go.RowKit

set_option maxHeartbeats 400000 in
theorem sortStable_val (base g cap n : Nat) (xs : List Nat) (w : World) (hn : xs.length = n) (hl : n ≤ 1000) (hR : RowF base w g xs) (hx : ∀ x ∈ xs, x < 18446744073709551616) :
    Calls Try.prog 16 #[.slice (some ⟨g, 0, none⟩) n cap, .func (.func 9) #[] #[]] w fun e w' => e = .returned (.tuple #[]) ∧ ∃ ys, Srt 0 n ys ∧ Way base w w' g xs ys := by
  have C : Hid _ := fun (_ : Unit) => stable_val base g cap n xs w hn hl hR hx
  clear hn hR hx
  go_enter Try.func16, Try.ntmps16
  go_wp2_with fail
  refine (C.out ()).mono ?_
  rintro e w2 ⟨rfl, h⟩
  go_wp2
  go_end0
  exact ⟨rfl, h⟩

theorem Try.infoFl : (Try.prog.info? 22).map (fun i => (i.zero, i.size, i.bytes)) = some (some (.float .f64 0), 1, 8) := by kernel_rfl

theorem below_setCells {base g : Nat} {w0 : World} (h0 : base ≤ g) : ∀ (vs : List Value) (o : Nat) (w : World), Below base w0 w → Below base w0 (w.setCells g o vs)
  | [], _, _, h => h
  | v :: r, o, _, h => below_setCells h0 r (o + 1) _ (h.setCell (p := ⟨g, o, none⟩) h0 v)
theorem size_setCells (g : Nat) : ∀ (vs : List Value) (o : Nat) (w : World), (w.setCells g o vs).heap.size = w.heap.size
  | [], _, _ => rfl
  | v :: r, o, _ => by rw [World.setCells, size_setCells g r]; simp [World.setCell]

theorem fltCells_at (xs : List Nat) (j : Nat) (h : j < xs.length) : (fltCells xs)[j]'(by rw [fltCells_len]; exact h) = .float .f64 (at0 xs j) := by
  simp [fltCells, at0_eq xs j h]

/-- A made row of noughts, filled. -/
theorem RowF.filled {base g n : Nat} {w1 : World} {zs xs : List Nat} (h : RowF base w1 g zs) (hz : zs.length = n) (hn : xs.length = n) : RowF base (w1.setCells g 0 (fltCells xs)) g xs := by
  refine ⟨h.lo, by rw [size_setCells]; exact h.hi, fun j hj => ?_, fun j hj => ?_⟩
  · have := World.cell?_setCells_in g (fltCells xs) 0 w1 (fun i hi => by rw [Nat.zero_add, h.cell i (by rw [fltCells_len] at hi; omega)]; rfl) j (by rw [fltCells_len]; exact hj)
    rw [Nat.zero_add, fltCells_at xs j hj] at this
    exact this
  · rw [World.frozen?_setCells]; exact h.live j (by omega)

set_option maxRecDepth 100000 in
set_option maxHeartbeats 1000000 in
theorem sort_val (a : Option Addr) (b off cap n : Nat) (xs : List Nat) (w : World) (hn : xs.length = n) (hl : n ≤ 1000) (hI : Flts w a b off xs) (hx : ∀ x ∈ xs, x < 18446744073709551616) :
    Calls Try.prog 6 #[.slice a n cap] w fun e w' => e = .returned (.slice (some ⟨w.heap.size, 0, none⟩) n n) ∧ ∃ ys, Srt 0 n ys ∧ Way w.heap.size w w' w.heap.size xs ys := by
  obtain ⟨i0, hi, hz0, hz1, hz2⟩ := info_parts Try.infoFl
  have HN : Hid _ := hn
  have HI : Hid _ := hI
  have HX : Hid _ := hx
  clear hn hI hx
  go_enter Try.func6, Try.ntmps6
  go_wp2_with (at_make; refine wpList_make_full _ rfl _ _ 23 rfl w.heap.size 22 i0 (.float .f64 0) 1 Try.underlying23 hi hz0 hz1 .i64 .i64 n n n rfl rfl rfl rfl (by rw [hz2]; omega) (by unfold maxLen; omega) (Nat.le_refl _) ?_; intro w1 hown0 hgrow0)
  have hb0 : Below w.heap.size w w1 := (Below.refl _ _).grown hgrow0 (Nat.le_refl _) (by simp)
  rw [madeFlts] at hown0
  have hrow0 : RowF w.heap.size w1 w.heap.size (List.replicate n 0) := by
    refine ⟨Nat.le_refl _, ?_, fun j hj => ?_, fun j hj => hown0.frozenAt j⟩
    · rcases hown0.2 with ⟨h, _⟩ | ⟨g, cap, cur, h1, h2, h3, h4⟩
      · cases h
      · have := (Array.getElem?_eq_some_iff.1 h3).1
        injection h1 with h1
        injection h1 with h1
        injection h1 with h1
        omega
    · simp at hj
      refine (hown0.cellAt j (by omega)).trans ?_
      simp [fltCells, at0, hj]
  have hsz : (Try.prog.info? 22).map (·.size) = some 1 := by rw [hi]; simp [hz1]
  have hcp : ∃ w2, (∀ ty, (Builtin.copy_ #[23, 23] ty #[.slice (some ⟨w.heap.size, 0, none⟩) n n, .slice a n cap]).run Try.prog w1 = .ok (goInt n) w2) ∧ RowF w.heap.size w2 w.heap.size xs ∧ Below w.heap.size w w2 := by
    by_cases h0 : n = 0
    · refine ⟨w1, fun ty => ?_, ?_, hb0⟩
      · have := run_copy_none (P := Try.prog) w1 23 23 ty 22 (some ⟨w.heap.size, 0, none⟩) a n n n cap Try.underlying23 hsz (by rw [h0]; rfl)
        rw [this, h0]; rfl
      · have : xs = [] := List.length_eq_zero_iff.1 (HN.out.trans h0)
        rw [this]
        rw [h0] at hrow0
        exact hrow0
    · obtain rfl := HI.out.addr (by rw [HN.out]; omega)
      refine ⟨w1.setCells w.heap.size 0 (fltCells xs), fun ty => ?_, hrow0.filled (by simp) HN.out, below_setCells (Nat.le_refl _) _ _ _ hb0⟩
      have hIr := HI.out.below hb0
      have := run_copy_cells (P := Try.prog) w1 23 23 ty 22 w.heap.size 0 n n ⟨b, off, none⟩ n cap (fltCells xs) Try.underlying23 hsz (by rw [fltCells_len, HN.out]; exact (Nat.min_self n).symm)
        (fun j v hj => by
          have hjl : j < xs.length := by have := (List.getElem?_eq_some_iff.1 hj).1; rwa [fltCells_len] at this
          rw [Addr.add_lit]
          rw [hIr.cell j hjl]
          rw [← hj]
          simp [fltCells, hjl])
        (fun j hj => by rw [fltCells_len, HN.out] at hj; rw [Nat.zero_add, hrow0.cell j (by simpa using hj)]; rfl)
        (fun j hj => by rw [fltCells_len, HN.out] at hj; rw [Nat.zero_add]; exact hrow0.live j (by simpa using hj))
        (fun v hv => by simp [fltCells] at hv; obtain ⟨x, -, rfl⟩ := hv; rfl)
      rw [fltCells_len, HN.out] at this
      exact this
  obtain ⟨w2, hcp, hrow2, hbel2⟩ := hcp
  have C : Hid _ := fun (_ : Unit) => sortStable_val w.heap.size w.heap.size n n xs w2 HN.out hl hrow2 HX.out
  have HB2 : Hid _ := hbel2
  clear hrow2 hrow0 hown0 hgrow0 hb0 hbel2 HI HX HN
  go_wp2_with fail
  rw [hcp]
  clear hcp
  go_wp2_with fail
  refine (C.out ()).mono ?_
  rintro e w3 ⟨rfl, ys, hs, hway⟩
  have hway2 : Way w.heap.size w w3 w.heap.size xs ys := ⟨hway.perm, hway.row, HB2.out.trans hway.bel⟩
  clear C hway
  go_wp2
  go_ret
  exact ⟨rfl, ys, hs, hway2⟩

end Go.Proofs.Ytlgfhmedenlbcab
