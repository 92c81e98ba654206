/- The contracts of the functions that tree.List, Remove and Move hand on, of tree.Remove. -/
import Derived.Test.YtlfehfajaelmlaaTreeF6
import Derived.Test.YtlfehfajaelmlaaTreeE
namespace Go.Proofs.Ytlfehfajaelmlaa
open Go.RowKit

theorem find_neg {xs : NS} {p : ByteArray} (h : at? xs p = none) : findI xs p = -1 := by unfold findI; rw [h]
theorem find_pos {xs : NS} {p : ByteArray} (h : at? xs p ≠ none) : ∃ i : Nat, findI xs p = (i : Int) ∧ i < xs.length := by
  cases e : at? xs p with
  | none => exact absurd e h
  | some i => exact ⟨i, by unfold findI; rw [e], (at_some e).1⟩

set_option maxRecDepth 100000 in
theorem add1_val (w : World) (x : NR) : Calls Try.prog 33 #[ndV x] w fun e w' => e = .returned (.bool true) ∧ Below w.heap.size w w' := by
  obtain ⟨⟨q, d, qu, bs, wr⟩, ⟨a, n, c⟩⟩ := x
  unfold ndV
  go_enter Try.func33, Try.ntmps33
  go_wp2
  go_ret
  first
    | exact ⟨rfl, bel_al _ _⟩
    | exact ⟨rfl, Below.refl _ _⟩

set_option maxRecDepth 100000 in
set_option maxHeartbeats 1000000 in
theorem stands_val (p : ByteArray) (T : Nat) (w : World) (hT : w.cell? ⟨T, 0, none⟩ = some (.string p)) (x : NR) (hx : NdOk w x) :
    Calls Try.prog 52 #[ndV x, .pointer (some ⟨T, 0, none⟩)] w fun e w' => e = .returned (.bool (inB p x.1)) ∧ Below w.heap.size w w' := by
  have HS : Hid (x.1.path.size ≤ maxLen) := hx.small
  obtain ⟨⟨q, d, qu, bs, wr⟩, ⟨a, n, c⟩⟩ := x
  have hTa := cell_al hT
  unfold ndV inB parD
  simp only at HS
  obtain ⟨⟨D, N, E⟩, hP⟩ : ∃ y, parentX q = y := ⟨_, rfl⟩
  have HP : Hid (parentX q = (D, N, E)) := hP
  simp only [hP]
  have e0 : (D.toList == p.toList) = decide (D = p) := same_eq D p
  obtain ⟨v, hv⟩ : ∃ v, decide (D = p) = v := ⟨_, rfl⟩
  rw [hv] at e0
  simp only [hv]
  have HT : Hid (∀ o, (w.alloc o).cell? ⟨T, 0, none⟩ = some (.string p)) := hTa
  clear hT hx hP hv hTa
  by_cases hE : E = 0
  · subst hE
    go_enter Try.func52, Try.ntmps52
    go_wp2_with (refine (parent_val q D N 0 _ HS.out HP.out).mono ?_; rintro e w1 ⟨rfl, c1⟩; have hT1 := bel_cell c1 (HT.out _))
    go_ret
    exact ⟨by simp, bel_tr (bel_al _ _) c1⟩
  · have hE0 : (E == 0) = false := by simpa using hE
    have hE1 : decide (E = 0) = false := decide_eq_false hE
    rw [hE1]
    clear hE hE1
    go_enter Try.func52, Try.ntmps52
    go_wp2_with (refine (parent_val q D N E _ HS.out HP.out).mono ?_; rintro e w1 ⟨rfl, c1⟩; have hT1 := bel_cell c1 (HT.out _))
    go_ret
    exact ⟨by simp, bel_tr (bel_al _ _) c1⟩

end Go.Proofs.Ytlfehfajaelmlaa
