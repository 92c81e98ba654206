/- The contracts of the functions that tree.List, Remove and Move hand on, of tree.Remove. -/
import Derived.Test.YtdcmhbodjmajcaaTreeF6
import Derived.Test.YtdcmhbodjmajcaaTreeE
namespace Go.Proofs.Ytdcmhbodjmajcaa
open Go.RowKit

theorem find_neg {xs : NS} {p : ByteArray} (h : at? xs p = none) : findI xs p = -1 := by unfold findI; rw [h]
theorem find_pos {xs : NS} {p : ByteArray} (h : at? xs p ≠ none) : ∃ i : Nat, findI xs p = (i : Int) ∧ i < xs.length := by
  cases e : at? xs p with
  | none => exact absurd e h
  | some i => exact ⟨i, by unfold findI; rw [e], (at_some e).1⟩

set_option maxRecDepth 100000 in
theorem remove1_val (p : ByteArray) (hp : p.size ≤ maxLen) (T : Nat) (w : World) (hT : w.cell? ⟨T, 0, none⟩ = some (.string p)) (x : NR) (hx : NdOk w x) :
    Calls Try.prog 54 #[ndV x, .pointer (some ⟨T, 0, none⟩)] w fun e w' => e = .returned (.bool (!underB p x.1.path)) ∧ Below w.heap.size w w' := by
  have HS : Hid (x.1.path.size ≤ maxLen) := hx.small
  have HP : Hid (p.size ≤ maxLen) := hp
  obtain ⟨⟨q, d, qu, bs, wr⟩, ⟨a, n, c⟩⟩ := x
  have hTa := cell_al hT
  unfold ndV
  simp only at HS
  obtain ⟨u, hu⟩ : ∃ u, underB p q = u := ⟨_, rfl⟩
  have HU : Hid (underB p q = u) := hu
  simp only [hu]
  clear hT hx hp hu
  go_enter Try.func54, Try.ntmps54
  go_wp2_with (refine (under_val p q u _ HP.out HS.out HU.out).mono ?_; rintro e w1 ⟨rfl, c1⟩)
  go_ret
  exact ⟨rfl, bel_tr (bel_al _ _) c1⟩

set_option maxRecDepth 100000 in
theorem move1_val (p : ByteArray) (hp : p.size ≤ maxLen) (T : Nat) (w : World) (hT : w.cell? ⟨T, 0, none⟩ = some (.string p)) (x : NR) (hx : NdOk w x) :
    Calls Try.prog 58 #[ndV x, .pointer (some ⟨T, 0, none⟩)] w fun e w' => e = .returned (.bool (goesB p x.1)) ∧ Below w.heap.size w w' := by
  have HS : Hid (x.1.path.size ≤ maxLen) := hx.small
  have HP : Hid (p.size ≤ maxLen) := hp
  obtain ⟨⟨q, d, qu, bs, wr⟩, ⟨a, n, c⟩⟩ := x
  have hTa := cell_al hT
  unfold ndV goesB
  simp only at HS
  obtain ⟨u, hu⟩ : ∃ u, underB p q = u := ⟨_, rfl⟩
  have HU : Hid (underB p q = u) := hu
  simp only [hu]
  clear hT hx hp hu
  go_enter Try.func58, Try.ntmps58
  go_wp2_with (refine (under_val p q u _ HP.out HS.out HU.out).mono ?_; rintro e w1 ⟨rfl, c1⟩)
  go_ret
  exact ⟨rfl, bel_tr (bel_al _ _) c1⟩

set_option maxRecDepth 100000 in
set_option maxHeartbeats 1000000 in
theorem move2_val (f t : ByteArray) (hf : f.size ≤ maxLen) (F T G : Nat) (w : World) (hF : w.cell? ⟨F, 0, none⟩ = some (.string f)) (hT : w.cell? ⟨T, 0, none⟩ = some (.string t)) (hG : w.cell? ⟨G, 0, none⟩ = some (.func (.func 58) #[] #[.pointer (some ⟨F, 0, none⟩)])) (x : NR) (hx : NdOk w x) :
    Calls Try.prog 59 #[ndV x, .pointer (some ⟨T, 0, none⟩), .pointer (some ⟨G, 0, none⟩)] w fun e w' => e = .returned (.bool (stayB f t x.1)) ∧ Below w.heap.size w w' := by
  have C1 : Hid (∀ W u, Below w.heap.size w W → goesB f x.1 = u → Calls Try.prog 58 #[ndV x, .pointer (some ⟨F, 0, none⟩)] W fun e w' => e = .returned (.bool u) ∧ Below W.heap.size W w') := fun W u hb hu => by rw [← hu]; exact move1_val f hf F W (bel_cell hb hF) x (hx.below hb)
  obtain ⟨⟨q, d, qu, bs, wr⟩, ⟨a, n, c⟩⟩ := x
  have hTa := cell_al hT
  have hGa := cell_al hG
  unfold ndV at *
  unfold stayB
  simp only at C1
  have e0 : (q.toList == t.toList) = decide (q = t) := same_eq q t
  have e1 : (q.toList != t.toList) = !decide (q = t) := by rw [bne, e0]
  obtain ⟨v, hv⟩ : ∃ v, decide (q = t) = v := ⟨_, rfl⟩
  rw [hv] at e0 e1
  obtain ⟨u, hu⟩ : ∃ u, underB f q = u := ⟨_, rfl⟩
  have HU : Hid (goesB f ⟨q, d, qu, bs, wr⟩ = u) := hu
  simp only [hu, hv]
  clear hF hT hG hx hf hu hv
  cases v with
  | true =>
    go_enter Try.func59, Try.ntmps59
    go_wp2
    go_ret
    exact ⟨rfl, bel_al _ _⟩
  | false =>
    go_enter Try.func59, Try.ntmps59
    go_wp2_with (refine (C1.out _ u (bel_al _ _) HU.out).mono ?_; rintro e w1 ⟨rfl, c1⟩)
    go_ret
    exact ⟨rfl, bel_tr (bel_al _ _) c1⟩

set_option maxRecDepth 100000 in
theorem add1_val (w : World) (x : NR) : Calls Try.prog 47 #[ndV x] w fun e w' => e = .returned (.bool true) ∧ Below w.heap.size w w' := by
  obtain ⟨⟨q, d, qu, bs, wr⟩, ⟨a, n, c⟩⟩ := x
  unfold ndV
  go_enter Try.func47, Try.ntmps47
  go_wp2
  go_ret
  first
    | exact ⟨rfl, bel_al _ _⟩
    | exact ⟨rfl, Below.refl _ _⟩

set_option maxRecDepth 100000 in
set_option maxHeartbeats 1000000 in
theorem stands_val (p : ByteArray) (T : Nat) (w : World) (hT : w.cell? ⟨T, 0, none⟩ = some (.string p)) (x : NR) (hx : NdOk w x) :
    Calls Try.prog 64 #[ndV x, .pointer (some ⟨T, 0, none⟩)] w fun e w' => e = .returned (.bool (inB p x.1)) ∧ Below w.heap.size w w' := by
  have HS : Hid (x.1.path.size ≤ maxLen) := hx.small
  obtain ⟨⟨q, d, qu, bs, wr⟩, ⟨a, n, c⟩⟩ := x
  have hTa := cell_al hT
  unfold ndV inB parD
  simp only at HS
  obtain ⟨⟨D, N, E⟩, hP⟩ : ∃ y, parentX q = y := ⟨_, rfl⟩
  have HP : Hid (parentX q = (D, N, E)) := hP
  simp only [hP]
  have e0 : (D.toList == p.toList) = decide (D = p) := same_eq D p
  obtain ⟨v, hv⟩ : ∃ v, decide (D = p) = v := ⟨_, rfl⟩
  rw [hv] at e0
  simp only [hv]
  have HT : Hid (∀ o, (w.alloc o).cell? ⟨T, 0, none⟩ = some (.string p)) := hTa
  clear hT hx hP hv hTa
  by_cases hE : E = 0
  · subst hE
    go_enter Try.func64, Try.ntmps64
    go_wp2_with (refine (parent_val q D N 0 _ HS.out HP.out).mono ?_; rintro e w1 ⟨rfl, c1⟩; have hT1 := bel_cell c1 (HT.out _))
    go_ret
    exact ⟨by simp, bel_tr (bel_al _ _) c1⟩
  · have hE0 : (E == 0) = false := by simpa using hE
    have hE1 : decide (E = 0) = false := decide_eq_false hE
    rw [hE1]
    clear hE hE1
    go_enter Try.func64, Try.ntmps64
    go_wp2_with (refine (parent_val q D N E _ HS.out HP.out).mono ?_; rintro e w1 ⟨rfl, c1⟩; have hT1 := bel_cell c1 (HT.out _))
    go_ret
    exact ⟨by simp, bel_tr (bel_al _ _) c1⟩

end Go.Proofs.Ytdcmhbodjmajcaa
