/- The statements' comparisons, where there is nothing to compare. -/
import Derived.Test.YtaafombnpngblaaGreatB30
namespace Go.Proofs.YtaafombnpngblaaGreat.Spa
open Go.RowKit Go.Proofs.YtaafombnpngblaaGreat

set_option maxRecDepth 100000 in
theorem texts_nil (w : World) : Calls Tryz.prog 31 #[.slice none 0 0, .slice none 0 0] w fun e w' => e = .returned (.bool true) ∧ Below w.heap.size w w' := by
  go_enter Tryz.func31, Tryz.ntmps31
  go_wp2
  go_loopw [5] (fun v wr => v = .int .i64 0 ∧ Below w.heap.size w wr) (fun _ _ => 0)
  case atStart => exact ⟨rfl, Below.refl _ _⟩
  case round =>
    obtain ⟨rfl, hb⟩ := hrel
    have HB : Hid _ := hb
    clear hb
    go_wp2
    go_ret
    exact ⟨rfl, HB.out⟩
set_option maxRecDepth 100000 in
theorem blocks_nil (a : Option Addr) (c : Nat) (w : World) : Calls Tryz.prog 20 #[.slice a 0 c, .slice none 0 0] w fun e w' => e = .returned (.bool true) ∧ Below w.heap.size w w' := by
  go_enter Tryz.func20, Tryz.ntmps20
  go_wp2
  go_loopw [5] (fun v wr => v = .int .i64 0 ∧ Below w.heap.size w wr) (fun _ _ => 0)
  case atStart => exact ⟨rfl, Below.refl _ _⟩
  case round =>
    obtain ⟨rfl, hb⟩ := hrel
    have HB : Hid _ := hb
    clear hb
    go_wp2
    go_ret
    exact ⟨rfl, HB.out⟩
set_option maxRecDepth 100000 in
set_option maxHeartbeats 1000000 in
theorem node_zero (a : Option Addr) (c : Nat) (w : World) : Calls Tryz.prog 32 #[ndV (zeroN, ⟨a, 0, c⟩), ndV zeroX] w fun e w' => e = .returned (.bool true) ∧ Below w.heap.size w w' := by
  unfold ndV zeroX zeroN noS
  simp only
  have hst := run_store_str
  go_enter Tryz.func32, Tryz.ntmps32
  go_wp2_with fail
  refine (blocks_nil _ _ _).mono ?_
  rintro e w1 ⟨rfl, c1⟩
  obtain ⟨k1, k2, k3, k4, k5, k6⟩ := two_boxes c1
  have B1 : Hid (Below w.heap.size w w1) := k5
  have a0 := k1 0 _ rfl
  have a1 := k1 1 _ rfl
  have a2 := k1 2 _ rfl
  have a4 := k1 4 _ rfl
  have b0 := k3 0 _ rfl
  have b1 := k3 1 _ rfl
  have b2 := k3 2 _ rfl
  have b4 := k3 4 _ rfl
  clear c1 k1 k2 k3 k4 k5 k6
  go_wp2
  go_ret
  exact ⟨rfl, B1.out⟩
set_option maxRecDepth 100000 in
set_option maxHeartbeats 1000000 in
theorem answers_zero (E : Int) (a : Option Addr) (c : Nat) (w : World) : Calls Tryz.prog 12 #[anV E zeroB noS (zeroN, ⟨a, 0, c⟩) 0, anV E zeroB noS zeroX 0] w fun e w' => e = .returned (.bool true) ∧ Below w.heap.size w w' := by
  have CN : Hid (∀ W, Calls Tryz.prog 32 #[ndV (zeroN, ⟨a, 0, c⟩), ndV zeroX] W fun e w' => e = .returned (.bool true) ∧ Below W.heap.size W w') := fun W => node_zero a c W
  unfold ndV zeroX zeroN noS at CN
  simp only at CN
  unfold anV zeroB zeroX zeroN noS
  simp only
  have hst := run_store_str
  have hst2 : ∀ (w : World) (a : Addr) (x : Option Addr) (n c : Nat) (m : Mode), (store a (.slice x n c) m).run Tryz.prog w = stored Tryz.prog w a (.slice x n c) m := fun w a x n c m => run_store_any w a _ m rfl
  have hEE : (E == E) = true := by simp
  go_enter Tryz.func12, Tryz.ntmps12
  go_wp2_with fail
  refine (texts_nil _).mono ?_
  rintro e w1 ⟨rfl, c1⟩
  obtain ⟨k1, k2, k3, k4, k5, k6⟩ := two_boxes c1
  have B1 : Hid (Below w.heap.size w w1) := k5
  have a0 := k1 0 _ rfl
  have a1 := k1 1 _ rfl
  have a2 := k1 2 _ rfl
  have a3 := k1 3 _ rfl
  have a5 := k1 5 _ rfl
  have a6 := k1 6 _ rfl
  have a7 := k1 7 _ rfl
  have a8 := k1 8 _ rfl
  have a9 := k1 9 _ rfl
  have a10 := k1 10 _ rfl
  have b0 := k3 0 _ rfl
  have b1 := k3 1 _ rfl
  have b2 := k3 2 _ rfl
  have b3 := k3 3 _ rfl
  have b5 := k3 5 _ rfl
  have b6 := k3 6 _ rfl
  have b7 := k3 7 _ rfl
  have b8 := k3 8 _ rfl
  have b9 := k3 9 _ rfl
  have b10 := k3 10 _ rfl
  clear c1 k1 k2 k3 k4 k5 k6
  go_wp2_with fail
  refine (CN.out _).mono ?_
  rintro e w2 ⟨rfl, c2⟩
  have B2 : Hid (Below w1.heap.size w1 w2) := c2
  have d0 := bel_cell c2 a0
  have d1 := bel_cell c2 a1
  have d2 := bel_cell c2 a2
  have d3 := bel_cell c2 a3
  have d10 := bel_cell c2 a10
  have f0 := bel_cell c2 b0
  have f1 := bel_cell c2 b1
  have f2 := bel_cell c2 b2
  have f3 := bel_cell c2 b3
  have f10 := bel_cell c2 b10
  clear c2 a0 a1 a2 a3 a5 a6 a7 a8 a9 a10 b0 b1 b2 b3 b5 b6 b7 b8 b9 b10
  go_wp2
  go_ret
  exact ⟨rfl, bel_tr B1.out B2.out⟩

set_option maxRecDepth 100000 in
theorem sameN_nil (a : Option Addr) (c : Nat) (w : World) : Calls Tryz.prog 63 #[.slice a 0 c, .slice none 0 0] w fun e w' => e = .returned (.bool true) ∧ Below w.heap.size w w' := by
  go_enter Tryz.func63, Tryz.ntmps63
  go_wp2
  go_loopw [5] (fun v wr => v = .int .i64 0 ∧ Below w.heap.size w wr) (fun _ _ => 0)
  case atStart => exact ⟨rfl, Below.refl _ _⟩
  case round =>
    obtain ⟨rfl, hb⟩ := hrel
    have HB : Hid _ := hb
    clear hb
    go_wp2
    go_ret
    exact ⟨rfl, HB.out⟩
set_option maxRecDepth 100000 in
set_option maxHeartbeats 1000000 in
theorem sameS_zero (na la : Option Addr) (nc lc : Nat) (w : World) : Calls Tryz.prog 33 #[spV zeroS ⟨na, 0, nc⟩ ⟨la, 0, lc⟩, spV zeroS noS noS] w fun e w' => e = .returned (.bool true) ∧ Below w.heap.size w w' := by
  unfold spV zeroS noS
  simp only
  have hst2 : ∀ (w : World) (a : Addr) (x : Option Addr) (n c : Nat) (m : Mode), (store a (.slice x n c) m).run Tryz.prog w = stored Tryz.prog w a (.slice x n c) m := fun w a x n c m => run_store_any w a _ m rfl
  go_enter Tryz.func33, Tryz.ntmps33
  go_wp2
  generalize hW : (w.alloc (.cells #[.int .i64 0, .int .i64 0, .int .i64 0, .int .i64 0, .slice na 0 nc, .slice la 0 lc] 27)).alloc (.cells #[.int .i64 0, .int .i64 0, .int .i64 0, .int .i64 0, .slice none 0 0, .slice none 0 0] 27) = W at *
  obtain ⟨k1, k2, k3, k4, k5, k6⟩ := two_boxes (w2 := W) (by rw [← hW]; exact Below.refl _ _)
  have K1 : Hid (∀ j v, #[Value.int .i64 0, .int .i64 0, .int .i64 0, .int .i64 0, .slice na 0 nc, .slice la 0 lc][j]? = some v → W.cell? ⟨w.heap.size, j, none⟩ = some v) := k1
  have K3 : Hid (∀ j v, #[Value.int .i64 0, .int .i64 0, .int .i64 0, .int .i64 0, .slice none 0 0, .slice none 0 0][j]? = some v → W.cell? ⟨w.heap.size + 1, j, none⟩ = some v) := k3
  have B0 : Hid (Below w.heap.size w W) := k5
  clear k1 k2 k3 k4 k5 k6 hW
  go_loopw [5] (fun v wr => v = .int .i64 0 ∧ wr = W) (fun _ _ => 0)
  case atStart => exact ⟨rfl, rfl⟩
  case round =>
    obtain ⟨rfl, hw⟩ := hrel
    subst hw
    have a4 := K1.out 4 _ rfl
    have a5 := K1.out 5 _ rfl
    have b4 := K3.out 4 _ rfl
    have b5 := K3.out 5 _ rfl
    go_wp2_with fail
    refine (sameN_nil _ _ _).mono ?_
    rintro e w1 ⟨rfl, c1⟩
    have B1 : Hid _ := c1
    clear c1
    go_wp2
    go_ret
    exact ⟨rfl, bel_tr B0.out B1.out⟩
set_option maxRecDepth 100000 in
theorem same_zero (na la : Option Addr) (nc lc : Nat) (w : World) : Calls Tryz.prog 13 #[spV zeroS ⟨na, 0, nc⟩ ⟨la, 0, lc⟩, spV zeroS noS noS] w fun e w' => e = .returned (.bool true) ∧ Below w.heap.size w w' := by
  have CS : Hid (∀ W, Calls Tryz.prog 33 #[spV zeroS ⟨na, 0, nc⟩ ⟨la, 0, lc⟩, spV zeroS noS noS] W fun e w' => e = .returned (.bool true) ∧ Below W.heap.size W w') := fun W => sameS_zero na la nc lc W
  unfold spV zeroS noS at *
  simp only at *
  have hst2 : ∀ (w : World) (a : Addr) (x : Option Addr) (n c : Nat) (m : Mode), (store a (.slice x n c) m).run Tryz.prog w = stored Tryz.prog w a (.slice x n c) m := fun w a x n c m => run_store_any w a _ m rfl
  go_enter Tryz.func13, Tryz.ntmps13
  go_wp2_with fail
  refine (CS.out _).mono ?_
  rintro e w1 ⟨rfl, c1⟩
  have B1 : Hid (Below w.heap.size w w1) := bel_tr (bel_tr (bel_al _ _) (bel_al _ _)) c1
  clear c1
  go_wp2
  go_ret
  exact ⟨rfl, B1.out⟩

end Go.Proofs.YtaafombnpngblaaGreat.Spa
