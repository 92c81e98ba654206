/- The contracts of Load's closures and of tried. -/
import Derived.Test.YtokldcifhjkmnaaLogG
import Derived.Recover
import Derived.Defers
namespace Go.Proofs.Ytokldcifhjkmnaa.Lgg
open Go.RowKit Go.Proofs.Ytokldcifhjkmnaa
set_option linter.unusedVariables false

set_option maxRecDepth 100000 in
theorem catch_panic {R : Nat} {w : World} {u : Value} (h : w.cell? ⟨R, 0, none⟩ = some u) (f : w.frozen? ⟨R, 0, none⟩ = false) (older : List PanicEntry) :
    CallsD Try.prog 64 #[.pointer (some ⟨R, 0, none⟩)] (.panicking ({ v := .iface 26 (.int .i64 2), recovered := false } :: older)) w fun e u' w' =>
      e = .returned (.tuple #[]) ∧ u' = .panicking ({ v := .iface 26 (.int .i64 2), recovered := true } :: older) ∧ w' = w.setCell ⟨R, 0, none⟩ (.bool false) := by
  refine callsD_of_wpS Try.func64 rfl fun c₀ cs hu => ?_
  apply wpS_seq
  apply wpS_region
  simp [wpOpsS, go_sem, recoverD, hu, Try.ntmps64, Exit.thenS]
  refine wpS_of_wp ?_
  go_wp2
  exact ⟨rfl, _, rfl, .tuple #[], by simp [results, Try.results64], rfl, rfl, rfl⟩
set_option maxRecDepth 100000 in
theorem catch_idle {R : Nat} {w : World} :
    CallsD Try.prog 64 #[.pointer (some ⟨R, 0, none⟩)] .returning w fun e u' w' => e = .returned (.tuple #[]) ∧ u' = .returning ∧ w' = w := by
  refine callsD_of_wpS Try.func64 rfl fun c₀ cs hu => ?_
  apply wpS_seq
  apply wpS_region
  simp [wpOpsS, go_sem, recoverD, hu, Try.ntmps64, Exit.thenS]
  refine wpS_of_wp ?_
  go_wp2
  cases c₀
  simp_all [bodyPostS, results, Try.results64]

set_option maxRecDepth 100000 in
set_option maxHeartbeats 1000000 in
theorem tried_yes1 {w : World} (k1 k2 : Value) (R : World → Prop) (hC : Calls Try.prog 43 #[k1, k2] (w.alloc (.cells #[.bool false] 4)) fun e w' => e = .returned (.tuple #[]) ∧ R w') (hR : ∀ w', R w' → w'.cell? ⟨w.heap.size, 0, none⟩ = some (.bool false) ∧ w'.frozen? ⟨w.heap.size, 0, none⟩ = false) :
    Calls Try.prog 42 #[.func (.func 43) #[] #[k1, k2]] w fun e w' => e = .returned (.bool true) ∧ ∃ w1, R w1 ∧ w' = w1.setCell ⟨w.heap.size, 0, none⟩ (.bool true) := by
  have hmf : ∀ (fn : Fn) (first cap : Array Value) (w : World), (Instr.makeFunc fn first cap).run Try.prog w = .ok (.func fn first cap) w := fun _ _ _ _ => rfl
  have HC : Hid (Calls Try.prog 43 #[k1, k2] (w.alloc (.cells #[.bool false] 4)) fun e w' => e = .returned (.tuple #[]) ∧ R w') := hC
  have HR : Hid (∀ w', R w' → w'.cell? ⟨w.heap.size, 0, none⟩ = some (.bool false) ∧ w'.frozen? ⟨w.heap.size, 0, none⟩ = false) := hR
  clear hC hR
  go_enter_defers Try.func42, Try.ntmps42
  go_wp2_with (go_at_call 43; refine HC.out.mono ?_; rintro e w1 ⟨rfl, h1⟩; obtain ⟨x0, f0⟩ := HR.out w1 h1; have H1 : Hid (R w1) := h1; clear h1)
  refine leaves_cons (f := 64) (args := #[.pointer (some ⟨w.heap.size, 0, none⟩)]) (by simp) (by simp [go_sem]) ?_
  refine catch_idle.mono ?_
  rintro e u' w' ⟨rfl, rfl, rfl⟩
  have y0 : (w1.setCell ⟨w.heap.size, 0, none⟩ (.bool true)).cell? ⟨w.heap.size, 0, none⟩ = some (.bool true) := World.cell?_setCell_same _ _ _ x0
  refine ⟨.bool true, ?_, rfl, w1, H1.out, rfl⟩
  simp only [results, Try.results42]
  simp [go_sem, y0]

set_option maxRecDepth 100000 in
set_option maxHeartbeats 1000000 in
theorem tried_no1 {w : World} (k1 k2 : Value) (hC : Calls Try.prog 43 #[k1, k2] (w.alloc (.cells #[.bool false] 4)) fun e w' => e = leftV ∧ Below (w.alloc (.cells #[.bool false] 4)).heap.size (w.alloc (.cells #[.bool false] 4)) w') :
    Calls Try.prog 42 #[.func (.func 43) #[] #[k1, k2]] w fun e w' => e = .returned (.bool false) ∧ Below w.heap.size w w' := by
  have hmf : ∀ (fn : Fn) (first cap : Array Value) (w : World), (Instr.makeFunc fn first cap).run Try.prog w = .ok (.func fn first cap) w := fun _ _ _ _ => rfl
  have HC : Hid (Calls Try.prog 43 #[k1, k2] (w.alloc (.cells #[.bool false] 4)) fun e w' => e = leftV ∧ Below (w.alloc (.cells #[.bool false] 4)).heap.size (w.alloc (.cells #[.bool false] 4)) w') := hC
  clear hC
  go_enter_defers Try.func42, Try.ntmps42
  go_wp2_with (go_at_call 43; refine HC.out.mono ?_; rintro e w1 ⟨rfl, b1⟩; have B1 : Hid (Below (w.alloc (.cells #[.bool false] 4)).heap.size (w.alloc (.cells #[.bool false] 4)) w1) := b1; clear b1)
  have x0 : w1.cell? ⟨w.heap.size, 0, none⟩ = some (.bool false) := bel_cell B1.out (World.cell?_alloc_new w _ _ 0)
  have f0 : w1.frozen? ⟨w.heap.size, 0, none⟩ = false := (World.frozen?_of_block (a := ⟨w.heap.size, 0, none⟩) (B1.out.block w.heap.size (by simp))).trans (World.frozen?_alloc_new w _ _ 0)
  refine leaves_cons (f := 64) (args := #[.pointer (some ⟨w.heap.size, 0, none⟩)]) (by simp) (by simp [go_sem]) ?_
  refine (catch_panic x0 f0 []).mono ?_
  rintro e u' w' ⟨rfl, rfl, rfl⟩
  have y0 : (w1.setCell ⟨w.heap.size, 0, none⟩ (.bool false)).cell? ⟨w.heap.size, 0, none⟩ = some (.bool false) := World.cell?_setCell_same _ _ _ x0
  refine ⟨.bool false, ?_, rfl, Below.setCell (bel_tr (bel_al _ _) B1.out) (Nat.le_refl _) _⟩
  simp only [results, Try.results42]
  simp [go_sem, y0]

set_option maxRecDepth 100000 in
set_option maxHeartbeats 1000000 in
theorem tried_yes2 {w : World} (k1 k2 k3 : Value) (R : World → Prop) (hC : Calls Try.prog 45 #[k1, k2, k3] (w.alloc (.cells #[.bool false] 4)) fun e w' => e = .returned (.tuple #[]) ∧ R w') (hR : ∀ w', R w' → w'.cell? ⟨w.heap.size, 0, none⟩ = some (.bool false) ∧ w'.frozen? ⟨w.heap.size, 0, none⟩ = false) :
    Calls Try.prog 42 #[.func (.func 45) #[] #[k1, k2, k3]] w fun e w' => e = .returned (.bool true) ∧ ∃ w1, R w1 ∧ w' = w1.setCell ⟨w.heap.size, 0, none⟩ (.bool true) := by
  have hmf : ∀ (fn : Fn) (first cap : Array Value) (w : World), (Instr.makeFunc fn first cap).run Try.prog w = .ok (.func fn first cap) w := fun _ _ _ _ => rfl
  have HC : Hid (Calls Try.prog 45 #[k1, k2, k3] (w.alloc (.cells #[.bool false] 4)) fun e w' => e = .returned (.tuple #[]) ∧ R w') := hC
  have HR : Hid (∀ w', R w' → w'.cell? ⟨w.heap.size, 0, none⟩ = some (.bool false) ∧ w'.frozen? ⟨w.heap.size, 0, none⟩ = false) := hR
  clear hC hR
  go_enter_defers Try.func42, Try.ntmps42
  go_wp2_with (go_at_call 45; refine HC.out.mono ?_; rintro e w1 ⟨rfl, h1⟩; obtain ⟨x0, f0⟩ := HR.out w1 h1; have H1 : Hid (R w1) := h1; clear h1)
  refine leaves_cons (f := 64) (args := #[.pointer (some ⟨w.heap.size, 0, none⟩)]) (by simp) (by simp [go_sem]) ?_
  refine catch_idle.mono ?_
  rintro e u' w' ⟨rfl, rfl, rfl⟩
  have y0 : (w1.setCell ⟨w.heap.size, 0, none⟩ (.bool true)).cell? ⟨w.heap.size, 0, none⟩ = some (.bool true) := World.cell?_setCell_same _ _ _ x0
  refine ⟨.bool true, ?_, rfl, w1, H1.out, rfl⟩
  simp only [results, Try.results42]
  simp [go_sem, y0]

set_option maxRecDepth 100000 in
set_option maxHeartbeats 1000000 in
theorem tried_no2 {w : World} (k1 k2 k3 : Value) (hC : Calls Try.prog 45 #[k1, k2, k3] (w.alloc (.cells #[.bool false] 4)) fun e w' => e = leftV ∧ Below (w.alloc (.cells #[.bool false] 4)).heap.size (w.alloc (.cells #[.bool false] 4)) w') :
    Calls Try.prog 42 #[.func (.func 45) #[] #[k1, k2, k3]] w fun e w' => e = .returned (.bool false) ∧ Below w.heap.size w w' := by
  have hmf : ∀ (fn : Fn) (first cap : Array Value) (w : World), (Instr.makeFunc fn first cap).run Try.prog w = .ok (.func fn first cap) w := fun _ _ _ _ => rfl
  have HC : Hid (Calls Try.prog 45 #[k1, k2, k3] (w.alloc (.cells #[.bool false] 4)) fun e w' => e = leftV ∧ Below (w.alloc (.cells #[.bool false] 4)).heap.size (w.alloc (.cells #[.bool false] 4)) w') := hC
  clear hC
  go_enter_defers Try.func42, Try.ntmps42
  go_wp2_with (go_at_call 45; refine HC.out.mono ?_; rintro e w1 ⟨rfl, b1⟩; have B1 : Hid (Below (w.alloc (.cells #[.bool false] 4)).heap.size (w.alloc (.cells #[.bool false] 4)) w1) := b1; clear b1)
  have x0 : w1.cell? ⟨w.heap.size, 0, none⟩ = some (.bool false) := bel_cell B1.out (World.cell?_alloc_new w _ _ 0)
  have f0 : w1.frozen? ⟨w.heap.size, 0, none⟩ = false := (World.frozen?_of_block (a := ⟨w.heap.size, 0, none⟩) (B1.out.block w.heap.size (by simp))).trans (World.frozen?_alloc_new w _ _ 0)
  refine leaves_cons (f := 64) (args := #[.pointer (some ⟨w.heap.size, 0, none⟩)]) (by simp) (by simp [go_sem]) ?_
  refine (catch_panic x0 f0 []).mono ?_
  rintro e u' w' ⟨rfl, rfl, rfl⟩
  have y0 : (w1.setCell ⟨w.heap.size, 0, none⟩ (.bool false)).cell? ⟨w.heap.size, 0, none⟩ = some (.bool false) := World.cell?_setCell_same _ _ _ x0
  refine ⟨.bool false, ?_, rfl, Below.setCell (bel_tr (bel_al _ _) B1.out) (Nat.le_refl _) _⟩
  simp only [results, Try.results42]
  simp [go_sem, y0]

/-! ### the closures -/
set_option maxRecDepth 100000 in
set_option maxHeartbeats 1000000 in
theorem cl1_yes (b : ByteArray) (hb : b.size ≤ maxLen) (n : Int) (r : ByteArray) (h : epochP b = some (n, r)) {w : World} {lf lb : Nat} {u : Value} (c0 : w.cell? ⟨lf, 0, none⟩ = some (.string b)) (f0 : w.frozen? ⟨lf, 0, none⟩ = false) (c1 : w.cell? ⟨lb, 0, none⟩ = some u) (f1 : w.frozen? ⟨lb, 0, none⟩ = false) (hne : lf ≠ lb) :
    Calls Try.prog 43 #[.pointer (some ⟨lf, 0, none⟩), .pointer (some ⟨lb, 0, none⟩)] w fun e w' => e = .returned (.tuple #[]) ∧ ∃ w1, Below w.heap.size w w1 ∧ w' = (w1.setCell ⟨lb, 0, none⟩ (.int .i64 n)).setCell ⟨lf, 0, none⟩ (.string r) := by
  have HE : Hid (Calls Try.prog 44 #[.string b] w fun e w' => e = .returned (.tuple #[.int .i64 n, .string r]) ∧ Below w.heap.size w w') := takeEpoch_yes b hb n r h w
  have l0 := World.block_lt_of_cell? _ _ c0
  have l1 := World.block_lt_of_cell? _ _ c1
  have hst := fun (w : World) (a : Addr) (x : ByteArray) (m : Mode) => run_store (P := Try.prog) w a (.string x) m rfl
  have hne2 : ¬ lb = lf := fun e => hne e.symm
  clear h
  go_enter Try.func43, Try.ntmps43
  go_wp2_with (go_at_call 44; refine HE.out.mono ?_; rintro e w1 ⟨rfl, b1⟩; have d0 := bel_cell b1 c0; have d1 := bel_cell b1 c1; have g0 : w1.frozen? ⟨lf, 0, none⟩ = false := (World.frozen?_of_block (a := ⟨lf, 0, none⟩) (b1.block lf l0)).trans f0; have g1 : w1.frozen? ⟨lb, 0, none⟩ = false := (World.frozen?_of_block (a := ⟨lb, 0, none⟩) (b1.block lb l1)).trans f1; have B1 : Hid (Below w.heap.size w w1) := b1; clear b1 c0 c1 f0 f1)
  refine bodyPost_end (results_none rfl _ _ _) rfl ?_
  exact ⟨rfl, w1, B1.out, rfl⟩
set_option maxRecDepth 100000 in
set_option maxHeartbeats 1000000 in
theorem cl1_no (b : ByteArray) (hb : b.size ≤ maxLen) (h : epochP b = none) {w : World} {lf lb : Nat} (c0 : w.cell? ⟨lf, 0, none⟩ = some (.string b)) :
    Calls Try.prog 43 #[.pointer (some ⟨lf, 0, none⟩), .pointer (some ⟨lb, 0, none⟩)] w fun e w' => e = leftV ∧ Below w.heap.size w w' := by
  have HE : Hid (Calls Try.prog 44 #[.string b] w fun e w' => e = leftV ∧ Below w.heap.size w w') := takeEpoch_no b hb h w
  clear h
  go_enter Try.func43, Try.ntmps43
  go_wp2_with (go_at_call 44; refine HE.out.mono ?_; rintro e w1 ⟨rfl, b1⟩; have B1 : Hid (Below w.heap.size w w1) := b1; clear b1)
  exact ⟨rfl, rfl, B1.out⟩
set_option maxRecDepth 100000 in
set_option maxHeartbeats 1000000 in
theorem cl2_yes (b : ByteArray) (hb : b.size ≤ maxLen) (k : Nat) (hk : k ≤ 300) (d r : ByteArray) (h : entryP b ((k + 1 : Nat) : Int) = some (d, r)) {w : World} {lf lb xb : Nat} {a : Option Addr} {c : Nat} {u v : Value} (c0 : w.cell? ⟨lf, 0, none⟩ = some (.string b)) (f0 : w.frozen? ⟨lf, 0, none⟩ = false) (c1 : w.cell? ⟨lb, 1, none⟩ = some (.slice a k c)) (c2 : w.cell? ⟨xb, 0, none⟩ = some u) (c3 : w.cell? ⟨xb, 1, none⟩ = some v) (f2 : w.frozen? ⟨xb, 0, none⟩ = false) (f3 : w.frozen? ⟨xb, 1, none⟩ = false) (hne : lf ≠ xb) :
    Calls Try.prog 45 #[.pointer (some ⟨lf, 0, none⟩), .pointer (some ⟨lb, 0, none⟩), .pointer (some ⟨xb, 0, none⟩)] w fun e w' => e = .returned (.tuple #[]) ∧ ∃ w1, Below w.heap.size w w1 ∧ w' = ((w1.setCell ⟨xb, 0, none⟩ (.int .i64 ((k + 1 : Nat) : Int))).setCell ⟨xb, 1, none⟩ (.string d)).setCell ⟨lf, 0, none⟩ (.string r) := by
  obtain ⟨I, hI⟩ : ∃ I : Int, ((k + 1 : Nat) : Int) = I := ⟨_, rfl⟩
  have hI2 : (k : Int) + 1 = I := by omega
  rw [hI] at h ⊢
  have HE : Hid (Calls Try.prog 46 #[.string b, .int .i64 I] w fun e w' => e = .returned (.tuple #[.agg #[.int .i64 I, .string d], .string r]) ∧ Below w.heap.size w w') := takeEntry_yes b hb I d r h w
  have l0 := World.block_lt_of_cell? _ _ c0
  have l2 := World.block_lt_of_cell? _ _ c2
  have hst := fun (w : World) (a : Addr) (x : ByteArray) (m : Mode) => run_store (P := Try.prog) w a (.string x) m rfl
  have hne2 : ¬ xb = lf := fun e => hne e.symm
  clear h hI
  go_enter Try.func45, Try.ntmps45
  go_wp2_with (go_at_call 46; refine HE.out.mono ?_; rintro e w1 ⟨rfl, b1⟩; have d0 := bel_cell b1 c0; have d2 := bel_cell b1 c2; have d3 := bel_cell b1 c3; have g0 : w1.frozen? ⟨lf, 0, none⟩ = false := (World.frozen?_of_block (a := ⟨lf, 0, none⟩) (b1.block lf l0)).trans f0; have g2 : w1.frozen? ⟨xb, 0, none⟩ = false := (World.frozen?_of_block (a := ⟨xb, 0, none⟩) (b1.block xb l2)).trans f2; have g3 : w1.frozen? ⟨xb, 1, none⟩ = false := (World.frozen?_of_block (a := ⟨xb, 1, none⟩) (b1.block xb l2)).trans f3; have B1 : Hid (Below w.heap.size w w1) := b1; clear b1 c0 c1 c2 c3 f0 f2 f3)
  refine bodyPost_end (results_none rfl _ _ _) rfl ?_
  exact ⟨rfl, w1, B1.out, rfl⟩
set_option maxRecDepth 100000 in
set_option maxHeartbeats 1000000 in
theorem cl2_no (b : ByteArray) (hb : b.size ≤ maxLen) (k : Nat) (hk : k ≤ 300) (h : entryP b ((k + 1 : Nat) : Int) = none) {w : World} {lf lb xb : Nat} {a : Option Addr} {c : Nat} (c0 : w.cell? ⟨lf, 0, none⟩ = some (.string b)) (c1 : w.cell? ⟨lb, 1, none⟩ = some (.slice a k c)) :
    Calls Try.prog 45 #[.pointer (some ⟨lf, 0, none⟩), .pointer (some ⟨lb, 0, none⟩), .pointer (some ⟨xb, 0, none⟩)] w fun e w' => e = leftV ∧ Below w.heap.size w w' := by
  obtain ⟨I, hI⟩ : ∃ I : Int, ((k + 1 : Nat) : Int) = I := ⟨_, rfl⟩
  have hI2 : (k : Int) + 1 = I := by omega
  rw [hI] at h
  have HE : Hid (Calls Try.prog 46 #[.string b, .int .i64 I] w fun e w' => e = leftV ∧ Below w.heap.size w w') := takeEntry_no b hb I h w
  clear h hI
  go_enter Try.func45, Try.ntmps45
  go_wp2_with (go_at_call 46; refine HE.out.mono ?_; rintro e w1 ⟨rfl, b1⟩; have B1 : Hid (Below w.heap.size w w1) := b1; clear b1)
  exact ⟨rfl, rfl, B1.out⟩

end Go.Proofs.Ytokldcifhjkmnaa.Lgg
