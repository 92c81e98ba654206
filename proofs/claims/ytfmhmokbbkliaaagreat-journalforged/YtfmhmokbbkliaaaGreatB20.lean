/- Part 20 of the proof: LogH, LogI, LogP, LogL, LogS, LogX, LogO, LogT, LogU. -/
import Derived.Test.YtfmhmokbbkliaaaGreatB04
import Derived.Test.YtfmhmokbbkliaaaGreatB19
import Derived.BigQuiet
import Derived.Deep.AppendSrc
import Derived.Deep.RegionLaw
import Derived.Defers
import Derived.Lib.MinMax
import Derived.Lib.QuietBelow
import Derived.Recover

/- The contracts of Load's closures and of tried. -/
namespace Go.Proofs.YtfmhmokbbkliaaaGreat.Lgg
open Go.RowKit Go.Proofs.YtfmhmokbbkliaaaGreat
set_option linter.unusedVariables false

set_option maxRecDepth 100000 in
theorem catch_panic {R : Nat} {w : World} {u : Value} (h : w.cell? ⟨R, 0, none⟩ = some u) (f : w.frozen? ⟨R, 0, none⟩ = false) (older : List PanicEntry) :
    CallsD Tryz.prog 153 #[.pointer (some ⟨R, 0, none⟩)] (.panicking ({ v := .iface 26 (.int .i64 2), recovered := false } :: older)) w fun e u' w' =>
      e = .returned (.tuple #[]) ∧ u' = .panicking ({ v := .iface 26 (.int .i64 2), recovered := true } :: older) ∧ w' = w.setCell ⟨R, 0, none⟩ (.bool false) := by
  refine callsD_of_wpS Tryz.func153 rfl fun c₀ cs hu => ?_
  apply wpS_seq
  apply wpS_region
  simp [wpOpsS, go_sem, recoverD, hu, Tryz.ntmps153, Exit.thenS]
  refine wpS_of_wp ?_
  go_wp2
  exact ⟨rfl, _, rfl, .tuple #[], by simp [results, Tryz.results153], rfl, rfl, rfl⟩
set_option maxRecDepth 100000 in
theorem catch_idle {R : Nat} {w : World} :
    CallsD Tryz.prog 153 #[.pointer (some ⟨R, 0, none⟩)] .returning w fun e u' w' => e = .returned (.tuple #[]) ∧ u' = .returning ∧ w' = w := by
  refine callsD_of_wpS Tryz.func153 rfl fun c₀ cs hu => ?_
  apply wpS_seq
  apply wpS_region
  simp [wpOpsS, go_sem, recoverD, hu, Tryz.ntmps153, Exit.thenS]
  refine wpS_of_wp ?_
  go_wp2
  cases c₀
  simp_all [bodyPostS, results, Tryz.results153]

set_option maxRecDepth 100000 in
set_option maxHeartbeats 1000000 in
theorem tried_yes1 {w : World} (k1 k2 : Value) (R : World → Prop) (hC : Calls Tryz.prog 131 #[k1, k2] (w.alloc (.cells #[.bool false] 4)) fun e w' => e = .returned (.tuple #[]) ∧ R w') (hR : ∀ w', R w' → w'.cell? ⟨w.heap.size, 0, none⟩ = some (.bool false) ∧ w'.frozen? ⟨w.heap.size, 0, none⟩ = false) :
    Calls Tryz.prog 130 #[.func (.func 131) #[] #[k1, k2]] w fun e w' => e = .returned (.bool true) ∧ ∃ w1, R w1 ∧ w' = w1.setCell ⟨w.heap.size, 0, none⟩ (.bool true) := by
  have hmf : ∀ (fn : Fn) (first cap : Array Value) (w : World), (Instr.makeFunc fn first cap).run Tryz.prog w = .ok (.func fn first cap) w := fun _ _ _ _ => rfl
  have HC : Hid (Calls Tryz.prog 131 #[k1, k2] (w.alloc (.cells #[.bool false] 4)) fun e w' => e = .returned (.tuple #[]) ∧ R w') := hC
  have HR : Hid (∀ w', R w' → w'.cell? ⟨w.heap.size, 0, none⟩ = some (.bool false) ∧ w'.frozen? ⟨w.heap.size, 0, none⟩ = false) := hR
  clear hC hR
  go_enter_defers Tryz.func130, Tryz.ntmps130
  go_wp2_with (go_at_call 131; refine HC.out.mono ?_; rintro e w1 ⟨rfl, h1⟩; obtain ⟨x0, f0⟩ := HR.out w1 h1; have H1 : Hid (R w1) := h1; clear h1)
  refine leaves_cons (f := 153) (args := #[.pointer (some ⟨w.heap.size, 0, none⟩)]) (by simp) (by simp [go_sem]) ?_
  refine catch_idle.mono ?_
  rintro e u' w' ⟨rfl, rfl, rfl⟩
  have y0 : (w1.setCell ⟨w.heap.size, 0, none⟩ (.bool true)).cell? ⟨w.heap.size, 0, none⟩ = some (.bool true) := World.cell?_setCell_same _ _ _ x0
  refine ⟨.bool true, ?_, rfl, w1, H1.out, rfl⟩
  simp only [results, Tryz.results130]
  simp [go_sem, y0]

set_option maxRecDepth 100000 in
set_option maxHeartbeats 1000000 in
theorem tried_no1 {w : World} (k1 k2 : Value) (hC : Calls Tryz.prog 131 #[k1, k2] (w.alloc (.cells #[.bool false] 4)) fun e w' => e = leftV ∧ Below (w.alloc (.cells #[.bool false] 4)).heap.size (w.alloc (.cells #[.bool false] 4)) w') :
    Calls Tryz.prog 130 #[.func (.func 131) #[] #[k1, k2]] w fun e w' => e = .returned (.bool false) ∧ Below w.heap.size w w' := by
  have hmf : ∀ (fn : Fn) (first cap : Array Value) (w : World), (Instr.makeFunc fn first cap).run Tryz.prog w = .ok (.func fn first cap) w := fun _ _ _ _ => rfl
  have HC : Hid (Calls Tryz.prog 131 #[k1, k2] (w.alloc (.cells #[.bool false] 4)) fun e w' => e = leftV ∧ Below (w.alloc (.cells #[.bool false] 4)).heap.size (w.alloc (.cells #[.bool false] 4)) w') := hC
  clear hC
  go_enter_defers Tryz.func130, Tryz.ntmps130
  go_wp2_with (go_at_call 131; refine HC.out.mono ?_; rintro e w1 ⟨rfl, b1⟩; have B1 : Hid (Below (w.alloc (.cells #[.bool false] 4)).heap.size (w.alloc (.cells #[.bool false] 4)) w1) := b1; clear b1)
  have x0 : w1.cell? ⟨w.heap.size, 0, none⟩ = some (.bool false) := bel_cell B1.out (World.cell?_alloc_new w _ _ 0)
  have f0 : w1.frozen? ⟨w.heap.size, 0, none⟩ = false := (World.frozen?_of_block (a := ⟨w.heap.size, 0, none⟩) (B1.out.block w.heap.size (by simp))).trans (World.frozen?_alloc_new w _ _ 0)
  refine leaves_cons (f := 153) (args := #[.pointer (some ⟨w.heap.size, 0, none⟩)]) (by simp) (by simp [go_sem]) ?_
  refine (catch_panic x0 f0 []).mono ?_
  rintro e u' w' ⟨rfl, rfl, rfl⟩
  have y0 : (w1.setCell ⟨w.heap.size, 0, none⟩ (.bool false)).cell? ⟨w.heap.size, 0, none⟩ = some (.bool false) := World.cell?_setCell_same _ _ _ x0
  refine ⟨.bool false, ?_, rfl, Below.setCell (bel_tr (bel_al _ _) B1.out) (Nat.le_refl _) _⟩
  simp only [results, Tryz.results130]
  simp [go_sem, y0]

set_option maxRecDepth 100000 in
set_option maxHeartbeats 1000000 in
theorem tried_yes2 {w : World} (k1 k2 k3 : Value) (R : World → Prop) (hC : Calls Tryz.prog 133 #[k1, k2, k3] (w.alloc (.cells #[.bool false] 4)) fun e w' => e = .returned (.tuple #[]) ∧ R w') (hR : ∀ w', R w' → w'.cell? ⟨w.heap.size, 0, none⟩ = some (.bool false) ∧ w'.frozen? ⟨w.heap.size, 0, none⟩ = false) :
    Calls Tryz.prog 130 #[.func (.func 133) #[] #[k1, k2, k3]] w fun e w' => e = .returned (.bool true) ∧ ∃ w1, R w1 ∧ w' = w1.setCell ⟨w.heap.size, 0, none⟩ (.bool true) := by
  have hmf : ∀ (fn : Fn) (first cap : Array Value) (w : World), (Instr.makeFunc fn first cap).run Tryz.prog w = .ok (.func fn first cap) w := fun _ _ _ _ => rfl
  have HC : Hid (Calls Tryz.prog 133 #[k1, k2, k3] (w.alloc (.cells #[.bool false] 4)) fun e w' => e = .returned (.tuple #[]) ∧ R w') := hC
  have HR : Hid (∀ w', R w' → w'.cell? ⟨w.heap.size, 0, none⟩ = some (.bool false) ∧ w'.frozen? ⟨w.heap.size, 0, none⟩ = false) := hR
  clear hC hR
  go_enter_defers Tryz.func130, Tryz.ntmps130
  go_wp2_with (go_at_call 133; refine HC.out.mono ?_; rintro e w1 ⟨rfl, h1⟩; obtain ⟨x0, f0⟩ := HR.out w1 h1; have H1 : Hid (R w1) := h1; clear h1)
  refine leaves_cons (f := 153) (args := #[.pointer (some ⟨w.heap.size, 0, none⟩)]) (by simp) (by simp [go_sem]) ?_
  refine catch_idle.mono ?_
  rintro e u' w' ⟨rfl, rfl, rfl⟩
  have y0 : (w1.setCell ⟨w.heap.size, 0, none⟩ (.bool true)).cell? ⟨w.heap.size, 0, none⟩ = some (.bool true) := World.cell?_setCell_same _ _ _ x0
  refine ⟨.bool true, ?_, rfl, w1, H1.out, rfl⟩
  simp only [results, Tryz.results130]
  simp [go_sem, y0]

set_option maxRecDepth 100000 in
set_option maxHeartbeats 1000000 in
theorem tried_no2 {w : World} (k1 k2 k3 : Value) (hC : Calls Tryz.prog 133 #[k1, k2, k3] (w.alloc (.cells #[.bool false] 4)) fun e w' => e = leftV ∧ Below (w.alloc (.cells #[.bool false] 4)).heap.size (w.alloc (.cells #[.bool false] 4)) w') :
    Calls Tryz.prog 130 #[.func (.func 133) #[] #[k1, k2, k3]] w fun e w' => e = .returned (.bool false) ∧ Below w.heap.size w w' := by
  have hmf : ∀ (fn : Fn) (first cap : Array Value) (w : World), (Instr.makeFunc fn first cap).run Tryz.prog w = .ok (.func fn first cap) w := fun _ _ _ _ => rfl
  have HC : Hid (Calls Tryz.prog 133 #[k1, k2, k3] (w.alloc (.cells #[.bool false] 4)) fun e w' => e = leftV ∧ Below (w.alloc (.cells #[.bool false] 4)).heap.size (w.alloc (.cells #[.bool false] 4)) w') := hC
  clear hC
  go_enter_defers Tryz.func130, Tryz.ntmps130
  go_wp2_with (go_at_call 133; refine HC.out.mono ?_; rintro e w1 ⟨rfl, b1⟩; have B1 : Hid (Below (w.alloc (.cells #[.bool false] 4)).heap.size (w.alloc (.cells #[.bool false] 4)) w1) := b1; clear b1)
  have x0 : w1.cell? ⟨w.heap.size, 0, none⟩ = some (.bool false) := bel_cell B1.out (World.cell?_alloc_new w _ _ 0)
  have f0 : w1.frozen? ⟨w.heap.size, 0, none⟩ = false := (World.frozen?_of_block (a := ⟨w.heap.size, 0, none⟩) (B1.out.block w.heap.size (by simp))).trans (World.frozen?_alloc_new w _ _ 0)
  refine leaves_cons (f := 153) (args := #[.pointer (some ⟨w.heap.size, 0, none⟩)]) (by simp) (by simp [go_sem]) ?_
  refine (catch_panic x0 f0 []).mono ?_
  rintro e u' w' ⟨rfl, rfl, rfl⟩
  have y0 : (w1.setCell ⟨w.heap.size, 0, none⟩ (.bool false)).cell? ⟨w.heap.size, 0, none⟩ = some (.bool false) := World.cell?_setCell_same _ _ _ x0
  refine ⟨.bool false, ?_, rfl, Below.setCell (bel_tr (bel_al _ _) B1.out) (Nat.le_refl _) _⟩
  simp only [results, Tryz.results130]
  simp [go_sem, y0]

/-! ### the closures -/
set_option maxRecDepth 100000 in
set_option maxHeartbeats 1000000 in
theorem cl1_yes (b : ByteArray) (hb : b.size ≤ maxLen) (n : Int) (r : ByteArray) (h : epochP b = some (n, r)) {w : World} {lf lb : Nat} {u : Value} (c0 : w.cell? ⟨lf, 0, none⟩ = some (.string b)) (f0 : w.frozen? ⟨lf, 0, none⟩ = false) (c1 : w.cell? ⟨lb, 0, none⟩ = some u) (f1 : w.frozen? ⟨lb, 0, none⟩ = false) (hne : lf ≠ lb) :
    Calls Tryz.prog 131 #[.pointer (some ⟨lf, 0, none⟩), .pointer (some ⟨lb, 0, none⟩)] w fun e w' => e = .returned (.tuple #[]) ∧ ∃ w1, Below w.heap.size w w1 ∧ w' = (w1.setCell ⟨lb, 0, none⟩ (.int .i64 n)).setCell ⟨lf, 0, none⟩ (.string r) := by
  have HE : Hid (Calls Tryz.prog 132 #[.string b] w fun e w' => e = .returned (.tuple #[.int .i64 n, .string r]) ∧ Below w.heap.size w w') := takeEpoch_yes b hb n r h w
  have l0 := World.block_lt_of_cell? _ _ c0
  have l1 := World.block_lt_of_cell? _ _ c1
  have hst := fun (w : World) (a : Addr) (x : ByteArray) (m : Mode) => run_store (P := Tryz.prog) w a (.string x) m rfl
  have hne2 : ¬ lb = lf := fun e => hne e.symm
  clear h
  go_enter Tryz.func131, Tryz.ntmps131
  go_wp2_with (go_at_call 132; refine HE.out.mono ?_; rintro e w1 ⟨rfl, b1⟩; have d0 := bel_cell b1 c0; have d1 := bel_cell b1 c1; have g0 : w1.frozen? ⟨lf, 0, none⟩ = false := (World.frozen?_of_block (a := ⟨lf, 0, none⟩) (b1.block lf l0)).trans f0; have g1 : w1.frozen? ⟨lb, 0, none⟩ = false := (World.frozen?_of_block (a := ⟨lb, 0, none⟩) (b1.block lb l1)).trans f1; have B1 : Hid (Below w.heap.size w w1) := b1; clear b1 c0 c1 f0 f1)
  refine bodyPost_end (results_none rfl _ _ _) rfl ?_
  exact ⟨rfl, w1, B1.out, rfl⟩
set_option maxRecDepth 100000 in
set_option maxHeartbeats 1000000 in
theorem cl1_no (b : ByteArray) (hb : b.size ≤ maxLen) (h : epochP b = none) {w : World} {lf lb : Nat} (c0 : w.cell? ⟨lf, 0, none⟩ = some (.string b)) :
    Calls Tryz.prog 131 #[.pointer (some ⟨lf, 0, none⟩), .pointer (some ⟨lb, 0, none⟩)] w fun e w' => e = leftV ∧ Below w.heap.size w w' := by
  have HE : Hid (Calls Tryz.prog 132 #[.string b] w fun e w' => e = leftV ∧ Below w.heap.size w w') := takeEpoch_no b hb h w
  clear h
  go_enter Tryz.func131, Tryz.ntmps131
  go_wp2_with (go_at_call 132; refine HE.out.mono ?_; rintro e w1 ⟨rfl, b1⟩; have B1 : Hid (Below w.heap.size w w1) := b1; clear b1)
  exact ⟨rfl, rfl, B1.out⟩
set_option maxRecDepth 100000 in
set_option maxHeartbeats 1000000 in
theorem cl2_yes (b : ByteArray) (hb : b.size ≤ maxLen) (k : Nat) (hk : k ≤ 300) (d r : ByteArray) (h : entryP b ((k + 1 : Nat) : Int) = some (d, r)) {w : World} {lf lb xb : Nat} {a : Option Addr} {c : Nat} {u v : Value} (c0 : w.cell? ⟨lf, 0, none⟩ = some (.string b)) (f0 : w.frozen? ⟨lf, 0, none⟩ = false) (c1 : w.cell? ⟨lb, 1, none⟩ = some (.slice a k c)) (c2 : w.cell? ⟨xb, 0, none⟩ = some u) (c3 : w.cell? ⟨xb, 1, none⟩ = some v) (f2 : w.frozen? ⟨xb, 0, none⟩ = false) (f3 : w.frozen? ⟨xb, 1, none⟩ = false) (hne : lf ≠ xb) :
    Calls Tryz.prog 133 #[.pointer (some ⟨lf, 0, none⟩), .pointer (some ⟨lb, 0, none⟩), .pointer (some ⟨xb, 0, none⟩)] w fun e w' => e = .returned (.tuple #[]) ∧ ∃ w1, Below w.heap.size w w1 ∧ w' = ((w1.setCell ⟨xb, 0, none⟩ (.int .i64 ((k + 1 : Nat) : Int))).setCell ⟨xb, 1, none⟩ (.string d)).setCell ⟨lf, 0, none⟩ (.string r) := by
  obtain ⟨I, hI⟩ : ∃ I : Int, ((k + 1 : Nat) : Int) = I := ⟨_, rfl⟩
  have hI2 : (k : Int) + 1 = I := by omega
  rw [hI] at h ⊢
  have HE : Hid (Calls Tryz.prog 134 #[.string b, .int .i64 I] w fun e w' => e = .returned (.tuple #[.agg #[.int .i64 I, .string d], .string r]) ∧ Below w.heap.size w w') := takeEntry_yes b hb I d r h w
  have l0 := World.block_lt_of_cell? _ _ c0
  have l2 := World.block_lt_of_cell? _ _ c2
  have hst := fun (w : World) (a : Addr) (x : ByteArray) (m : Mode) => run_store (P := Tryz.prog) w a (.string x) m rfl
  have hne2 : ¬ xb = lf := fun e => hne e.symm
  clear h hI
  go_enter Tryz.func133, Tryz.ntmps133
  go_wp2_with (go_at_call 134; refine HE.out.mono ?_; rintro e w1 ⟨rfl, b1⟩; have d0 := bel_cell b1 c0; have d2 := bel_cell b1 c2; have d3 := bel_cell b1 c3; have g0 : w1.frozen? ⟨lf, 0, none⟩ = false := (World.frozen?_of_block (a := ⟨lf, 0, none⟩) (b1.block lf l0)).trans f0; have g2 : w1.frozen? ⟨xb, 0, none⟩ = false := (World.frozen?_of_block (a := ⟨xb, 0, none⟩) (b1.block xb l2)).trans f2; have g3 : w1.frozen? ⟨xb, 1, none⟩ = false := (World.frozen?_of_block (a := ⟨xb, 1, none⟩) (b1.block xb l2)).trans f3; have B1 : Hid (Below w.heap.size w w1) := b1; clear b1 c0 c1 c2 c3 f0 f2 f3)
  refine bodyPost_end (results_none rfl _ _ _) rfl ?_
  exact ⟨rfl, w1, B1.out, rfl⟩
set_option maxRecDepth 100000 in
set_option maxHeartbeats 1000000 in
theorem cl2_no (b : ByteArray) (hb : b.size ≤ maxLen) (k : Nat) (hk : k ≤ 300) (h : entryP b ((k + 1 : Nat) : Int) = none) {w : World} {lf lb xb : Nat} {a : Option Addr} {c : Nat} (c0 : w.cell? ⟨lf, 0, none⟩ = some (.string b)) (c1 : w.cell? ⟨lb, 1, none⟩ = some (.slice a k c)) :
    Calls Tryz.prog 133 #[.pointer (some ⟨lf, 0, none⟩), .pointer (some ⟨lb, 0, none⟩), .pointer (some ⟨xb, 0, none⟩)] w fun e w' => e = leftV ∧ Below w.heap.size w w' := by
  obtain ⟨I, hI⟩ : ∃ I : Int, ((k + 1 : Nat) : Int) = I := ⟨_, rfl⟩
  have hI2 : (k : Int) + 1 = I := by omega
  rw [hI] at h
  have HE : Hid (Calls Tryz.prog 134 #[.string b, .int .i64 I] w fun e w' => e = leftV ∧ Below w.heap.size w w') := takeEntry_no b hb I h w
  clear h hI
  go_enter Tryz.func133, Tryz.ntmps133
  go_wp2_with (go_at_call 134; refine HE.out.mono ?_; rintro e w1 ⟨rfl, b1⟩; have B1 : Hid (Below w.heap.size w w1) := b1; clear b1)
  exact ⟨rfl, rfl, B1.out⟩

end Go.Proofs.YtfmhmokbbkliaaaGreat.Lgg

/- The contract of log.Load. -/
namespace Go.Proofs.YtfmhmokbbkliaaaGreat.Lgg
open Go.RowKit Go.Proofs.YtfmhmokbbkliaaaGreat
set_option linter.unusedVariables false

/-- Load's boxes: the log, what is left, an entry. -/
structure Bx (W : World) (lb lf xb : Nat) (n : Int) (s : Value) (b : ByteArray) (u v : Value) : Prop where
  c0 : W.cell? ⟨lb, 0, none⟩ = some (.int .i64 n)
  c1 : W.cell? ⟨lb, 1, none⟩ = some s
  c2 : W.cell? ⟨lf, 0, none⟩ = some (.string b)
  c3 : W.cell? ⟨xb, 0, none⟩ = some u
  c4 : W.cell? ⟨xb, 1, none⟩ = some v
  f0 : ∀ j, W.frozen? ⟨lb, j, none⟩ = false
  f2 : W.frozen? ⟨lf, 0, none⟩ = false
  f3 : ∀ j, W.frozen? ⟨xb, j, none⟩ = false
  lt : lb < lf ∧ lf < xb ∧ xb < W.heap.size

section
variable {W W' : World} {lb lf xb : Nat} {n : Int} {s : Value} {b : ByteArray} {u v : Value}
theorem Bx.stay {O : Nat → Prop} (h : Bx W lb lf xb n s b u v) (hs : Stay O W W') (hO : ∀ k, O k → xb < k) : Bx W' lb lf xb n s b u v := by
  obtain ⟨l1, l2, l3⟩ := h.lt
  have k0 := hs.block lb (by omega) (fun e => by have := hO _ e; omega)
  have k1 := hs.block lf (by omega) (fun e => by have := hO _ e; omega)
  have k2 := hs.block xb (by omega) (fun e => by have := hO _ e; omega)
  exact ⟨(World.cell?_of_block (a := ⟨lb, 0, none⟩) k0).trans h.c0, (World.cell?_of_block (a := ⟨lb, 1, none⟩) k0).trans h.c1, (World.cell?_of_block (a := ⟨lf, 0, none⟩) k1).trans h.c2, (World.cell?_of_block (a := ⟨xb, 0, none⟩) k2).trans h.c3, (World.cell?_of_block (a := ⟨xb, 1, none⟩) k2).trans h.c4,
    fun j => (World.frozen?_of_block (a := ⟨lb, j, none⟩) k0).trans (h.f0 j), (World.frozen?_of_block (a := ⟨lf, 0, none⟩) k1).trans h.f2, fun j => (World.frozen?_of_block (a := ⟨xb, j, none⟩) k2).trans (h.f3 j), ⟨l1, l2, Nat.lt_of_lt_of_le l3 hs.size⟩⟩
theorem Bx.below (h : Bx W lb lf xb n s b u v) (hb : Below W.heap.size W W') : Bx W' lb lf xb n s b u v := h.stay (O := fun _ => False) (Stay.of_below hb) (fun _ e => e.elim)
theorem other {w : World} {p q i j : Nat} {x y : Value} (hne : p ≠ q) (h : w.cell? ⟨p, i, none⟩ = some x) : (w.setCell ⟨q, j, none⟩ y).cell? ⟨p, i, none⟩ = some x := by
  rw [World.cell?_setCell_other _ _ _ _ (by intro e; injection e with e1; exact hne (by omega))]; exact h
theorem size_set (w : World) (a : Addr) (x : Value) : (w.setCell a x).heap.size = w.heap.size := by simp [World.setCell]
/-- What the second closure writes. -/
theorem Bx.taken (h : Bx W lb lf xb n s b u v) (u' v' : Value) (r : ByteArray) : Bx (((W.setCell ⟨xb, 0, none⟩ u').setCell ⟨xb, 1, none⟩ v').setCell ⟨lf, 0, none⟩ (.string r)) lb lf xb n s r u' v' := by
  obtain ⟨l1, l2, l3⟩ := h.lt
  obtain ⟨y0, y1⟩ := two_set (u' := u') (v' := v') h.c3 h.c4
  refine ⟨other (by omega) (other (by omega) (other (by omega) h.c0)), other (by omega) (other (by omega) (other (by omega) h.c1)), World.cell?_setCell_same _ _ _ (other (by omega) (other (by omega) h.c2)), other (by omega) y0, other (by omega) y1, fun j => ?_, ?_, fun j => ?_, ⟨l1, l2, by rw [size_set, size_set, size_set]; exact l3⟩⟩
  · rw [World.frozen?_setCell, World.frozen?_setCell, World.frozen?_setCell]; exact h.f0 j
  · rw [World.frozen?_setCell, World.frozen?_setCell, World.frozen?_setCell]; exact h.f2
  · rw [World.frozen?_setCell, World.frozen?_setCell, World.frozen?_setCell]; exact h.f3 j
/-- The entries are others. -/
theorem Bx.putS (h : Bx W lb lf xb n s b u v) (s' : Value) : Bx (W.setCell ⟨lb, 1, none⟩ s') lb lf xb n s' b u v := by
  obtain ⟨l1, l2, l3⟩ := h.lt
  refine ⟨cell_set (by omega) h.c0, World.cell?_setCell_same _ _ _ h.c1, other (by omega) h.c2, other (by omega) h.c3, other (by omega) h.c4, fun j => ?_, ?_, fun j => ?_, ⟨l1, l2, by rw [size_set]; exact l3⟩⟩
  · rw [World.frozen?_setCell]; exact h.f0 j
  · rw [World.frozen?_setCell]; exact h.f2
  · rw [World.frozen?_setCell]; exact h.f3 j
end

theorem stay_set (w : World) (p j : Nat) (x : Value) : Stay (fun k => k = p) w (w.setCell ⟨p, j, none⟩ x) := Stay.setCell w ⟨p, j, none⟩ x rfl
theorem info_e : ∃ j, Tryz.prog.info? 24 = some j ∧ j.zero = some (.agg #[.int .i64 0, .string ⟨#[]⟩]) ∧ j.size = 2 ∧ j.bytes = 24 :=
  info_parts (show (Tryz.prog.info? 24).map (fun i => (i.zero, i.size, i.bytes)) = some (some (.agg #[.int .i64 0, .string ⟨#[]⟩]), 2, 24) by kernel_rfl)

theorem goL_len : ∀ (f : Nat) (es : List En) (b : ByteArray), (goL f es b).1.length ≤ es.length + f
  | 0, es, b => by unfold goL; simp
  | f + 1, es, b => by
    unfold goL
    split
    · rename_i d r _
      have := goL_len f (es ++ [⟨((es.length + 1 : Nat) : Int), d⟩]) r
      simp at this
      simp; omega
    · simp
theorem entryP_size {b d r : ByteArray} {i : Int} (h : entryP b i = some (d, r)) : d.size ≤ 600 ∧ r.size ≤ b.size := by
  unfold entryP at h
  split at h
  · rename_i n d' r' hP
    split at h
    · rename_i hc
      cases h
      exact ⟨hc.2, (takeP_size hP).2⟩
    · cases h
  · cases h
theorem epochP_size {b r : ByteArray} {i : Int} (h : epochP b = some (i, r)) : r.size ≤ b.size := by
  unfold epochP at h
  split at h
  · rename_i n d' r' hP
    split at h
    · cases h
      exact (takeP_size hP).2
    · cases h
  · cases h

/-- How Load ends: a log in new memory. -/
structure LoadR (base : Nat) (l : Lg) (whole : Bool) (e : Ending) (w' : World) : Prop where
  ex : ∃ a c g, e = .returned (.tuple #[.agg #[.int .i64 l.ep, .slice a l.es.length c], .bool whole, .int .i64 0]) ∧ Cel (fun k => base ≤ k) w' 2 (.slice a l.es.length c) l.es.length (rowC enC l.es) g

/-- What the loop keeps. -/
structure Lp (w : World) (W : World) (lb lf xb : Nat) (n : Int) (es : List En) (k : Nat) (b : ByteArray) (tot : List En × ByteArray) : Prop where
  ex : ∃ a c g u v, Bx W lb lf xb n (.slice a k c) b u v ∧ Cel (fun q => xb < q) W 2 (.slice a k c) k (rowC enC es) g
  len : es.length = k
  le : k ≤ 300
  bel : Below w.heap.size w W
  go : goL (300 - k) es b = tot
  bm : b.size ≤ maxLen

theorem fin_w {w W : World} {lb lf xb : Nat} {n : Int} {a : Option Addr} {k c : Nat} {es : List En} {g : Option Nat} (h0 : W.cell? ⟨lb, 0, none⟩ = some (.int .i64 n)) (h1 : W.cell? ⟨lb, 1, none⟩ = some (.slice a k c)) (hC : Cel (fun q => xb < q) W 2 (.slice a k c) k (rowC enC es) g) (hl : lb < lf ∧ lf < xb ∧ xb < W.heap.size) (hb : Below w.heap.size w W) (hlb : lb = w.heap.size := by rfl) :
    ((W.setCell ⟨lb, 0, none⟩ (.int .i64 n)).setCell ⟨lb, 1, none⟩ (.slice a k c)).drew.cell? ⟨lb, 0, none⟩ = some (.int .i64 n) ∧ ((W.setCell ⟨lb, 0, none⟩ (.int .i64 n)).setCell ⟨lb, 1, none⟩ (.slice a k c)).drew.cell? ⟨lb, 1, none⟩ = some (.slice a k c) ∧ Cel (fun q => w.heap.size ≤ q) ((W.setCell ⟨lb, 0, none⟩ (.int .i64 n)).setCell ⟨lb, 1, none⟩ (.slice a k c)).drew 2 (.slice a k c) k (rowC enC es) g ∧ Below w.heap.size w ((W.setCell ⟨lb, 0, none⟩ (.int .i64 n)).setCell ⟨lb, 1, none⟩ (.slice a k c)).drew := by
  obtain ⟨z0, z1⟩ := two_set (u' := .int .i64 n) (v' := .slice a k c) h0 h1
  have hs : Stay (fun q => q = lb) W ((W.setCell ⟨lb, 0, none⟩ (.int .i64 n)).setCell ⟨lb, 1, none⟩ (.slice a k c)).drew := ((stay_set W lb 0 _).then_same (stay_set _ lb 1 _)).drew
  refine ⟨z0, z1, hC.stay hs.size (fun q hq => hs.block q (by rw [hq] at hC; exact hC.lt.1) (fun e => by rw [hq] at hC; have h9 : xb < q := hC.lt.2; omega)) (fun q hq => by have h9 : xb < q := hq; omega), hb.trans (hs.below hb.size (fun q hq => by omega))⟩
theorem taken_w {w wr w6 : World} {lb lf xb : Nat} {n : Int} {a : Option Addr} {k c : Nat} {es : List En} {g : Option Nat} {b : ByteArray} {u v : Value} (hB : Bx wr lb lf xb n (.slice a k c) b u v) (hC : Cel (fun q => xb < q) wr 2 (.slice a k c) k (rowC enC es) g) (hb : Below w.heap.size w wr) (k1 : Below wr.heap.size wr w6) (k2 : wr.heap.size < w6.heap.size) (u' v' : Value) (r : ByteArray) (hlb : lb = w.heap.size := by rfl) :
    Bx ((((w6.setCell ⟨xb, 0, none⟩ u').setCell ⟨xb, 1, none⟩ v').setCell ⟨lf, 0, none⟩ (.string r)).setCell ⟨wr.heap.size, 0, none⟩ (.bool true)) lb lf xb n (.slice a k c) r u' v' ∧ Cel (fun q => xb < q) ((((w6.setCell ⟨xb, 0, none⟩ u').setCell ⟨xb, 1, none⟩ v').setCell ⟨lf, 0, none⟩ (.string r)).setCell ⟨wr.heap.size, 0, none⟩ (.bool true)) 2 (.slice a k c) k (rowC enC es) g ∧ Below w.heap.size w ((((w6.setCell ⟨xb, 0, none⟩ u').setCell ⟨xb, 1, none⟩ v').setCell ⟨lf, 0, none⟩ (.string r)).setCell ⟨wr.heap.size, 0, none⟩ (.bool true)) := by
  have hl := hB.lt
  have h1 := (hB.below k1).taken u' v' r
  have h2 : Stay (fun q => q = wr.heap.size) (((w6.setCell ⟨xb, 0, none⟩ u').setCell ⟨xb, 1, none⟩ v').setCell ⟨lf, 0, none⟩ (.string r)) _ := stay_set _ wr.heap.size 0 (.bool true)
  have s3 : Stay (fun q => q = xb ∨ q = lf) w6 (((w6.setCell ⟨xb, 0, none⟩ u').setCell ⟨xb, 1, none⟩ v').setCell ⟨lf, 0, none⟩ (.string r)) := ((Stay.to (stay_set w6 xb 0 u') (fun q hq => .inl hq)).then_same (Stay.to (stay_set _ xb 1 v') (fun q hq => .inl hq))).then_same (Stay.to (stay_set _ lf 0 (.string r)) (fun q hq => .inr hq))
  have hC6 := hC.below k1
  have s4 : Stay (fun q => q = xb ∨ q = lf ∨ q = wr.heap.size) w6 ((((w6.setCell ⟨xb, 0, none⟩ u').setCell ⟨xb, 1, none⟩ v').setCell ⟨lf, 0, none⟩ (.string r)).setCell ⟨wr.heap.size, 0, none⟩ (.bool true)) := (Stay.to s3 (fun q hq => hq.elim .inl (fun e => .inr (.inl e)))).then_same (Stay.to h2 (fun q hq => .inr (.inr hq)))
  have hb6 := bel_tr hb k1
  refine ⟨h1.stay h2 (fun q hq => by omega), hC6.stay s4.size (fun q hq => s4.block q (by rw [hq] at hC6; exact hC6.lt.1) (fun e => ?_)) (fun _ e => e), hb6.trans (s4.below hb6.size (fun q hq => by rcases hq with e | e | e <;> omega))⟩
  rw [hq] at hC
  have h9 : xb < q := hC.lt.2
  have h10 := hC.lt.1
  rcases e with e | e | e <;> omega

theorem src_entry (w : World) (I : Int) (d : ByteArray) : Src Tryz.prog 2 22 (.slice (some ⟨w.heap.size, 0, none⟩) 1 1) 1 [.int .i64 I, .string d] (w.alloc (.cells #[.int .i64 I, .string d] 24)) := by
  refine Src.ofSlice _ Tryz.underlying22 ⟨w.heap.size, 0, none⟩ 1 1 _ (by rfl) (fun j u hu => ?_) (fun u hu => wideN.one (⟨I, d⟩ : En) u hu)
  rw [Addr.add_lit, Nat.zero_add, World.cell?_alloc_new w _ _ j]
  simpa using hu
theorem app_w {w w5 w7 : World} {lb lf xb : Nat} {n : Int} {a a7 : Option Addr} {k c c7 : Nat} {es : List En} {g g7 : Option Nat} {b d : ByteArray} {I : Int} {u v : Value} {o : Obj} (hB : Bx w5 lb lf xb n (.slice a k c) b u v) (hC : Cel (fun q => xb < q) (w5.alloc o) 2 (.slice a k c) k (rowC enC es) g) (hb : Below w.heap.size w w5) (hC7 : Cel (Grow (fun q => xb < q) (w5.alloc o) w7) w7 2 (.slice a7 (k + 1) c7) (k + 1) (rowC enC es ++ [.int .i64 I, .string d]) g7) (hS7 : Stay (fun q => g = some q) (w5.alloc o) w7) (hlb : lb = w.heap.size := by rfl) :
    Bx w7 lb lf xb n (.slice a k c) b u v ∧ Cel (fun q => xb < q) w7 2 (.slice a7 (k + 1) c7) (k + 1) (rowC enC (es ++ [⟨I, d⟩])) g7 ∧ Below w.heap.size w w7 := by
  have hl := hB.lt
  have hx : ∀ q, g = some q → xb < q := fun q hq => by rw [hq] at hC; exact hC.lt.2
  have h1 := bel_tr hb (bel_al w5 o)
  have hz : (w5.alloc o).heap.size = w5.heap.size + 1 := by simp
  refine ⟨(hB.below (bel_al _ _)).stay hS7 hx, ?_, h1.trans (hS7.below h1.size (fun q hq => by have := hx q hq; omega))⟩
  rw [rowC_app, rowC_one]
  exact hC7.stay (Nat.le_refl _) (fun _ _ => rfl) (fun q hq => hq.elim id (fun e => by have := e.1; omega))

def lenAt (w : World) (a : Addr) : Nat := match w.cell? a with | some (.slice _ k _) => k | _ => 0

set_option maxRecDepth 100000 in
set_option maxHeartbeats 4000000 in
theorem load_yes {w0 w : World} {K : Nat → Prop} {pd : Nat} {ds : DS} (h : Dk w0 K w pd ds) (s : ByteArray) (hs : s.size ≤ maxLen) (b : ByteArray) (hbm : b.size ≤ maxLen) (ht : rdT ds s.data.toList = b) (hq : rdE ds s.data.toList = 0) (l : Lg) (R : ByteArray) (hp : parseL b = some (l, R)) (wh : Bool) (hwh : decide (R.size = 0) = wh) :
    Calls Tryz.prog 102 #[.pointer (some ⟨pd, 0, none⟩), .string s] w fun e w' => LoadR w.heap.size l wh e w' ∧ Below w.heap.size w w' := by
  unfold parseL at hp
  split at hp
  case h_2 => cases hp
  rename_i n r hE
  simp only [Option.some.injEq, Prod.mk.injEq] at hp
  obtain ⟨rfl, rfl⟩ := hp
  have hwe := is_empty hwh
  have hrm : r.size ≤ maxLen := Nat.le_trans (epochP_size hE) hbm
  obtain ⟨ti, hi1, hi2, hi3, hi4⟩ := info_e
  have HR : Hid (∀ W, Below w.heap.size w W → Calls Tryz.prog 77 #[.pointer (some ⟨pd, 0, none⟩), .string s] W fun e w' => e = .returned (.tuple #[.string b, .int .i64 0]) ∧ Below W.heap.size W w') := fun W hb => dk_read (h.below hb) s hs b 0 ht hq
  have HE : Hid (epochP b = some (n, r)) := hE
  have HBM : Hid (b.size ≤ maxLen) := hbm
  obtain ⟨tot, htot⟩ : ∃ t, goL 300 [] r = t := ⟨_, rfl⟩
  rw [htot] at hwe ⊢
  have HT : Hid (goL 300 [] r = tot) := htot
  have HRM : Hid (r.size ≤ maxLen) := hrm
  have HWE : Hid (tot.2.toList.isEmpty = wh) := hwe
  have hmf : ∀ (fn : Fn) (first cap : Array Value) (w : World), (Instr.makeFunc fn first cap).run Tryz.prog w = .ok (.func fn first cap) w := fun _ _ _ _ => rfl
  have hst := fun (w : World) (a : Addr) (x : ByteArray) (m : Mode) => run_store (P := Tryz.prog) w a (.string x) m rfl
  have hst2 : ∀ (w : World) (a : Addr) (x : Option Addr) (n c : Nat) (m : Mode), (store a (.slice x n c) m).run Tryz.prog w = stored Tryz.prog w a (.slice x n c) m := fun w a x n c m => run_store (P := Tryz.prog) w a _ m rfl
  clear h ht hq hE hbm htot hwh hrm hwe
  go_enter Tryz.func102, Tryz.ntmps102
  go_wp2_with fail
  refine (HR.out _ (bel_al _ _)).mono ?_
  rintro e w1 ⟨rfl, b1⟩
  have x0 : w1.cell? ⟨w.heap.size, 0, none⟩ = some (.int .i64 0) := bel_cell b1 (World.cell?_alloc_new w _ _ 0)
  have x1 : w1.cell? ⟨w.heap.size, 1, none⟩ = some (.slice none 0 0) := bel_cell b1 (World.cell?_alloc_new w _ _ 1)
  have fx : ∀ j, w1.frozen? ⟨w.heap.size, j, none⟩ = false := fun j => (World.frozen?_of_block (a := ⟨w.heap.size, j, none⟩) (b1.block w.heap.size (by simp))).trans (World.frozen?_alloc_new w _ _ j)
  have hlt : w.heap.size < w1.heap.size := World.block_lt_of_cell? _ _ x0
  have B1 : Hid (Below w.heap.size w w1) := bel_tr (bel_al _ _) b1
  have HX : Hid (w1.cell? ⟨w.heap.size, 0, none⟩ = some (.int .i64 0) ∧ w1.cell? ⟨w.heap.size, 1, none⟩ = some (.slice none 0 0) ∧ (∀ j, w1.frozen? ⟨w.heap.size, j, none⟩ = false) ∧ w.heap.size < w1.heap.size) := ⟨x0, x1, fx, hlt⟩
  clear x0 x1 fx hlt b1 HR
  -- the epoch
  have C1 : Hid (Calls Tryz.prog 130 #[.func (.func 131) #[] #[.pointer (some ⟨w1.heap.size, 0, none⟩), .pointer (some ⟨w.heap.size, 0, none⟩)]] (w1.alloc (.cells #[.string b] 9)) fun e w' => e = .returned (.bool true) ∧ ∃ w2, Below w1.heap.size w1 w2 ∧ w1.heap.size + 1 < w2.heap.size ∧ w2.cell? ⟨w1.heap.size, 0, none⟩ = some (.string b) ∧ w2.frozen? ⟨w1.heap.size, 0, none⟩ = false ∧ w' = ((w2.setCell ⟨w.heap.size, 0, none⟩ (.int .i64 n)).setCell ⟨w1.heap.size, 0, none⟩ (.string r)).setCell ⟨w1.heap.size + 1, 0, none⟩ (.bool true)) := by
    obtain ⟨x0, x1, fx, hlt⟩ := HX.out
    have hz : (w1.alloc (.cells #[.string b] 9)).heap.size = w1.heap.size + 1 := by simp
    have b2 : Below w1.heap.size w1 ((w1.alloc (.cells #[.string b] 9)).alloc (.cells #[.bool false] 4)) := bel_tr (bel_al _ _) (bel_al _ _)
    have e0 : ((w1.alloc (.cells #[.string b] 9)).alloc (.cells #[.bool false] 4)).cell? ⟨w1.heap.size, 0, none⟩ = some (.string b) := bel_cell (bel_al _ _) (World.cell?_alloc_new w1 _ _ 0)
    have g0 : ((w1.alloc (.cells #[.string b] 9)).alloc (.cells #[.bool false] 4)).frozen? ⟨w1.heap.size, 0, none⟩ = false := (World.frozen?_of_block (a := ⟨w1.heap.size, 0, none⟩) ((bel_al (w1.alloc (.cells #[.string b] 9)) _).block w1.heap.size (by simp))).trans (World.frozen?_alloc_new w1 _ _ 0)
    have g1 : ((w1.alloc (.cells #[.string b] 9)).alloc (.cells #[.bool false] 4)).frozen? ⟨w.heap.size, 0, none⟩ = false := (World.frozen?_of_block (a := ⟨w.heap.size, 0, none⟩) (b2.block w.heap.size hlt)).trans (fx 0)
    have hc := cl1_yes b HBM.out n r HE.out e0 g0 (bel_cell b2 x0) g1 (by omega)
    have hx9 : ((w1.alloc (.cells #[.string b] 9)).alloc (.cells #[.bool false] 4)).cell? ⟨w1.heap.size + 1, 0, none⟩ = some (.bool false) := by
      have := World.cell?_alloc_new (w1.alloc (.cells #[.string b] 9)) #[.bool false] 4 0
      rw [hz] at this; exact this
    have hf9 : ((w1.alloc (.cells #[.string b] 9)).alloc (.cells #[.bool false] 4)).frozen? ⟨w1.heap.size + 1, 0, none⟩ = false := by
      have := World.frozen?_alloc_new (w1.alloc (.cells #[.string b] 9)) #[.bool false] 4 0
      rw [hz] at this; exact this
    have := tried_yes1 (w := w1.alloc (.cells #[.string b] 9)) (.pointer (some ⟨w1.heap.size, 0, none⟩)) (.pointer (some ⟨w.heap.size, 0, none⟩)) _ hc (fun w' ⟨w2, k1, k2⟩ => by
      rw [hz, k2]
      have k3 := bel_cell k1 hx9
      have k4 := (World.frozen?_of_block (a := ⟨w1.heap.size + 1, 0, none⟩) (k1.block (w1.heap.size + 1) (by simp))).trans hf9
      exact ⟨other (by omega) (other (by omega) k3), by rw [World.frozen?_setCell, World.frozen?_setCell]; exact k4⟩)
    refine this.mono ?_
    rintro e w' ⟨rfl, w3, ⟨w2, k1, k2⟩, k3⟩
    rw [hz] at k3
    have hz2 : ((w1.alloc (.cells #[.string b] 9)).alloc (.cells #[.bool false] 4)).heap.size = w1.heap.size + 1 + 1 := by simp
    refine ⟨rfl, w2, bel_tr b2 k1, by have := k1.size; omega, bel_cell k1 e0, (World.frozen?_of_block (a := ⟨w1.heap.size, 0, none⟩) (k1.block w1.heap.size (by simp; omega))).trans g0, by rw [k3, k2]⟩
  go_wp2_with (go_at_call 130; refine C1.out.mono ?_; rintro e w3 ⟨rfl, w2, k1, k2, k3, k4, rfl⟩)
  have L0 : Hid (∀ T, Lp w ((((w2.setCell ⟨w.heap.size, 0, none⟩ (.int .i64 n)).setCell ⟨w1.heap.size, 0, none⟩ (.string r)).setCell ⟨w1.heap.size + 1, 0, none⟩ (.bool true)).alloc (.cells #[.int .i64 0, .string ⟨#[]⟩] T)) w.heap.size w1.heap.size w2.heap.size n [] 0 r tot) := by
    intro T
    obtain ⟨x0, x1, fx, hlt⟩ := HX.out
    have y0 := bel_cell k1 x0
    have y1 := bel_cell k1 x1
    have fy : ∀ j, w2.frozen? ⟨w.heap.size, j, none⟩ = false := fun j => (World.frozen?_of_block (a := ⟨w.heap.size, j, none⟩) (k1.block w.heap.size hlt)).trans (fx j)
    have bb : Below w.heap.size w (((w2.setCell ⟨w.heap.size, 0, none⟩ (.int .i64 n)).setCell ⟨w1.heap.size, 0, none⟩ (.string r)).setCell ⟨w1.heap.size + 1, 0, none⟩ (.bool true)) := Below.setCell (Below.setCell (Below.setCell (bel_tr B1.out k1) (Nat.le_refl _) _) (by show w.heap.size ≤ w1.heap.size; omega) _) (by show w.heap.size ≤ w1.heap.size + 1; omega) _
    have z0 : (((w2.setCell ⟨w.heap.size, 0, none⟩ (.int .i64 n)).setCell ⟨w1.heap.size, 0, none⟩ (.string r)).setCell ⟨w1.heap.size + 1, 0, none⟩ (.bool true)).cell? ⟨w.heap.size, 0, none⟩ = some (.int .i64 n) := other (by omega) (other (by omega) (World.cell?_setCell_same _ _ _ y0))
    have z1 : (((w2.setCell ⟨w.heap.size, 0, none⟩ (.int .i64 n)).setCell ⟨w1.heap.size, 0, none⟩ (.string r)).setCell ⟨w1.heap.size + 1, 0, none⟩ (.bool true)).cell? ⟨w.heap.size, 1, none⟩ = some (.slice none 0 0) := other (by omega) (other (by omega) (cell_set (by omega) y1))
    have z2 : (((w2.setCell ⟨w.heap.size, 0, none⟩ (.int .i64 n)).setCell ⟨w1.heap.size, 0, none⟩ (.string r)).setCell ⟨w1.heap.size + 1, 0, none⟩ (.bool true)).cell? ⟨w1.heap.size, 0, none⟩ = some (.string r) := other (by omega) (World.cell?_setCell_same _ _ _ (other (by omega) k3))
    have hfz : ∀ p j, w2.frozen? ⟨p, j, none⟩ = false → (((w2.setCell ⟨w.heap.size, 0, none⟩ (.int .i64 n)).setCell ⟨w1.heap.size, 0, none⟩ (.string r)).setCell ⟨w1.heap.size + 1, 0, none⟩ (.bool true)).frozen? ⟨p, j, none⟩ = false := fun p j h => by rw [World.frozen?_setCell, World.frozen?_setCell, World.frozen?_setCell]; exact h
    have hsz : (((w2.setCell ⟨w.heap.size, 0, none⟩ (.int .i64 n)).setCell ⟨w1.heap.size, 0, none⟩ (.string r)).setCell ⟨w1.heap.size + 1, 0, none⟩ (.bool true)).heap.size = w2.heap.size := by rw [size_set, size_set, size_set]
    have q0 := hfz w1.heap.size 0 k4
    have qx := fun j => hfz w.heap.size j (fy j)
    generalize (((w2.setCell ⟨w.heap.size, 0, none⟩ (.int .i64 n)).setCell ⟨w1.heap.size, 0, none⟩ (.string r)).setCell ⟨w1.heap.size + 1, 0, none⟩ (.bool true)) = W3 at *
    have hal : Below W3.heap.size W3 (W3.alloc (.cells #[.int .i64 0, .string ⟨#[]⟩] T)) := bel_al _ _
    have c3 := World.cell?_alloc_new W3 #[.int .i64 0, .string ⟨#[]⟩] T 0
    have c4 := World.cell?_alloc_new W3 #[.int .i64 0, .string ⟨#[]⟩] T 1
    have f3 := World.frozen?_alloc_new W3 #[.int .i64 0, .string ⟨#[]⟩] T
    have hs3 : (W3.alloc (.cells #[.int .i64 0, .string ⟨#[]⟩] T)).heap.size = w2.heap.size + 1 := by rw [← hsz]; simp
    rw [hsz] at c3 c4 f3
    refine ⟨⟨none, 0, none, .int .i64 0, .string ⟨#[]⟩, ⟨bel_cell hal z0, bel_cell hal z1, bel_cell hal z2, c3, c4, fun j => (World.frozen?_of_block (a := ⟨w.heap.size, j, none⟩) (hal.block w.heap.size (by omega))).trans (qx j), (World.frozen?_of_block (a := ⟨w1.heap.size, 0, none⟩) (hal.block w1.heap.size (by omega))).trans q0, f3, ⟨hlt, by omega, by omega⟩⟩, .nil rfl rfl rfl⟩, rfl, by omega, bel_tr bb hal, HT.out, HRM.out⟩
  clear C1 HE HBM HX HT HRM B1
  have L1 : Hid (Lp w ((((w2.setCell ⟨w.heap.size, 0, none⟩ (.int .i64 n)).setCell ⟨w1.heap.size, 0, none⟩ (.string r)).setCell ⟨w1.heap.size + 1, 0, none⟩ (.bool true)).alloc (.cells #[.int .i64 0, .string ⟨#[]⟩] 24)) w.heap.size w1.heap.size w2.heap.size n [] 0 r tot) := L0.out 24
  clear L0 k1 k3 k4
  generalize ((((w2.setCell ⟨w.heap.size, 0, none⟩ (.int .i64 n)).setCell ⟨w1.heap.size, 0, none⟩ (.string r)).setCell ⟨w1.heap.size + 1, 0, none⟩ (.bool true)).alloc (.cells #[.int .i64 0, .string ⟨#[]⟩] 24)) = W4 at *
  generalize w1.heap.size = lf at *
  generalize w2.heap.size = xb at *
  clear k2
  go_loopw [] (fun wr => ∃ (k : Nat) (es : List En) (b' : ByteArray), Lp w wr w.heap.size lf xb n es k b' tot) (fun wr => 300 - lenAt wr ⟨w.heap.size, 1, none⟩)
  case atStart => exact ⟨0, [], r, L1.out⟩
  case round =>
    obtain ⟨k, es, b', hL⟩ := hrel
    have HL : Hid (Lp w wr w.heap.size lf xb n es k b' tot) := hL
    obtain ⟨a, c, g, u, v, hB, hC⟩ := hL.ex
    have hlen := hL.len
    have hle := hL.le
    have HB : Hid (Bx wr w.heap.size lf xb n (.slice a k c) b' u v) := hB
    have HC : Hid (Cel (fun q => xb < q) wr 2 (.slice a k c) k (rowC enC es) g) := hC
    have HLN : Hid (es.length = k) := hlen
    have hlt := hB.lt
    have c0 := hB.c0
    have c1 := hB.c1
    have c2 := hB.c2
    clear hL hB hC hlen L1
    by_cases hk : k < 300
    · cases hP : entryP b' ((k + 1 : Nat) : Int) with
      | none =>
        have hto : tot = (es, b') := by
          have h1 := HL.out.go
          obtain ⟨f, hf⟩ : ∃ f, 300 - k = f + 1 := ⟨299 - k, by omega⟩
          rw [hf] at h1
          unfold goL at h1
          rw [HLN.out, hP] at h1
          exact h1.symm
        subst hto
        have CT : Hid (Calls Tryz.prog 130 #[.func (.func 133) #[] #[.pointer (some ⟨lf, 0, none⟩), .pointer (some ⟨w.heap.size, 0, none⟩), .pointer (some ⟨xb, 0, none⟩)]] wr fun e w' => e = .returned (.bool false) ∧ Below wr.heap.size wr w') :=
          tried_no2 _ _ _ (cl2_no b' HL.out.bm k hle hP (bel_cell (bel_al _ _) c2) (bel_cell (bel_al _ _) c1))
        clear hP
        simp only at HWE ⊢
        go_wp2_with (go_at_call 130; refine CT.out.mono ?_; rintro e w5 ⟨rfl, b5⟩; have HB5 : Hid (Bx w5 w.heap.size lf xb n (.slice a k c) b' u v) := HB.out.below b5; have HC5 : Hid (Cel (fun q => xb < q) w5 2 (.slice a k c) k (rowC enC es) g) := HC.out.below b5; have BW5 : Hid (Below w.heap.size w w5) := bel_tr HL.out.bel b5; clear b5 c0 c1 c2 CT HL HC HB; have y0 := HB5.out.c0; have y1 := HB5.out.c1; have y2 := HB5.out.c2; have f0 := HB5.out.f0 0; have f1 := HB5.out.f0 1)
        go_wp2
        go_region
        go_wp2
        obtain ⟨F1, F2, F3, F4⟩ := fin_w HB5.out.c0 HB5.out.c1 HC5.out HB5.out.lt BW5.out
        refine bodyPost_ret (v := .tuple #[.agg #[.int .i64 n, .slice a k c], .bool wh, .int .i64 0]) ?_ rfl ⟨⟨a, c, g, by simp only [HLN.out], by simp only [HLN.out]; exact F3⟩, F4⟩
        simp only [results, Tryz.results102]
        simp [go_sem, F1, F2, HWE.out]
      | some dr =>
        obtain ⟨d, r'⟩ := dr
        have hsz := entryP_size hP
        have CT : Hid (Calls Tryz.prog 130 #[.func (.func 133) #[] #[.pointer (some ⟨lf, 0, none⟩), .pointer (some ⟨w.heap.size, 0, none⟩), .pointer (some ⟨xb, 0, none⟩)]] wr fun e w' => e = .returned (.bool true) ∧ ∃ w6, Below wr.heap.size wr w6 ∧ wr.heap.size < w6.heap.size ∧ w' = (((w6.setCell ⟨xb, 0, none⟩ (.int .i64 ((k + 1 : Nat) : Int))).setCell ⟨xb, 1, none⟩ (.string d)).setCell ⟨lf, 0, none⟩ (.string r')).setCell ⟨wr.heap.size, 0, none⟩ (.bool true)) := by
          have hal : Below wr.heap.size wr (wr.alloc (.cells #[.bool false] 4)) := bel_al _ _
          have hB := HB.out.below hal
          have hc := cl2_yes b' HL.out.bm k hle d r' hP hB.c2 hB.f2 hB.c1 hB.c3 hB.c4 (hB.f3 0) (hB.f3 1) (by omega)
          refine (tried_yes2 _ _ _ _ hc (fun w' ⟨w2, k1, k2⟩ => ?_)).mono ?_
          · rw [k2]
            have k3 := bel_cell k1 (World.cell?_alloc_new wr #[.bool false] 4 0)
            have k4 := (World.frozen?_of_block (a := ⟨wr.heap.size, 0, none⟩) (k1.block wr.heap.size (by simp))).trans (World.frozen?_alloc_new wr #[.bool false] 4 0)
            exact ⟨other (by omega) (other (by omega) (other (by omega) k3)), by rw [World.frozen?_setCell, World.frozen?_setCell, World.frozen?_setCell]; exact k4⟩
          · rintro e w' ⟨rfl, w3, ⟨w2, k1, k2⟩, k3⟩
            refine ⟨rfl, w2, bel_tr hal k1, ?_, by rw [k3, k2]⟩
            have := k1.size
            simp at this; omega
        have HP : Hid (entryP b' ((k + 1 : Nat) : Int) = some (d, r')) := hP
        have HSZ : Hid (d.size ≤ 600 ∧ r'.size ≤ b'.size) := hsz
        clear hP hsz
        have HNX : Hid (goL (300 - (k + 1)) (es ++ [⟨((k + 1 : Nat) : Int), d⟩]) r' = tot) := by
          have h1 := HL.out.go
          obtain ⟨f, hf⟩ : ∃ f, 300 - k = f + 1 := ⟨299 - k, by omega⟩
          rw [hf] at h1
          unfold goL at h1
          rw [HLN.out, HP.out] at h1
          simp only at h1
          rw [show 300 - (k + 1) = f by omega]
          exact h1
        obtain ⟨I, hI⟩ : ∃ I : Int, ((k + 1 : Nat) : Int) = I := ⟨_, rfl⟩
        rw [hI] at CT
        have HI : Hid (((k + 1 : Nat) : Int) = I) := hI
        clear hI HP
        go_wp2_with (first
          | (go_at_call 130; refine CT.out.mono ?_; rintro e w5 ⟨rfl, w6, k1, k2, hw5⟩; obtain ⟨HB5, HC5, BW5⟩ := taken_w HB.out HC.out HL.out.bel k1 k2 (.int .i64 I) (.string d) r'; rw [← hw5] at HB5 HC5 BW5; replace HB5 : Hid (Bx w5 w.heap.size lf xb n (.slice a k c) r' (.int .i64 I) (.string d)) := HB5; replace HC5 : Hid (Cel (fun q => xb < q) w5 2 (.slice a k c) k (rowC enC es) g) := HC5; replace BW5 : Hid (Below w.heap.size w w5) := BW5; clear k1 k2 hw5 c0 c1 c2 CT; have y1 := HB5.out.c1; have y3 := HB5.out.c3; have y4 := HB5.out.c4; have CW : Hid (Cel (fun q => xb < q) (w5.alloc (.cells #[.int .i64 I, .string d] 24)) 2 (.slice a k c) k (rowC enC es) g) := HC5.out.below (bel_al _ _); have SW : Hid (Src Tryz.prog 2 22 (.slice (some ⟨w5.heap.size, 0, none⟩) 1 1) 1 [.int .i64 I, .string d] (w5.alloc (.cells #[.int .i64 I, .string d] 24))) := src_entry w5 I d)
          | (at_builtin; refine wpList_append_cel _ rfl _ _ 22 22 rfl 24 ti _ 2 24 Tryz.underlying22 hi1 hi2 hi3 hi4 rfl (O := fun q => xb < q) (.slice a k c) k _ g rfl CW.out _ 1 [.int .i64 I, .string d] rfl SW.out (by unfold maxLen; omega) (by omega) ?_; intro a7 c7 w7 g7 hC7 hS7 hg7; have H7 : Hid (Bx w7 w.heap.size lf xb n (.slice a k c) r' (.int .i64 I) (.string d) ∧ Cel (fun q => xb < q) w7 2 (.slice a7 (k + 1) c7) (k + 1) (rowC enC (es ++ [⟨I, d⟩])) g7 ∧ Below w.heap.size w w7) := app_w HB5.out CW.out BW5.out hC7 hS7; clear hC7 hS7 hg7 y1 y3 y4; have y1 := H7.out.1.c1; have f1 := H7.out.1.f0 1))
        go_roundw
        case rel =>
          refine ⟨k + 1, es ++ [⟨I, d⟩], r', ⟨a7, c7, g7, _, _, H7.out.1.putS _, H7.out.2.1.setOut _ _ (fun e => ?_)⟩, by simp [HLN.out], by omega, Below.setCell H7.out.2.2 (Nat.le_refl _) _, by rw [← HI.out]; exact HNX.out, Nat.le_trans HSZ.out.2 HL.out.bm⟩
          have h8 := H7.out.2.1
          rw [e] at h8
          have h9 : xb < w.heap.size := h8.lt.2
          omega
        case measure =>
          have e1 : lenAt wr ⟨w.heap.size, 1, none⟩ = k := by unfold lenAt; rw [HB.out.c1]
          have e2 : lenAt (w7.setCell ⟨w.heap.size, 1, none⟩ (.slice a7 (k + 1) c7)) ⟨w.heap.size, 1, none⟩ = k + 1 := by unfold lenAt; rw [(H7.out.1.putS (.slice a7 (k + 1) c7)).c1]
          rw [e1, e2]
          omega
    · obtain rfl : k = 300 := by omega
      have hto : tot = (es, b') := by
        have h1 := HL.out.go
        rw [Nat.sub_self] at h1
        exact h1.symm
      subst hto
      simp only at HWE ⊢
      have HB5 : Hid (Bx wr w.heap.size lf xb n (.slice a 300 c) b' u v) := HB.out
      have HC5 : Hid (Cel (fun q => xb < q) wr 2 (.slice a 300 c) 300 (rowC enC es) g) := HC.out
      have BW5 : Hid (Below w.heap.size w wr) := HL.out.bel
      have f0 := HB5.out.f0 0
      have f1 := HB5.out.f0 1
      clear HL HC HB
      go_wp2
      go_region
      go_wp2
      obtain ⟨F1, F2, F3, F4⟩ := fin_w HB5.out.c0 HB5.out.c1 HC5.out HB5.out.lt BW5.out
      refine bodyPost_ret (v := .tuple #[.agg #[.int .i64 n, .slice a 300 c], .bool wh, .int .i64 0]) ?_ rfl ⟨⟨a, c, g, by simp only [HLN.out], by simp only [HLN.out]; exact F3⟩, F4⟩
      simp only [results, Tryz.results102]
      simp [go_sem, F1, F2, HWE.out]

end Go.Proofs.YtfmhmokbbkliaaaGreat.Lgg

/- Plain: what was written is read back. -/
namespace Go.Proofs.YtfmhmokbbkliaaaGreat.Lgg
open Go.Proofs.YtfmhmokbbkliaaaGreat Go.Proofs.YtfmhmokbbkliaaaGreat.Wir Go.Proofs.YtfmhmokbbkliaaaGreat.Smm
open Go.WideShapes (bytes_inj)
set_option linter.unusedVariables false

theorem mk_list (s : ByteArray) : (⟨s.data.toList.toArray⟩ : ByteArray) = s := by cases s; simp
theorem ext_num (n : Int) (d : ByteArray) : (numT n ++ d).extract (numB n).length (numT n ++ d).size = d := ext_behind (numT n) d _ (by unfold numT; rw [mk_size])
theorem takeP_back (n : Int) (h0 : -9223372036854775808 ≤ n) (h1 : n ≤ 9223372036854775807) (d rest : ByteArray) (hd : d.size ≤ 3000) : takeP (sealB (numT n ++ d) ++ rest) = some (n, d, rest) := by
  have hz := numT_size h0 h1
  unfold takeP
  rw [open_back _ _ (by rw [app_size]; omega)]
  simp only
  have e : (numT n ++ d).data.toList = numB n ++ d.data.toList := by rw [app_list]; rfl
  rw [e, take_num n _ h0 h1]
  simp only
  rw [unzig_zig, ext_num]
theorem epochP_back (n : Int) (h : epOk n = true) (rest : ByteArray) : epochP (sealB (numT n) ++ rest) = some (n, rest) := by
  have hn := ep_in h
  have e := takeP_back n (by omega) (by omega) ⟨#[]⟩ rest (by show 0 ≤ 3000; omega)
  rw [app_empty] at e
  unfold epochP
  rw [e]
  simp only
  rw [if_pos ⟨h, rfl⟩]
theorem entryP_back (x : En) (i : Nat) (hi : i ≤ 300) (h : enOk i x) (rest : ByteArray) : entryP (encE x ++ rest) ((i + 1 : Nat) : Int) = some (x.d, rest) := by
  obtain ⟨h1, h2⟩ := h
  unfold entryP encE
  rw [takeP_back x.tx (by omega) (by omega) x.d rest (by omega)]
  simp only
  rw [if_pos ⟨h1, h2⟩]
theorem takeP_none {b : ByteArray} {T R : ByteArray} {E : Nat} (h : openT b = (T, R, E)) (hE : E ≠ 0) : takeP b = none := by
  unfold takeP
  rw [h]
  cases E with
  | zero => exact absurd rfl hE
  | succ E => rfl
theorem entryP_none {b : ByteArray} {i : Int} (h : takeP b = none) : entryP b i = none := by unfold entryP; rw [h]
theorem goL_stop {b : ByteArray} (h : ∀ i, entryP b i = none) : ∀ f es, goL f es b = (es, b)
  | 0, es => rfl
  | f + 1, es => by unfold goL; rw [h]
/-- Entries that were written are read, one by one. -/
theorem goL_back : ∀ (xs es0 : List En) (f : Nat) (rest : ByteArray), es0.length + xs.length ≤ 300 → xs.length ≤ f → (∀ i (h : i < xs.length), enOk (es0.length + i) xs[i]) → goL f es0 (encEs xs ++ rest) = goL (f - xs.length) (es0 ++ xs) rest
  | [], es0, f, rest, _, _, _ => by rw [show encEs [] = (⟨#[]⟩ : ByteArray) from rfl, empty_app]; simp
  | x :: xs, es0, f, rest, hl, hf, h => by
    obtain ⟨f', rfl⟩ : ∃ f', f = f' + 1 := ⟨f - 1, by simp at hf; omega⟩
    have h0 := h 0 (by simp)
    simp only [Nat.add_zero, List.getElem_cons_zero] at h0
    simp at hl hf
    have e : encEs (x :: xs) ++ rest = encE x ++ (encEs xs ++ rest) := by show (encE x ++ encEs xs) ++ rest = _; rw [app_assoc]
    rw [e]
    conv => lhs; unfold goL
    rw [entryP_back x es0.length (by omega) h0]
    simp only
    have hx : (⟨((es0.length + 1 : Nat) : Int), x.d⟩ : En) = x := by cases x; simp only [En.mk.injEq, and_true]; exact h0.1.symm
    rw [hx, goL_back xs (es0 ++ [x]) f' rest (by simp; omega) (by omega) (fun i hi => by
      have := h (i + 1) (by simp; omega)
      simp only [List.getElem_cons_succ] at this
      rw [List.length_append, List.length_singleton, Nat.add_assoc, Nat.add_comm 1 i]
      exact this), List.append_assoc]
    congr 1
    simp
theorem parse_back {l : Lg} (h : RtL l) (rest : ByteArray) : parseL (encL l ++ rest) = some (⟨l.ep, (goL (300 - l.es.length) l.es rest).1⟩, (goL (300 - l.es.length) l.es rest).2) := by
  unfold parseL encL
  rw [app_assoc, epochP_back l.ep h.1]
  simp only
  have e := goL_back l.es [] 300 rest (by simpa using h.2.1) h.2.1 (fun i hi => by simpa using h.2.2 i hi)
  rw [List.nil_append] at e
  rw [e]
theorem open_empty : openT ⟨#[]⟩ = (⟨#[]⟩, ⟨#[]⟩, 2) := by
  have h := open_cut ⟨#[]⟩ 0 (by rw [sealB_size]; omega)
  have e : (sealB ⟨#[]⟩).extract 0 0 = (⟨#[]⟩ : ByteArray) := bytes_inj (by rw [cut_list, List.take_zero])
  rw [e] at h
  exact h
theorem entry_empty (i : Int) : entryP ⟨#[]⟩ i = none := entryP_none (takeP_none open_empty (by omega))
theorem parse_whole {l : Lg} (h : RtL l) : parseL (encL l) = some (l, ⟨#[]⟩) := by
  have e := parse_back h ⟨#[]⟩
  rw [app_empty, goL_stop entry_empty] at e
  exact e
/-- A part of an entry behind it. -/
theorem parse_torn {l : Lg} (h : RtL l) (x : En) (k : Nat) (hk : k < (encE x).size) : parseL (encL l ++ (encE x).extract 0 k) = some (l, (encE x).extract 0 k) := by
  have hN : ∀ i, entryP ((encE x).extract 0 k) i = none := fun i => entryP_none (takeP_none (open_cut (numT x.tx ++ x.d) k hk) (by omega))
  rw [parse_back h, goL_stop hN]
theorem encL_snoc (ep : Int) (es : List En) (x : En) : encL ⟨ep, es ++ [x]⟩ = encL ⟨ep, es⟩ ++ encE x := by
  unfold encL
  simp only
  rw [encEs_app, encEs_one, app_assoc]
theorem RtL.snoc {ep : Int} {es : List En} (h : RtL ⟨ep, es⟩) (hl : es.length < 300) (d : ByteArray) (hd : d.size ≤ 600) : RtL ⟨ep, es ++ [⟨((es.length + 1 : Nat) : Int), d⟩]⟩ := by
  refine ⟨h.1, by simp; omega, fun i hi => ?_⟩
  simp only at hi ⊢
  rcases Nat.lt_or_ge i es.length with h1 | h1
  · rw [List.getElem_append_left h1]; exact h.2.2 i h1
  · simp at hi
    obtain rfl : i = es.length := by omega
    rw [List.getElem_append_right (Nat.le_refl _)]
    simp only [Nat.sub_self, List.getElem_cons_zero]
    exact ⟨rfl, hd⟩
theorem encL_pos (l : Lg) : 0 < (encL l).size := by
  unfold encL
  rw [app_size, sealB_size]; omega

end Go.Proofs.YtfmhmokbbkliaaaGreat.Lgg

/- The contracts of tabulariumlaw14.pick, entries, same. -/
namespace Go.Proofs.YtfmhmokbbkliaaaGreat.Lgg
open Go.RowKit Go.Proofs.YtfmhmokbbkliaaaGreat
open Go.Proofs.YtfmhmokbbkliaaaGreat.Smm (bytes_ne)
set_option linter.unusedVariables false

theorem bel_dr (w : World) (n : Nat) : Below w.heap.size w (w.drewN n) := below_drewN (Below.refl _ _) n

theorem boxes2 {w w1 : World} {x0 x1 y0 y1 : Value} {t u : TypeId} (h : Below ((w.alloc (.cells #[x0, x1] t)).alloc (.cells #[y0, y1] u)).heap.size ((w.alloc (.cells #[x0, x1] t)).alloc (.cells #[y0, y1] u)) w1) : w1.cell? ⟨w.heap.size, 0, none⟩ = some x0 ∧ w1.cell? ⟨w.heap.size, 1, none⟩ = some x1 ∧ w1.cell? ⟨w.heap.size + 1, 0, none⟩ = some y0 ∧ w1.cell? ⟨w.heap.size + 1, 1, none⟩ = some y1 ∧ Below w.heap.size w w1 := by
  have hz : (w.alloc (.cells #[x0, x1] t)).heap.size = w.heap.size + 1 := by simp
  obtain ⟨a0, a1, _, _⟩ := cells2 w x0 x1 t
  obtain ⟨b0, b1, _, _⟩ := cells2 (w.alloc (.cells #[x0, x1] t)) y0 y1 u
  rw [hz] at b0 b1
  exact ⟨bel_cell h (bel_cell (bel_al _ _) a0), bel_cell h (bel_cell (bel_al _ _) a1), bel_cell h b0, bel_cell h b1, bel_tr (bel_tr (bel_al _ _) (bel_al _ _)) h⟩

end Go.Proofs.YtfmhmokbbkliaaaGreat.Lgg

/- Plain: what Store and Add do with a disk of one file, whenever the power goes. -/
namespace Go.Proofs.YtfmhmokbbkliaaaGreat.Lgg
open Go.RowKit Go.Proofs.YtfmhmokbbkliaaaGreat
set_option linter.unusedVariables false

def dec1 (f : Int) : Int := if f = 0 then 0 else f - 1
theorem beg_ok (room f : Int) (S : FS) (F : FS → FS) (h : f = 0 ∨ 2 ≤ f) : begE ⟨room, f, false, S⟩ 0 = 0 ∧ doD ⟨room, f, false, S⟩ 0 F = ⟨room, dec1 f, false, F S⟩ := by
  rcases h with rfl | h
  · unfold doD begE begD dec1; simp
  · have h0 : ¬ f = 0 := by omega
    have h1 : ¬ f = 1 := by omega
    unfold doD begE begD dec1; simp [h0, h1]
theorem beg_off (room : Int) (S : FS) (F : FS → FS) : begE ⟨room, 1, false, S⟩ 0 = 12 ∧ doD ⟨room, 1, false, S⟩ 0 F = ⟨room, 0, true, S⟩ := by unfold doD begE begD; simp
theorem beg_no (room f : Int) (S : FS) (F : FS → FS) {e : Int} (he : e ≠ 0) : begE ⟨room, f, false, S⟩ e = e ∧ doD ⟨room, f, false, S⟩ e F = ⟨room, f, false, S⟩ := by unfold doD begE begD; simp [he]

theorem new_list (s : ByteArray) : (newN s).data.toList = s.data.toList ++ [46, 110, 101, 119] := by unfold newN; rw [Wir.app_list]
theorem before_app : ∀ (l r : List UInt8), r ≠ [] → bytesBefore l (l ++ r) = true
  | [], [], h => absurd rfl h
  | [], x :: r, _ => rfl
  | x :: l, r, h => by
    have := before_app l r h
    simp [bytesBefore, this]
theorem app_before : ∀ (l r : List UInt8), bytesBefore (l ++ r) l = false
  | [], [] => rfl
  | [], x :: r => rfl
  | x :: l, r => by
    have := app_before l r
    simp [bytesBefore, this]
theorem app_ne (l : List UInt8) : l ≠ l ++ [46, 110, 101, 119] := fun e => by
  have := congrArg List.length e
  simp at this

section
variable {n : List UInt8} {A B E : List UInt8} {a b : Nat} {room f : Int}
theorem g_new : fget [(n, A, a)] (n ++ [46, 110, 101, 119]) = none := by rw [fget_cons, if_neg (app_ne n)]; rfl
theorem s_app0 : fapp (n ++ [46, 110, 101, 119]) B [] = [((n ++ [46, 110, 101, 119]), B, 0)] := rfl
theorem s_app1 : fapp (n ++ [46, 110, 101, 119]) B [(n, A, a)] = [(n, A, a), ((n ++ [46, 110, 101, 119]), B, 0)] := by
  unfold fapp fput
  rw [g_new]
  simp only
  rw [fdel_of_none g_new]
  unfold fins
  rw [app_before]
  rfl
theorem s_del2 : fdel [(n, A, a), ((n ++ [46, 110, 101, 119]), B, b)] (n ++ [46, 110, 101, 119]) = [(n, A, a)] := by
  rw [fdel_cons, if_neg (app_ne n), fdel_cons, if_pos rfl]; rfl
theorem s_get2 : fget [(n, A, a), ((n ++ [46, 110, 101, 119]), B, b)] (n ++ [46, 110, 101, 119]) = some (B, b) := by
  rw [fget_cons, if_neg (app_ne n), fget_cons, if_pos rfl]
theorem s_syn2 : fsyn (n ++ [46, 110, 101, 119]) [(n, A, a), ((n ++ [46, 110, 101, 119]), B, b)] = [(n, A, a), ((n ++ [46, 110, 101, 119]), B, B.length)] := by
  unfold fsyn
  rw [s_get2]
  simp only
  unfold fput
  rw [s_del2]
  unfold fins
  rw [app_before]
  rfl
theorem s_ren2 : fren (n ++ [46, 110, 101, 119]) n [(n, A, a), ((n ++ [46, 110, 101, 119]), B, b)] = [(n, B, b)] := by
  unfold fren
  rw [s_get2]
  simp only
  unfold fput
  rw [s_del2, fdel_cons, if_pos rfl]
  rfl
theorem g_one {m : List UInt8} : fget [(m, B, b)] m = some (B, b) := by rw [fget_cons, if_pos rfl]
theorem s_syn1 {m : List UInt8} : fsyn m [(m, B, b)] = [(m, B, B.length)] := by
  unfold fsyn
  rw [g_one]
  simp only
  unfold fput
  rw [fdel_cons, if_pos rfl]
  rfl
theorem s_ren1 : fren (n ++ [46, 110, 101, 119]) n [((n ++ [46, 110, 101, 119]), B, b)] = [(n, B, b)] := by
  unfold fren
  rw [g_one]
  simp only
  unfold fput
  rw [fdel_cons, if_pos rfl]
  rfl
theorem s_add : fapp n E [(n, A, a)] = [(n, A ++ E, a)] := by
  unfold fapp
  rw [g_one]
  simp only
  unfold fput
  rw [fdel_cons, if_pos rfl]
  rfl

theorem del_no {S : FS} (h : fget S (n ++ [46, 110, 101, 119]) = none) : delR ⟨room, f, false, S⟩ (n ++ [46, 110, 101, 119]) = (0, ⟨room, f, false, S⟩) := by
  have e : rdE ⟨room, f, false, S⟩ (n ++ [46, 110, 101, 119]) = 5 := by rw [rdE_eq _ rfl]; exact refM_none h
  unfold delR
  rw [if_pos e]
theorem nm_new (h : 1 ≤ n.length ∧ n.length ≤ 16) : nameOk (n ++ [46, 110, 101, 119]) = true ∧ nameOk n = true := by unfold nameOk; simp; omega
theorem ren_ok {S : FS} {F : List UInt8 × Nat} (h : 1 ≤ n.length ∧ n.length ≤ 16) (hg : fget S (n ++ [46, 110, 101, 119]) = some F) : refR S (n ++ [46, 110, 101, 119]) n = 0 := by
  unfold refR
  rw [(nm_new h).2, if_pos rfl]
  exact refM_some hg

/-- Append and sync: all of it, or one of the two is the last. -/
theorem aps_ok {m : List UInt8} {S S1 S2 : FS} (hA : refA ⟨room, f, false, S⟩ m B = 0) (h1 : fapp m B S = S1) {F : List UInt8 × Nat} (hg : fget S1 m = some F) (h2 : fsyn m S1 = S2) (hf : f = 0 ∨ 3 ≤ f) : apsR ⟨room, f, false, S⟩ m B = (0, ⟨room, dec1 (dec1 f), false, S2⟩) := by
  obtain ⟨k1, k2⟩ := beg_ok room f S (fapp m B) (by omega)
  obtain ⟨k3, k4⟩ := beg_ok room (dec1 f) S1 (fsyn m) (by unfold dec1; split <;> omega)
  unfold apsR
  rw [hA, if_pos k1, k2, h1]
  simp only
  rw [refM_some hg, k3, k4, h2]
theorem aps_two {m : List UInt8} {S S1 : FS} (hA : refA ⟨room, 2, false, S⟩ m B = 0) (h1 : fapp m B S = S1) {F : List UInt8 × Nat} (hg : fget S1 m = some F) : apsR ⟨room, 2, false, S⟩ m B = (12, ⟨room, 0, true, S1⟩) := by
  obtain ⟨k1, k2⟩ := beg_ok room 2 S (fapp m B) (by omega)
  obtain ⟨k3, k4⟩ := beg_off room S1 (fsyn m)
  unfold apsR
  rw [hA, if_pos k1, k2, h1]
  simp only
  have e : dec1 2 = 1 := rfl
  rw [refM_some hg, e, k3, k4]
theorem aps_one {m : List UInt8} {S : FS} (hA : refA ⟨room, 1, false, S⟩ m B = 0) : apsR ⟨room, 1, false, S⟩ m B = (12, ⟨room, 0, true, S⟩) := by
  obtain ⟨k1, k2⟩ := beg_off room S (fapp m B)
  unfold apsR
  rw [hA, k1, if_neg (by omega), k2]
theorem aps_no {m : List UInt8} {S : FS} {e : Int} (hA : refA ⟨room, f, false, S⟩ m B = e) (he : e ≠ 0) : apsR ⟨room, f, false, S⟩ m B = (e, ⟨room, f, false, S⟩) := by
  obtain ⟨k1, k2⟩ := beg_no room f S (fapp m B) he
  unfold apsR
  rw [hA, k1, if_neg he, k2]
end

section
variable {s : ByteArray} {b : ByteArray} {A : List UInt8} {a : Nat} {room f : Int}
/-- On a disk without files. -/
theorem sto_new (hs : nmOk s = true) (hb : b.size ≤ 400000) (hr : (b.size : Int) ≤ room) : stoR ⟨room, 0, false, []⟩ s b = (0, ⟨room, 0, false, [(s.data.toList, b.data.toList, b.size)]⟩) := by
  have hn := (mk_nm s).1 hs
  have hl : s.data.toList.length = s.size := Wir.size_list s
  have hl2 : b.data.toList.length = b.size := Wir.size_list b
  have hn2 : 1 ≤ s.data.toList.length ∧ s.data.toList.length ≤ 16 := by omega
  unfold stoR
  rw [new_list, del_no rfl]
  simp only
  have e := aps_ok (room := room) (f := 0) (B := b.data.toList) (m := s.data.toList ++ [46, 110, 101, 119]) (S := []) (refA_ok (nm_new hn2).1 (by show 0 + _ ≤ _; omega) (.inr (by simp)) (by rw [hl2]; show ((0 + b.size : Nat) : Int) ≤ room; omega)) s_app0 g_one s_syn1 (.inl rfl)
  rw [if_pos trivial, e]
  simp only
  rw [if_pos trivial, ren_ok hn2 g_one]
  obtain ⟨k3, k4⟩ := beg_ok room (dec1 (dec1 0)) [(s.data.toList ++ [46, 110, 101, 119], b.data.toList, b.data.toList.length)] (fren (s.data.toList ++ [46, 110, 101, 119]) s.data.toList) (.inl rfl)
  rw [k3, k4, s_ren1, hl2]
  rfl
theorem ref_new (hs : nmOk s = true) (hb : b.size ≤ 400000) (hr : ((A.length + b.size : Nat) : Int) ≤ room) : refA ⟨room, f, false, [(s.data.toList, A, a)]⟩ (s.data.toList ++ [46, 110, 101, 119]) b.data.toList = 0 := by
  have hn := (mk_nm s).1 hs
  have hl : s.data.toList.length = s.size := Wir.size_list s
  have hl2 : b.data.toList.length = b.size := Wir.size_list b
  refine refA_ok (nm_new (by omega)).1 (by rw [g_new]; show 0 + _ ≤ _; omega) (.inr (by simp)) ?_
  rw [tot_cons, hl2]
  show ((A.length + 0 + b.size : Nat) : Int) ≤ room
  omega
/-- In the place of another one: with no fuse, or one that lasts. -/
theorem sto_on (hs : nmOk s = true) (hb : b.size ≤ 400000) (hr : ((A.length + b.size : Nat) : Int) ≤ room) (hf : f = 0 ∨ 4 ≤ f) : ∃ f', stoR ⟨room, f, false, [(s.data.toList, A, a)]⟩ s b = (0, ⟨room, f', false, [(s.data.toList, b.data.toList, b.size)]⟩) := by
  have hn := (mk_nm s).1 hs
  have hl : s.data.toList.length = s.size := Wir.size_list s
  have hl2 : b.data.toList.length = b.size := Wir.size_list b
  unfold stoR
  rw [new_list, del_no g_new]
  simp only
  rw [if_pos trivial, aps_ok (ref_new hs hb hr) s_app1 s_get2 s_syn2 (by omega)]
  simp only
  rw [if_pos trivial, ren_ok (by omega) s_get2]
  obtain ⟨k3, k4⟩ := beg_ok room (dec1 (dec1 f)) [(s.data.toList, A, a), (s.data.toList ++ [46, 110, 101, 119], b.data.toList, b.data.toList.length)] (fren (s.data.toList ++ [46, 110, 101, 119]) s.data.toList) (by unfold dec1; rcases hf with rfl | hf <;> simp <;> omega)
  rw [k3, k4, s_ren2, hl2]
  exact ⟨_, rfl⟩
theorem sto_one (hs : nmOk s = true) (hb : b.size ≤ 400000) (hr : ((A.length + b.size : Nat) : Int) ≤ room) : stoR ⟨room, 1, false, [(s.data.toList, A, a)]⟩ s b = (12, ⟨room, 0, true, [(s.data.toList, A, a)]⟩) := by
  unfold stoR
  rw [new_list, del_no g_new]
  simp only
  rw [if_pos trivial, aps_one (ref_new hs hb hr)]
  simp only
  rw [if_neg (by omega)]
theorem sto_two (hs : nmOk s = true) (hb : b.size ≤ 400000) (hr : ((A.length + b.size : Nat) : Int) ≤ room) : stoR ⟨room, 2, false, [(s.data.toList, A, a)]⟩ s b = (12, ⟨room, 0, true, [(s.data.toList, A, a), (s.data.toList ++ [46, 110, 101, 119], b.data.toList, 0)]⟩) := by
  unfold stoR
  rw [new_list, del_no g_new]
  simp only
  rw [if_pos trivial, aps_two (ref_new hs hb hr) s_app1 s_get2]
  simp only
  rw [if_neg (by omega)]
theorem sto_three (hs : nmOk s = true) (hb : b.size ≤ 400000) (hr : ((A.length + b.size : Nat) : Int) ≤ room) : stoR ⟨room, 3, false, [(s.data.toList, A, a)]⟩ s b = (12, ⟨room, 0, true, [(s.data.toList, A, a), (s.data.toList ++ [46, 110, 101, 119], b.data.toList, b.data.toList.length)]⟩) := by
  have hn := (mk_nm s).1 hs
  have hl : s.data.toList.length = s.size := Wir.size_list s
  unfold stoR
  rw [new_list, del_no g_new]
  simp only
  rw [if_pos trivial, aps_ok (ref_new hs hb hr) s_app1 s_get2 s_syn2 (by omega)]
  simp only
  rw [if_pos trivial, ren_ok (by omega) s_get2]
  have e : dec1 (dec1 3) = 1 := rfl
  obtain ⟨k3, k4⟩ := beg_off room [(s.data.toList, A, a), (s.data.toList ++ [46, 110, 101, 119], b.data.toList, b.data.toList.length)] (fren (s.data.toList ++ [46, 110, 101, 119]) s.data.toList)
  rw [e, k3, k4]
/-- Without room. -/
theorem sto_full (hs : nmOk s = true) (hb : b.size ≤ 400000) (hr : room < ((A.length + b.size : Nat) : Int)) : stoR ⟨room, 0, false, [(s.data.toList, A, a)]⟩ s b = (8, ⟨room, 0, false, [(s.data.toList, A, a)]⟩) := by
  have hn := (mk_nm s).1 hs
  have hl : s.data.toList.length = s.size := Wir.size_list s
  have hl2 : b.data.toList.length = b.size := Wir.size_list b
  have e : refA ⟨room, 0, false, [(s.data.toList, A, a)]⟩ (s.data.toList ++ [46, 110, 101, 119]) b.data.toList = 8 := by
    refine refA_full (nm_new (by omega)).1 (by rw [g_new]; show 0 + _ ≤ _; omega) (.inr (by simp)) ?_
    rw [tot_cons, hl2]
    show room < ((A.length + 0 + b.size : Nat) : Int)
    omega
  unfold stoR
  rw [new_list, del_no g_new]
  simp only
  rw [if_pos trivial, aps_no e (by omega)]
  simp only
  rw [if_neg (by omega)]

theorem ref_add (hs : nmOk s = true) (hb : A.length + b.size ≤ 400000) (hr : ((A.length + b.size : Nat) : Int) ≤ room) : refA ⟨room, f, false, [(s.data.toList, A, a)]⟩ s.data.toList b.data.toList = 0 := by
  have hn := (mk_nm s).1 hs
  have hl : s.data.toList.length = s.size := Wir.size_list s
  have hl2 : b.data.toList.length = b.size := Wir.size_list b
  refine refA_ok (nm_new (by omega)).2 (by rw [g_one, hl2]; exact hb) (.inl (by rw [g_one]; rfl)) ?_
  rw [tot_cons, hl2]
  show ((A.length + 0 + b.size : Nat) : Int) ≤ room
  omega
theorem rd_one : rdE ⟨room, f, false, [(s.data.toList, A, a)]⟩ s.data.toList = 0 := by rw [rdE_eq _ rfl]; exact refM_some g_one
theorem add_on (hs : nmOk s = true) (hb : A.length + b.size ≤ 400000) (hr : ((A.length + b.size : Nat) : Int) ≤ room) (hf : f = 0 ∨ 3 ≤ f) : addR ⟨room, f, false, [(s.data.toList, A, a)]⟩ s b = (0, ⟨room, dec1 (dec1 f), false, [(s.data.toList, A ++ b.data.toList, (A ++ b.data.toList).length)]⟩) := by
  unfold addR
  rw [if_pos rd_one, aps_ok (ref_add hs hb hr) s_add g_one s_syn1 hf]
theorem add_one (hs : nmOk s = true) (hb : A.length + b.size ≤ 400000) (hr : ((A.length + b.size : Nat) : Int) ≤ room) : addR ⟨room, 1, false, [(s.data.toList, A, a)]⟩ s b = (12, ⟨room, 0, true, [(s.data.toList, A, a)]⟩) := by
  unfold addR
  rw [if_pos rd_one, aps_one (ref_add hs hb hr)]
theorem add_two (hs : nmOk s = true) (hb : A.length + b.size ≤ 400000) (hr : ((A.length + b.size : Nat) : Int) ≤ room) : addR ⟨room, 2, false, [(s.data.toList, A, a)]⟩ s b = (12, ⟨room, 0, true, [(s.data.toList, A ++ b.data.toList, a)]⟩) := by
  unfold addR
  rw [if_pos rd_one, aps_two (ref_add hs hb hr) s_add g_one]

/-- Behind a crash. -/
theorem cut_all {A : List UInt8} (c : Int) : cutN (A, A.length) c = A.length := by unfold cutN; simp [Nat.mod_one]
theorem crash_head {n : List UInt8} {A : List UInt8} (hA : A ≠ []) (ks : List Int) (r : FS) : ∃ r', crashL ks ((n, A, A.length) :: r) = (n, A, A.length) :: r' := by
  have h0 : ¬ A.length = 0 := fun e => hA (List.length_eq_zero_iff.1 e)
  refine ⟨crashL ks.tail r, ?_⟩
  show (if cutN (A, A.length) (ks.headD 0) = 0 then [] else [(n, A.take (cutN (A, A.length) (ks.headD 0)), cutN (A, A.length) (ks.headD 0))]) ++ _ = _
  rw [cut_all, if_neg h0, List.take_length]
  rfl
theorem crash_part {n : List UInt8} {A E : List UInt8} (hA : A ≠ []) (ks : List Int) : ∃ k, k ≤ E.length ∧ crashL ks [(n, A ++ E, A.length)] = [(n, A ++ E.take k, A.length + k)] := by
  have h0 : ¬ A.length = 0 := fun e => hA (List.length_eq_zero_iff.1 e)
  have hc : cutN (A ++ E, A.length) (ks.headD 0) = A.length + keepN (ks.headD 0) % (E.length + 1) := by unfold cutN; simp
  have hk := Nat.mod_lt (keepN (ks.headD 0)) (show 0 < E.length + 1 by omega)
  refine ⟨keepN (ks.headD 0) % (E.length + 1), by omega, ?_⟩
  show (if cutN (A ++ E, A.length) (ks.headD 0) = 0 then [] else [(n, (A ++ E).take (cutN (A ++ E, A.length) (ks.headD 0)), cutN (A ++ E, A.length) (ks.headD 0))]) ++ crashL ks.tail [] = _
  rw [crashL_nil, hc, if_neg (by omega), List.take_length_add_append]
  rfl
theorem rd_head {n : List UInt8} {A : List UInt8} {r : FS} : rdE ⟨room, f, false, (n, A, a) :: r⟩ n = 0 ∧ rdT ⟨room, f, false, (n, A, a) :: r⟩ n = ⟨A.toArray⟩ := by
  have hg : fget ((n, A, a) :: r) n = some (A, a) := by rw [fget_cons, if_pos rfl]
  rw [rdE_eq _ rfl, rdT_eq _ rfl]
  refine ⟨refM_some hg, ?_⟩
  unfold fdat
  rw [hg]
end

end Go.Proofs.YtfmhmokbbkliaaaGreat.Lgg

/- The contract of tabulariumlaw14.examples. -/
namespace Go.Proofs.YtfmhmokbbkliaaaGreat.Lgg
open Go.RowKit Go.Proofs.YtfmhmokbbkliaaaGreat
set_option linter.unusedVariables false

def lgN : ByteArray := ⟨#[108, 111, 103]⟩
def x0E : En := ⟨1, ⟨#[120]⟩⟩
theorem rt3 : RtL ⟨3, []⟩ := ⟨rfl, by simp, fun i h => by simp at h⟩
theorem rt3x : RtL ⟨3, [x0E]⟩ := RtL.snoc (es := []) rt3 (by simp) ⟨#[120]⟩ (by decide)
theorem one_row (w : World) (x : En) (t : TypeId) : Lie enC (fun k => w.heap.size ≤ k) (w.alloc (.cells #[.int .i64 x.tx, .string x.d] t)) (some ⟨w.heap.size, 0, none⟩) [x] := by
  refine ⟨by show 1 ≤ maxLen; unfold maxLen; omega, fun _ => ⟨w.heap.size, 0, rfl, Nat.le_refl _, by simp, fun j u hu => ?_⟩⟩
  rw [rowC_one] at hu
  rw [Nat.zero_add, World.cell?_alloc_new w _ _ j]
  simpa [enC] using hu

end Go.Proofs.YtfmhmokbbkliaaaGreat.Lgg

/- The contract of tabulariumlaw14.of. -/
namespace Go.Proofs.YtfmhmokbbkliaaaGreat.Lgg
open Go.RowKit Go.Proofs.YtfmhmokbbkliaaaGreat
set_option linter.unusedVariables false

def cut100 (s : ByteArray) : ByteArray := s.extract 0 (min s.size 100)
theorem cut100_size (s : ByteArray) : (cut100 s).size ≤ 100 := by unfold cut100; rw [ByteArray.size_extract]; omega
/-- The entries of the first k texts. -/
def ofK (ss : List ByteArray) (k : Nat) : List En := (ss.take k).zipIdx.map fun p => ⟨((p.2 + 1 : Nat) : Int), cut100 p.1⟩
theorem ofK_zero (ss : List ByteArray) : ofK ss 0 = [] := rfl
theorem ofK_next (ss : List ByteArray) (k : Nat) (hk : k < ss.length) : ofK ss (k + 1) = ofK ss k ++ [⟨((k + 1 : Nat) : Int), cut100 ss[k]⟩] := by
  unfold ofK
  rw [List.take_succ_eq_append_getElem hk, List.zipIdx_append, List.map_append, List.length_take, Nat.min_eq_left (Nat.le_of_lt hk)]
  simp
theorem ofK_len (ss : List ByteArray) (k : Nat) (hk : k ≤ ss.length) : (ofK ss k).length = k := by unfold ofK; simp; omega
theorem ofK_right (ss : List ByteArray) : ∀ k, k ≤ ss.length → RtE (ofK ss k)
  | 0, _ => fun i h => by simp [ofK] at h
  | k + 1, hk => by
    have ih := ofK_right ss k (by omega)
    have hl := ofK_len ss k (by omega)
    rw [ofK_next ss k (by omega)]
    intro i hi
    rcases Nat.lt_or_ge i (ofK ss k).length with h1 | h1
    · rw [List.getElem_append_left h1]; exact ih i h1
    · simp at hi
      obtain rfl : i = (ofK ss k).length := by omega
      rw [List.getElem_append_right (Nat.le_refl _)]
      simp only [Nat.sub_self, List.getElem_cons_zero]
      have h100 := cut100_size ss[k]
      exact ⟨by rw [hl], by show (cut100 ss[k]).size ≤ 600; omega⟩
def few (ss : List ByteArray) : Nat := min ss.length 30
def ofL (q : Nat) (ss : List ByteArray) : Lg := ⟨(q : Int), ofK ss (few ss)⟩
theorem ofL_right (q : Nat) (hq : q ≤ 1000) (ss : List ByteArray) : RtL (ofL q ss) := by
  refine ⟨by unfold ofL epOk maxN; simp; omega, ?_, ofK_right ss _ (Nat.min_le_left _ _)⟩
  show (ofK ss (few ss)).length ≤ 300
  rw [ofK_len ss (few ss) (Nat.min_le_left _ _)]
  have : few ss ≤ 30 := Nat.min_le_right _ _
  omega
theorem ofL_len (q : Nat) (ss : List ByteArray) : (ofL q ss).es.length = few ss := ofK_len ss _ (Nat.min_le_left _ _)

/-- How it ends: a log in new memory. -/
structure OfR (base : Nat) (l : Lg) (e : Ending) (w' : World) : Prop where
  ex : ∃ a c g, e = .returned (.agg #[.int .i64 l.ep, .slice a l.es.length c]) ∧ Cel (fun k => base ≤ k) w' 2 (.slice a l.es.length c) l.es.length (rowC enC l.es) g

/-- The two boxes. -/
structure Ob (W : World) (rb lb : Nat) (n : Int) (s : Value) : Prop where
  c0 : W.cell? ⟨lb, 0, none⟩ = some (.int .i64 n)
  c1 : W.cell? ⟨lb, 1, none⟩ = some s
  d0 : W.cell? ⟨rb, 0, none⟩ = some (.int .i64 0)
  d1 : W.cell? ⟨rb, 1, none⟩ = some (.slice none 0 0)
  f0 : ∀ j, W.frozen? ⟨lb, j, none⟩ = false
  f1 : ∀ j, W.frozen? ⟨rb, j, none⟩ = false
  lt : rb < lb ∧ lb < W.heap.size
theorem Ob.stay {W W' : World} {rb lb : Nat} {n : Int} {s : Value} {O : Nat → Prop} (h : Ob W rb lb n s) (hs : Stay O W W') (hO : ∀ k, O k → lb < k) : Ob W' rb lb n s := by
  obtain ⟨l1, l2⟩ := h.lt
  have k0 := hs.block lb (by omega) (fun e => by have := hO _ e; omega)
  have k1 := hs.block rb (by omega) (fun e => by have := hO _ e; omega)
  exact ⟨(World.cell?_of_block (a := ⟨lb, 0, none⟩) k0).trans h.c0, (World.cell?_of_block (a := ⟨lb, 1, none⟩) k0).trans h.c1, (World.cell?_of_block (a := ⟨rb, 0, none⟩) k1).trans h.d0, (World.cell?_of_block (a := ⟨rb, 1, none⟩) k1).trans h.d1,
    fun j => (World.frozen?_of_block (a := ⟨lb, j, none⟩) k0).trans (h.f0 j), fun j => (World.frozen?_of_block (a := ⟨rb, j, none⟩) k1).trans (h.f1 j), ⟨l1, Nat.lt_of_lt_of_le l2 hs.size⟩⟩
theorem Ob.putS {W : World} {rb lb : Nat} {n : Int} {s : Value} (h : Ob W rb lb n s) (s' : Value) : Ob (W.setCell ⟨lb, 1, none⟩ s') rb lb n s' := by
  obtain ⟨l1, l2⟩ := h.lt
  exact ⟨cell_set (by omega) h.c0, World.cell?_setCell_same _ _ _ h.c1, other (by omega) h.d0, other (by omega) h.d1, fun j => by rw [World.frozen?_setCell]; exact h.f0 j, fun j => by rw [World.frozen?_setCell]; exact h.f1 j, ⟨l1, by rw [size_set]; exact l2⟩⟩

theorem of_app {w wr W w5 : World} {rb lb : Nat} {n : Int} {a a5 : Option Addr} {k c c5 : Nat} {es : List En} {g g5 : Option Nat} {d : ByteArray} {I : Int} (hB : Ob wr rb lb n (.slice a k c)) (hC : Cel (fun z => lb < z) wr 2 (.slice a k c) k (rowC enC es) g) (hb : Below w.heap.size w wr) (hW : Below wr.heap.size wr W) (hC5 : Cel (Grow (fun z => lb < z) W w5) w5 2 (.slice a5 (k + 1) c5) (k + 1) (rowC enC es ++ [.int .i64 I, .string d]) g5) (hS5 : Stay (fun z => g = some z) W w5) (hrb : rb = w.heap.size := by rfl) :
    Ob w5 rb lb n (.slice a k c) ∧ Cel (fun z => lb < z) w5 2 (.slice a5 (k + 1) c5) (k + 1) (rowC enC (es ++ [⟨I, d⟩])) g5 ∧ Below w.heap.size w w5 := by
  have hl := hB.lt
  have hx : ∀ z, g = some z → lb < z := fun z hz => by rw [hz] at hC; exact hC.lt.2
  have h1 := bel_tr hb hW
  have hz := hW.size
  refine ⟨(hB.stay (O := fun _ => False) (Stay.of_below hW) (fun _ e => e.elim)).stay hS5 hx, ?_, h1.trans (hS5.below h1.size (fun z hq => by have := hx z hq; omega))⟩
  rw [rowC_app, rowC_one]
  exact hC5.stay (Nat.le_refl _) (fun _ _ => rfl) (fun z hq => hq.elim id (fun e => by have := e.1; omega))

end Go.Proofs.YtfmhmokbbkliaaaGreat.Lgg

/- What the laws keep beside a disk: two logs of their own. -/
namespace Go.Proofs.YtfmhmokbbkliaaaGreat.Lgg
open Go.RowKit Go.Proofs.YtfmhmokbbkliaaaGreat
set_option linter.unusedVariables false

def jN : ByteArray := ⟨#[106]⟩
theorem j_ok : nmOk jN = true := by decide
theorem j_small : jN.size ≤ maxLen := by show 1 ≤ maxLen; unfold maxLen; omega

/-- A log in a box of K, its row in a block of K. -/
structure Bl (K : Nat → Prop) (W : World) (A : Nat) (l : Lg) (a : Option Addr) (c : Nat) : Prop where
  c0 : W.cell? ⟨A, 0, none⟩ = some (.int .i64 l.ep)
  c1 : W.cell? ⟨A, 1, none⟩ = some (.slice a l.es.length c)
  kA : K A
  row : Lie enC K W a l.es
section
variable {K K' : Nat → Prop} {W W' : World} {A : Nat} {l : Lg} {a : Option Addr} {c : Nat}
theorem Bl.stay {O : Nat → Prop} (h : Bl K W A l a c) (hs : Stay O W W') (hO : ∀ k, K k → ¬ O k) : Bl K W' A l a c := by
  have hb := hs.block A (World.block_lt_of_cell? _ _ h.c0) (hO A h.kA)
  exact ⟨(World.cell?_of_block (a := ⟨A, 0, none⟩) hb).trans h.c0, (World.cell?_of_block (a := ⟨A, 1, none⟩) hb).trans h.c1, h.kA, h.row.stay hs hO⟩
theorem Bl.kept (h : Bl K W A l a c) (hs : Stay (fun k => ¬ K k) W W') : Bl K W' A l a c := h.stay hs (fun k hk e => e hk)
theorem Bl.below (h : Bl K W A l a c) (hb : Below W.heap.size W W') : Bl K W' A l a c := h.stay (O := fun _ => False) (Stay.of_below hb) (fun _ _ => id)
theorem Bl.mono (h : Bl K W A l a c) (hK : ∀ k, K k → k < W.heap.size → K' k) : Bl K' W A l a c := ⟨h.c0, h.c1, hK A h.kA (World.block_lt_of_cell? _ _ h.c0), h.row.mono hK⟩
/-- What 'of' told, laid into a box. -/
theorem Bl.of {base : Nat} {w3 : World} {g : Option Nat} (hC : Cel (fun k => base ≤ k) w3 2 (.slice a l.es.length c) l.es.length (rowC enC l.es) g) (T : TypeId) (hbase : base ≤ w3.heap.size) : Bl (fun k => base ≤ k ∧ k < w3.heap.size + 1) (w3.alloc (.cells #[.int .i64 l.ep, .slice a l.es.length c] T)) w3.heap.size l a c := by
  obtain ⟨q0, q1, _, _⟩ := cells2 w3 (.int .i64 l.ep) (.slice a l.es.length c) T
  have h1 := Lie.of_cel wideN (hC.below (bel_al w3 (.cells #[.int .i64 l.ep, .slice a l.es.length c] T)))
  refine ⟨q0, q1, ⟨hbase, by omega⟩, h1.mono (fun k hk hl => ⟨hk, ?_⟩)⟩
  simpa using hl
end

theorem cel_lt {O : Nat → Prop} {w : World} {k : Nat} {sl : Value} {n : Nat} {cs : List Value} {g : Option Nat} (h : Cel O w k sl n cs g) : Cel (fun q => O q ∧ q < w.heap.size) w k sl n cs g := by
  cases h with
  | nil h1 h2 h3 => exact .nil h1 h2 h3
  | row g cap h1 hl h2 h3 h4 h5 h6 h7 => exact .row g cap h1 hl ⟨h2, h3⟩ h3 h4 h5 h6 h7
theorem enc_small (q : Nat) (hq : q ≤ 1000) (ss : List ByteArray) : (encL (ofL q ss)).size ≤ 20000 := by
  have h1 := encL_size (ep := (ofL q ss).ep) (es := (ofL q ss).es) (ofL_right q hq ss)
  have h2 := ofL_len q ss
  have h3 : few ss ≤ 30 := Nat.min_le_right _ _
  rw [h2] at h1
  have : (encL (ofL q ss)).size ≤ 24 + few ss * 624 := h1
  omega
theorem enc_ne (l : Lg) : (encL l).data.toList ≠ [] := fun e => by
  have h1 := encL_pos l
  have h2 : (encL l).data.toList.length = (encL l).size := Wir.size_list _
  rw [e] at h2
  simp at h2; omega

/-- What is there behind Store, whenever the power goes, and a crash. -/
theorem stored_out (X Y : ByteArray) (hX : X.size ≤ 20000) (hY : Y.size ≤ 20000) (hXn : X.data.toList ≠ []) (hYn : Y.data.toList ≠ []) (N : Nat) (hN : N < 6) :
    ∃ e ds2, stoR ⟨400000, 1 + (N : Int), false, [(jN.data.toList, X.data.toList, X.data.toList.length)]⟩ jN Y = (e, ds2) ∧ ds2.room = 400000 ∧
      ((e = 12 ∧ ∀ ks, ∃ r', crashL ks ds2.S = (jN.data.toList, X.data.toList, X.data.toList.length) :: r') ∨ (e = 0 ∧ ∀ ks, ∃ r', crashL ks ds2.S = (jN.data.toList, Y.data.toList, Y.data.toList.length) :: r')) := by
  have hl : X.data.toList.length = X.size := Wir.size_list X
  have hl2 : Y.data.toList.length = Y.size := Wir.size_list Y
  have hr : ((X.data.toList.length + Y.size : Nat) : Int) ≤ 400000 := by omega
  rcases Nat.lt_or_ge N 3 with h3 | h3
  · rcases (show N = 0 ∨ N = 1 ∨ N = 2 by omega) with rfl | rfl | rfl
    · exact ⟨12, _, sto_one j_ok (by omega) hr, rfl, .inl ⟨rfl, fun ks => crash_head hXn ks _⟩⟩
    · exact ⟨12, _, sto_two j_ok (by omega) hr, rfl, .inl ⟨rfl, fun ks => crash_head hXn ks _⟩⟩
    · exact ⟨12, _, sto_three j_ok (by omega) hr, rfl, .inl ⟨rfl, fun ks => crash_head hXn ks _⟩⟩
  · obtain ⟨f', h4⟩ := sto_on (s := jN) (b := Y) (A := X.data.toList) (a := X.data.toList.length) (room := 400000) (f := 1 + (N : Int)) j_ok (by omega) hr (.inr (by omega))
    refine ⟨0, _, h4, rfl, .inr ⟨rfl, fun ks => ?_⟩⟩
    simp only
    rw [← hl2]
    exact crash_head hYn ks _

end Go.Proofs.YtfmhmokbbkliaaaGreat.Lgg

/- The contract of log.Load where the bytes do not begin with an epoch; plain facts of torn files. -/
namespace Go.Proofs.YtfmhmokbbkliaaaGreat.Lgg
open Go.RowKit Go.Proofs.YtfmhmokbbkliaaaGreat
open Go.WideShapes (bytes_inj)
set_option linter.unusedVariables false

set_option maxRecDepth 100000 in
set_option maxHeartbeats 4000000 in
theorem load_form {w0 w : World} {K : Nat → Prop} {pd : Nat} {ds : DS} (h : Dk w0 K w pd ds) (s : ByteArray) (hs : s.size ≤ maxLen) (b : ByteArray) (hbm : b.size ≤ maxLen) (ht : rdT ds s.data.toList = b) (hq : rdE ds s.data.toList = 0) (hp : epochP b = none) :
    Calls Tryz.prog 102 #[.pointer (some ⟨pd, 0, none⟩), .string s] w fun e w' => e = .returned (.tuple #[.agg #[.int .i64 0, .slice none 0 0], .bool false, .int .i64 2]) ∧ Below w.heap.size w w' := by
  have HR : Hid (∀ W, Below w.heap.size w W → Calls Tryz.prog 77 #[.pointer (some ⟨pd, 0, none⟩), .string s] W fun e w' => e = .returned (.tuple #[.string b, .int .i64 0]) ∧ Below W.heap.size W w') := fun W hb => dk_read (h.below hb) s hs b 0 ht hq
  have HE : Hid (epochP b = none) := hp
  have HBM : Hid (b.size ≤ maxLen) := hbm
  have hmf : ∀ (fn : Fn) (first cap : Array Value) (w : World), (Instr.makeFunc fn first cap).run Tryz.prog w = .ok (.func fn first cap) w := fun _ _ _ _ => rfl
  have hst := fun (w : World) (a : Addr) (x : ByteArray) (m : Mode) => run_store (P := Tryz.prog) w a (.string x) m rfl
  have hst2 : ∀ (w : World) (a : Addr) (x : Option Addr) (n c : Nat) (m : Mode), (store a (.slice x n c) m).run Tryz.prog w = stored Tryz.prog w a (.slice x n c) m := fun w a x n c m => run_store (P := Tryz.prog) w a _ m rfl
  clear h ht hq hp hbm
  go_enter Tryz.func102, Tryz.ntmps102
  go_wp2_with fail
  refine (HR.out _ (bel_al _ _)).mono ?_
  rintro e w1 ⟨rfl, b1⟩
  have x0 : w1.cell? ⟨w.heap.size, 0, none⟩ = some (.int .i64 0) := bel_cell b1 (World.cell?_alloc_new w _ _ 0)
  have x1 : w1.cell? ⟨w.heap.size, 1, none⟩ = some (.slice none 0 0) := bel_cell b1 (World.cell?_alloc_new w _ _ 1)
  have fx : ∀ j, w1.frozen? ⟨w.heap.size, j, none⟩ = false := fun j => (World.frozen?_of_block (a := ⟨w.heap.size, j, none⟩) (b1.block w.heap.size (by simp))).trans (World.frozen?_alloc_new w _ _ j)
  have B1 : Hid (Below w.heap.size w w1) := bel_tr (bel_al _ _) b1
  have HX : Hid (w1.cell? ⟨w.heap.size, 0, none⟩ = some (.int .i64 0) ∧ w1.cell? ⟨w.heap.size, 1, none⟩ = some (.slice none 0 0) ∧ (∀ j, w1.frozen? ⟨w.heap.size, j, none⟩ = false)) := ⟨x0, x1, fx⟩
  clear x0 x1 fx b1 HR
  have C1 : Hid (Calls Tryz.prog 130 #[.func (.func 131) #[] #[.pointer (some ⟨w1.heap.size, 0, none⟩), .pointer (some ⟨w.heap.size, 0, none⟩)]] (w1.alloc (.cells #[.string b] 9)) fun e w' => e = .returned (.bool false) ∧ Below (w1.alloc (.cells #[.string b] 9)).heap.size (w1.alloc (.cells #[.string b] 9)) w') :=
    tried_no1 _ _ (cl1_no b HBM.out HE.out (bel_cell (bel_al _ _) (World.cell?_alloc_new w1 _ _ 0)))
  go_wp2_with (go_at_call 130; refine C1.out.mono ?_; rintro e w2 ⟨rfl, b2⟩; have bb := bel_tr (bel_al w1 (.cells #[.string b] 9)) b2; have y0 := bel_cell bb HX.out.1; have y1 := bel_cell bb HX.out.2.1; have hlt : w.heap.size < w1.heap.size := World.block_lt_of_cell? _ _ HX.out.1; have f0 := (World.frozen?_of_block (a := ⟨w.heap.size, 0, none⟩) (bb.block w.heap.size hlt)).trans (HX.out.2.2 0); have f1 := (World.frozen?_of_block (a := ⟨w.heap.size, 1, none⟩) (bb.block w.heap.size hlt)).trans (HX.out.2.2 1); have B2 : Hid (Below w.heap.size w w2) := bel_tr B1.out bb; clear b2 bb)
  obtain ⟨z0, z1⟩ := two_set (u' := .int .i64 0) (v' := .slice none 0 0) y0 y1
  refine bodyPost_ret (v := .tuple #[.agg #[.int .i64 0, .slice none 0 0], .bool false, .int .i64 2]) ?_ rfl ⟨rfl, Below.setCell (Below.setCell B2.out (Nat.le_refl _) _) (Nat.le_refl _) _⟩
  simp only [results, Tryz.results102]
  simp [go_sem, z0, z1]

/-! ### torn files -/
theorem numB_neg : Wir.numB (-1) = [1] := by
  have hz : Lib.zigzag (-1) = 1 := by decide
  unfold Wir.numB
  rw [hz]
  unfold Lib.uvarint
  simp
theorem takeT_neg (j : ByteArray) : Wir.takeT ((⟨#[1]⟩ : ByteArray) ++ j) = none := by
  cases hC : Wir.takeC 4000 ((⟨#[1]⟩ : ByteArray) ++ j) with
  | none => unfold Wir.takeT; rw [hC]
  | some p =>
    obtain ⟨n, r⟩ := p
    obtain ⟨z, k, h1, h2, _⟩ := Wir.takeC_yes hC
    have e : ((⟨#[1]⟩ : ByteArray) ++ j).data.toList = Wir.numB (-1) ++ j.data.toList := by rw [Wir.app_list, numB_neg]
    rw [e, Wir.take_num (-1) _ (by omega) (by omega)] at h1
    simp only [Option.some.injEq, Prod.mk.injEq] at h1
    rw [← h1.1, Wir.unzig_zig] at h2
    omega
theorem open_neg (j : ByteArray) : Smm.openT ((⟨#[1]⟩ : ByteArray) ++ j) = (⟨#[]⟩, ⟨#[]⟩, 2) := by
  rcases Smm.openT_cases ((⟨#[1]⟩ : ByteArray) ++ j) with ⟨_, h⟩ | ⟨t, r, hT, _⟩
  · exact h
  · rw [takeT_neg] at hT; cases hT
theorem parse_junk {l : Lg} (h : RtL l) (j : ByteArray) : parseL (encL l ++ ((⟨#[1]⟩ : ByteArray) ++ j)) = some (l, (⟨#[1]⟩ : ByteArray) ++ j) := by
  have hN : ∀ i, entryP ((⟨#[1]⟩ : ByteArray) ++ j) i = none := fun i => entryP_none (takeP_none (open_neg j) (by omega))
  rw [parse_back h, goL_stop hN]
theorem epoch_cut (ep : Int) (k : Nat) (hk : k < (Smm.sealB (numT ep)).size) : epochP ((Smm.sealB (numT ep)).extract 0 k) = none := by
  unfold epochP
  rw [takeP_none (Smm.open_cut (numT ep) k hk) (by omega)]
theorem encE_six (x : En) : 6 ≤ (encE x).size := by
  unfold encE
  rw [Smm.sealB_size]
  have h1 := Wir.numB_pos ((numT x.tx ++ x.d).size : Int)
  have h2 : 1 ≤ (numT x.tx ++ x.d).size := by
    rw [Wir.app_size]
    have := Wir.numB_pos x.tx
    unfold numT
    rw [Wir.mk_size]
    omega
  omega
theorem head_five (ep : Int) : 5 < (Smm.sealB (numT ep)).size := by
  rw [Smm.sealB_size]
  have h1 := Wir.numB_pos ((numT ep).size : Int)
  have h2 := Wir.numB_pos ep
  have h3 : (numT ep).size = (Wir.numB ep).length := by unfold numT; rw [Wir.mk_size]
  omega
theorem cut_app (a b : ByteArray) (k : Nat) (h : k ≤ b.size) : (a ++ b).extract 0 (a.size + k) = a ++ b.extract 0 k := by
  apply bytes_inj
  rw [Wir.cut_list, Wir.app_list, Wir.app_list, Wir.cut_list]
  have hl : a.data.toList.length = a.size := Wir.size_list a
  rw [← hl, List.take_length_add_append]

/-- What a file that lacks c bytes at its end tells. -/
theorem torn_out {l : Lg} (h : RtL l) (c : Nat) (hc : c < 5) :
    (c = 0 ∧ parseL ((encL l).extract 0 ((encL l).size - c)) = some (l, ⟨#[]⟩)) ∨ (0 < c ∧ l.es = [] ∧ epochP ((encL l).extract 0 ((encL l).size - c)) = none) ∨
      (0 < c ∧ 0 < l.es.length ∧ ∃ R, parseL ((encL l).extract 0 ((encL l).size - c)) = some (⟨l.ep, l.es.take (l.es.length - 1)⟩, R) ∧ 0 < R.size) := by
  have hall : (encL l).extract 0 (encL l).size = encL l := by
    apply bytes_inj
    rw [Wir.cut_list, List.take_of_length_le (by rw [Wir.size_list]; exact Nat.le_refl _)]
  rcases Nat.eq_zero_or_pos c with h0 | h0
  · subst h0
    exact .inl ⟨rfl, by rw [Nat.sub_zero, hall]; exact parse_whole h⟩
  · rcases Nat.eq_zero_or_pos l.es.length with h1 | h1
    · have h2 : l.es = [] := List.length_eq_zero_iff.1 h1
      refine .inr (.inl ⟨h0, h2, ?_⟩)
      have e : encL l = Smm.sealB (numT l.ep) := by unfold encL; rw [h2]; exact app_empty _
      have h5 := head_five l.ep
      rw [e]
      exact epoch_cut _ _ (by omega)
    · refine .inr (.inr ⟨h0, h1, ?_⟩)
      obtain ⟨m, hm⟩ : ∃ m, l.es.length = m + 1 := ⟨l.es.length - 1, by omega⟩
      have hlt : m < l.es.length := by omega
      have hes : l.es = l.es.take m ++ [l.es[m]] := by
        rw [← List.take_succ_eq_append_getElem hlt, List.take_of_length_le (by omega)]
      have e : encL l = encL ⟨l.ep, l.es.take m⟩ ++ encE l.es[m] := by
        have h9 := encL_snoc l.ep (l.es.take m) l.es[m]
        rw [← hes] at h9
        exact h9
      have h6 := encE_six l.es[m]
      have hR : RtL ⟨l.ep, l.es.take m⟩ := by
        refine ⟨h.1, by have := h.2.1; simp; omega, fun i hi => ?_⟩
        simp only [List.length_take] at hi
        simp only [List.getElem_take]
        exact h.2.2 i (by omega)
      have hsz : (encL l).size - c = (encL ⟨l.ep, l.es.take m⟩).size + ((encE l.es[m]).size - c) := by rw [e, Wir.app_size]; omega
      refine ⟨(encE l.es[m]).extract 0 ((encE l.es[m]).size - c), ?_, by rw [ByteArray.size_extract]; omega⟩
      rw [hsz]
      conv => lhs; rw [e]
      rw [cut_app _ _ _ (by omega), parse_torn hR l.es[m] _ (by omega)]
      rw [hm]
      rfl

end Go.Proofs.YtfmhmokbbkliaaaGreat.Lgg
