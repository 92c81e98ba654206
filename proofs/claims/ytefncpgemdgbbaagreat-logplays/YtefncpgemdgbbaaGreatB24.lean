/- Part 24 of the proof: LogH, LogI, LogP, LogQ, LogL, LogS, LogX, LogO, LogQ2, LogT, LogU. -/
import Derived.Test.YtefncpgemdgbbaaGreatB11
import Derived.Test.YtefncpgemdgbbaaGreatB20
import Derived.Test.YtefncpgemdgbbaaGreatB21
import Derived.Test.YtefncpgemdgbbaaGreatB22
import Derived.BigQuiet
import Derived.Deep.AppendSrc
import Derived.Deep.RegionLaw
import Derived.Defers
import Derived.Lib.MinMax
import Derived.Lib.QuietBelow
import Derived.Recover

/- The contracts of Load's closures and of tried. -/
namespace Go.Proofs.YtefncpgemdgbbaaGreat.Lgg
open Go.RowKit Go.Proofs.YtefncpgemdgbbaaGreat
set_option linter.unusedVariables false

set_option maxRecDepth 100000 in
theorem catch_panic {R : Nat} {w : World} {u : Value} (h : w.cell? ⟨R, 0, none⟩ = some u) (f : w.frozen? ⟨R, 0, none⟩ = false) (older : List PanicEntry) :
    CallsD Tryz.prog 69 #[.pointer (some ⟨R, 0, none⟩)] (.panicking ({ v := .iface 37 (.int .i64 2), recovered := false } :: older)) w fun e u' w' =>
      e = .returned (.tuple #[]) ∧ u' = .panicking ({ v := .iface 37 (.int .i64 2), recovered := true } :: older) ∧ w' = w.setCell ⟨R, 0, none⟩ (.bool false) := by
  refine callsD_of_wpS Tryz.func69 rfl fun c₀ cs hu => ?_
  apply wpS_seq
  apply wpS_region
  simp [wpOpsS, go_sem, recoverD, hu, Tryz.ntmps69, Exit.thenS]
  refine wpS_of_wp ?_
  go_wp2
  exact ⟨rfl, _, rfl, .tuple #[], by simp [results, Tryz.results69], rfl, rfl, rfl⟩
set_option maxRecDepth 100000 in
theorem catch_idle {R : Nat} {w : World} :
    CallsD Tryz.prog 69 #[.pointer (some ⟨R, 0, none⟩)] .returning w fun e u' w' => e = .returned (.tuple #[]) ∧ u' = .returning ∧ w' = w := by
  refine callsD_of_wpS Tryz.func69 rfl fun c₀ cs hu => ?_
  apply wpS_seq
  apply wpS_region
  simp [wpOpsS, go_sem, recoverD, hu, Tryz.ntmps69, Exit.thenS]
  refine wpS_of_wp ?_
  go_wp2
  cases c₀
  simp_all [bodyPostS, results, Tryz.results69]

set_option maxRecDepth 100000 in
set_option maxHeartbeats 1000000 in
theorem tried_yes1 {w : World} (k1 k2 : Value) (R : World → Prop) (hC : Calls Tryz.prog 38 #[k1, k2] (w.alloc (.cells #[.bool false] 4)) fun e w' => e = .returned (.tuple #[]) ∧ R w') (hR : ∀ w', R w' → w'.cell? ⟨w.heap.size, 0, none⟩ = some (.bool false) ∧ w'.frozen? ⟨w.heap.size, 0, none⟩ = false) :
    Calls Tryz.prog 37 #[.func (.func 38) #[] #[k1, k2]] w fun e w' => e = .returned (.bool true) ∧ ∃ w1, R w1 ∧ w' = w1.setCell ⟨w.heap.size, 0, none⟩ (.bool true) := by
  have hmf : ∀ (fn : Fn) (first cap : Array Value) (w : World), (Instr.makeFunc fn first cap).run Tryz.prog w = .ok (.func fn first cap) w := fun _ _ _ _ => rfl
  have HC : Hid (Calls Tryz.prog 38 #[k1, k2] (w.alloc (.cells #[.bool false] 4)) fun e w' => e = .returned (.tuple #[]) ∧ R w') := hC
  have HR : Hid (∀ w', R w' → w'.cell? ⟨w.heap.size, 0, none⟩ = some (.bool false) ∧ w'.frozen? ⟨w.heap.size, 0, none⟩ = false) := hR
  clear hC hR
  go_enter_defers Tryz.func37, Tryz.ntmps37
  go_wp2_with (go_at_call 38; refine HC.out.mono ?_; rintro e w1 ⟨rfl, h1⟩; obtain ⟨x0, f0⟩ := HR.out w1 h1; have H1 : Hid (R w1) := h1; clear h1)
  refine leaves_cons (f := 69) (args := #[.pointer (some ⟨w.heap.size, 0, none⟩)]) (by simp) (by simp [go_sem]) ?_
  refine catch_idle.mono ?_
  rintro e u' w' ⟨rfl, rfl, rfl⟩
  have y0 : (w1.setCell ⟨w.heap.size, 0, none⟩ (.bool true)).cell? ⟨w.heap.size, 0, none⟩ = some (.bool true) := World.cell?_setCell_same _ _ _ x0
  refine ⟨.bool true, ?_, rfl, w1, H1.out, rfl⟩
  simp only [results, Tryz.results37]
  simp [go_sem, y0]

set_option maxRecDepth 100000 in
set_option maxHeartbeats 1000000 in
theorem tried_no1 {w : World} (k1 k2 : Value) (hC : Calls Tryz.prog 38 #[k1, k2] (w.alloc (.cells #[.bool false] 4)) fun e w' => e = leftV ∧ Below (w.alloc (.cells #[.bool false] 4)).heap.size (w.alloc (.cells #[.bool false] 4)) w') :
    Calls Tryz.prog 37 #[.func (.func 38) #[] #[k1, k2]] w fun e w' => e = .returned (.bool false) ∧ Below w.heap.size w w' := by
  have hmf : ∀ (fn : Fn) (first cap : Array Value) (w : World), (Instr.makeFunc fn first cap).run Tryz.prog w = .ok (.func fn first cap) w := fun _ _ _ _ => rfl
  have HC : Hid (Calls Tryz.prog 38 #[k1, k2] (w.alloc (.cells #[.bool false] 4)) fun e w' => e = leftV ∧ Below (w.alloc (.cells #[.bool false] 4)).heap.size (w.alloc (.cells #[.bool false] 4)) w') := hC
  clear hC
  go_enter_defers Tryz.func37, Tryz.ntmps37
  go_wp2_with (go_at_call 38; refine HC.out.mono ?_; rintro e w1 ⟨rfl, b1⟩; have B1 : Hid (Below (w.alloc (.cells #[.bool false] 4)).heap.size (w.alloc (.cells #[.bool false] 4)) w1) := b1; clear b1)
  have x0 : w1.cell? ⟨w.heap.size, 0, none⟩ = some (.bool false) := bel_cell B1.out (World.cell?_alloc_new w _ _ 0)
  have f0 : w1.frozen? ⟨w.heap.size, 0, none⟩ = false := (World.frozen?_of_block (a := ⟨w.heap.size, 0, none⟩) (B1.out.block w.heap.size (by simp))).trans (World.frozen?_alloc_new w _ _ 0)
  refine leaves_cons (f := 69) (args := #[.pointer (some ⟨w.heap.size, 0, none⟩)]) (by simp) (by simp [go_sem]) ?_
  refine (catch_panic x0 f0 []).mono ?_
  rintro e u' w' ⟨rfl, rfl, rfl⟩
  have y0 : (w1.setCell ⟨w.heap.size, 0, none⟩ (.bool false)).cell? ⟨w.heap.size, 0, none⟩ = some (.bool false) := World.cell?_setCell_same _ _ _ x0
  refine ⟨.bool false, ?_, rfl, Below.setCell (bel_tr (bel_al _ _) B1.out) (Nat.le_refl _) _⟩
  simp only [results, Tryz.results37]
  simp [go_sem, y0]

set_option maxRecDepth 100000 in
set_option maxHeartbeats 1000000 in
theorem tried_yes2 {w : World} (k1 k2 k3 : Value) (R : World → Prop) (hC : Calls Tryz.prog 40 #[k1, k2, k3] (w.alloc (.cells #[.bool false] 4)) fun e w' => e = .returned (.tuple #[]) ∧ R w') (hR : ∀ w', R w' → w'.cell? ⟨w.heap.size, 0, none⟩ = some (.bool false) ∧ w'.frozen? ⟨w.heap.size, 0, none⟩ = false) :
    Calls Tryz.prog 37 #[.func (.func 40) #[] #[k1, k2, k3]] w fun e w' => e = .returned (.bool true) ∧ ∃ w1, R w1 ∧ w' = w1.setCell ⟨w.heap.size, 0, none⟩ (.bool true) := by
  have hmf : ∀ (fn : Fn) (first cap : Array Value) (w : World), (Instr.makeFunc fn first cap).run Tryz.prog w = .ok (.func fn first cap) w := fun _ _ _ _ => rfl
  have HC : Hid (Calls Tryz.prog 40 #[k1, k2, k3] (w.alloc (.cells #[.bool false] 4)) fun e w' => e = .returned (.tuple #[]) ∧ R w') := hC
  have HR : Hid (∀ w', R w' → w'.cell? ⟨w.heap.size, 0, none⟩ = some (.bool false) ∧ w'.frozen? ⟨w.heap.size, 0, none⟩ = false) := hR
  clear hC hR
  go_enter_defers Tryz.func37, Tryz.ntmps37
  go_wp2_with (go_at_call 40; refine HC.out.mono ?_; rintro e w1 ⟨rfl, h1⟩; obtain ⟨x0, f0⟩ := HR.out w1 h1; have H1 : Hid (R w1) := h1; clear h1)
  refine leaves_cons (f := 69) (args := #[.pointer (some ⟨w.heap.size, 0, none⟩)]) (by simp) (by simp [go_sem]) ?_
  refine catch_idle.mono ?_
  rintro e u' w' ⟨rfl, rfl, rfl⟩
  have y0 : (w1.setCell ⟨w.heap.size, 0, none⟩ (.bool true)).cell? ⟨w.heap.size, 0, none⟩ = some (.bool true) := World.cell?_setCell_same _ _ _ x0
  refine ⟨.bool true, ?_, rfl, w1, H1.out, rfl⟩
  simp only [results, Tryz.results37]
  simp [go_sem, y0]

set_option maxRecDepth 100000 in
set_option maxHeartbeats 1000000 in
theorem tried_no2 {w : World} (k1 k2 k3 : Value) (hC : Calls Tryz.prog 40 #[k1, k2, k3] (w.alloc (.cells #[.bool false] 4)) fun e w' => e = leftV ∧ Below (w.alloc (.cells #[.bool false] 4)).heap.size (w.alloc (.cells #[.bool false] 4)) w') :
    Calls Tryz.prog 37 #[.func (.func 40) #[] #[k1, k2, k3]] w fun e w' => e = .returned (.bool false) ∧ Below w.heap.size w w' := by
  have hmf : ∀ (fn : Fn) (first cap : Array Value) (w : World), (Instr.makeFunc fn first cap).run Tryz.prog w = .ok (.func fn first cap) w := fun _ _ _ _ => rfl
  have HC : Hid (Calls Tryz.prog 40 #[k1, k2, k3] (w.alloc (.cells #[.bool false] 4)) fun e w' => e = leftV ∧ Below (w.alloc (.cells #[.bool false] 4)).heap.size (w.alloc (.cells #[.bool false] 4)) w') := hC
  clear hC
  go_enter_defers Tryz.func37, Tryz.ntmps37
  go_wp2_with (go_at_call 40; refine HC.out.mono ?_; rintro e w1 ⟨rfl, b1⟩; have B1 : Hid (Below (w.alloc (.cells #[.bool false] 4)).heap.size (w.alloc (.cells #[.bool false] 4)) w1) := b1; clear b1)
  have x0 : w1.cell? ⟨w.heap.size, 0, none⟩ = some (.bool false) := bel_cell B1.out (World.cell?_alloc_new w _ _ 0)
  have f0 : w1.frozen? ⟨w.heap.size, 0, none⟩ = false := (World.frozen?_of_block (a := ⟨w.heap.size, 0, none⟩) (B1.out.block w.heap.size (by simp))).trans (World.frozen?_alloc_new w _ _ 0)
  refine leaves_cons (f := 69) (args := #[.pointer (some ⟨w.heap.size, 0, none⟩)]) (by simp) (by simp [go_sem]) ?_
  refine (catch_panic x0 f0 []).mono ?_
  rintro e u' w' ⟨rfl, rfl, rfl⟩
  have y0 : (w1.setCell ⟨w.heap.size, 0, none⟩ (.bool false)).cell? ⟨w.heap.size, 0, none⟩ = some (.bool false) := World.cell?_setCell_same _ _ _ x0
  refine ⟨.bool false, ?_, rfl, Below.setCell (bel_tr (bel_al _ _) B1.out) (Nat.le_refl _) _⟩
  simp only [results, Tryz.results37]
  simp [go_sem, y0]

/-! ### the closures -/
set_option maxRecDepth 100000 in
set_option maxHeartbeats 1000000 in
theorem cl1_yes (b : ByteArray) (hb : b.size ≤ maxLen) (n : Int) (r : ByteArray) (h : epochP b = some (n, r)) {w : World} {lf lb : Nat} {u : Value} (c0 : w.cell? ⟨lf, 0, none⟩ = some (.string b)) (f0 : w.frozen? ⟨lf, 0, none⟩ = false) (c1 : w.cell? ⟨lb, 0, none⟩ = some u) (f1 : w.frozen? ⟨lb, 0, none⟩ = false) (hne : lf ≠ lb) :
    Calls Tryz.prog 38 #[.pointer (some ⟨lf, 0, none⟩), .pointer (some ⟨lb, 0, none⟩)] w fun e w' => e = .returned (.tuple #[]) ∧ ∃ w1, Below w.heap.size w w1 ∧ w' = (w1.setCell ⟨lb, 0, none⟩ (.int .i64 n)).setCell ⟨lf, 0, none⟩ (.string r) := by
  have HE : Hid (Calls Tryz.prog 39 #[.string b] w fun e w' => e = .returned (.tuple #[.int .i64 n, .string r]) ∧ Below w.heap.size w w') := takeEpoch_yes b hb n r h w
  have l0 := World.block_lt_of_cell? _ _ c0
  have l1 := World.block_lt_of_cell? _ _ c1
  have hst := fun (w : World) (a : Addr) (x : ByteArray) (m : Mode) => run_store (P := Tryz.prog) w a (.string x) m rfl
  have hne2 : ¬ lb = lf := fun e => hne e.symm
  clear h
  go_enter Tryz.func38, Tryz.ntmps38
  go_wp2_with (go_at_call 39; refine HE.out.mono ?_; rintro e w1 ⟨rfl, b1⟩; have d0 := bel_cell b1 c0; have d1 := bel_cell b1 c1; have g0 : w1.frozen? ⟨lf, 0, none⟩ = false := (World.frozen?_of_block (a := ⟨lf, 0, none⟩) (b1.block lf l0)).trans f0; have g1 : w1.frozen? ⟨lb, 0, none⟩ = false := (World.frozen?_of_block (a := ⟨lb, 0, none⟩) (b1.block lb l1)).trans f1; have B1 : Hid (Below w.heap.size w w1) := b1; clear b1 c0 c1 f0 f1)
  refine bodyPost_end (results_none rfl _ _ _) rfl ?_
  exact ⟨rfl, w1, B1.out, rfl⟩
set_option maxRecDepth 100000 in
set_option maxHeartbeats 1000000 in
theorem cl1_no (b : ByteArray) (hb : b.size ≤ maxLen) (h : epochP b = none) {w : World} {lf lb : Nat} (c0 : w.cell? ⟨lf, 0, none⟩ = some (.string b)) :
    Calls Tryz.prog 38 #[.pointer (some ⟨lf, 0, none⟩), .pointer (some ⟨lb, 0, none⟩)] w fun e w' => e = leftV ∧ Below w.heap.size w w' := by
  have HE : Hid (Calls Tryz.prog 39 #[.string b] w fun e w' => e = leftV ∧ Below w.heap.size w w') := takeEpoch_no b hb h w
  clear h
  go_enter Tryz.func38, Tryz.ntmps38
  go_wp2_with (go_at_call 39; refine HE.out.mono ?_; rintro e w1 ⟨rfl, b1⟩; have B1 : Hid (Below w.heap.size w w1) := b1; clear b1)
  exact ⟨rfl, rfl, B1.out⟩
set_option maxRecDepth 100000 in
set_option maxHeartbeats 1000000 in
theorem cl2_yes (b : ByteArray) (hb : b.size ≤ maxLen) (k : Nat) (hk : k ≤ 300) (d r : ByteArray) (h : entryP b ((k + 1 : Nat) : Int) = some (d, r)) {w : World} {lf lb xb : Nat} {a : Option Addr} {c : Nat} {u v : Value} (c0 : w.cell? ⟨lf, 0, none⟩ = some (.string b)) (f0 : w.frozen? ⟨lf, 0, none⟩ = false) (c1 : w.cell? ⟨lb, 1, none⟩ = some (.slice a k c)) (c2 : w.cell? ⟨xb, 0, none⟩ = some u) (c3 : w.cell? ⟨xb, 1, none⟩ = some v) (f2 : w.frozen? ⟨xb, 0, none⟩ = false) (f3 : w.frozen? ⟨xb, 1, none⟩ = false) (hne : lf ≠ xb) :
    Calls Tryz.prog 40 #[.pointer (some ⟨lf, 0, none⟩), .pointer (some ⟨lb, 0, none⟩), .pointer (some ⟨xb, 0, none⟩)] w fun e w' => e = .returned (.tuple #[]) ∧ ∃ w1, Below w.heap.size w w1 ∧ w' = ((w1.setCell ⟨xb, 0, none⟩ (.int .i64 ((k + 1 : Nat) : Int))).setCell ⟨xb, 1, none⟩ (.string d)).setCell ⟨lf, 0, none⟩ (.string r) := by
  obtain ⟨I, hI⟩ : ∃ I : Int, ((k + 1 : Nat) : Int) = I := ⟨_, rfl⟩
  have hI2 : (k : Int) + 1 = I := by omega
  rw [hI] at h ⊢
  have HE : Hid (Calls Tryz.prog 41 #[.string b, .int .i64 I] w fun e w' => e = .returned (.tuple #[.agg #[.int .i64 I, .string d], .string r]) ∧ Below w.heap.size w w') := takeEntry_yes b hb I d r h w
  have l0 := World.block_lt_of_cell? _ _ c0
  have l2 := World.block_lt_of_cell? _ _ c2
  have hst := fun (w : World) (a : Addr) (x : ByteArray) (m : Mode) => run_store (P := Tryz.prog) w a (.string x) m rfl
  have hne2 : ¬ xb = lf := fun e => hne e.symm
  clear h hI
  go_enter Tryz.func40, Tryz.ntmps40
  go_wp2_with (go_at_call 41; refine HE.out.mono ?_; rintro e w1 ⟨rfl, b1⟩; have d0 := bel_cell b1 c0; have d2 := bel_cell b1 c2; have d3 := bel_cell b1 c3; have g0 : w1.frozen? ⟨lf, 0, none⟩ = false := (World.frozen?_of_block (a := ⟨lf, 0, none⟩) (b1.block lf l0)).trans f0; have g2 : w1.frozen? ⟨xb, 0, none⟩ = false := (World.frozen?_of_block (a := ⟨xb, 0, none⟩) (b1.block xb l2)).trans f2; have g3 : w1.frozen? ⟨xb, 1, none⟩ = false := (World.frozen?_of_block (a := ⟨xb, 1, none⟩) (b1.block xb l2)).trans f3; have B1 : Hid (Below w.heap.size w w1) := b1; clear b1 c0 c1 c2 c3 f0 f2 f3)
  refine bodyPost_end (results_none rfl _ _ _) rfl ?_
  exact ⟨rfl, w1, B1.out, rfl⟩
set_option maxRecDepth 100000 in
set_option maxHeartbeats 1000000 in
theorem cl2_no (b : ByteArray) (hb : b.size ≤ maxLen) (k : Nat) (hk : k ≤ 300) (h : entryP b ((k + 1 : Nat) : Int) = none) {w : World} {lf lb xb : Nat} {a : Option Addr} {c : Nat} (c0 : w.cell? ⟨lf, 0, none⟩ = some (.string b)) (c1 : w.cell? ⟨lb, 1, none⟩ = some (.slice a k c)) :
    Calls Tryz.prog 40 #[.pointer (some ⟨lf, 0, none⟩), .pointer (some ⟨lb, 0, none⟩), .pointer (some ⟨xb, 0, none⟩)] w fun e w' => e = leftV ∧ Below w.heap.size w w' := by
  obtain ⟨I, hI⟩ : ∃ I : Int, ((k + 1 : Nat) : Int) = I := ⟨_, rfl⟩
  have hI2 : (k : Int) + 1 = I := by omega
  rw [hI] at h
  have HE : Hid (Calls Tryz.prog 41 #[.string b, .int .i64 I] w fun e w' => e = leftV ∧ Below w.heap.size w w') := takeEntry_no b hb I h w
  clear h hI
  go_enter Tryz.func40, Tryz.ntmps40
  go_wp2_with (go_at_call 41; refine HE.out.mono ?_; rintro e w1 ⟨rfl, b1⟩; have B1 : Hid (Below w.heap.size w w1) := b1; clear b1)
  exact ⟨rfl, rfl, B1.out⟩

end Go.Proofs.YtefncpgemdgbbaaGreat.Lgg

/- The contract of log.Load. -/
namespace Go.Proofs.YtefncpgemdgbbaaGreat.Lgg
open Go.RowKit Go.Proofs.YtefncpgemdgbbaaGreat
set_option linter.unusedVariables false

/-- Load's boxes: the log, what is left, an entry. -/
structure Bx (W : World) (lb lf xb : Nat) (n : Int) (s : Value) (b : ByteArray) (u v : Value) : Prop where
  c0 : W.cell? ⟨lb, 0, none⟩ = some (.int .i64 n)
  c1 : W.cell? ⟨lb, 1, none⟩ = some s
  c2 : W.cell? ⟨lf, 0, none⟩ = some (.string b)
  c3 : W.cell? ⟨xb, 0, none⟩ = some u
  c4 : W.cell? ⟨xb, 1, none⟩ = some v
  f0 : ∀ j, W.frozen? ⟨lb, j, none⟩ = false
  f2 : W.frozen? ⟨lf, 0, none⟩ = false
  f3 : ∀ j, W.frozen? ⟨xb, j, none⟩ = false
  lt : lb < lf ∧ lf < xb ∧ xb < W.heap.size

section
variable {W W' : World} {lb lf xb : Nat} {n : Int} {s : Value} {b : ByteArray} {u v : Value}
theorem Bx.stay {O : Nat → Prop} (h : Bx W lb lf xb n s b u v) (hs : Stay O W W') (hO : ∀ k, O k → xb < k) : Bx W' lb lf xb n s b u v := by
  obtain ⟨l1, l2, l3⟩ := h.lt
  have k0 := hs.block lb (by omega) (fun e => by have := hO _ e; omega)
  have k1 := hs.block lf (by omega) (fun e => by have := hO _ e; omega)
  have k2 := hs.block xb (by omega) (fun e => by have := hO _ e; omega)
  exact ⟨(World.cell?_of_block (a := ⟨lb, 0, none⟩) k0).trans h.c0, (World.cell?_of_block (a := ⟨lb, 1, none⟩) k0).trans h.c1, (World.cell?_of_block (a := ⟨lf, 0, none⟩) k1).trans h.c2, (World.cell?_of_block (a := ⟨xb, 0, none⟩) k2).trans h.c3, (World.cell?_of_block (a := ⟨xb, 1, none⟩) k2).trans h.c4,
    fun j => (World.frozen?_of_block (a := ⟨lb, j, none⟩) k0).trans (h.f0 j), (World.frozen?_of_block (a := ⟨lf, 0, none⟩) k1).trans h.f2, fun j => (World.frozen?_of_block (a := ⟨xb, j, none⟩) k2).trans (h.f3 j), ⟨l1, l2, Nat.lt_of_lt_of_le l3 hs.size⟩⟩
theorem Bx.below (h : Bx W lb lf xb n s b u v) (hb : Below W.heap.size W W') : Bx W' lb lf xb n s b u v := h.stay (O := fun _ => False) (Stay.of_below hb) (fun _ e => e.elim)
theorem other {w : World} {p q i j : Nat} {x y : Value} (hne : p ≠ q) (h : w.cell? ⟨p, i, none⟩ = some x) : (w.setCell ⟨q, j, none⟩ y).cell? ⟨p, i, none⟩ = some x := by
  rw [World.cell?_setCell_other _ _ _ _ (by intro e; injection e with e1; exact hne (by omega))]; exact h
theorem size_set (w : World) (a : Addr) (x : Value) : (w.setCell a x).heap.size = w.heap.size := by simp [World.setCell]
/-- What the second closure writes. -/
theorem Bx.taken (h : Bx W lb lf xb n s b u v) (u' v' : Value) (r : ByteArray) : Bx (((W.setCell ⟨xb, 0, none⟩ u').setCell ⟨xb, 1, none⟩ v').setCell ⟨lf, 0, none⟩ (.string r)) lb lf xb n s r u' v' := by
  obtain ⟨l1, l2, l3⟩ := h.lt
  obtain ⟨y0, y1⟩ := two_set (u' := u') (v' := v') h.c3 h.c4
  refine ⟨other (by omega) (other (by omega) (other (by omega) h.c0)), other (by omega) (other (by omega) (other (by omega) h.c1)), World.cell?_setCell_same _ _ _ (other (by omega) (other (by omega) h.c2)), other (by omega) y0, other (by omega) y1, fun j => ?_, ?_, fun j => ?_, ⟨l1, l2, by rw [size_set, size_set, size_set]; exact l3⟩⟩
  · rw [World.frozen?_setCell, World.frozen?_setCell, World.frozen?_setCell]; exact h.f0 j
  · rw [World.frozen?_setCell, World.frozen?_setCell, World.frozen?_setCell]; exact h.f2
  · rw [World.frozen?_setCell, World.frozen?_setCell, World.frozen?_setCell]; exact h.f3 j
/-- The entries are others. -/
theorem Bx.putS (h : Bx W lb lf xb n s b u v) (s' : Value) : Bx (W.setCell ⟨lb, 1, none⟩ s') lb lf xb n s' b u v := by
  obtain ⟨l1, l2, l3⟩ := h.lt
  refine ⟨cell_set (by omega) h.c0, World.cell?_setCell_same _ _ _ h.c1, other (by omega) h.c2, other (by omega) h.c3, other (by omega) h.c4, fun j => ?_, ?_, fun j => ?_, ⟨l1, l2, by rw [size_set]; exact l3⟩⟩
  · rw [World.frozen?_setCell]; exact h.f0 j
  · rw [World.frozen?_setCell]; exact h.f2
  · rw [World.frozen?_setCell]; exact h.f3 j
end

theorem stay_set (w : World) (p j : Nat) (x : Value) : Stay (fun k => k = p) w (w.setCell ⟨p, j, none⟩ x) := Stay.setCell w ⟨p, j, none⟩ x rfl
theorem info_e : ∃ j, Tryz.prog.info? 32 = some j ∧ j.zero = some (.agg #[.int .i64 0, .string ⟨#[]⟩]) ∧ j.size = 2 ∧ j.bytes = 24 :=
  info_parts (show (Tryz.prog.info? 32).map (fun i => (i.zero, i.size, i.bytes)) = some (some (.agg #[.int .i64 0, .string ⟨#[]⟩]), 2, 24) by kernel_rfl)

theorem goL_len : ∀ (f : Nat) (es : List En) (b : ByteArray), (goL f es b).1.length ≤ es.length + f
  | 0, es, b => by unfold goL; simp
  | f + 1, es, b => by
    unfold goL
    split
    · rename_i d r _
      have := goL_len f (es ++ [⟨((es.length + 1 : Nat) : Int), d⟩]) r
      simp at this
      simp; omega
    · simp
theorem entryP_size {b d r : ByteArray} {i : Int} (h : entryP b i = some (d, r)) : d.size ≤ 600 ∧ r.size ≤ b.size := by
  unfold entryP at h
  split at h
  · rename_i n d' r' hP
    split at h
    · rename_i hc
      cases h
      exact ⟨hc.2, (takeP_size hP).2⟩
    · cases h
  · cases h
theorem epochP_size {b r : ByteArray} {i : Int} (h : epochP b = some (i, r)) : r.size ≤ b.size := by
  unfold epochP at h
  split at h
  · rename_i n d' r' hP
    split at h
    · cases h
      exact (takeP_size hP).2
    · cases h
  · cases h

/-- How Load ends: a log in new memory. -/
structure LoadR (base : Nat) (l : Lg) (whole : Bool) (e : Ending) (w' : World) : Prop where
  ex : ∃ a c g, e = .returned (.tuple #[.agg #[.int .i64 l.ep, .slice a l.es.length c], .bool whole, .int .i64 0]) ∧ Cel (fun k => base ≤ k) w' 2 (.slice a l.es.length c) l.es.length (rowC enC l.es) g

/-- What the loop keeps. -/
structure Lp (w : World) (W : World) (lb lf xb : Nat) (n : Int) (es : List En) (k : Nat) (b : ByteArray) (tot : List En × ByteArray) : Prop where
  ex : ∃ a c g u v, Bx W lb lf xb n (.slice a k c) b u v ∧ Cel (fun q => xb < q) W 2 (.slice a k c) k (rowC enC es) g
  len : es.length = k
  le : k ≤ 300
  bel : Below w.heap.size w W
  go : goL (300 - k) es b = tot
  bm : b.size ≤ maxLen

theorem fin_w {w W : World} {lb lf xb : Nat} {n : Int} {a : Option Addr} {k c : Nat} {es : List En} {g : Option Nat} (h0 : W.cell? ⟨lb, 0, none⟩ = some (.int .i64 n)) (h1 : W.cell? ⟨lb, 1, none⟩ = some (.slice a k c)) (hC : Cel (fun q => xb < q) W 2 (.slice a k c) k (rowC enC es) g) (hl : lb < lf ∧ lf < xb ∧ xb < W.heap.size) (hb : Below w.heap.size w W) (hlb : lb = w.heap.size := by rfl) :
    ((W.setCell ⟨lb, 0, none⟩ (.int .i64 n)).setCell ⟨lb, 1, none⟩ (.slice a k c)).drew.cell? ⟨lb, 0, none⟩ = some (.int .i64 n) ∧ ((W.setCell ⟨lb, 0, none⟩ (.int .i64 n)).setCell ⟨lb, 1, none⟩ (.slice a k c)).drew.cell? ⟨lb, 1, none⟩ = some (.slice a k c) ∧ Cel (fun q => w.heap.size ≤ q) ((W.setCell ⟨lb, 0, none⟩ (.int .i64 n)).setCell ⟨lb, 1, none⟩ (.slice a k c)).drew 2 (.slice a k c) k (rowC enC es) g ∧ Below w.heap.size w ((W.setCell ⟨lb, 0, none⟩ (.int .i64 n)).setCell ⟨lb, 1, none⟩ (.slice a k c)).drew := by
  obtain ⟨z0, z1⟩ := two_set (u' := .int .i64 n) (v' := .slice a k c) h0 h1
  have hs : Stay (fun q => q = lb) W ((W.setCell ⟨lb, 0, none⟩ (.int .i64 n)).setCell ⟨lb, 1, none⟩ (.slice a k c)).drew := ((stay_set W lb 0 _).then_same (stay_set _ lb 1 _)).drew
  refine ⟨z0, z1, hC.stay hs.size (fun q hq => hs.block q (by rw [hq] at hC; exact hC.lt.1) (fun e => by rw [hq] at hC; have h9 : xb < q := hC.lt.2; omega)) (fun q hq => by have h9 : xb < q := hq; omega), hb.trans (hs.below hb.size (fun q hq => by omega))⟩
theorem taken_w {w wr w6 : World} {lb lf xb : Nat} {n : Int} {a : Option Addr} {k c : Nat} {es : List En} {g : Option Nat} {b : ByteArray} {u v : Value} (hB : Bx wr lb lf xb n (.slice a k c) b u v) (hC : Cel (fun q => xb < q) wr 2 (.slice a k c) k (rowC enC es) g) (hb : Below w.heap.size w wr) (k1 : Below wr.heap.size wr w6) (k2 : wr.heap.size < w6.heap.size) (u' v' : Value) (r : ByteArray) (hlb : lb = w.heap.size := by rfl) :
    Bx ((((w6.setCell ⟨xb, 0, none⟩ u').setCell ⟨xb, 1, none⟩ v').setCell ⟨lf, 0, none⟩ (.string r)).setCell ⟨wr.heap.size, 0, none⟩ (.bool true)) lb lf xb n (.slice a k c) r u' v' ∧ Cel (fun q => xb < q) ((((w6.setCell ⟨xb, 0, none⟩ u').setCell ⟨xb, 1, none⟩ v').setCell ⟨lf, 0, none⟩ (.string r)).setCell ⟨wr.heap.size, 0, none⟩ (.bool true)) 2 (.slice a k c) k (rowC enC es) g ∧ Below w.heap.size w ((((w6.setCell ⟨xb, 0, none⟩ u').setCell ⟨xb, 1, none⟩ v').setCell ⟨lf, 0, none⟩ (.string r)).setCell ⟨wr.heap.size, 0, none⟩ (.bool true)) := by
  have hl := hB.lt
  have h1 := (hB.below k1).taken u' v' r
  have h2 : Stay (fun q => q = wr.heap.size) (((w6.setCell ⟨xb, 0, none⟩ u').setCell ⟨xb, 1, none⟩ v').setCell ⟨lf, 0, none⟩ (.string r)) _ := stay_set _ wr.heap.size 0 (.bool true)
  have s3 : Stay (fun q => q = xb ∨ q = lf) w6 (((w6.setCell ⟨xb, 0, none⟩ u').setCell ⟨xb, 1, none⟩ v').setCell ⟨lf, 0, none⟩ (.string r)) := ((Stay.to (stay_set w6 xb 0 u') (fun q hq => .inl hq)).then_same (Stay.to (stay_set _ xb 1 v') (fun q hq => .inl hq))).then_same (Stay.to (stay_set _ lf 0 (.string r)) (fun q hq => .inr hq))
  have hC6 := hC.below k1
  have s4 : Stay (fun q => q = xb ∨ q = lf ∨ q = wr.heap.size) w6 ((((w6.setCell ⟨xb, 0, none⟩ u').setCell ⟨xb, 1, none⟩ v').setCell ⟨lf, 0, none⟩ (.string r)).setCell ⟨wr.heap.size, 0, none⟩ (.bool true)) := (Stay.to s3 (fun q hq => hq.elim .inl (fun e => .inr (.inl e)))).then_same (Stay.to h2 (fun q hq => .inr (.inr hq)))
  have hb6 := bel_tr hb k1
  refine ⟨h1.stay h2 (fun q hq => by omega), hC6.stay s4.size (fun q hq => s4.block q (by rw [hq] at hC6; exact hC6.lt.1) (fun e => ?_)) (fun _ e => e), hb6.trans (s4.below hb6.size (fun q hq => by rcases hq with e | e | e <;> omega))⟩
  rw [hq] at hC
  have h9 : xb < q := hC.lt.2
  have h10 := hC.lt.1
  rcases e with e | e | e <;> omega

theorem src_entry (w : World) (I : Int) (d : ByteArray) : Src Tryz.prog 2 28 (.slice (some ⟨w.heap.size, 0, none⟩) 1 1) 1 [.int .i64 I, .string d] (w.alloc (.cells #[.int .i64 I, .string d] 32)) := by
  refine Src.ofSlice _ Tryz.underlying28 ⟨w.heap.size, 0, none⟩ 1 1 _ (by rfl) (fun j u hu => ?_) (fun u hu => wideN.one (⟨I, d⟩ : En) u hu)
  rw [Addr.add_lit, Nat.zero_add, World.cell?_alloc_new w _ _ j]
  simpa using hu
theorem app_w {w w5 w7 : World} {lb lf xb : Nat} {n : Int} {a a7 : Option Addr} {k c c7 : Nat} {es : List En} {g g7 : Option Nat} {b d : ByteArray} {I : Int} {u v : Value} {o : Obj} (hB : Bx w5 lb lf xb n (.slice a k c) b u v) (hC : Cel (fun q => xb < q) (w5.alloc o) 2 (.slice a k c) k (rowC enC es) g) (hb : Below w.heap.size w w5) (hC7 : Cel (Grow (fun q => xb < q) (w5.alloc o) w7) w7 2 (.slice a7 (k + 1) c7) (k + 1) (rowC enC es ++ [.int .i64 I, .string d]) g7) (hS7 : Stay (fun q => g = some q) (w5.alloc o) w7) (hlb : lb = w.heap.size := by rfl) :
    Bx w7 lb lf xb n (.slice a k c) b u v ∧ Cel (fun q => xb < q) w7 2 (.slice a7 (k + 1) c7) (k + 1) (rowC enC (es ++ [⟨I, d⟩])) g7 ∧ Below w.heap.size w w7 := by
  have hl := hB.lt
  have hx : ∀ q, g = some q → xb < q := fun q hq => by rw [hq] at hC; exact hC.lt.2
  have h1 := bel_tr hb (bel_al w5 o)
  have hz : (w5.alloc o).heap.size = w5.heap.size + 1 := by simp
  refine ⟨(hB.below (bel_al _ _)).stay hS7 hx, ?_, h1.trans (hS7.below h1.size (fun q hq => by have := hx q hq; omega))⟩
  rw [rowC_app, rowC_one]
  exact hC7.stay (Nat.le_refl _) (fun _ _ => rfl) (fun q hq => hq.elim id (fun e => by have := e.1; omega))

def lenAt (w : World) (a : Addr) : Nat := match w.cell? a with | some (.slice _ k _) => k | _ => 0

set_option maxRecDepth 100000 in
set_option maxHeartbeats 4000000 in
theorem load_yes {w0 w : World} {K : Nat → Prop} {pd : Nat} {ds : DS} (h : Dk w0 K w pd ds) (s : ByteArray) (hs : s.size ≤ maxLen) (b : ByteArray) (hbm : b.size ≤ maxLen) (ht : rdT ds s.data.toList = b) (hq : rdE ds s.data.toList = 0) (l : Lg) (R : ByteArray) (hp : parseL b = some (l, R)) (wh : Bool) (hwh : decide (R.size = 0) = wh) :
    Calls Tryz.prog 16 #[.pointer (some ⟨pd, 0, none⟩), .string s] w fun e w' => LoadR w.heap.size l wh e w' ∧ Below w.heap.size w w' := by
  unfold parseL at hp
  split at hp
  case h_2 => cases hp
  rename_i n r hE
  simp only [Option.some.injEq, Prod.mk.injEq] at hp
  obtain ⟨rfl, rfl⟩ := hp
  have hwe := is_empty hwh
  have hrm : r.size ≤ maxLen := Nat.le_trans (epochP_size hE) hbm
  obtain ⟨ti, hi1, hi2, hi3, hi4⟩ := info_e
  have HR : Hid (∀ W, Below w.heap.size w W → Calls Tryz.prog 29 #[.pointer (some ⟨pd, 0, none⟩), .string s] W fun e w' => e = .returned (.tuple #[.string b, .int .i64 0]) ∧ Below W.heap.size W w') := fun W hb => dk_read (h.below hb) s hs b 0 ht hq
  have HE : Hid (epochP b = some (n, r)) := hE
  have HBM : Hid (b.size ≤ maxLen) := hbm
  obtain ⟨tot, htot⟩ : ∃ t, goL 300 [] r = t := ⟨_, rfl⟩
  rw [htot] at hwe ⊢
  have HT : Hid (goL 300 [] r = tot) := htot
  have HRM : Hid (r.size ≤ maxLen) := hrm
  have HWE : Hid (tot.2.toList.isEmpty = wh) := hwe
  have hmf : ∀ (fn : Fn) (first cap : Array Value) (w : World), (Instr.makeFunc fn first cap).run Tryz.prog w = .ok (.func fn first cap) w := fun _ _ _ _ => rfl
  have hst := fun (w : World) (a : Addr) (x : ByteArray) (m : Mode) => run_store (P := Tryz.prog) w a (.string x) m rfl
  have hst2 : ∀ (w : World) (a : Addr) (x : Option Addr) (n c : Nat) (m : Mode), (store a (.slice x n c) m).run Tryz.prog w = stored Tryz.prog w a (.slice x n c) m := fun w a x n c m => run_store (P := Tryz.prog) w a _ m rfl
  clear h ht hq hE hbm htot hwh hrm hwe
  go_enter Tryz.func16, Tryz.ntmps16
  go_wp2_with fail
  refine (HR.out _ (bel_al _ _)).mono ?_
  rintro e w1 ⟨rfl, b1⟩
  have x0 : w1.cell? ⟨w.heap.size, 0, none⟩ = some (.int .i64 0) := bel_cell b1 (World.cell?_alloc_new w _ _ 0)
  have x1 : w1.cell? ⟨w.heap.size, 1, none⟩ = some (.slice none 0 0) := bel_cell b1 (World.cell?_alloc_new w _ _ 1)
  have fx : ∀ j, w1.frozen? ⟨w.heap.size, j, none⟩ = false := fun j => (World.frozen?_of_block (a := ⟨w.heap.size, j, none⟩) (b1.block w.heap.size (by simp))).trans (World.frozen?_alloc_new w _ _ j)
  have hlt : w.heap.size < w1.heap.size := World.block_lt_of_cell? _ _ x0
  have B1 : Hid (Below w.heap.size w w1) := bel_tr (bel_al _ _) b1
  have HX : Hid (w1.cell? ⟨w.heap.size, 0, none⟩ = some (.int .i64 0) ∧ w1.cell? ⟨w.heap.size, 1, none⟩ = some (.slice none 0 0) ∧ (∀ j, w1.frozen? ⟨w.heap.size, j, none⟩ = false) ∧ w.heap.size < w1.heap.size) := ⟨x0, x1, fx, hlt⟩
  clear x0 x1 fx hlt b1 HR
  -- the epoch
  have C1 : Hid (Calls Tryz.prog 37 #[.func (.func 38) #[] #[.pointer (some ⟨w1.heap.size, 0, none⟩), .pointer (some ⟨w.heap.size, 0, none⟩)]] (w1.alloc (.cells #[.string b] 9)) fun e w' => e = .returned (.bool true) ∧ ∃ w2, Below w1.heap.size w1 w2 ∧ w1.heap.size + 1 < w2.heap.size ∧ w2.cell? ⟨w1.heap.size, 0, none⟩ = some (.string b) ∧ w2.frozen? ⟨w1.heap.size, 0, none⟩ = false ∧ w' = ((w2.setCell ⟨w.heap.size, 0, none⟩ (.int .i64 n)).setCell ⟨w1.heap.size, 0, none⟩ (.string r)).setCell ⟨w1.heap.size + 1, 0, none⟩ (.bool true)) := by
    obtain ⟨x0, x1, fx, hlt⟩ := HX.out
    have hz : (w1.alloc (.cells #[.string b] 9)).heap.size = w1.heap.size + 1 := by simp
    have b2 : Below w1.heap.size w1 ((w1.alloc (.cells #[.string b] 9)).alloc (.cells #[.bool false] 4)) := bel_tr (bel_al _ _) (bel_al _ _)
    have e0 : ((w1.alloc (.cells #[.string b] 9)).alloc (.cells #[.bool false] 4)).cell? ⟨w1.heap.size, 0, none⟩ = some (.string b) := bel_cell (bel_al _ _) (World.cell?_alloc_new w1 _ _ 0)
    have g0 : ((w1.alloc (.cells #[.string b] 9)).alloc (.cells #[.bool false] 4)).frozen? ⟨w1.heap.size, 0, none⟩ = false := (World.frozen?_of_block (a := ⟨w1.heap.size, 0, none⟩) ((bel_al (w1.alloc (.cells #[.string b] 9)) _).block w1.heap.size (by simp))).trans (World.frozen?_alloc_new w1 _ _ 0)
    have g1 : ((w1.alloc (.cells #[.string b] 9)).alloc (.cells #[.bool false] 4)).frozen? ⟨w.heap.size, 0, none⟩ = false := (World.frozen?_of_block (a := ⟨w.heap.size, 0, none⟩) (b2.block w.heap.size hlt)).trans (fx 0)
    have hc := cl1_yes b HBM.out n r HE.out e0 g0 (bel_cell b2 x0) g1 (by omega)
    have hx9 : ((w1.alloc (.cells #[.string b] 9)).alloc (.cells #[.bool false] 4)).cell? ⟨w1.heap.size + 1, 0, none⟩ = some (.bool false) := by
      have := World.cell?_alloc_new (w1.alloc (.cells #[.string b] 9)) #[.bool false] 4 0
      rw [hz] at this; exact this
    have hf9 : ((w1.alloc (.cells #[.string b] 9)).alloc (.cells #[.bool false] 4)).frozen? ⟨w1.heap.size + 1, 0, none⟩ = false := by
      have := World.frozen?_alloc_new (w1.alloc (.cells #[.string b] 9)) #[.bool false] 4 0
      rw [hz] at this; exact this
    have := tried_yes1 (w := w1.alloc (.cells #[.string b] 9)) (.pointer (some ⟨w1.heap.size, 0, none⟩)) (.pointer (some ⟨w.heap.size, 0, none⟩)) _ hc (fun w' ⟨w2, k1, k2⟩ => by
      rw [hz, k2]
      have k3 := bel_cell k1 hx9
      have k4 := (World.frozen?_of_block (a := ⟨w1.heap.size + 1, 0, none⟩) (k1.block (w1.heap.size + 1) (by simp))).trans hf9
      exact ⟨other (by omega) (other (by omega) k3), by rw [World.frozen?_setCell, World.frozen?_setCell]; exact k4⟩)
    refine this.mono ?_
    rintro e w' ⟨rfl, w3, ⟨w2, k1, k2⟩, k3⟩
    rw [hz] at k3
    have hz2 : ((w1.alloc (.cells #[.string b] 9)).alloc (.cells #[.bool false] 4)).heap.size = w1.heap.size + 1 + 1 := by simp
    refine ⟨rfl, w2, bel_tr b2 k1, by have := k1.size; omega, bel_cell k1 e0, (World.frozen?_of_block (a := ⟨w1.heap.size, 0, none⟩) (k1.block w1.heap.size (by simp; omega))).trans g0, by rw [k3, k2]⟩
  go_wp2_with (go_at_call 37; refine C1.out.mono ?_; rintro e w3 ⟨rfl, w2, k1, k2, k3, k4, rfl⟩)
  have L0 : Hid (∀ T, Lp w ((((w2.setCell ⟨w.heap.size, 0, none⟩ (.int .i64 n)).setCell ⟨w1.heap.size, 0, none⟩ (.string r)).setCell ⟨w1.heap.size + 1, 0, none⟩ (.bool true)).alloc (.cells #[.int .i64 0, .string ⟨#[]⟩] T)) w.heap.size w1.heap.size w2.heap.size n [] 0 r tot) := by
    intro T
    obtain ⟨x0, x1, fx, hlt⟩ := HX.out
    have y0 := bel_cell k1 x0
    have y1 := bel_cell k1 x1
    have fy : ∀ j, w2.frozen? ⟨w.heap.size, j, none⟩ = false := fun j => (World.frozen?_of_block (a := ⟨w.heap.size, j, none⟩) (k1.block w.heap.size hlt)).trans (fx j)
    have bb : Below w.heap.size w (((w2.setCell ⟨w.heap.size, 0, none⟩ (.int .i64 n)).setCell ⟨w1.heap.size, 0, none⟩ (.string r)).setCell ⟨w1.heap.size + 1, 0, none⟩ (.bool true)) := Below.setCell (Below.setCell (Below.setCell (bel_tr B1.out k1) (Nat.le_refl _) _) (by show w.heap.size ≤ w1.heap.size; omega) _) (by show w.heap.size ≤ w1.heap.size + 1; omega) _
    have z0 : (((w2.setCell ⟨w.heap.size, 0, none⟩ (.int .i64 n)).setCell ⟨w1.heap.size, 0, none⟩ (.string r)).setCell ⟨w1.heap.size + 1, 0, none⟩ (.bool true)).cell? ⟨w.heap.size, 0, none⟩ = some (.int .i64 n) := other (by omega) (other (by omega) (World.cell?_setCell_same _ _ _ y0))
    have z1 : (((w2.setCell ⟨w.heap.size, 0, none⟩ (.int .i64 n)).setCell ⟨w1.heap.size, 0, none⟩ (.string r)).setCell ⟨w1.heap.size + 1, 0, none⟩ (.bool true)).cell? ⟨w.heap.size, 1, none⟩ = some (.slice none 0 0) := other (by omega) (other (by omega) (cell_set (by omega) y1))
    have z2 : (((w2.setCell ⟨w.heap.size, 0, none⟩ (.int .i64 n)).setCell ⟨w1.heap.size, 0, none⟩ (.string r)).setCell ⟨w1.heap.size + 1, 0, none⟩ (.bool true)).cell? ⟨w1.heap.size, 0, none⟩ = some (.string r) := other (by omega) (World.cell?_setCell_same _ _ _ (other (by omega) k3))
    have hfz : ∀ p j, w2.frozen? ⟨p, j, none⟩ = false → (((w2.setCell ⟨w.heap.size, 0, none⟩ (.int .i64 n)).setCell ⟨w1.heap.size, 0, none⟩ (.string r)).setCell ⟨w1.heap.size + 1, 0, none⟩ (.bool true)).frozen? ⟨p, j, none⟩ = false := fun p j h => by rw [World.frozen?_setCell, World.frozen?_setCell, World.frozen?_setCell]; exact h
    have hsz : (((w2.setCell ⟨w.heap.size, 0, none⟩ (.int .i64 n)).setCell ⟨w1.heap.size, 0, none⟩ (.string r)).setCell ⟨w1.heap.size + 1, 0, none⟩ (.bool true)).heap.size = w2.heap.size := by rw [size_set, size_set, size_set]
    have q0 := hfz w1.heap.size 0 k4
    have qx := fun j => hfz w.heap.size j (fy j)
    generalize (((w2.setCell ⟨w.heap.size, 0, none⟩ (.int .i64 n)).setCell ⟨w1.heap.size, 0, none⟩ (.string r)).setCell ⟨w1.heap.size + 1, 0, none⟩ (.bool true)) = W3 at *
    have hal : Below W3.heap.size W3 (W3.alloc (.cells #[.int .i64 0, .string ⟨#[]⟩] T)) := bel_al _ _
    have c3 := World.cell?_alloc_new W3 #[.int .i64 0, .string ⟨#[]⟩] T 0
    have c4 := World.cell?_alloc_new W3 #[.int .i64 0, .string ⟨#[]⟩] T 1
    have f3 := World.frozen?_alloc_new W3 #[.int .i64 0, .string ⟨#[]⟩] T
    have hs3 : (W3.alloc (.cells #[.int .i64 0, .string ⟨#[]⟩] T)).heap.size = w2.heap.size + 1 := by rw [← hsz]; simp
    rw [hsz] at c3 c4 f3
    refine ⟨⟨none, 0, none, .int .i64 0, .string ⟨#[]⟩, ⟨bel_cell hal z0, bel_cell hal z1, bel_cell hal z2, c3, c4, fun j => (World.frozen?_of_block (a := ⟨w.heap.size, j, none⟩) (hal.block w.heap.size (by omega))).trans (qx j), (World.frozen?_of_block (a := ⟨w1.heap.size, 0, none⟩) (hal.block w1.heap.size (by omega))).trans q0, f3, ⟨hlt, by omega, by omega⟩⟩, .nil rfl rfl rfl⟩, rfl, by omega, bel_tr bb hal, HT.out, HRM.out⟩
  clear C1 HE HBM HX HT HRM B1
  have L1 : Hid (Lp w ((((w2.setCell ⟨w.heap.size, 0, none⟩ (.int .i64 n)).setCell ⟨w1.heap.size, 0, none⟩ (.string r)).setCell ⟨w1.heap.size + 1, 0, none⟩ (.bool true)).alloc (.cells #[.int .i64 0, .string ⟨#[]⟩] 32)) w.heap.size w1.heap.size w2.heap.size n [] 0 r tot) := L0.out 32
  clear L0 k1 k3 k4
  generalize ((((w2.setCell ⟨w.heap.size, 0, none⟩ (.int .i64 n)).setCell ⟨w1.heap.size, 0, none⟩ (.string r)).setCell ⟨w1.heap.size + 1, 0, none⟩ (.bool true)).alloc (.cells #[.int .i64 0, .string ⟨#[]⟩] 32)) = W4 at *
  generalize w1.heap.size = lf at *
  generalize w2.heap.size = xb at *
  clear k2
  go_loopw [] (fun wr => ∃ (k : Nat) (es : List En) (b' : ByteArray), Lp w wr w.heap.size lf xb n es k b' tot) (fun wr => 300 - lenAt wr ⟨w.heap.size, 1, none⟩)
  case atStart => exact ⟨0, [], r, L1.out⟩
  case round =>
    obtain ⟨k, es, b', hL⟩ := hrel
    have HL : Hid (Lp w wr w.heap.size lf xb n es k b' tot) := hL
    obtain ⟨a, c, g, u, v, hB, hC⟩ := hL.ex
    have hlen := hL.len
    have hle := hL.le
    have HB : Hid (Bx wr w.heap.size lf xb n (.slice a k c) b' u v) := hB
    have HC : Hid (Cel (fun q => xb < q) wr 2 (.slice a k c) k (rowC enC es) g) := hC
    have HLN : Hid (es.length = k) := hlen
    have hlt := hB.lt
    have c0 := hB.c0
    have c1 := hB.c1
    have c2 := hB.c2
    clear hL hB hC hlen L1
    by_cases hk : k < 300
    · cases hP : entryP b' ((k + 1 : Nat) : Int) with
      | none =>
        have hto : tot = (es, b') := by
          have h1 := HL.out.go
          obtain ⟨f, hf⟩ : ∃ f, 300 - k = f + 1 := ⟨299 - k, by omega⟩
          rw [hf] at h1
          unfold goL at h1
          rw [HLN.out, hP] at h1
          exact h1.symm
        subst hto
        have CT : Hid (Calls Tryz.prog 37 #[.func (.func 40) #[] #[.pointer (some ⟨lf, 0, none⟩), .pointer (some ⟨w.heap.size, 0, none⟩), .pointer (some ⟨xb, 0, none⟩)]] wr fun e w' => e = .returned (.bool false) ∧ Below wr.heap.size wr w') :=
          tried_no2 _ _ _ (cl2_no b' HL.out.bm k hle hP (bel_cell (bel_al _ _) c2) (bel_cell (bel_al _ _) c1))
        clear hP
        simp only at HWE ⊢
        go_wp2_with (go_at_call 37; refine CT.out.mono ?_; rintro e w5 ⟨rfl, b5⟩; have HB5 : Hid (Bx w5 w.heap.size lf xb n (.slice a k c) b' u v) := HB.out.below b5; have HC5 : Hid (Cel (fun q => xb < q) w5 2 (.slice a k c) k (rowC enC es) g) := HC.out.below b5; have BW5 : Hid (Below w.heap.size w w5) := bel_tr HL.out.bel b5; clear b5 c0 c1 c2 CT HL HC HB; have y0 := HB5.out.c0; have y1 := HB5.out.c1; have y2 := HB5.out.c2; have f0 := HB5.out.f0 0; have f1 := HB5.out.f0 1)
        go_wp2
        go_region
        go_wp2
        obtain ⟨F1, F2, F3, F4⟩ := fin_w HB5.out.c0 HB5.out.c1 HC5.out HB5.out.lt BW5.out
        refine bodyPost_ret (v := .tuple #[.agg #[.int .i64 n, .slice a k c], .bool wh, .int .i64 0]) ?_ rfl ⟨⟨a, c, g, by simp only [HLN.out], by simp only [HLN.out]; exact F3⟩, F4⟩
        simp only [results, Tryz.results16]
        simp [go_sem, F1, F2, HWE.out]
      | some dr =>
        obtain ⟨d, r'⟩ := dr
        have hsz := entryP_size hP
        have CT : Hid (Calls Tryz.prog 37 #[.func (.func 40) #[] #[.pointer (some ⟨lf, 0, none⟩), .pointer (some ⟨w.heap.size, 0, none⟩), .pointer (some ⟨xb, 0, none⟩)]] wr fun e w' => e = .returned (.bool true) ∧ ∃ w6, Below wr.heap.size wr w6 ∧ wr.heap.size < w6.heap.size ∧ w' = (((w6.setCell ⟨xb, 0, none⟩ (.int .i64 ((k + 1 : Nat) : Int))).setCell ⟨xb, 1, none⟩ (.string d)).setCell ⟨lf, 0, none⟩ (.string r')).setCell ⟨wr.heap.size, 0, none⟩ (.bool true)) := by
          have hal : Below wr.heap.size wr (wr.alloc (.cells #[.bool false] 4)) := bel_al _ _
          have hB := HB.out.below hal
          have hc := cl2_yes b' HL.out.bm k hle d r' hP hB.c2 hB.f2 hB.c1 hB.c3 hB.c4 (hB.f3 0) (hB.f3 1) (by omega)
          refine (tried_yes2 _ _ _ _ hc (fun w' ⟨w2, k1, k2⟩ => ?_)).mono ?_
          · rw [k2]
            have k3 := bel_cell k1 (World.cell?_alloc_new wr #[.bool false] 4 0)
            have k4 := (World.frozen?_of_block (a := ⟨wr.heap.size, 0, none⟩) (k1.block wr.heap.size (by simp))).trans (World.frozen?_alloc_new wr #[.bool false] 4 0)
            exact ⟨other (by omega) (other (by omega) (other (by omega) k3)), by rw [World.frozen?_setCell, World.frozen?_setCell, World.frozen?_setCell]; exact k4⟩
          · rintro e w' ⟨rfl, w3, ⟨w2, k1, k2⟩, k3⟩
            refine ⟨rfl, w2, bel_tr hal k1, ?_, by rw [k3, k2]⟩
            have := k1.size
            simp at this; omega
        have HP : Hid (entryP b' ((k + 1 : Nat) : Int) = some (d, r')) := hP
        have HSZ : Hid (d.size ≤ 600 ∧ r'.size ≤ b'.size) := hsz
        clear hP hsz
        have HNX : Hid (goL (300 - (k + 1)) (es ++ [⟨((k + 1 : Nat) : Int), d⟩]) r' = tot) := by
          have h1 := HL.out.go
          obtain ⟨f, hf⟩ : ∃ f, 300 - k = f + 1 := ⟨299 - k, by omega⟩
          rw [hf] at h1
          unfold goL at h1
          rw [HLN.out, HP.out] at h1
          simp only at h1
          rw [show 300 - (k + 1) = f by omega]
          exact h1
        obtain ⟨I, hI⟩ : ∃ I : Int, ((k + 1 : Nat) : Int) = I := ⟨_, rfl⟩
        rw [hI] at CT
        have HI : Hid (((k + 1 : Nat) : Int) = I) := hI
        clear hI HP
        go_wp2_with (first
          | (go_at_call 37; refine CT.out.mono ?_; rintro e w5 ⟨rfl, w6, k1, k2, hw5⟩; obtain ⟨HB5, HC5, BW5⟩ := taken_w HB.out HC.out HL.out.bel k1 k2 (.int .i64 I) (.string d) r'; rw [← hw5] at HB5 HC5 BW5; replace HB5 : Hid (Bx w5 w.heap.size lf xb n (.slice a k c) r' (.int .i64 I) (.string d)) := HB5; replace HC5 : Hid (Cel (fun q => xb < q) w5 2 (.slice a k c) k (rowC enC es) g) := HC5; replace BW5 : Hid (Below w.heap.size w w5) := BW5; clear k1 k2 hw5 c0 c1 c2 CT; have y1 := HB5.out.c1; have y3 := HB5.out.c3; have y4 := HB5.out.c4; have CW : Hid (Cel (fun q => xb < q) (w5.alloc (.cells #[.int .i64 I, .string d] 32)) 2 (.slice a k c) k (rowC enC es) g) := HC5.out.below (bel_al _ _); have SW : Hid (Src Tryz.prog 2 28 (.slice (some ⟨w5.heap.size, 0, none⟩) 1 1) 1 [.int .i64 I, .string d] (w5.alloc (.cells #[.int .i64 I, .string d] 32))) := src_entry w5 I d)
          | (at_builtin; refine wpList_append_cel _ rfl _ _ 28 28 rfl 32 ti _ 2 24 Tryz.underlying28 hi1 hi2 hi3 hi4 rfl (O := fun q => xb < q) (.slice a k c) k _ g rfl CW.out _ 1 [.int .i64 I, .string d] rfl SW.out (by unfold maxLen; omega) (by omega) ?_; intro a7 c7 w7 g7 hC7 hS7 hg7; have H7 : Hid (Bx w7 w.heap.size lf xb n (.slice a k c) r' (.int .i64 I) (.string d) ∧ Cel (fun q => xb < q) w7 2 (.slice a7 (k + 1) c7) (k + 1) (rowC enC (es ++ [⟨I, d⟩])) g7 ∧ Below w.heap.size w w7) := app_w HB5.out CW.out BW5.out hC7 hS7; clear hC7 hS7 hg7 y1 y3 y4; have y1 := H7.out.1.c1; have f1 := H7.out.1.f0 1))
        go_roundw
        case rel =>
          refine ⟨k + 1, es ++ [⟨I, d⟩], r', ⟨a7, c7, g7, _, _, H7.out.1.putS _, H7.out.2.1.setOut _ _ (fun e => ?_)⟩, by simp [HLN.out], by omega, Below.setCell H7.out.2.2 (Nat.le_refl _) _, by rw [← HI.out]; exact HNX.out, Nat.le_trans HSZ.out.2 HL.out.bm⟩
          have h8 := H7.out.2.1
          rw [e] at h8
          have h9 : xb < w.heap.size := h8.lt.2
          omega
        case measure =>
          have e1 : lenAt wr ⟨w.heap.size, 1, none⟩ = k := by unfold lenAt; rw [HB.out.c1]
          have e2 : lenAt (w7.setCell ⟨w.heap.size, 1, none⟩ (.slice a7 (k + 1) c7)) ⟨w.heap.size, 1, none⟩ = k + 1 := by unfold lenAt; rw [(H7.out.1.putS (.slice a7 (k + 1) c7)).c1]
          rw [e1, e2]
          omega
    · obtain rfl : k = 300 := by omega
      have hto : tot = (es, b') := by
        have h1 := HL.out.go
        rw [Nat.sub_self] at h1
        exact h1.symm
      subst hto
      simp only at HWE ⊢
      have HB5 : Hid (Bx wr w.heap.size lf xb n (.slice a 300 c) b' u v) := HB.out
      have HC5 : Hid (Cel (fun q => xb < q) wr 2 (.slice a 300 c) 300 (rowC enC es) g) := HC.out
      have BW5 : Hid (Below w.heap.size w wr) := HL.out.bel
      have f0 := HB5.out.f0 0
      have f1 := HB5.out.f0 1
      clear HL HC HB
      go_wp2
      go_region
      go_wp2
      obtain ⟨F1, F2, F3, F4⟩ := fin_w HB5.out.c0 HB5.out.c1 HC5.out HB5.out.lt BW5.out
      refine bodyPost_ret (v := .tuple #[.agg #[.int .i64 n, .slice a 300 c], .bool wh, .int .i64 0]) ?_ rfl ⟨⟨a, c, g, by simp only [HLN.out], by simp only [HLN.out]; exact F3⟩, F4⟩
      simp only [results, Tryz.results16]
      simp [go_sem, F1, F2, HWE.out]

end Go.Proofs.YtefncpgemdgbbaaGreat.Lgg

/- Plain: what was written is read back. -/
namespace Go.Proofs.YtefncpgemdgbbaaGreat.Lgg
open Go.Proofs.YtefncpgemdgbbaaGreat Go.Proofs.YtefncpgemdgbbaaGreat.Wir Go.Proofs.YtefncpgemdgbbaaGreat.Smm
open Go.WideShapes (bytes_inj)
set_option linter.unusedVariables false

theorem mk_list (s : ByteArray) : (⟨s.data.toList.toArray⟩ : ByteArray) = s := by cases s; simp
theorem ext_num (n : Int) (d : ByteArray) : (numT n ++ d).extract (numB n).length (numT n ++ d).size = d := ext_behind (numT n) d _ (by unfold numT; rw [mk_size])
theorem takeP_back (n : Int) (h0 : -9223372036854775808 ≤ n) (h1 : n ≤ 9223372036854775807) (d rest : ByteArray) (hd : d.size ≤ 3000) : takeP (sealB (numT n ++ d) ++ rest) = some (n, d, rest) := by
  have hz := numT_size h0 h1
  unfold takeP
  rw [open_back _ _ (by rw [app_size]; omega)]
  simp only
  have e : (numT n ++ d).data.toList = numB n ++ d.data.toList := by rw [app_list]; rfl
  rw [e, take_num n _ h0 h1]
  simp only
  rw [unzig_zig, ext_num]
theorem epochP_back (n : Int) (h : epOk n = true) (rest : ByteArray) : epochP (sealB (numT n) ++ rest) = some (n, rest) := by
  have hn := ep_in h
  have e := takeP_back n (by omega) (by omega) ⟨#[]⟩ rest (by show 0 ≤ 3000; omega)
  rw [app_empty] at e
  unfold epochP
  rw [e]
  simp only
  rw [if_pos ⟨h, rfl⟩]
theorem entryP_back (x : En) (i : Nat) (hi : i ≤ 300) (h : enOk i x) (rest : ByteArray) : entryP (encE x ++ rest) ((i + 1 : Nat) : Int) = some (x.d, rest) := by
  obtain ⟨h1, h2⟩ := h
  unfold entryP encE
  rw [takeP_back x.tx (by omega) (by omega) x.d rest (by omega)]
  simp only
  rw [if_pos ⟨h1, h2⟩]
theorem takeP_none {b : ByteArray} {T R : ByteArray} {E : Nat} (h : openT b = (T, R, E)) (hE : E ≠ 0) : takeP b = none := by
  unfold takeP
  rw [h]
  cases E with
  | zero => exact absurd rfl hE
  | succ E => rfl
theorem entryP_none {b : ByteArray} {i : Int} (h : takeP b = none) : entryP b i = none := by unfold entryP; rw [h]
theorem goL_stop {b : ByteArray} (h : ∀ i, entryP b i = none) : ∀ f es, goL f es b = (es, b)
  | 0, es => rfl
  | f + 1, es => by unfold goL; rw [h]
/-- Entries that were written are read, one by one. -/
theorem goL_back : ∀ (xs es0 : List En) (f : Nat) (rest : ByteArray), es0.length + xs.length ≤ 300 → xs.length ≤ f → (∀ i (h : i < xs.length), enOk (es0.length + i) xs[i]) → goL f es0 (encEs xs ++ rest) = goL (f - xs.length) (es0 ++ xs) rest
  | [], es0, f, rest, _, _, _ => by rw [show encEs [] = (⟨#[]⟩ : ByteArray) from rfl, empty_app]; simp
  | x :: xs, es0, f, rest, hl, hf, h => by
    obtain ⟨f', rfl⟩ : ∃ f', f = f' + 1 := ⟨f - 1, by simp at hf; omega⟩
    have h0 := h 0 (by simp)
    simp only [Nat.add_zero, List.getElem_cons_zero] at h0
    simp at hl hf
    have e : encEs (x :: xs) ++ rest = encE x ++ (encEs xs ++ rest) := by show (encE x ++ encEs xs) ++ rest = _; rw [app_assoc]
    rw [e]
    conv => lhs; unfold goL
    rw [entryP_back x es0.length (by omega) h0]
    simp only
    have hx : (⟨((es0.length + 1 : Nat) : Int), x.d⟩ : En) = x := by cases x; simp only [En.mk.injEq, and_true]; exact h0.1.symm
    rw [hx, goL_back xs (es0 ++ [x]) f' rest (by simp; omega) (by omega) (fun i hi => by
      have := h (i + 1) (by simp; omega)
      simp only [List.getElem_cons_succ] at this
      rw [List.length_append, List.length_singleton, Nat.add_assoc, Nat.add_comm 1 i]
      exact this), List.append_assoc]
    congr 1
    simp
theorem parse_back {l : Lg} (h : RtL l) (rest : ByteArray) : parseL (encL l ++ rest) = some (⟨l.ep, (goL (300 - l.es.length) l.es rest).1⟩, (goL (300 - l.es.length) l.es rest).2) := by
  unfold parseL encL
  rw [app_assoc, epochP_back l.ep h.1]
  simp only
  have e := goL_back l.es [] 300 rest (by simpa using h.2.1) h.2.1 (fun i hi => by simpa using h.2.2 i hi)
  rw [List.nil_append] at e
  rw [e]
theorem open_empty : openT ⟨#[]⟩ = (⟨#[]⟩, ⟨#[]⟩, 2) := by
  have h := open_cut ⟨#[]⟩ 0 (by rw [sealB_size]; omega)
  have e : (sealB ⟨#[]⟩).extract 0 0 = (⟨#[]⟩ : ByteArray) := bytes_inj (by rw [cut_list, List.take_zero])
  rw [e] at h
  exact h
theorem entry_empty (i : Int) : entryP ⟨#[]⟩ i = none := entryP_none (takeP_none open_empty (by omega))
theorem parse_whole {l : Lg} (h : RtL l) : parseL (encL l) = some (l, ⟨#[]⟩) := by
  have e := parse_back h ⟨#[]⟩
  rw [app_empty, goL_stop entry_empty] at e
  exact e
/-- A part of an entry behind it. -/
theorem parse_torn {l : Lg} (h : RtL l) (x : En) (k : Nat) (hk : k < (encE x).size) : parseL (encL l ++ (encE x).extract 0 k) = some (l, (encE x).extract 0 k) := by
  have hN : ∀ i, entryP ((encE x).extract 0 k) i = none := fun i => entryP_none (takeP_none (open_cut (numT x.tx ++ x.d) k hk) (by omega))
  rw [parse_back h, goL_stop hN]
theorem encL_snoc (ep : Int) (es : List En) (x : En) : encL ⟨ep, es ++ [x]⟩ = encL ⟨ep, es⟩ ++ encE x := by
  unfold encL
  simp only
  rw [encEs_app, encEs_one, app_assoc]
theorem RtL.snoc {ep : Int} {es : List En} (h : RtL ⟨ep, es⟩) (hl : es.length < 300) (d : ByteArray) (hd : d.size ≤ 600) : RtL ⟨ep, es ++ [⟨((es.length + 1 : Nat) : Int), d⟩]⟩ := by
  refine ⟨h.1, by simp; omega, fun i hi => ?_⟩
  simp only at hi ⊢
  rcases Nat.lt_or_ge i es.length with h1 | h1
  · rw [List.getElem_append_left h1]; exact h.2.2 i h1
  · simp at hi
    obtain rfl : i = es.length := by omega
    rw [List.getElem_append_right (Nat.le_refl _)]
    simp only [Nat.sub_self, List.getElem_cons_zero]
    exact ⟨rfl, hd⟩
theorem encL_pos (l : Lg) : 0 < (encL l).size := by
  unfold encL
  rw [app_size, sealB_size]; omega

end Go.Proofs.YtefncpgemdgbbaaGreat.Lgg

/- The contracts of tabulariumref14.Parse. -/
namespace Go.Proofs.YtefncpgemdgbbaaGreat.Lgg
open Go.RowKit Go.Proofs.YtefncpgemdgbbaaGreat
open Go.Proofs.YtefncpgemdgbbaaGreat.Wir (takeZ refTakeV refTakeV_no refTakeV_yes refTake_val)
open Go.Proofs.YtefncpgemdgbbaaGreat.Smm (openT refOpen_any bytes_ne)
set_option linter.unusedVariables false

/-- What the reference takes of a part: the number, what is behind, is it one. -/
structure Tk (T : ByteArray) (n : Int) (d : ByteArray) (ok : Bool) : Prop where
  v : refTakeV T = .tuple #[.int .i64 n, .string d, .bool ok]
  sz : d.size ≤ T.size
theorem tk_ex (T : ByteArray) : ∃ n d ok, Tk T n d ok := by
  cases h : takeZ 0 0 T.data.toList with
  | none => exact ⟨_, _, _, refTakeV_no h, Nat.zero_le _⟩
  | some p => exact ⟨_, _, _, refTakeV_yes (z := p.1) (k := p.2) h, by rw [ByteArray.size_extract]; omega⟩
theorem takeP_of {b T R d : ByteArray} {E : Nat} {n : Int} {ok : Bool} (hO : openT b = (T, R, E)) (ht : Tk T n d ok) : takeP b = if E = 0 ∧ ok = true then some (n, d, R) else none := by
  unfold takeP
  rw [hO]
  cases E with
  | succ E => simp
  | zero =>
    simp only
    have hv := ht.v
    cases h : takeZ 0 0 T.data.toList with
    | none =>
      rw [refTakeV_no h] at hv
      simp at hv
      obtain ⟨_, _, rfl⟩ := hv
      simp
    | some p =>
      rw [refTakeV_yes (z := p.1) (k := p.2) h] at hv
      simp at hv
      obtain ⟨rfl, rfl, rfl⟩ := hv
      simp

set_option maxRecDepth 100000 in
set_option maxHeartbeats 4000000 in
theorem refParse_no (b : ByteArray) (hb : b.size ≤ maxLen) (h : epochP b = none) (w : World) :
    Calls Tryz.prog 42 #[.string b] w fun e w' => e = .returned (.tuple #[.agg #[.int .i64 0, .slice none 0 0], .bool false, .bool false]) ∧ Below w.heap.size w w' := by
  obtain ⟨T, R, E, hO⟩ : ∃ T R E, openT b = (T, R, E) := ⟨_, _, _, rfl⟩
  obtain ⟨n, d, ok, ht⟩ := tk_ex T
  have hsz := openT_size hO
  have htp := takeP_of hO ht
  have HO : Hid (∀ W, Calls Tryz.prog 72 #[.string b] W fun e w' => e = .returned (.tuple #[.string T, .string R, .int .i64 (E : Int)]) ∧ Below W.heap.size W w') := fun W => refOpen_any b T R E W hb hO
  have HT : Hid (∀ W, Calls Tryz.prog 73 #[.string T] W fun e w' => e = .returned (.tuple #[.int .i64 n, .string d, .bool ok]) ∧ Below W.heap.size W w') := fun W => refTake_val T _ W (by unfold maxLen; omega) ht.v
  have hcs : ¬ (E : Int) = 0 ∨ ((E : Int) = 0 ∧ ok = false) ∨ ((E : Int) = 0 ∧ ok = true ∧ d.toList.isEmpty = false) ∨ ((E : Int) = 0 ∧ ok = true ∧ d = ⟨#[]⟩ ∧ n < 0) ∨ ((E : Int) = 0 ∧ ok = true ∧ d = ⟨#[]⟩ ∧ ¬ n < 0 ∧ 9007199254740991 < n) := by
    by_cases h1 : E = 0
    · cases ok with
      | false => exact .inr (.inl ⟨by omega, rfl⟩)
      | true =>
        rw [if_pos ⟨h1, rfl⟩] at htp
        unfold epochP at h
        rw [htp] at h
        simp only at h
        by_cases h2 : d.size = 0
        · have hde : d = ⟨#[]⟩ := by
            apply Go.WideShapes.bytes_inj
            have h9 : d.data.toList.length = 0 := by rw [Wir.size_list]; exact h2
            rw [List.length_eq_zero_iff.1 h9]
          have h3 : ¬ epOk n = true := fun e => by rw [if_pos ⟨e, h2⟩] at h; cases h
          unfold epOk maxN at h3
          simp at h3
          by_cases h4 : n < 0
          · exact .inr (.inr (.inr (.inl ⟨by omega, rfl, hde, h4⟩)))
          · exact .inr (.inr (.inr (.inr ⟨by omega, rfl, hde, h4, h3 (by omega)⟩)))
        · exact .inr (.inr (.inl ⟨by omega, rfl, is_empty (decide_eq_false h2)⟩))
    · exact .inl (by omega)
  have HCS : Hid (¬ (E : Int) = 0 ∨ ((E : Int) = 0 ∧ ok = false) ∨ ((E : Int) = 0 ∧ ok = true ∧ d.toList.isEmpty = false) ∨ ((E : Int) = 0 ∧ ok = true ∧ d = ⟨#[]⟩ ∧ n < 0) ∨ ((E : Int) = 0 ∧ ok = true ∧ d = ⟨#[]⟩ ∧ ¬ n < 0 ∧ 9007199254740991 < n)) := hcs
  have hst2 : ∀ (w : World) (a : Addr) (x : Option Addr) (n c : Nat) (m : Mode), (store a (.slice x n c) m).run Tryz.prog w = stored Tryz.prog w a (.slice x n c) m := fun w a x n c m => run_store (P := Tryz.prog) w a _ m rfl
  clear hcs htp hsz ht hO h
  generalize (E : Int) = EI at *
  go_enter Tryz.func42, Tryz.ntmps42
  go_wp2_with fail
  refine (HO.out _).mono ?_
  rintro e w1 ⟨rfl, b1⟩
  have B1 : Hid (Below (w.alloc (.cells #[.int .i64 0, .slice none 0 0] 30)).heap.size (w.alloc (.cells #[.int .i64 0, .slice none 0 0] 30)) w1) := b1
  clear b1
  go_wp2_with fail
  refine (HT.out _).mono ?_
  rintro e w2 ⟨rfl, b2⟩
  have bb := bel_tr B1.out b2
  have y0 : w2.cell? ⟨w.heap.size, 0, none⟩ = some (.int .i64 0) := bel_cell bb (World.cell?_alloc_new w _ _ 0)
  have y1 : w2.cell? ⟨w.heap.size, 1, none⟩ = some (.slice none 0 0) := bel_cell bb (World.cell?_alloc_new w _ _ 1)
  have f0 : w2.frozen? ⟨w.heap.size, 0, none⟩ = false := (World.frozen?_of_block (a := ⟨w.heap.size, 0, none⟩) (bb.block w.heap.size (by simp))).trans (World.frozen?_alloc_new w _ _ 0)
  have f1 : w2.frozen? ⟨w.heap.size, 1, none⟩ = false := (World.frozen?_of_block (a := ⟨w.heap.size, 1, none⟩) (bb.block w.heap.size (by simp))).trans (World.frozen?_alloc_new w _ _ 1)
  have B2 : Hid (Below w.heap.size w w2) := bel_tr (bel_al _ _) bb
  obtain ⟨z0, z1⟩ := two_set (u' := .int .i64 0) (v' := .slice none 0 0) y0 y1
  clear b2 bb B1
  rcases HCS.out with h1 | ⟨rfl, rfl⟩ | ⟨rfl, rfl, hde⟩ | ⟨rfl, rfl, rfl, hn⟩ | ⟨rfl, rfl, rfl, hn, hn2⟩
  · have hb1 : (EI == 0) = false := beq_eq_false_iff_ne.2 h1
    go_wp2
    refine bodyPost_ret (v := .tuple #[.agg #[.int .i64 0, .slice none 0 0], .bool false, .bool false]) ?_ rfl ⟨rfl, Below.setCell (Below.setCell B2.out (Nat.le_refl _) _) (Nat.le_refl _) _⟩
    simp only [results, Tryz.results42]
    simp [go_sem, z0, z1]
  all_goals
    go_wp2
    refine bodyPost_ret (v := .tuple #[.agg #[.int .i64 0, .slice none 0 0], .bool false, .bool false]) ?_ rfl ⟨rfl, Below.setCell (Below.setCell B2.out (Nat.le_refl _) _) (Nat.le_refl _) _⟩
    simp only [results, Tryz.results42]
    simp [go_sem, z0, z1]

end Go.Proofs.YtefncpgemdgbbaaGreat.Lgg

/- The contracts of tabulariumlaw14.pick, entries, same. -/
namespace Go.Proofs.YtefncpgemdgbbaaGreat.Lgg
open Go.RowKit Go.Proofs.YtefncpgemdgbbaaGreat
open Go.Proofs.YtefncpgemdgbbaaGreat.Smm (bytes_ne)
set_option linter.unusedVariables false

set_option maxRecDepth 100000 in
theorem pick_val (k : Int) (n Q : Nat) (w : World) (hk : -9223372036854775808 ≤ k ∧ k ≤ 9223372036854775807) (hn : 0 < n ∧ n ≤ 1000) (hQ : keepN k % n = Q) :
    Calls Tryz.prog 7 #[.int .i64 k, .int .i64 n] w fun e w' => e = .returned (.int .i64 Q) ∧ w' = w := by
  have hlt := Nat.mod_lt (keepN k) hn.1
  rw [hQ] at hlt
  unfold keepN at hQ
  by_cases hneg : k < 0
  · rw [if_pos hneg] at hQ
    obtain ⟨kn, hkn⟩ : ∃ kn, (-(k + 1)).toNat = kn := ⟨_, rfl⟩
    rw [hkn] at hQ
    have hkk : -(k + 1) = (kn : Int) := by omega
    have hr1 : (kn : Int).tmod (n : Int) = (Q : Int) := by rw [Int.tmod_eq_emod_of_nonneg (by omega), ← hQ]; rfl
    have hr2 : (kn : Int) % (n : Int) = (Q : Int) := by rw [← hQ]; rfl
    clear hQ hkn
    go_enter Tryz.func7, Tryz.ntmps7
    go_wp2
    go_ret
    exact ⟨rfl, rfl⟩
  · rw [if_neg hneg] at hQ
    obtain ⟨kn, hkn⟩ : ∃ kn, k.toNat = kn := ⟨_, rfl⟩
    rw [hkn] at hQ
    obtain rfl : k = (kn : Int) := by omega
    have hr1 : (kn : Int).tmod (n : Int) = (Q : Int) := by rw [Int.tmod_eq_emod_of_nonneg (by omega), ← hQ]; rfl
    have hr2 : (kn : Int) % (n : Int) = (Q : Int) := by rw [← hQ]; rfl
    clear hQ hkn
    go_enter Tryz.func7, Tryz.ntmps7
    go_wp2
    go_ret
    exact ⟨rfl, rfl⟩

theorem bel_dr (w : World) (n : Nat) : Below w.heap.size w (w.drewN n) := below_drewN (Below.refl _ _) n

set_option maxRecDepth 100000 in
set_option maxHeartbeats 2000000 in
theorem entries_val {O O2 : Nat → Prop} {w : World} {a a' : Option Addr} {xs ys : List En} (h1 : Lie enC O w a xs) (h2 : Lie enC O2 w a' ys) (n m c c' : Nat) (hn : xs.length = n) (hm : ys.length = m) (v : Bool) (hv : v = true ↔ xs = ys) :
    Calls Tryz.prog 43 #[.slice a n c, .slice a' m c'] w fun e w' => e = .returned (.bool v) ∧ Below w.heap.size w w' := by
  have hl1 := h1.lid
  rw [hn] at hl1
  unfold maxLen at hl1
  have H1 : Hid (Lie enC O w a xs) := h1
  have H2 : Hid (Lie enC O2 w a' ys) := h2
  have HN : Hid (xs.length = n) := hn
  have HM : Hid (ys.length = m) := hm
  have HV : Hid (v = true ↔ xs = ys) := hv
  clear h1 h2 hn hm hv
  by_cases hnm : n = m
  · subst hnm
    go_enter Tryz.func43, Tryz.ntmps43
    go_wp2
    go_loopw [5] (fun u wr => ∃ i d : Nat, i ≤ n ∧ u = .int .i64 i ∧ wr = w.drewN d ∧ ∀ j (h1 : j < xs.length) (h2 : j < ys.length), j < i → xs[j] = ys[j]) (fun u _ => n - (intOf u).toNat)
    case atStart => exact ⟨0, 0, by omega, rfl, rfl, fun j _ _ h => by omega⟩
    case round =>
      obtain ⟨i, d, hi, rfl, hd, hall⟩ := hrel
      by_cases hlt : i < n
      · have e1 : i < xs.length := by rw [HN.out]; exact hlt
        have e2 : i < ys.length := by rw [HM.out]; exact hlt
        have hb : Below w.heap.size w wr := by rw [hd]; exact bel_dr _ _
        obtain ⟨b, off, rfl, hc⟩ := (H1.out.below hb).at wideN e1
        obtain ⟨b', off', rfl, hc'⟩ := (H2.out.below hb).at wideN e2
        have hno : ¬ xs[i] = ys[i] → v = false := fun hno => by
          cases v with
          | false => rfl
          | true => exact absurd (by simp only [HV.out.1 rfl]) hno
        have HNX : Hid (xs[i] = ys[i] → ∀ j (h1 : j < xs.length) (h2 : j < ys.length), j < i + 1 → xs[j] = ys[j]) := fun hk j h1 h2 hji => by
          rcases Nat.lt_or_ge j i with h | h
          · exact hall j h1 h2 h
          · obtain rfl : j = i := by omega
            exact hk
        have HA : Hid (∀ j (h1 : j < xs.length) (h2 : j < ys.length), j < i → xs[j] = ys[j]) := hall
        generalize xs[i] = x at *
        generalize ys[i] = y at *
        obtain ⟨tx, dx⟩ := x
        obtain ⟨ty, dy⟩ := y
        have q0 : wr.cell? ⟨b, off + i * 2, none⟩ = some (.int .i64 tx) := hc 0 _ rfl
        have q1 : wr.cell? ⟨b, off + i * 2 + 1, none⟩ = some (.string dx) := hc 1 _ rfl
        have r0 : wr.cell? ⟨b', off' + i * 2, none⟩ = some (.int .i64 ty) := hc' 0 _ rfl
        have r1 : wr.cell? ⟨b', off' + i * 2 + 1, none⟩ = some (.string dy) := hc' 1 _ rfl
        have HD : Hid (wr = w.drewN d) := hd
        clear hd hc hc' hb H1 H2 hall
        by_cases hx : tx = ty
        · by_cases hs : dx = dy
          · have HK : Hid (∀ j (h1 : j < xs.length) (h2 : j < ys.length), j < i + 1 → xs[j] = ys[j]) := HNX.out (by rw [hx, hs])
            subst hx hs
            clear hno HNX
            go_wp2
            go_quiet (fail)
            go_wp2
            go_roundw
            case rel => exact ⟨i + 1, d + nq, by omega, by go_num, by rw [HD.out, World.drewN_drewN], HK.out⟩
            case measure => simp [intOf]; omega
          · have hvf := hno (fun e => by injection e with _ e2; exact hs e2)
            have hbe := bytes_ne hs
            subst hx hvf
            clear hno HNX HV hs
            go_wp2
            go_quiet (fail)
            go_wp2
            go_ret
            exact ⟨rfl, by rw [HD.out, World.drewN_drewN]; exact bel_dr _ _⟩
        · have hvf := hno (fun e => by injection e with e2 _; exact hx e2)
          subst hvf
          clear hno HNX HV
          go_wp2
          go_quiet (fail)
          go_wp2
          go_ret
          exact ⟨rfl, by rw [HD.out, World.drewN_drewN]; exact bel_dr _ _⟩
      · have hvt : v = true := HV.out.2 (List.ext_getElem (by rw [HN.out, HM.out]) (fun j h1 h2 => hall j h1 h2 (by have := HN.out; omega)))
        subst hvt
        have HD : Hid (wr = w.drewN d) := hd
        clear hd hall HV
        go_wp2
        go_ret
        exact ⟨rfl, by rw [HD.out]; exact bel_dr _ _⟩
  · have hvf : v = false := by
      cases v with
      | false => rfl
      | true => exact absurd (by rw [← HN.out, ← HM.out, HV.out.1 rfl]) hnm
    subst hvf
    clear HV
    go_enter Tryz.func43, Tryz.ntmps43
    go_wp2
    go_ret
    exact ⟨rfl, Below.refl _ _⟩

theorem boxes2 {w w1 : World} {x0 x1 y0 y1 : Value} {t u : TypeId} (h : Below ((w.alloc (.cells #[x0, x1] t)).alloc (.cells #[y0, y1] u)).heap.size ((w.alloc (.cells #[x0, x1] t)).alloc (.cells #[y0, y1] u)) w1) : w1.cell? ⟨w.heap.size, 0, none⟩ = some x0 ∧ w1.cell? ⟨w.heap.size, 1, none⟩ = some x1 ∧ w1.cell? ⟨w.heap.size + 1, 0, none⟩ = some y0 ∧ w1.cell? ⟨w.heap.size + 1, 1, none⟩ = some y1 ∧ Below w.heap.size w w1 := by
  have hz : (w.alloc (.cells #[x0, x1] t)).heap.size = w.heap.size + 1 := by simp
  obtain ⟨a0, a1, _, _⟩ := cells2 w x0 x1 t
  obtain ⟨b0, b1, _, _⟩ := cells2 (w.alloc (.cells #[x0, x1] t)) y0 y1 u
  rw [hz] at b0 b1
  exact ⟨bel_cell h (bel_cell (bel_al _ _) a0), bel_cell h (bel_cell (bel_al _ _) a1), bel_cell h b0, bel_cell h b1, bel_tr (bel_tr (bel_al _ _) (bel_al _ _)) h⟩

set_option maxRecDepth 100000 in
set_option maxHeartbeats 1000000 in
theorem same_val {O O2 : Nat → Prop} {w : World} {a a' : Option Addr} {xs ys : List En} (h1 : Lie enC O w a xs) (h2 : Lie enC O2 w a' ys) (n m c c' : Nat) (hn : xs.length = n) (hm : ys.length = m) (e1 e2 : Int) (v : Bool) (hv : v = true ↔ (⟨e1, xs⟩ : Lg) = ⟨e2, ys⟩) :
    Calls Tryz.prog 18 #[.agg #[.int .i64 e1, .slice a n c], .agg #[.int .i64 e2, .slice a' m c']] w fun e w' => e = .returned (.bool v) ∧ Below w.heap.size w w' := by
  obtain ⟨u, hu⟩ : ∃ u : Bool, u = true ↔ xs = ys := by classical exact ⟨decide (xs = ys), decide_eq_true_iff⟩
  have HE : Hid (∀ W, Below w.heap.size w W → Calls Tryz.prog 43 #[.slice a n c, .slice a' m c'] W fun e w' => e = .returned (.bool u) ∧ Below W.heap.size W w') := fun W hb => entries_val (h1.below hb) (h2.below hb) n m c c' hn hm u hu
  have HV : v = (u && decide (e1 = e2)) := by
    rw [Bool.eq_iff_iff, hv, Bool.and_eq_true, hu, decide_eq_true_iff]
    constructor
    · intro h; injection h with k1 k2; exact ⟨k2, k1⟩
    · rintro ⟨k1, k2⟩; rw [k1, k2]
  clear h1 h2 hn hm hv hu
  subst HV
  go_enter Tryz.func18, Tryz.ntmps18
  go_wp2_with fail
  refine (HE.out _ (bel_tr (bel_al _ _) (bel_al _ _))).mono ?_
  rintro e w1 ⟨rfl, b1⟩
  obtain ⟨x0, x1, y0, y1, B⟩ := boxes2 b1
  have HB : Hid (Below w.heap.size w w1) := B
  clear b1 B HE
  cases u with
  | true =>
    go_wp2
    go_ret
    exact ⟨by first | rfl | simp, HB.out⟩
  | false =>
    go_wp2
    go_ret
    exact ⟨by first | rfl | simp, HB.out⟩

end Go.Proofs.YtefncpgemdgbbaaGreat.Lgg

/- Plain: what Store and Add do with a disk of one file, whenever the power goes. -/
namespace Go.Proofs.YtefncpgemdgbbaaGreat.Lgg
open Go.RowKit Go.Proofs.YtefncpgemdgbbaaGreat
set_option linter.unusedVariables false

def dec1 (f : Int) : Int := if f = 0 then 0 else f - 1
theorem beg_ok (room f : Int) (S : FS) (F : FS → FS) (h : f = 0 ∨ 2 ≤ f) : begE ⟨room, f, false, S⟩ 0 = 0 ∧ doD ⟨room, f, false, S⟩ 0 F = ⟨room, dec1 f, false, F S⟩ := by
  rcases h with rfl | h
  · unfold doD begE begD dec1; simp
  · have h0 : ¬ f = 0 := by omega
    have h1 : ¬ f = 1 := by omega
    unfold doD begE begD dec1; simp [h0, h1]
theorem beg_off (room : Int) (S : FS) (F : FS → FS) : begE ⟨room, 1, false, S⟩ 0 = 12 ∧ doD ⟨room, 1, false, S⟩ 0 F = ⟨room, 0, true, S⟩ := by unfold doD begE begD; simp
theorem beg_no (room f : Int) (S : FS) (F : FS → FS) {e : Int} (he : e ≠ 0) : begE ⟨room, f, false, S⟩ e = e ∧ doD ⟨room, f, false, S⟩ e F = ⟨room, f, false, S⟩ := by unfold doD begE begD; simp [he]

theorem new_list (s : ByteArray) : (newN s).data.toList = s.data.toList ++ [46, 110, 101, 119] := by unfold newN; rw [Wir.app_list]
theorem before_app : ∀ (l r : List UInt8), r ≠ [] → bytesBefore l (l ++ r) = true
  | [], [], h => absurd rfl h
  | [], x :: r, _ => rfl
  | x :: l, r, h => by
    have := before_app l r h
    simp [bytesBefore, this]
theorem app_before : ∀ (l r : List UInt8), bytesBefore (l ++ r) l = false
  | [], [] => rfl
  | [], x :: r => rfl
  | x :: l, r => by
    have := app_before l r
    simp [bytesBefore, this]
theorem app_ne (l : List UInt8) : l ≠ l ++ [46, 110, 101, 119] := fun e => by
  have := congrArg List.length e
  simp at this

section
variable {n : List UInt8} {A B E : List UInt8} {a b : Nat} {room f : Int}
theorem g_new : fget [(n, A, a)] (n ++ [46, 110, 101, 119]) = none := by rw [fget_cons, if_neg (app_ne n)]; rfl
theorem s_app0 : fapp (n ++ [46, 110, 101, 119]) B [] = [((n ++ [46, 110, 101, 119]), B, 0)] := rfl
theorem s_app1 : fapp (n ++ [46, 110, 101, 119]) B [(n, A, a)] = [(n, A, a), ((n ++ [46, 110, 101, 119]), B, 0)] := by
  unfold fapp fput
  rw [g_new]
  simp only
  rw [fdel_of_none g_new]
  unfold fins
  rw [app_before]
  rfl
theorem s_del2 : fdel [(n, A, a), ((n ++ [46, 110, 101, 119]), B, b)] (n ++ [46, 110, 101, 119]) = [(n, A, a)] := by
  rw [fdel_cons, if_neg (app_ne n), fdel_cons, if_pos rfl]; rfl
theorem s_get2 : fget [(n, A, a), ((n ++ [46, 110, 101, 119]), B, b)] (n ++ [46, 110, 101, 119]) = some (B, b) := by
  rw [fget_cons, if_neg (app_ne n), fget_cons, if_pos rfl]
theorem s_syn2 : fsyn (n ++ [46, 110, 101, 119]) [(n, A, a), ((n ++ [46, 110, 101, 119]), B, b)] = [(n, A, a), ((n ++ [46, 110, 101, 119]), B, B.length)] := by
  unfold fsyn
  rw [s_get2]
  simp only
  unfold fput
  rw [s_del2]
  unfold fins
  rw [app_before]
  rfl
theorem s_ren2 : fren (n ++ [46, 110, 101, 119]) n [(n, A, a), ((n ++ [46, 110, 101, 119]), B, b)] = [(n, B, b)] := by
  unfold fren
  rw [s_get2]
  simp only
  unfold fput
  rw [s_del2, fdel_cons, if_pos rfl]
  rfl
theorem g_one {m : List UInt8} : fget [(m, B, b)] m = some (B, b) := by rw [fget_cons, if_pos rfl]
theorem s_syn1 {m : List UInt8} : fsyn m [(m, B, b)] = [(m, B, B.length)] := by
  unfold fsyn
  rw [g_one]
  simp only
  unfold fput
  rw [fdel_cons, if_pos rfl]
  rfl
theorem s_ren1 : fren (n ++ [46, 110, 101, 119]) n [((n ++ [46, 110, 101, 119]), B, b)] = [(n, B, b)] := by
  unfold fren
  rw [g_one]
  simp only
  unfold fput
  rw [fdel_cons, if_pos rfl]
  rfl
theorem s_add : fapp n E [(n, A, a)] = [(n, A ++ E, a)] := by
  unfold fapp
  rw [g_one]
  simp only
  unfold fput
  rw [fdel_cons, if_pos rfl]
  rfl

theorem del_no {S : FS} (h : fget S (n ++ [46, 110, 101, 119]) = none) : delR ⟨room, f, false, S⟩ (n ++ [46, 110, 101, 119]) = (0, ⟨room, f, false, S⟩) := by
  have e : rdE ⟨room, f, false, S⟩ (n ++ [46, 110, 101, 119]) = 5 := by rw [rdE_eq _ rfl]; exact refM_none h
  unfold delR
  rw [if_pos e]
theorem nm_new (h : 1 ≤ n.length ∧ n.length ≤ 16) : nameOk (n ++ [46, 110, 101, 119]) = true ∧ nameOk n = true := by unfold nameOk; simp; omega
theorem ren_ok {S : FS} {F : List UInt8 × Nat} (h : 1 ≤ n.length ∧ n.length ≤ 16) (hg : fget S (n ++ [46, 110, 101, 119]) = some F) : refR S (n ++ [46, 110, 101, 119]) n = 0 := by
  unfold refR
  rw [(nm_new h).2, if_pos rfl]
  exact refM_some hg

/-- Append and sync: all of it, or one of the two is the last. -/
theorem aps_ok {m : List UInt8} {S S1 S2 : FS} (hA : refA ⟨room, f, false, S⟩ m B = 0) (h1 : fapp m B S = S1) {F : List UInt8 × Nat} (hg : fget S1 m = some F) (h2 : fsyn m S1 = S2) (hf : f = 0 ∨ 3 ≤ f) : apsR ⟨room, f, false, S⟩ m B = (0, ⟨room, dec1 (dec1 f), false, S2⟩) := by
  obtain ⟨k1, k2⟩ := beg_ok room f S (fapp m B) (by omega)
  obtain ⟨k3, k4⟩ := beg_ok room (dec1 f) S1 (fsyn m) (by unfold dec1; split <;> omega)
  unfold apsR
  rw [hA, if_pos k1, k2, h1]
  simp only
  rw [refM_some hg, k3, k4, h2]
theorem aps_two {m : List UInt8} {S S1 : FS} (hA : refA ⟨room, 2, false, S⟩ m B = 0) (h1 : fapp m B S = S1) {F : List UInt8 × Nat} (hg : fget S1 m = some F) : apsR ⟨room, 2, false, S⟩ m B = (12, ⟨room, 0, true, S1⟩) := by
  obtain ⟨k1, k2⟩ := beg_ok room 2 S (fapp m B) (by omega)
  obtain ⟨k3, k4⟩ := beg_off room S1 (fsyn m)
  unfold apsR
  rw [hA, if_pos k1, k2, h1]
  simp only
  have e : dec1 2 = 1 := rfl
  rw [refM_some hg, e, k3, k4]
theorem aps_one {m : List UInt8} {S : FS} (hA : refA ⟨room, 1, false, S⟩ m B = 0) : apsR ⟨room, 1, false, S⟩ m B = (12, ⟨room, 0, true, S⟩) := by
  obtain ⟨k1, k2⟩ := beg_off room S (fapp m B)
  unfold apsR
  rw [hA, k1, if_neg (by omega), k2]
theorem aps_no {m : List UInt8} {S : FS} {e : Int} (hA : refA ⟨room, f, false, S⟩ m B = e) (he : e ≠ 0) : apsR ⟨room, f, false, S⟩ m B = (e, ⟨room, f, false, S⟩) := by
  obtain ⟨k1, k2⟩ := beg_no room f S (fapp m B) he
  unfold apsR
  rw [hA, k1, if_neg he, k2]
end

section
variable {s : ByteArray} {b : ByteArray} {A : List UInt8} {a : Nat} {room f : Int}
/-- On a disk without files. -/
theorem sto_new (hs : nmOk s = true) (hb : b.size ≤ 400000) (hr : (b.size : Int) ≤ room) : stoR ⟨room, 0, false, []⟩ s b = (0, ⟨room, 0, false, [(s.data.toList, b.data.toList, b.size)]⟩) := by
  have hn := (mk_nm s).1 hs
  have hl : s.data.toList.length = s.size := Wir.size_list s
  have hl2 : b.data.toList.length = b.size := Wir.size_list b
  have hn2 : 1 ≤ s.data.toList.length ∧ s.data.toList.length ≤ 16 := by omega
  unfold stoR
  rw [new_list, del_no rfl]
  simp only
  have e := aps_ok (room := room) (f := 0) (B := b.data.toList) (m := s.data.toList ++ [46, 110, 101, 119]) (S := []) (refA_ok (nm_new hn2).1 (by show 0 + _ ≤ _; omega) (.inr (by simp)) (by rw [hl2]; show ((0 + b.size : Nat) : Int) ≤ room; omega)) s_app0 g_one s_syn1 (.inl rfl)
  rw [if_pos trivial, e]
  simp only
  rw [if_pos trivial, ren_ok hn2 g_one]
  obtain ⟨k3, k4⟩ := beg_ok room (dec1 (dec1 0)) [(s.data.toList ++ [46, 110, 101, 119], b.data.toList, b.data.toList.length)] (fren (s.data.toList ++ [46, 110, 101, 119]) s.data.toList) (.inl rfl)
  rw [k3, k4, s_ren1, hl2]
  rfl
theorem ref_new (hs : nmOk s = true) (hb : b.size ≤ 400000) (hr : ((A.length + b.size : Nat) : Int) ≤ room) : refA ⟨room, f, false, [(s.data.toList, A, a)]⟩ (s.data.toList ++ [46, 110, 101, 119]) b.data.toList = 0 := by
  have hn := (mk_nm s).1 hs
  have hl : s.data.toList.length = s.size := Wir.size_list s
  have hl2 : b.data.toList.length = b.size := Wir.size_list b
  refine refA_ok (nm_new (by omega)).1 (by rw [g_new]; show 0 + _ ≤ _; omega) (.inr (by simp)) ?_
  rw [tot_cons, hl2]
  show ((A.length + 0 + b.size : Nat) : Int) ≤ room
  omega
/-- In the place of another one: with no fuse, or one that lasts. -/
theorem sto_on (hs : nmOk s = true) (hb : b.size ≤ 400000) (hr : ((A.length + b.size : Nat) : Int) ≤ room) (hf : f = 0 ∨ 4 ≤ f) : ∃ f', stoR ⟨room, f, false, [(s.data.toList, A, a)]⟩ s b = (0, ⟨room, f', false, [(s.data.toList, b.data.toList, b.size)]⟩) := by
  have hn := (mk_nm s).1 hs
  have hl : s.data.toList.length = s.size := Wir.size_list s
  have hl2 : b.data.toList.length = b.size := Wir.size_list b
  unfold stoR
  rw [new_list, del_no g_new]
  simp only
  rw [if_pos trivial, aps_ok (ref_new hs hb hr) s_app1 s_get2 s_syn2 (by omega)]
  simp only
  rw [if_pos trivial, ren_ok (by omega) s_get2]
  obtain ⟨k3, k4⟩ := beg_ok room (dec1 (dec1 f)) [(s.data.toList, A, a), (s.data.toList ++ [46, 110, 101, 119], b.data.toList, b.data.toList.length)] (fren (s.data.toList ++ [46, 110, 101, 119]) s.data.toList) (by unfold dec1; rcases hf with rfl | hf <;> simp <;> omega)
  rw [k3, k4, s_ren2, hl2]
  exact ⟨_, rfl⟩
theorem sto_one (hs : nmOk s = true) (hb : b.size ≤ 400000) (hr : ((A.length + b.size : Nat) : Int) ≤ room) : stoR ⟨room, 1, false, [(s.data.toList, A, a)]⟩ s b = (12, ⟨room, 0, true, [(s.data.toList, A, a)]⟩) := by
  unfold stoR
  rw [new_list, del_no g_new]
  simp only
  rw [if_pos trivial, aps_one (ref_new hs hb hr)]
  simp only
  rw [if_neg (by omega)]
theorem sto_two (hs : nmOk s = true) (hb : b.size ≤ 400000) (hr : ((A.length + b.size : Nat) : Int) ≤ room) : stoR ⟨room, 2, false, [(s.data.toList, A, a)]⟩ s b = (12, ⟨room, 0, true, [(s.data.toList, A, a), (s.data.toList ++ [46, 110, 101, 119], b.data.toList, 0)]⟩) := by
  unfold stoR
  rw [new_list, del_no g_new]
  simp only
  rw [if_pos trivial, aps_two (ref_new hs hb hr) s_app1 s_get2]
  simp only
  rw [if_neg (by omega)]
theorem sto_three (hs : nmOk s = true) (hb : b.size ≤ 400000) (hr : ((A.length + b.size : Nat) : Int) ≤ room) : stoR ⟨room, 3, false, [(s.data.toList, A, a)]⟩ s b = (12, ⟨room, 0, true, [(s.data.toList, A, a), (s.data.toList ++ [46, 110, 101, 119], b.data.toList, b.data.toList.length)]⟩) := by
  have hn := (mk_nm s).1 hs
  have hl : s.data.toList.length = s.size := Wir.size_list s
  unfold stoR
  rw [new_list, del_no g_new]
  simp only
  rw [if_pos trivial, aps_ok (ref_new hs hb hr) s_app1 s_get2 s_syn2 (by omega)]
  simp only
  rw [if_pos trivial, ren_ok (by omega) s_get2]
  have e : dec1 (dec1 3) = 1 := rfl
  obtain ⟨k3, k4⟩ := beg_off room [(s.data.toList, A, a), (s.data.toList ++ [46, 110, 101, 119], b.data.toList, b.data.toList.length)] (fren (s.data.toList ++ [46, 110, 101, 119]) s.data.toList)
  rw [e, k3, k4]
/-- Without room. -/
theorem sto_full (hs : nmOk s = true) (hb : b.size ≤ 400000) (hr : room < ((A.length + b.size : Nat) : Int)) : stoR ⟨room, 0, false, [(s.data.toList, A, a)]⟩ s b = (8, ⟨room, 0, false, [(s.data.toList, A, a)]⟩) := by
  have hn := (mk_nm s).1 hs
  have hl : s.data.toList.length = s.size := Wir.size_list s
  have hl2 : b.data.toList.length = b.size := Wir.size_list b
  have e : refA ⟨room, 0, false, [(s.data.toList, A, a)]⟩ (s.data.toList ++ [46, 110, 101, 119]) b.data.toList = 8 := by
    refine refA_full (nm_new (by omega)).1 (by rw [g_new]; show 0 + _ ≤ _; omega) (.inr (by simp)) ?_
    rw [tot_cons, hl2]
    show room < ((A.length + 0 + b.size : Nat) : Int)
    omega
  unfold stoR
  rw [new_list, del_no g_new]
  simp only
  rw [if_pos trivial, aps_no e (by omega)]
  simp only
  rw [if_neg (by omega)]

theorem ref_add (hs : nmOk s = true) (hb : A.length + b.size ≤ 400000) (hr : ((A.length + b.size : Nat) : Int) ≤ room) : refA ⟨room, f, false, [(s.data.toList, A, a)]⟩ s.data.toList b.data.toList = 0 := by
  have hn := (mk_nm s).1 hs
  have hl : s.data.toList.length = s.size := Wir.size_list s
  have hl2 : b.data.toList.length = b.size := Wir.size_list b
  refine refA_ok (nm_new (by omega)).2 (by rw [g_one, hl2]; exact hb) (.inl (by rw [g_one]; rfl)) ?_
  rw [tot_cons, hl2]
  show ((A.length + 0 + b.size : Nat) : Int) ≤ room
  omega
theorem rd_one : rdE ⟨room, f, false, [(s.data.toList, A, a)]⟩ s.data.toList = 0 := by rw [rdE_eq _ rfl]; exact refM_some g_one
theorem add_on (hs : nmOk s = true) (hb : A.length + b.size ≤ 400000) (hr : ((A.length + b.size : Nat) : Int) ≤ room) (hf : f = 0 ∨ 3 ≤ f) : addR ⟨room, f, false, [(s.data.toList, A, a)]⟩ s b = (0, ⟨room, dec1 (dec1 f), false, [(s.data.toList, A ++ b.data.toList, (A ++ b.data.toList).length)]⟩) := by
  unfold addR
  rw [if_pos rd_one, aps_ok (ref_add hs hb hr) s_add g_one s_syn1 hf]
theorem add_one (hs : nmOk s = true) (hb : A.length + b.size ≤ 400000) (hr : ((A.length + b.size : Nat) : Int) ≤ room) : addR ⟨room, 1, false, [(s.data.toList, A, a)]⟩ s b = (12, ⟨room, 0, true, [(s.data.toList, A, a)]⟩) := by
  unfold addR
  rw [if_pos rd_one, aps_one (ref_add hs hb hr)]
theorem add_two (hs : nmOk s = true) (hb : A.length + b.size ≤ 400000) (hr : ((A.length + b.size : Nat) : Int) ≤ room) : addR ⟨room, 2, false, [(s.data.toList, A, a)]⟩ s b = (12, ⟨room, 0, true, [(s.data.toList, A ++ b.data.toList, a)]⟩) := by
  unfold addR
  rw [if_pos rd_one, aps_two (ref_add hs hb hr) s_add g_one]

/-- Behind a crash. -/
theorem cut_all {A : List UInt8} (c : Int) : cutN (A, A.length) c = A.length := by unfold cutN; simp [Nat.mod_one]
theorem crash_head {n : List UInt8} {A : List UInt8} (hA : A ≠ []) (ks : List Int) (r : FS) : ∃ r', crashL ks ((n, A, A.length) :: r) = (n, A, A.length) :: r' := by
  have h0 : ¬ A.length = 0 := fun e => hA (List.length_eq_zero_iff.1 e)
  refine ⟨crashL ks.tail r, ?_⟩
  show (if cutN (A, A.length) (ks.headD 0) = 0 then [] else [(n, A.take (cutN (A, A.length) (ks.headD 0)), cutN (A, A.length) (ks.headD 0))]) ++ _ = _
  rw [cut_all, if_neg h0, List.take_length]
  rfl
theorem crash_part {n : List UInt8} {A E : List UInt8} (hA : A ≠ []) (ks : List Int) : ∃ k, k ≤ E.length ∧ crashL ks [(n, A ++ E, A.length)] = [(n, A ++ E.take k, A.length + k)] := by
  have h0 : ¬ A.length = 0 := fun e => hA (List.length_eq_zero_iff.1 e)
  have hc : cutN (A ++ E, A.length) (ks.headD 0) = A.length + keepN (ks.headD 0) % (E.length + 1) := by unfold cutN; simp
  have hk := Nat.mod_lt (keepN (ks.headD 0)) (show 0 < E.length + 1 by omega)
  refine ⟨keepN (ks.headD 0) % (E.length + 1), by omega, ?_⟩
  show (if cutN (A ++ E, A.length) (ks.headD 0) = 0 then [] else [(n, (A ++ E).take (cutN (A ++ E, A.length) (ks.headD 0)), cutN (A ++ E, A.length) (ks.headD 0))]) ++ crashL ks.tail [] = _
  rw [crashL_nil, hc, if_neg (by omega), List.take_length_add_append]
  rfl
theorem rd_head {n : List UInt8} {A : List UInt8} {r : FS} : rdE ⟨room, f, false, (n, A, a) :: r⟩ n = 0 ∧ rdT ⟨room, f, false, (n, A, a) :: r⟩ n = ⟨A.toArray⟩ := by
  have hg : fget ((n, A, a) :: r) n = some (A, a) := by rw [fget_cons, if_pos rfl]
  rw [rdE_eq _ rfl, rdT_eq _ rfl]
  refine ⟨refM_some hg, ?_⟩
  unfold fdat
  rw [hg]
end

end Go.Proofs.YtefncpgemdgbbaaGreat.Lgg

/- The contract of tabulariumlaw14.examples. -/
namespace Go.Proofs.YtefncpgemdgbbaaGreat.Lgg
open Go.RowKit Go.Proofs.YtefncpgemdgbbaaGreat
set_option linter.unusedVariables false

def lgN : ByteArray := ⟨#[108, 111, 103]⟩
def x0E : En := ⟨1, ⟨#[120]⟩⟩
theorem rt3 : RtL ⟨3, []⟩ := ⟨rfl, by simp, fun i h => by simp at h⟩
theorem rt3x : RtL ⟨3, [x0E]⟩ := RtL.snoc (es := []) rt3 (by simp) ⟨#[120]⟩ (by decide)
theorem one_row (w : World) (x : En) (t : TypeId) : Lie enC (fun k => w.heap.size ≤ k) (w.alloc (.cells #[.int .i64 x.tx, .string x.d] t)) (some ⟨w.heap.size, 0, none⟩) [x] := by
  refine ⟨by show 1 ≤ maxLen; unfold maxLen; omega, fun _ => ⟨w.heap.size, 0, rfl, Nat.le_refl _, by simp, fun j u hu => ?_⟩⟩
  rw [rowC_one] at hu
  rw [Nat.zero_add, World.cell?_alloc_new w _ _ j]
  simpa [enC] using hu

set_option maxRecDepth 100000 in
set_option maxHeartbeats 4000000 in
theorem examples14_val (w : World) : Calls Tryz.prog 4 #[] w fun e w' => e = .returned (.bool true) ∧ Below w.heap.size w w' := by
  have hs : nmOk lgN = true := by decide
  have hz0 := encL_size rt3
  have hz1 := encL_size rt3x
  simp only [List.length_nil, List.length_cons] at hz0 hz1
  have hsn := encL_snoc 3 [] x0E
  simp only [List.nil_append] at hsn
  have hx1 := encE_size (x := x0E) (by decide) (by decide) (by decide)
  have HS := sto_new (s := lgN) (b := encL ⟨3, []⟩) (room := 1000) hs (by omega) (by omega)
  have hl0 : (encL ⟨3, []⟩).data.toList.length = (encL ⟨3, []⟩).size := Wir.size_list _
  have HA := add_on (s := lgN) (A := (encL ⟨3, []⟩).data.toList) (a := (encL ⟨3, []⟩).size) (b := encE x0E) (room := 1000) (f := 0) hs (by omega) (by omega) (.inl rfl)
  have hcat : (encL ⟨3, []⟩).data.toList ++ (encE x0E).data.toList = (encL ⟨3, [x0E]⟩).data.toList := by rw [hsn, Wir.app_list]
  rw [hcat] at HA
  obtain ⟨r1, r2⟩ := rd_head (room := 1000) (f := 0) (n := lgN.data.toList) (A := (encL ⟨3, [x0E]⟩).data.toList) (a := (encL ⟨3, [x0E]⟩).data.toList.length) (r := [])
  rw [mk_list] at r2
  have hlg : lgN.size ≤ maxLen := by show 3 ≤ maxLen; unfold maxLen; omega
  have CS : Hid (∀ K W pd, Dk w K W pd ⟨1000, 0, false, []⟩ → Calls Tryz.prog 8 #[.pointer (some ⟨pd, 0, none⟩), .string ⟨#[108, 111, 103]⟩, .agg #[.int .i64 3, .slice none 0 0]] W fun e w' => e = .returned (.int .i64 0) ∧ Dk w K w' pd ⟨1000, 0, false, [(lgN.data.toList, (encL ⟨3, []⟩).data.toList, (encL ⟨3, []⟩).size)]⟩ ∧ Stay (fun k => ¬ K k) W w') := fun K W pd h => store_val h lgN hs (Lie.nil _ (fun _ => True) _ _) 3 0 0 rfl rt3 0 HS
  have CA : Hid (∀ K W pd, Dk w K W pd ⟨1000, 0, false, [(lgN.data.toList, (encL ⟨3, []⟩).data.toList, (encL ⟨3, []⟩).size)]⟩ → Calls Tryz.prog 10 #[.pointer (some ⟨pd, 0, none⟩), .string ⟨#[108, 111, 103]⟩, .agg #[.int .i64 1, .string ⟨#[120]⟩]] W fun e w' => e = .returned (.int .i64 0) ∧ Dk w K w' pd ⟨1000, 0, false, [(lgN.data.toList, (encL ⟨3, [x0E]⟩).data.toList, (encL ⟨3, [x0E]⟩).data.toList.length)]⟩ ∧ Stay (fun k => ¬ K k) W w') := fun K W pd h => add_val h lgN hs x0E (by decide) (by decide) (by decide) 0 HA
  have CL : Hid (∀ K W pd, Dk w K W pd ⟨1000, 0, false, [(lgN.data.toList, (encL ⟨3, [x0E]⟩).data.toList, (encL ⟨3, [x0E]⟩).data.toList.length)]⟩ → Calls Tryz.prog 16 #[.pointer (some ⟨pd, 0, none⟩), .string ⟨#[108, 111, 103]⟩] W fun e w' => LoadR W.heap.size ⟨3, [x0E]⟩ true e w' ∧ Below W.heap.size W w') := fun K W pd h => load_yes h lgN hlg (encL ⟨3, [x0E]⟩) (by unfold maxLen; omega) r2 r1 ⟨3, [x0E]⟩ ⟨#[]⟩ (parse_whole rt3x) true rfl
  clear hs hz0 hz1 hsn hx1 HS hl0 HA hcat r1 r2 hlg
  generalize (⟨1000, 0, false, [(lgN.data.toList, (encL ⟨3, []⟩).data.toList, (encL ⟨3, []⟩).size)]⟩ : DS) = D1 at CS CA
  generalize (⟨1000, 0, false, [(lgN.data.toList, (encL ⟨3, [x0E]⟩).data.toList, (encL ⟨3, [x0E]⟩).data.toList.length)]⟩ : DS) = D2 at CA CL
  have hst := fun (w : World) (a : Addr) (x : ByteArray) (m : Mode) => run_store (P := Tryz.prog) w a (.string x) m rfl
  have hst2 : ∀ (w : World) (a : Addr) (x : Option Addr) (n c : Nat) (m : Mode), (store a (.slice x n c) m).run Tryz.prog w = stored Tryz.prog w a (.slice x n c) m := fun w a x n c m => run_store (P := Tryz.prog) w a _ m rfl
  go_enter Tryz.func4, Tryz.ntmps4
  go_wp2_with fail
  refine (dk_new (w0 := w) (Below.refl _ _) 1000 1000 (by omega) (by omega)).mono ?_
  rintro e w1 ⟨pd, rfl, h1, b1⟩
  have H1 : Hid (Dk w (fun _ => False) w1 pd ⟨1000, 0, false, []⟩) := h1.less (fun _ e => e.elim)
  clear h1 b1
  go_wp2_with fail
  have x0 : (w1.alloc (.cells #[.int .i64 1, .string ⟨#[120]⟩] 32)).cell? ⟨w1.heap.size, 0, none⟩ = some (.int .i64 1) := World.cell?_alloc_new w1 _ _ 0
  have x1 : (w1.alloc (.cells #[.int .i64 1, .string ⟨#[120]⟩] 32)).cell? ⟨w1.heap.size, 1, none⟩ = some (.string ⟨#[120]⟩) := World.cell?_alloc_new w1 _ _ 1
  have H2 : Hid (Dk w (fun k => k = w1.heap.size) (w1.alloc (.cells #[.int .i64 1, .string ⟨#[120]⟩] 32)) pd ⟨1000, 0, false, []⟩) := H1.out.add (bel_al _ _) (fun k hk => .inr (by rw [hk]; simp))
  generalize w1.alloc (.cells #[.int .i64 1, .string ⟨#[120]⟩] 32) = W1 at *
  generalize w1.heap.size = xb at *
  refine (CS.out _ _ _ H2.out).mono ?_
  rintro e w2 ⟨rfl, h2, s2⟩
  have hxl := World.block_lt_of_cell? _ _ x0
  have kb := s2.block xb hxl (fun h => h rfl)
  have y0 := (World.cell?_of_block (a := ⟨xb, 0, none⟩) kb).trans x0
  have y1 := (World.cell?_of_block (a := ⟨xb, 1, none⟩) kb).trans x1
  have H3 : Hid (Dk w (fun k => k = xb) w2 pd D1) := h2
  clear x0 x1 kb s2 h2 H2 H1 CS hxl
  go_wp2_with fail
  refine (CA.out _ _ _ H3.out).mono ?_
  rintro e w3 ⟨rfl, h3, s3⟩
  have hxl := World.block_lt_of_cell? _ _ y0
  have kb := s3.block xb hxl (fun h => h rfl)
  have x0 := (World.cell?_of_block (a := ⟨xb, 0, none⟩) kb).trans y0
  have x1 := (World.cell?_of_block (a := ⟨xb, 1, none⟩) kb).trans y1
  have H4 : Hid (Dk w (fun k => k = xb) w3 pd D2) := h3
  clear y0 y1 kb s3 h3 H3 CA hxl
  go_wp2_with fail
  refine (CL.out _ _ _ H4.out).mono ?_
  rintro e w4 ⟨⟨a, c, g, rfl, hC⟩, b4⟩
  have y0 := bel_cell b4 x0
  have y1 := bel_cell b4 x1
  have B4 : Hid (Below w.heap.size w w4) := bel_tr H4.out.bel b4
  have y0a := cell_al y0
  have y1a := cell_al y1
  simp only [List.length_cons, List.length_nil, Nat.zero_add] at hC ⊢
  have HC : Hid (Cel (fun k => w3.heap.size ≤ k) w4 2 (.slice a 1 c) 1 (rowC enC [x0E]) g) := hC
  clear x0 x1 b4 hC CL H4
  have CSM : Hid (∀ W b', Below w4.heap.size w4 W → Lie enC (fun k => w4.heap.size ≤ k) W (some ⟨b', 0, none⟩) [x0E] → Calls Tryz.prog 18 #[.agg #[.int .i64 3, .slice a 1 c], .agg #[.int .i64 3, .slice (some ⟨b', 0, none⟩) 1 1]] W fun e w' => e = .returned (.bool true) ∧ Below W.heap.size W w') := fun W b' hb hl => same_val (Lie.of_cel wideN (xs := [x0E]) (HC.out.below hb)) hl 1 1 c 1 rfl rfl 3 3 true ⟨fun _ => rfl, fun _ => rfl⟩
  have CR : Hid (∀ W, Below w4.heap.size w4 W → Calls Tryz.prog 20 #[.agg #[.int .i64 3, .slice a 1 c]] W fun e w' => e = .returned (.bool true) ∧ Below W.heap.size W w') := fun W hb => right_val (Lie.of_cel wideN (xs := [x0E]) (HC.out.below hb)) (fun x hx => by simp at hx; subst hx; unfold maxLen; decide) 3 1 c rfl true ⟨fun _ => rt3x, fun _ => rfl⟩
  go_wp2_with fail
  have B5 : Hid (Below w4.heap.size w4 ((w4.alloc (.cells #[.int .i64 3, .slice a 1 c] 30)).alloc (.cells #[.int .i64 1, .string ⟨#[120]⟩] 32))) := bel_tr (bel_al _ _) (bel_al _ _)
  have z0 : ((w4.alloc (.cells #[.int .i64 3, .slice a 1 c] 30)).alloc (.cells #[.int .i64 1, .string ⟨#[120]⟩] 32)).cell? ⟨w4.heap.size, 0, none⟩ = some (.int .i64 3) := bel_cell (bel_al _ _) (World.cell?_alloc_new w4 _ _ 0)
  have z1 : ((w4.alloc (.cells #[.int .i64 3, .slice a 1 c] 30)).alloc (.cells #[.int .i64 1, .string ⟨#[120]⟩] 32)).cell? ⟨w4.heap.size, 1, none⟩ = some (.slice a 1 c) := bel_cell (bel_al _ _) (World.cell?_alloc_new w4 _ _ 1)
  have L5 : Hid (Lie enC (fun k => w4.heap.size ≤ k) ((w4.alloc (.cells #[.int .i64 3, .slice a 1 c] 30)).alloc (.cells #[.int .i64 1, .string ⟨#[120]⟩] 32)) (some ⟨w4.heap.size + 1, 0, none⟩) [x0E]) := by
    have h9 := one_row (w4.alloc (.cells #[.int .i64 3, .slice a 1 c] 30)) x0E 32
    rw [show (w4.alloc (.cells #[.int .i64 3, .slice a 1 c] 30)).heap.size = w4.heap.size + 1 by simp] at h9
    exact h9.mono (fun k hk _ => Nat.le_trans (Nat.le_succ _) hk)
  refine (CSM.out _ _ B5.out L5.out).mono ?_
  rintro e w5 ⟨rfl, b5⟩
  have v0 := bel_cell b5 z0
  have v1 := bel_cell b5 z1
  have B6 : Hid (Below w4.heap.size w4 w5) := bel_tr B5.out b5
  clear z0 z1 b5 B5 L5 CSM y0 y1 y0a y1a
  go_wp2_with (go_at_call 20; refine (CR.out _ B6.out).mono ?_; rintro e w6 ⟨rfl, b6⟩)
  go_ret
  exact ⟨rfl, bel_tr B4.out (bel_tr B6.out b6)⟩

end Go.Proofs.YtefncpgemdgbbaaGreat.Lgg

/- The contract of tabulariumlaw14.of. -/
namespace Go.Proofs.YtefncpgemdgbbaaGreat.Lgg
open Go.RowKit Go.Proofs.YtefncpgemdgbbaaGreat
set_option linter.unusedVariables false

def cut100 (s : ByteArray) : ByteArray := s.extract 0 (min s.size 100)
theorem cut100_size (s : ByteArray) : (cut100 s).size ≤ 100 := by unfold cut100; rw [ByteArray.size_extract]; omega
/-- The entries of the first k texts. -/
def ofK (ss : List ByteArray) (k : Nat) : List En := (ss.take k).zipIdx.map fun p => ⟨((p.2 + 1 : Nat) : Int), cut100 p.1⟩
theorem ofK_zero (ss : List ByteArray) : ofK ss 0 = [] := rfl
theorem ofK_next (ss : List ByteArray) (k : Nat) (hk : k < ss.length) : ofK ss (k + 1) = ofK ss k ++ [⟨((k + 1 : Nat) : Int), cut100 ss[k]⟩] := by
  unfold ofK
  rw [List.take_succ_eq_append_getElem hk, List.zipIdx_append, List.map_append, List.length_take, Nat.min_eq_left (Nat.le_of_lt hk)]
  simp
theorem ofK_len (ss : List ByteArray) (k : Nat) (hk : k ≤ ss.length) : (ofK ss k).length = k := by unfold ofK; simp; omega
theorem ofK_right (ss : List ByteArray) : ∀ k, k ≤ ss.length → RtE (ofK ss k)
  | 0, _ => fun i h => by simp [ofK] at h
  | k + 1, hk => by
    have ih := ofK_right ss k (by omega)
    have hl := ofK_len ss k (by omega)
    rw [ofK_next ss k (by omega)]
    intro i hi
    rcases Nat.lt_or_ge i (ofK ss k).length with h1 | h1
    · rw [List.getElem_append_left h1]; exact ih i h1
    · simp at hi
      obtain rfl : i = (ofK ss k).length := by omega
      rw [List.getElem_append_right (Nat.le_refl _)]
      simp only [Nat.sub_self, List.getElem_cons_zero]
      have h100 := cut100_size ss[k]
      exact ⟨by rw [hl], by show (cut100 ss[k]).size ≤ 600; omega⟩
def few (ss : List ByteArray) : Nat := min ss.length 30
def ofL (q : Nat) (ss : List ByteArray) : Lg := ⟨(q : Int), ofK ss (few ss)⟩
theorem ofL_right (q : Nat) (hq : q ≤ 1000) (ss : List ByteArray) : RtL (ofL q ss) := by
  refine ⟨by unfold ofL epOk maxN; simp; omega, ?_, ofK_right ss _ (Nat.min_le_left _ _)⟩
  show (ofK ss (few ss)).length ≤ 300
  rw [ofK_len ss (few ss) (Nat.min_le_left _ _)]
  have : few ss ≤ 30 := Nat.min_le_right _ _
  omega
theorem ofL_len (q : Nat) (ss : List ByteArray) : (ofL q ss).es.length = few ss := ofK_len ss _ (Nat.min_le_left _ _)

/-- How it ends: a log in new memory. -/
structure OfR (base : Nat) (l : Lg) (e : Ending) (w' : World) : Prop where
  ex : ∃ a c g, e = .returned (.agg #[.int .i64 l.ep, .slice a l.es.length c]) ∧ Cel (fun k => base ≤ k) w' 2 (.slice a l.es.length c) l.es.length (rowC enC l.es) g

/-- The two boxes. -/
structure Ob (W : World) (rb lb : Nat) (n : Int) (s : Value) : Prop where
  c0 : W.cell? ⟨lb, 0, none⟩ = some (.int .i64 n)
  c1 : W.cell? ⟨lb, 1, none⟩ = some s
  d0 : W.cell? ⟨rb, 0, none⟩ = some (.int .i64 0)
  d1 : W.cell? ⟨rb, 1, none⟩ = some (.slice none 0 0)
  f0 : ∀ j, W.frozen? ⟨lb, j, none⟩ = false
  f1 : ∀ j, W.frozen? ⟨rb, j, none⟩ = false
  lt : rb < lb ∧ lb < W.heap.size
theorem Ob.stay {W W' : World} {rb lb : Nat} {n : Int} {s : Value} {O : Nat → Prop} (h : Ob W rb lb n s) (hs : Stay O W W') (hO : ∀ k, O k → lb < k) : Ob W' rb lb n s := by
  obtain ⟨l1, l2⟩ := h.lt
  have k0 := hs.block lb (by omega) (fun e => by have := hO _ e; omega)
  have k1 := hs.block rb (by omega) (fun e => by have := hO _ e; omega)
  exact ⟨(World.cell?_of_block (a := ⟨lb, 0, none⟩) k0).trans h.c0, (World.cell?_of_block (a := ⟨lb, 1, none⟩) k0).trans h.c1, (World.cell?_of_block (a := ⟨rb, 0, none⟩) k1).trans h.d0, (World.cell?_of_block (a := ⟨rb, 1, none⟩) k1).trans h.d1,
    fun j => (World.frozen?_of_block (a := ⟨lb, j, none⟩) k0).trans (h.f0 j), fun j => (World.frozen?_of_block (a := ⟨rb, j, none⟩) k1).trans (h.f1 j), ⟨l1, Nat.lt_of_lt_of_le l2 hs.size⟩⟩
theorem Ob.putS {W : World} {rb lb : Nat} {n : Int} {s : Value} (h : Ob W rb lb n s) (s' : Value) : Ob (W.setCell ⟨lb, 1, none⟩ s') rb lb n s' := by
  obtain ⟨l1, l2⟩ := h.lt
  exact ⟨cell_set (by omega) h.c0, World.cell?_setCell_same _ _ _ h.c1, other (by omega) h.d0, other (by omega) h.d1, fun j => by rw [World.frozen?_setCell]; exact h.f0 j, fun j => by rw [World.frozen?_setCell]; exact h.f1 j, ⟨l1, by rw [size_set]; exact l2⟩⟩

theorem of_app {w wr W w5 : World} {rb lb : Nat} {n : Int} {a a5 : Option Addr} {k c c5 : Nat} {es : List En} {g g5 : Option Nat} {d : ByteArray} {I : Int} (hB : Ob wr rb lb n (.slice a k c)) (hC : Cel (fun z => lb < z) wr 2 (.slice a k c) k (rowC enC es) g) (hb : Below w.heap.size w wr) (hW : Below wr.heap.size wr W) (hC5 : Cel (Grow (fun z => lb < z) W w5) w5 2 (.slice a5 (k + 1) c5) (k + 1) (rowC enC es ++ [.int .i64 I, .string d]) g5) (hS5 : Stay (fun z => g = some z) W w5) (hrb : rb = w.heap.size := by rfl) :
    Ob w5 rb lb n (.slice a k c) ∧ Cel (fun z => lb < z) w5 2 (.slice a5 (k + 1) c5) (k + 1) (rowC enC (es ++ [⟨I, d⟩])) g5 ∧ Below w.heap.size w w5 := by
  have hl := hB.lt
  have hx : ∀ z, g = some z → lb < z := fun z hz => by rw [hz] at hC; exact hC.lt.2
  have h1 := bel_tr hb hW
  have hz := hW.size
  refine ⟨(hB.stay (O := fun _ => False) (Stay.of_below hW) (fun _ e => e.elim)).stay hS5 hx, ?_, h1.trans (hS5.below h1.size (fun z hq => by have := hx z hq; omega))⟩
  rw [rowC_app, rowC_one]
  exact hC5.stay (Nat.le_refl _) (fun _ _ => rfl) (fun z hq => hq.elim id (fun e => by have := e.1; omega))

end Go.Proofs.YtefncpgemdgbbaaGreat.Lgg

/- The contract of tabulariumref14.Parse: what is read. -/
namespace Go.Proofs.YtefncpgemdgbbaaGreat.Lgg
open Go.RowKit Go.Proofs.YtefncpgemdgbbaaGreat
open Go.Proofs.YtefncpgemdgbbaaGreat.Wir (refTake_val)
open Go.Proofs.YtefncpgemdgbbaaGreat.Smm (openT refOpen_any)
set_option linter.unusedVariables false

structure ParR (base : Nat) (l : Lg) (whole : Bool) (e : Ending) (w' : World) : Prop where
  ex : ∃ a c g, e = .returned (.tuple #[.agg #[.int .i64 l.ep, .slice a l.es.length c], .bool whole, .bool true]) ∧ Cel (fun k => base ≤ k) w' 2 (.slice a l.es.length c) l.es.length (rowC enC l.es) g

structure Lq (w W : World) (rb lb : Nat) (n : Int) (es : List En) (k : Nat) (b : ByteArray) (tot : List En × ByteArray) : Prop where
  ex : ∃ a c g, Ob W rb lb n (.slice a k c) ∧ Cel (fun q => lb < q) W 2 (.slice a k c) k (rowC enC es) g
  len : es.length = k
  le : k ≤ 300
  bel : Below w.heap.size w W
  go : goL (300 - k) es b = tot
  bm : b.size ≤ maxLen

theorem fin_q {w W : World} {lb : Nat} {n : Int} {a : Option Addr} {k c : Nat} {es : List En} {g : Option Nat} {s : Value} (hO : Ob W w.heap.size lb n s) (hC : Cel (fun q => lb < q) W 2 (.slice a k c) k (rowC enC es) g) (hb : Below w.heap.size w W) :
    ((W.setCell ⟨w.heap.size, 0, none⟩ (.int .i64 n)).setCell ⟨w.heap.size, 1, none⟩ (.slice a k c)).cell? ⟨w.heap.size, 0, none⟩ = some (.int .i64 n) ∧ ((W.setCell ⟨w.heap.size, 0, none⟩ (.int .i64 n)).setCell ⟨w.heap.size, 1, none⟩ (.slice a k c)).cell? ⟨w.heap.size, 1, none⟩ = some (.slice a k c) ∧ Cel (fun q => w.heap.size ≤ q) ((W.setCell ⟨w.heap.size, 0, none⟩ (.int .i64 n)).setCell ⟨w.heap.size, 1, none⟩ (.slice a k c)) 2 (.slice a k c) k (rowC enC es) g ∧ Below w.heap.size w ((W.setCell ⟨w.heap.size, 0, none⟩ (.int .i64 n)).setCell ⟨w.heap.size, 1, none⟩ (.slice a k c)) := by
  obtain ⟨z0, z1⟩ := two_set (u' := .int .i64 n) (v' := .slice a k c) hO.d0 hO.d1
  have hl := hO.lt
  have hne : g ≠ some w.heap.size := fun e => by rw [e] at hC; have h9 : lb < w.heap.size := hC.lt.2; omega
  have h8 := (hC.setOut ⟨w.heap.size, 0, none⟩ (.int .i64 n) hne).setOut ⟨w.heap.size, 1, none⟩ (.slice a k c) hne
  exact ⟨z0, z1, h8.stay (Nat.le_refl _) (fun _ _ => rfl) (fun q hq => by have h9 : lb < q := hq; omega), Below.setCell (Below.setCell hb (Nat.le_refl _) _) (Nat.le_refl _) _⟩

set_option maxRecDepth 100000 in
set_option maxHeartbeats 8000000 in
theorem refParse_yes (b : ByteArray) (hb : b.size ≤ maxLen) (l : Lg) (R : ByteArray) (hp : parseL b = some (l, R)) (wh : Bool) (hwh : decide (R.size = 0) = wh) (w : World) :
    Calls Tryz.prog 42 #[.string b] w fun e w' => ParR w.heap.size l wh e w' ∧ Below w.heap.size w w' := by
  unfold parseL at hp
  split at hp
  case h_2 => cases hp
  rename_i n r hE
  simp only [Option.some.injEq, Prod.mk.injEq] at hp
  obtain ⟨rfl, rfl⟩ := hp
  have hwe := is_empty hwh
  have hrm : r.size ≤ maxLen := Nat.le_trans (epochP_size hE) hb
  obtain ⟨ti, hi1, hi2, hi3, hi4⟩ := info_e
  obtain ⟨T, R0, E, hO⟩ : ∃ T R E, openT b = (T, R, E) := ⟨_, _, _, rfl⟩
  obtain ⟨n0, d0, ok, ht⟩ := tk_ex T
  have hsz := openT_size hO
  have htp := takeP_of hO ht
  have hall : E = 0 ∧ ok = true ∧ n0 = n ∧ d0 = ⟨#[]⟩ ∧ R0 = r ∧ ¬ n < 0 ∧ ¬ 9007199254740991 < n := by
    unfold epochP at hE
    by_cases h1 : E = 0 ∧ ok = true
    · rw [if_pos h1] at htp
      rw [htp] at hE
      simp only at hE
      split at hE
      · rename_i hc
        cases hE
        have h9 := ep_in hc.1
        refine ⟨h1.1, h1.2, rfl, ?_, rfl, by omega, by omega⟩
        apply Go.WideShapes.bytes_inj
        have h8 : d0.data.toList.length = 0 := by rw [Wir.size_list]; exact hc.2
        rw [List.length_eq_zero_iff.1 h8]
      · cases hE
    · rw [if_neg h1] at htp
      rw [htp] at hE
      cases hE
  obtain ⟨rfl, rfl, rfl, rfl, rfl, hn1, hn2⟩ := hall
  have HO : Hid (∀ W, Calls Tryz.prog 72 #[.string b] W fun e w' => e = .returned (.tuple #[.string T, .string R0, .int .i64 0]) ∧ Below W.heap.size W w') := fun W => refOpen_any b T R0 0 W hb hO
  have HT : Hid (∀ W, Calls Tryz.prog 73 #[.string T] W fun e w' => e = .returned (.tuple #[.int .i64 n0, .string ⟨#[]⟩, .bool true]) ∧ Below W.heap.size W w') := fun W => refTake_val T _ W (by unfold maxLen; omega) ht.v
  obtain ⟨tot, htot⟩ : ∃ t, goL 300 [] R0 = t := ⟨_, rfl⟩
  rw [htot] at hwe ⊢
  have HTT : Hid (goL 300 [] R0 = tot) := htot
  have HRM : Hid (R0.size ≤ maxLen) := hrm
  have HWE : Hid (tot.2.toList.isEmpty = wh) := hwe
  have hst2 : ∀ (w : World) (a : Addr) (x : Option Addr) (n c : Nat) (m : Mode), (store a (.slice x n c) m).run Tryz.prog w = stored Tryz.prog w a (.slice x n c) m := fun w a x n c m => run_store (P := Tryz.prog) w a _ m rfl
  clear hE htp hsz ht hO htot hwh hrm hwe hb
  go_enter Tryz.func42, Tryz.ntmps42
  go_wp2_with fail
  refine (HO.out _).mono ?_
  rintro e w1 ⟨rfl, b1⟩
  have B1 : Hid (Below (w.alloc (.cells #[.int .i64 0, .slice none 0 0] 30)).heap.size (w.alloc (.cells #[.int .i64 0, .slice none 0 0] 30)) w1) := b1
  clear b1
  go_wp2_with fail
  refine (HT.out _).mono ?_
  rintro e w2 ⟨rfl, b2⟩
  have L0 : Hid (Lq w (w2.alloc (.cells #[.int .i64 n0, .slice none 0 0] 30)) w.heap.size w2.heap.size n0 [] 0 R0 tot) := by
    have bb := bel_tr B1.out b2
    have hlt : w.heap.size < w2.heap.size := by have h9 := bb.size; simp at h9; omega
    have al := bel_al w2 (.cells #[.int .i64 n0, .slice none 0 0] 30)
    refine ⟨⟨none, 0, none, ⟨World.cell?_alloc_new w2 _ _ 0, World.cell?_alloc_new w2 _ _ 1, bel_cell (bel_tr bb al) (World.cell?_alloc_new w _ _ 0), bel_cell (bel_tr bb al) (World.cell?_alloc_new w _ _ 1), fun j => World.frozen?_alloc_new w2 _ _ j, fun j => (World.frozen?_of_block (a := ⟨w.heap.size, j, none⟩) ((bel_tr bb al).block w.heap.size (by simp))).trans (World.frozen?_alloc_new w _ _ j), ⟨hlt, by simp⟩⟩, .nil rfl rfl rfl⟩, rfl, by omega, bel_tr (bel_tr (bel_al _ _) bb) al, HTT.out, HRM.out⟩
  clear b2 B1 HO HT HTT HRM
  go_wp2
  generalize w2.alloc (.cells #[.int .i64 n0, .slice none 0 0] 30) = W0 at *
  generalize w2.heap.size = lb at *
  go_loopw [6] (fun v wr => ∃ (k : Nat) (es : List En) (b' : ByteArray), v = .string b' ∧ Lq w wr w.heap.size lb n0 es k b' tot) (fun _ wr => 300 - lenAt wr ⟨lb, 1, none⟩)
  case atStart => exact ⟨0, [], R0, rfl, L0.out⟩
  case round =>
    obtain ⟨k, es, b', rfl, hL⟩ := hrel
    have HL : Hid (Lq w wr w.heap.size lb n0 es k b' tot) := hL
    obtain ⟨a, c, g, hB, hC⟩ := hL.ex
    have hle := hL.le
    have HB : Hid (Ob wr w.heap.size lb n0 (.slice a k c)) := hB
    have HC : Hid (Cel (fun q => lb < q) wr 2 (.slice a k c) k (rowC enC es) g) := hC
    have HLN : Hid (es.length = k) := hL.len
    have c0 := hB.c0
    have c1 := hB.c1
    have hg0 := hB.d0
    have hg1 := hB.d1
    have f0 := hB.f1 0
    have f1 := hB.f1 1
    have hbm := hL.bm
    have HEND : Hid (tot = (es, b') → ∀ W, Below wr.heap.size wr W → (Ob W w.heap.size lb n0 (.slice a k c) ∧ ((W.setCell ⟨w.heap.size, 0, none⟩ (.int .i64 n0)).setCell ⟨w.heap.size, 1, none⟩ (.slice a k c)).cell? ⟨w.heap.size, 0, none⟩ = some (.int .i64 n0) ∧ ((W.setCell ⟨w.heap.size, 0, none⟩ (.int .i64 n0)).setCell ⟨w.heap.size, 1, none⟩ (.slice a k c)).cell? ⟨w.heap.size, 1, none⟩ = some (.slice a k c) ∧ ParR w.heap.size ⟨n0, tot.1⟩ wh (.returned (.tuple #[.agg #[.int .i64 n0, .slice a k c], .bool wh, .bool true])) ((W.setCell ⟨w.heap.size, 0, none⟩ (.int .i64 n0)).setCell ⟨w.heap.size, 1, none⟩ (.slice a k c)) ∧ Below w.heap.size w ((W.setCell ⟨w.heap.size, 0, none⟩ (.int .i64 n0)).setCell ⟨w.heap.size, 1, none⟩ (.slice a k c)) ∧ b'.toList.isEmpty = wh)) := fun he W hbW => by
      have hO2 := HB.out.stay (O := fun _ => False) (Stay.of_below hbW) (fun _ e => e.elim)
      obtain ⟨q1, q2, q3, q4⟩ := fin_q (w := w) hO2 (HC.out.below hbW) (bel_tr HL.out.bel hbW)
      subst he
      refine ⟨hO2, q1, q2, ⟨a, c, g, by simp only [HLN.out], by simp only [HLN.out]; exact q3⟩, q4, HWE.out⟩
    clear hL hB hC L0
    by_cases hem : b'.size = 0
    · have hbe : b' = ⟨#[]⟩ := by
        apply Go.WideShapes.bytes_inj
        have h8 : b'.data.toList.length = 0 := by rw [Wir.size_list]; exact hem
        rw [List.length_eq_zero_iff.1 h8]
      have hto : tot = (es, b') := by
        have h1 := HL.out.go
        rw [hbe, goL_stop entry_empty] at h1
        rw [hbe]; exact h1.symm
      obtain ⟨_, q1, q2, q3, q4, q5⟩ := HEND.out hto wr (Below.refl _ _)
      have he1 : b'.toList.isEmpty = true := is_empty (decide_eq_true hem)
      rw [he1] at q5
      subst q5
      have Q3 : Hid (ParR w.heap.size ⟨n0, tot.1⟩ true (.returned (.tuple #[.agg #[.int .i64 n0, .slice a k c], .bool true, .bool true])) ((wr.setCell ⟨w.heap.size, 0, none⟩ (.int .i64 n0)).setCell ⟨w.heap.size, 1, none⟩ (.slice a k c))) := q3
      have Q4 : Hid (Below w.heap.size w ((wr.setCell ⟨w.heap.size, 0, none⟩ (.int .i64 n0)).setCell ⟨w.heap.size, 1, none⟩ (.slice a k c))) := q4
      clear hto q3 q4 HEND HL HC HB HWE
      go_wp2
      refine bodyPost_ret (v := .tuple #[.agg #[.int .i64 n0, .slice a k c], .bool true, .bool true]) ?_ rfl ⟨Q3.out, Q4.out⟩
      simp only [results, Tryz.results42]
      simp [go_sem, q1, q2]
    · have he1 : b'.toList.isEmpty = false := is_empty (decide_eq_false hem)
      by_cases hk : k < 300
      · obtain ⟨T2, R2, E2, hO2⟩ : ∃ T R E, openT b' = (T, R, E) := ⟨_, _, _, rfl⟩
        obtain ⟨n2, d2, ok2, ht2⟩ := tk_ex T2
        have hsz2 := openT_size hO2
        have htp2 := takeP_of hO2 ht2
        have hd2 : d2.size ≤ 9223372036854775807 := by have := ht2.sz; omega
        have HO2 : Hid (∀ W, Calls Tryz.prog 72 #[.string b'] W fun e w' => e = .returned (.tuple #[.string T2, .string R2, .int .i64 (E2 : Int)]) ∧ Below W.heap.size W w') := fun W => refOpen_any b' T2 R2 E2 W hbm hO2
        have HT2 : Hid (∀ W, Calls Tryz.prog 73 #[.string T2] W fun e w' => e = .returned (.tuple #[.int .i64 n2, .string d2, .bool ok2]) ∧ Below W.heap.size W w') := fun W => refTake_val T2 _ W (by unfold maxLen; omega) ht2.v
        by_cases hyes : E2 = 0 ∧ ok2 = true ∧ n2 = ((k + 1 : Nat) : Int) ∧ d2.size ≤ 600
        · obtain ⟨rfl, rfl, hn3, hd3⟩ := hyes
          have hP : entryP b' ((k + 1 : Nat) : Int) = some (d2, R2) := by
            unfold entryP
            rw [htp2, if_pos ⟨rfl, rfl⟩]
            simp only
            rw [if_pos ⟨hn3, hd3⟩]
          have HNX : Hid (goL (300 - (k + 1)) (es ++ [⟨(k : Int) + 1, d2⟩]) R2 = tot) := by
            have h1 := HL.out.go
            obtain ⟨f, hf⟩ : ∃ f, 300 - k = f + 1 := ⟨299 - k, by omega⟩
            rw [hf] at h1
            unfold goL at h1
            rw [HLN.out, hP] at h1
            simp only at h1
            rw [show 300 - (k + 1) = f by omega, show (k : Int) + 1 = ((k + 1 : Nat) : Int) by omega]
            exact h1
          have HR2 : Hid (R2.size ≤ maxLen) := Nat.le_trans hsz2.2 hbm
          obtain rfl : n2 = (k : Int) + 1 := by omega
          clear hP htp2 ht2 hO2 hsz2 hn3 HEND
          go_wp2_with (first
            | (go_at_call 72; refine (HO2.out _).mono ?_; rintro e w3 ⟨rfl, b3⟩; have B3 : Hid (Below wr.heap.size wr w3) := b3; clear b3)
            | (go_at_call 73; refine (HT2.out _).mono ?_; rintro e w4 ⟨rfl, b4⟩; have B4 : Hid (Below wr.heap.size wr w4) := bel_tr B3.out b4; clear b4; have u1 := bel_cell B4.out c1; have CW : Hid (Cel (fun q => lb < q) (w4.alloc (.cells #[.int .i64 ((k : Int) + 1), .string d2] 32)) 2 (.slice a k c) k (rowC enC es) g) := (HC.out.below B4.out).below (bel_al _ _); have SW : Hid (Src Tryz.prog 2 28 (.slice (some ⟨w4.heap.size, 0, none⟩) 1 1) 1 [.int .i64 ((k : Int) + 1), .string d2] (w4.alloc (.cells #[.int .i64 ((k : Int) + 1), .string d2] 32))) := src_entry w4 _ d2)
            | (at_builtin; refine wpList_append_cel _ rfl _ _ 28 28 rfl 32 ti _ 2 24 Tryz.underlying28 hi1 hi2 hi3 hi4 rfl (O := fun q => lb < q) (.slice a k c) k _ g rfl CW.out _ 1 [.int .i64 ((k : Int) + 1), .string d2] rfl SW.out (by unfold maxLen; omega) (by omega) ?_; intro a7 c7 w7 g7 hC7 hS7 hg7; have H7 : Hid (Ob w7 w.heap.size lb n0 (.slice a k c) ∧ Cel (fun z => lb < z) w7 2 (.slice a7 (k + 1) c7) (k + 1) (rowC enC (es ++ [⟨(k : Int) + 1, d2⟩])) g7 ∧ Below w.heap.size w w7) := of_app HB.out HC.out HL.out.bel (bel_tr B4.out (bel_al _ _)) hC7 hS7; clear hC7 hS7 hg7 u1; have u1 := H7.out.1.c1; have uf := H7.out.1.f0 1))
          go_roundw
          case rel =>
            refine ⟨k + 1, es ++ [⟨(k : Int) + 1, d2⟩], R2, rfl, ⟨a7, c7, g7, H7.out.1.putS _, H7.out.2.1.setOut _ _ (fun e => ?_)⟩, by simp [HLN.out], by omega, Below.setCell H7.out.2.2 (by have h9 := HB.out.lt; show w.heap.size ≤ lb; omega) _, HNX.out, HR2.out⟩
            have h8 := H7.out.2.1
            rw [e] at h8
            have h9 : lb < lb := h8.lt.2
            omega
          case measure =>
            have e1 : lenAt wr ⟨lb, 1, none⟩ = k := by unfold lenAt; rw [HB.out.c1]
            have e2 : lenAt (w7.setCell ⟨lb, 1, none⟩ (.slice a7 (k + 1) c7)) ⟨lb, 1, none⟩ = k + 1 := by unfold lenAt; rw [(H7.out.1.putS (.slice a7 (k + 1) c7)).c1]
            rw [e1, e2]
            omega
        · have hP : entryP b' ((k + 1 : Nat) : Int) = none := by
            unfold entryP
            rw [htp2]
            by_cases h1 : E2 = 0 ∧ ok2 = true
            · rw [if_pos h1]
              simp only
              rw [if_neg (fun h => hyes ⟨h1.1, h1.2, h.1, h.2⟩)]
            · rw [if_neg h1]
          have hto : tot = (es, b') := by
            have h1 := HL.out.go
            obtain ⟨f, hf⟩ : ∃ f, 300 - k = f + 1 := ⟨299 - k, by omega⟩
            rw [hf] at h1
            unfold goL at h1
            rw [HLN.out, hP] at h1
            exact h1.symm
          have HE2 : Hid _ := HEND.out hto
          have hcs : ¬ (E2 : Int) = 0 ∨ ((E2 : Int) = 0 ∧ ok2 = false) ∨ ((E2 : Int) = 0 ∧ ok2 = true ∧ ¬ n2 = (k : Int) + 1) ∨ ((E2 : Int) = 0 ∧ ok2 = true ∧ n2 = (k : Int) + 1 ∧ ¬ d2.size ≤ 600) := by
            by_cases h1 : E2 = 0
            · cases ok2 with
              | false => exact .inr (.inl ⟨by omega, rfl⟩)
              | true =>
                by_cases h2 : n2 = (k : Int) + 1
                · exact .inr (.inr (.inr ⟨by omega, rfl, h2, fun h => hyes ⟨h1, rfl, by omega, h⟩⟩))
                · exact .inr (.inr (.inl ⟨by omega, rfl, h2⟩))
            · exact .inl (by omega)
          have HCS2 : Hid (¬ (E2 : Int) = 0 ∨ ((E2 : Int) = 0 ∧ ok2 = false) ∨ ((E2 : Int) = 0 ∧ ok2 = true ∧ ¬ n2 = (k : Int) + 1) ∨ ((E2 : Int) = 0 ∧ ok2 = true ∧ n2 = (k : Int) + 1 ∧ ¬ d2.size ≤ 600)) := hcs
          clear hcs hP htp2 ht2 hO2 hsz2 hyes hto HEND
          generalize (E2 : Int) = EI at *
          go_wp2_with fail
          refine (HO2.out _).mono ?_
          rintro e w3 ⟨rfl, b3⟩
          have B3 : Hid (Below wr.heap.size wr w3) := b3
          clear b3
          go_wp2_with fail
          refine (HT2.out _).mono ?_
          rintro e w4 ⟨rfl, b4⟩
          have B4 : Hid (Below wr.heap.size wr w4) := bel_tr B3.out b4
          obtain ⟨hO4, q1, q2, q3, q4, q5⟩ := HE2.out w4 B4.out
          rw [he1] at q5
          subst q5
          have Q3 : Hid (ParR w.heap.size ⟨n0, tot.1⟩ false (.returned (.tuple #[.agg #[.int .i64 n0, .slice a k c], .bool false, .bool true])) ((w4.setCell ⟨w.heap.size, 0, none⟩ (.int .i64 n0)).setCell ⟨w.heap.size, 1, none⟩ (.slice a k c))) := q3
          have Q4 : Hid (Below w.heap.size w ((w4.setCell ⟨w.heap.size, 0, none⟩ (.int .i64 n0)).setCell ⟨w.heap.size, 1, none⟩ (.slice a k c))) := q4
          have c0' := hO4.c0
          have c1' := hO4.c1
          have hg0' := hO4.d0
          have hg1' := hO4.d1
          have f0' := hO4.f1 0
          have f1' := hO4.f1 1
          clear q3 q4 b4 hO4 HE2 HL HC HB HWE c0 c1 hg0 hg1 f0 f1
          rcases HCS2.out with h1 | ⟨rfl, rfl⟩ | ⟨rfl, rfl, h1⟩ | ⟨rfl, rfl, rfl, h1⟩
          · have hb1 : (EI == 0) = false := beq_eq_false_iff_ne.2 h1
            go_wp2
            refine bodyPost_ret (v := .tuple #[.agg #[.int .i64 n0, .slice a k c], .bool false, .bool true]) ?_ rfl ⟨Q3.out, Q4.out⟩
            simp only [results, Tryz.results42]
            simp [go_sem, q1, q2]
          all_goals
            go_wp2
            refine bodyPost_ret (v := .tuple #[.agg #[.int .i64 n0, .slice a k c], .bool false, .bool true]) ?_ rfl ⟨Q3.out, Q4.out⟩
            simp only [results, Tryz.results42]
            simp [go_sem, q1, q2]
      · obtain rfl : k = 300 := by omega
        have hto : tot = (es, b') := by
          have h1 := HL.out.go
          rw [Nat.sub_self] at h1
          exact h1.symm
        obtain ⟨_, q1, q2, q3, q4, q5⟩ := HEND.out hto wr (Below.refl _ _)
        rw [he1] at q5
        subst q5
        have Q3 : Hid (ParR w.heap.size ⟨n0, tot.1⟩ false (.returned (.tuple #[.agg #[.int .i64 n0, .slice a 300 c], .bool false, .bool true])) ((wr.setCell ⟨w.heap.size, 0, none⟩ (.int .i64 n0)).setCell ⟨w.heap.size, 1, none⟩ (.slice a 300 c))) := q3
        have Q4 : Hid (Below w.heap.size w ((wr.setCell ⟨w.heap.size, 0, none⟩ (.int .i64 n0)).setCell ⟨w.heap.size, 1, none⟩ (.slice a 300 c))) := q4
        clear hto q3 q4 HEND HL HC HB HWE
        go_wp2
        refine bodyPost_ret (v := .tuple #[.agg #[.int .i64 n0, .slice a 300 c], .bool false, .bool true]) ?_ rfl ⟨Q3.out, Q4.out⟩
        simp only [results, Tryz.results42]
        simp [go_sem, q1, q2]

end Go.Proofs.YtefncpgemdgbbaaGreat.Lgg

/- What the laws keep beside a disk: two logs of their own. -/
namespace Go.Proofs.YtefncpgemdgbbaaGreat.Lgg
open Go.RowKit Go.Proofs.YtefncpgemdgbbaaGreat
set_option linter.unusedVariables false

def jN : ByteArray := ⟨#[106]⟩
theorem j_ok : nmOk jN = true := by decide
theorem j_small : jN.size ≤ maxLen := by show 1 ≤ maxLen; unfold maxLen; omega

/-- A log in a box of K, its row in a block of K. -/
structure Bl (K : Nat → Prop) (W : World) (A : Nat) (l : Lg) (a : Option Addr) (c : Nat) : Prop where
  c0 : W.cell? ⟨A, 0, none⟩ = some (.int .i64 l.ep)
  c1 : W.cell? ⟨A, 1, none⟩ = some (.slice a l.es.length c)
  kA : K A
  row : Lie enC K W a l.es
section
variable {K K' : Nat → Prop} {W W' : World} {A : Nat} {l : Lg} {a : Option Addr} {c : Nat}
theorem Bl.stay {O : Nat → Prop} (h : Bl K W A l a c) (hs : Stay O W W') (hO : ∀ k, K k → ¬ O k) : Bl K W' A l a c := by
  have hb := hs.block A (World.block_lt_of_cell? _ _ h.c0) (hO A h.kA)
  exact ⟨(World.cell?_of_block (a := ⟨A, 0, none⟩) hb).trans h.c0, (World.cell?_of_block (a := ⟨A, 1, none⟩) hb).trans h.c1, h.kA, h.row.stay hs hO⟩
theorem Bl.kept (h : Bl K W A l a c) (hs : Stay (fun k => ¬ K k) W W') : Bl K W' A l a c := h.stay hs (fun k hk e => e hk)
theorem Bl.below (h : Bl K W A l a c) (hb : Below W.heap.size W W') : Bl K W' A l a c := h.stay (O := fun _ => False) (Stay.of_below hb) (fun _ _ => id)
theorem Bl.mono (h : Bl K W A l a c) (hK : ∀ k, K k → k < W.heap.size → K' k) : Bl K' W A l a c := ⟨h.c0, h.c1, hK A h.kA (World.block_lt_of_cell? _ _ h.c0), h.row.mono hK⟩
/-- What 'of' told, laid into a box. -/
theorem Bl.of {base : Nat} {w3 : World} {g : Option Nat} (hC : Cel (fun k => base ≤ k) w3 2 (.slice a l.es.length c) l.es.length (rowC enC l.es) g) (T : TypeId) (hbase : base ≤ w3.heap.size) : Bl (fun k => base ≤ k ∧ k < w3.heap.size + 1) (w3.alloc (.cells #[.int .i64 l.ep, .slice a l.es.length c] T)) w3.heap.size l a c := by
  obtain ⟨q0, q1, _, _⟩ := cells2 w3 (.int .i64 l.ep) (.slice a l.es.length c) T
  have h1 := Lie.of_cel wideN (hC.below (bel_al w3 (.cells #[.int .i64 l.ep, .slice a l.es.length c] T)))
  refine ⟨q0, q1, ⟨hbase, by omega⟩, h1.mono (fun k hk hl => ⟨hk, ?_⟩)⟩
  simpa using hl
end

theorem cel_lt {O : Nat → Prop} {w : World} {k : Nat} {sl : Value} {n : Nat} {cs : List Value} {g : Option Nat} (h : Cel O w k sl n cs g) : Cel (fun q => O q ∧ q < w.heap.size) w k sl n cs g := by
  cases h with
  | nil h1 h2 h3 => exact .nil h1 h2 h3
  | row g cap h1 hl h2 h3 h4 h5 h6 h7 => exact .row g cap h1 hl ⟨h2, h3⟩ h3 h4 h5 h6 h7
theorem enc_small (q : Nat) (hq : q ≤ 1000) (ss : List ByteArray) : (encL (ofL q ss)).size ≤ 20000 := by
  have h1 := encL_size (ep := (ofL q ss).ep) (es := (ofL q ss).es) (ofL_right q hq ss)
  have h2 := ofL_len q ss
  have h3 : few ss ≤ 30 := Nat.min_le_right _ _
  rw [h2] at h1
  have : (encL (ofL q ss)).size ≤ 24 + few ss * 624 := h1
  omega
theorem enc_ne (l : Lg) : (encL l).data.toList ≠ [] := fun e => by
  have h1 := encL_pos l
  have h2 : (encL l).data.toList.length = (encL l).size := Wir.size_list _
  rw [e] at h2
  simp at h2; omega

/-- What is there behind Store, whenever the power goes, and a crash. -/
theorem stored_out (X Y : ByteArray) (hX : X.size ≤ 20000) (hY : Y.size ≤ 20000) (hXn : X.data.toList ≠ []) (hYn : Y.data.toList ≠ []) (N : Nat) (hN : N < 6) :
    ∃ e ds2, stoR ⟨400000, 1 + (N : Int), false, [(jN.data.toList, X.data.toList, X.data.toList.length)]⟩ jN Y = (e, ds2) ∧ ds2.room = 400000 ∧
      ((e = 12 ∧ ∀ ks, ∃ r', crashL ks ds2.S = (jN.data.toList, X.data.toList, X.data.toList.length) :: r') ∨ (e = 0 ∧ ∀ ks, ∃ r', crashL ks ds2.S = (jN.data.toList, Y.data.toList, Y.data.toList.length) :: r')) := by
  have hl : X.data.toList.length = X.size := Wir.size_list X
  have hl2 : Y.data.toList.length = Y.size := Wir.size_list Y
  have hr : ((X.data.toList.length + Y.size : Nat) : Int) ≤ 400000 := by omega
  rcases Nat.lt_or_ge N 3 with h3 | h3
  · rcases (show N = 0 ∨ N = 1 ∨ N = 2 by omega) with rfl | rfl | rfl
    · exact ⟨12, _, sto_one j_ok (by omega) hr, rfl, .inl ⟨rfl, fun ks => crash_head hXn ks _⟩⟩
    · exact ⟨12, _, sto_two j_ok (by omega) hr, rfl, .inl ⟨rfl, fun ks => crash_head hXn ks _⟩⟩
    · exact ⟨12, _, sto_three j_ok (by omega) hr, rfl, .inl ⟨rfl, fun ks => crash_head hXn ks _⟩⟩
  · obtain ⟨f', h4⟩ := sto_on (s := jN) (b := Y) (A := X.data.toList) (a := X.data.toList.length) (room := 400000) (f := 1 + (N : Int)) j_ok (by omega) hr (.inr (by omega))
    refine ⟨0, _, h4, rfl, .inr ⟨rfl, fun ks => ?_⟩⟩
    simp only
    rw [← hl2]
    exact crash_head hYn ks _

end Go.Proofs.YtefncpgemdgbbaaGreat.Lgg

/- The contract of log.Load where the bytes do not begin with an epoch; plain facts of torn files. -/
namespace Go.Proofs.YtefncpgemdgbbaaGreat.Lgg
open Go.RowKit Go.Proofs.YtefncpgemdgbbaaGreat
open Go.WideShapes (bytes_inj)
set_option linter.unusedVariables false

set_option maxRecDepth 100000 in
set_option maxHeartbeats 4000000 in
theorem load_form {w0 w : World} {K : Nat → Prop} {pd : Nat} {ds : DS} (h : Dk w0 K w pd ds) (s : ByteArray) (hs : s.size ≤ maxLen) (b : ByteArray) (hbm : b.size ≤ maxLen) (ht : rdT ds s.data.toList = b) (hq : rdE ds s.data.toList = 0) (hp : epochP b = none) :
    Calls Tryz.prog 16 #[.pointer (some ⟨pd, 0, none⟩), .string s] w fun e w' => e = .returned (.tuple #[.agg #[.int .i64 0, .slice none 0 0], .bool false, .int .i64 2]) ∧ Below w.heap.size w w' := by
  have HR : Hid (∀ W, Below w.heap.size w W → Calls Tryz.prog 29 #[.pointer (some ⟨pd, 0, none⟩), .string s] W fun e w' => e = .returned (.tuple #[.string b, .int .i64 0]) ∧ Below W.heap.size W w') := fun W hb => dk_read (h.below hb) s hs b 0 ht hq
  have HE : Hid (epochP b = none) := hp
  have HBM : Hid (b.size ≤ maxLen) := hbm
  have hmf : ∀ (fn : Fn) (first cap : Array Value) (w : World), (Instr.makeFunc fn first cap).run Tryz.prog w = .ok (.func fn first cap) w := fun _ _ _ _ => rfl
  have hst := fun (w : World) (a : Addr) (x : ByteArray) (m : Mode) => run_store (P := Tryz.prog) w a (.string x) m rfl
  have hst2 : ∀ (w : World) (a : Addr) (x : Option Addr) (n c : Nat) (m : Mode), (store a (.slice x n c) m).run Tryz.prog w = stored Tryz.prog w a (.slice x n c) m := fun w a x n c m => run_store (P := Tryz.prog) w a _ m rfl
  clear h ht hq hp hbm
  go_enter Tryz.func16, Tryz.ntmps16
  go_wp2_with fail
  refine (HR.out _ (bel_al _ _)).mono ?_
  rintro e w1 ⟨rfl, b1⟩
  have x0 : w1.cell? ⟨w.heap.size, 0, none⟩ = some (.int .i64 0) := bel_cell b1 (World.cell?_alloc_new w _ _ 0)
  have x1 : w1.cell? ⟨w.heap.size, 1, none⟩ = some (.slice none 0 0) := bel_cell b1 (World.cell?_alloc_new w _ _ 1)
  have fx : ∀ j, w1.frozen? ⟨w.heap.size, j, none⟩ = false := fun j => (World.frozen?_of_block (a := ⟨w.heap.size, j, none⟩) (b1.block w.heap.size (by simp))).trans (World.frozen?_alloc_new w _ _ j)
  have B1 : Hid (Below w.heap.size w w1) := bel_tr (bel_al _ _) b1
  have HX : Hid (w1.cell? ⟨w.heap.size, 0, none⟩ = some (.int .i64 0) ∧ w1.cell? ⟨w.heap.size, 1, none⟩ = some (.slice none 0 0) ∧ (∀ j, w1.frozen? ⟨w.heap.size, j, none⟩ = false)) := ⟨x0, x1, fx⟩
  clear x0 x1 fx b1 HR
  have C1 : Hid (Calls Tryz.prog 37 #[.func (.func 38) #[] #[.pointer (some ⟨w1.heap.size, 0, none⟩), .pointer (some ⟨w.heap.size, 0, none⟩)]] (w1.alloc (.cells #[.string b] 9)) fun e w' => e = .returned (.bool false) ∧ Below (w1.alloc (.cells #[.string b] 9)).heap.size (w1.alloc (.cells #[.string b] 9)) w') :=
    tried_no1 _ _ (cl1_no b HBM.out HE.out (bel_cell (bel_al _ _) (World.cell?_alloc_new w1 _ _ 0)))
  go_wp2_with (go_at_call 37; refine C1.out.mono ?_; rintro e w2 ⟨rfl, b2⟩; have bb := bel_tr (bel_al w1 (.cells #[.string b] 9)) b2; have y0 := bel_cell bb HX.out.1; have y1 := bel_cell bb HX.out.2.1; have hlt : w.heap.size < w1.heap.size := World.block_lt_of_cell? _ _ HX.out.1; have f0 := (World.frozen?_of_block (a := ⟨w.heap.size, 0, none⟩) (bb.block w.heap.size hlt)).trans (HX.out.2.2 0); have f1 := (World.frozen?_of_block (a := ⟨w.heap.size, 1, none⟩) (bb.block w.heap.size hlt)).trans (HX.out.2.2 1); have B2 : Hid (Below w.heap.size w w2) := bel_tr B1.out bb; clear b2 bb)
  obtain ⟨z0, z1⟩ := two_set (u' := .int .i64 0) (v' := .slice none 0 0) y0 y1
  refine bodyPost_ret (v := .tuple #[.agg #[.int .i64 0, .slice none 0 0], .bool false, .int .i64 2]) ?_ rfl ⟨rfl, Below.setCell (Below.setCell B2.out (Nat.le_refl _) _) (Nat.le_refl _) _⟩
  simp only [results, Tryz.results16]
  simp [go_sem, z0, z1]

/-! ### torn files -/
theorem numB_neg : Wir.numB (-1) = [1] := by
  have hz : Lib.zigzag (-1) = 1 := by decide
  unfold Wir.numB
  rw [hz]
  unfold Lib.uvarint
  simp
theorem takeT_neg (j : ByteArray) : Wir.takeT ((⟨#[1]⟩ : ByteArray) ++ j) = none := by
  cases hC : Wir.takeC 4000 ((⟨#[1]⟩ : ByteArray) ++ j) with
  | none => unfold Wir.takeT; rw [hC]
  | some p =>
    obtain ⟨n, r⟩ := p
    obtain ⟨z, k, h1, h2, _⟩ := Wir.takeC_yes hC
    have e : ((⟨#[1]⟩ : ByteArray) ++ j).data.toList = Wir.numB (-1) ++ j.data.toList := by rw [Wir.app_list, numB_neg]
    rw [e, Wir.take_num (-1) _ (by omega) (by omega)] at h1
    simp only [Option.some.injEq, Prod.mk.injEq] at h1
    rw [← h1.1, Wir.unzig_zig] at h2
    omega
theorem open_neg (j : ByteArray) : Smm.openT ((⟨#[1]⟩ : ByteArray) ++ j) = (⟨#[]⟩, ⟨#[]⟩, 2) := by
  rcases Smm.openT_cases ((⟨#[1]⟩ : ByteArray) ++ j) with ⟨_, h⟩ | ⟨t, r, hT, _⟩
  · exact h
  · rw [takeT_neg] at hT; cases hT
theorem parse_junk {l : Lg} (h : RtL l) (j : ByteArray) : parseL (encL l ++ ((⟨#[1]⟩ : ByteArray) ++ j)) = some (l, (⟨#[1]⟩ : ByteArray) ++ j) := by
  have hN : ∀ i, entryP ((⟨#[1]⟩ : ByteArray) ++ j) i = none := fun i => entryP_none (takeP_none (open_neg j) (by omega))
  rw [parse_back h, goL_stop hN]
theorem epoch_cut (ep : Int) (k : Nat) (hk : k < (Smm.sealB (numT ep)).size) : epochP ((Smm.sealB (numT ep)).extract 0 k) = none := by
  unfold epochP
  rw [takeP_none (Smm.open_cut (numT ep) k hk) (by omega)]
theorem encE_six (x : En) : 6 ≤ (encE x).size := by
  unfold encE
  rw [Smm.sealB_size]
  have h1 := Wir.numB_pos ((numT x.tx ++ x.d).size : Int)
  have h2 : 1 ≤ (numT x.tx ++ x.d).size := by
    rw [Wir.app_size]
    have := Wir.numB_pos x.tx
    unfold numT
    rw [Wir.mk_size]
    omega
  omega
theorem head_five (ep : Int) : 5 < (Smm.sealB (numT ep)).size := by
  rw [Smm.sealB_size]
  have h1 := Wir.numB_pos ((numT ep).size : Int)
  have h2 := Wir.numB_pos ep
  have h3 : (numT ep).size = (Wir.numB ep).length := by unfold numT; rw [Wir.mk_size]
  omega
theorem cut_app (a b : ByteArray) (k : Nat) (h : k ≤ b.size) : (a ++ b).extract 0 (a.size + k) = a ++ b.extract 0 k := by
  apply bytes_inj
  rw [Wir.cut_list, Wir.app_list, Wir.app_list, Wir.cut_list]
  have hl : a.data.toList.length = a.size := Wir.size_list a
  rw [← hl, List.take_length_add_append]

/-- What a file that lacks c bytes at its end tells. -/
theorem torn_out {l : Lg} (h : RtL l) (c : Nat) (hc : c < 5) :
    (c = 0 ∧ parseL ((encL l).extract 0 ((encL l).size - c)) = some (l, ⟨#[]⟩)) ∨ (0 < c ∧ l.es = [] ∧ epochP ((encL l).extract 0 ((encL l).size - c)) = none) ∨
      (0 < c ∧ 0 < l.es.length ∧ ∃ R, parseL ((encL l).extract 0 ((encL l).size - c)) = some (⟨l.ep, l.es.take (l.es.length - 1)⟩, R) ∧ 0 < R.size) := by
  have hall : (encL l).extract 0 (encL l).size = encL l := by
    apply bytes_inj
    rw [Wir.cut_list, List.take_of_length_le (by rw [Wir.size_list]; exact Nat.le_refl _)]
  rcases Nat.eq_zero_or_pos c with h0 | h0
  · subst h0
    exact .inl ⟨rfl, by rw [Nat.sub_zero, hall]; exact parse_whole h⟩
  · rcases Nat.eq_zero_or_pos l.es.length with h1 | h1
    · have h2 : l.es = [] := List.length_eq_zero_iff.1 h1
      refine .inr (.inl ⟨h0, h2, ?_⟩)
      have e : encL l = Smm.sealB (numT l.ep) := by unfold encL; rw [h2]; exact app_empty _
      have h5 := head_five l.ep
      rw [e]
      exact epoch_cut _ _ (by omega)
    · refine .inr (.inr ⟨h0, h1, ?_⟩)
      obtain ⟨m, hm⟩ : ∃ m, l.es.length = m + 1 := ⟨l.es.length - 1, by omega⟩
      have hlt : m < l.es.length := by omega
      have hes : l.es = l.es.take m ++ [l.es[m]] := by
        rw [← List.take_succ_eq_append_getElem hlt, List.take_of_length_le (by omega)]
      have e : encL l = encL ⟨l.ep, l.es.take m⟩ ++ encE l.es[m] := by
        have h9 := encL_snoc l.ep (l.es.take m) l.es[m]
        rw [← hes] at h9
        exact h9
      have h6 := encE_six l.es[m]
      have hR : RtL ⟨l.ep, l.es.take m⟩ := by
        refine ⟨h.1, by have := h.2.1; simp; omega, fun i hi => ?_⟩
        simp only [List.length_take] at hi
        simp only [List.getElem_take]
        exact h.2.2 i (by omega)
      have hsz : (encL l).size - c = (encL ⟨l.ep, l.es.take m⟩).size + ((encE l.es[m]).size - c) := by rw [e, Wir.app_size]; omega
      refine ⟨(encE l.es[m]).extract 0 ((encE l.es[m]).size - c), ?_, by rw [ByteArray.size_extract]; omega⟩
      rw [hsz]
      conv => lhs; rw [e]
      rw [cut_app _ _ _ (by omega), parse_torn hR l.es[m] _ (by omega)]
      rw [hm]
      rfl

end Go.Proofs.YtefncpgemdgbbaaGreat.Lgg
