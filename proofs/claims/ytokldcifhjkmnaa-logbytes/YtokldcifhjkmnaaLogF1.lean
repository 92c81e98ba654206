/- The contracts of log's small functions, and of Right. -/
import Derived.Test.YtokldcifhjkmnaaLogR
import Derived.Deep.RegionHeld3
namespace Go.Proofs.Ytokldcifhjkmnaa.Lgg
open Go.RowKit Go.Proofs.Ytokldcifhjkmnaa
open Go.Proofs.Ytokldcifhjkmnaa.Wir (numB takeZ takeNumV num_val)
open Go.Proofs.Ytokldcifhjkmnaa.Smm (sealB openT seal_yes open_any)
set_option linter.unusedVariables false

def nmOk (s : ByteArray) : Bool := decide (1 ≤ s.size) && decide (s.size ≤ 16)
theorem mk_nm (s : ByteArray) : nmOk s = true ↔ 1 ≤ s.size ∧ s.size ≤ 16 := by unfold nmOk; simp

set_option maxRecDepth 100000 in
theorem mayBeEpoch_val (n : Int) (v : Bool) (w : World) (hv : epOk n = v) : Calls Try.prog 32 #[.int .i64 n] w fun e w' => e = .returned (.bool v) ∧ w' = w := by
  subst hv
  unfold epOk maxN
  by_cases h : 0 ≤ n
  · have h1 : decide (0 ≤ n) = true := decide_eq_true h
    rw [h1, Bool.true_and]
    go_enter Try.func32, Try.ntmps32
    go_wp2
    go_ret
    exact ⟨rfl, rfl⟩
  · have h1 : decide (0 ≤ n) = false := decide_eq_false h
    rw [h1, Bool.false_and]
    go_enter Try.func32, Try.ntmps32
    go_wp2
    go_ret
    exact ⟨rfl, rfl⟩
set_option maxRecDepth 100000 in
theorem mayBeData_val (s : ByteArray) (v : Bool) (w : World) (hs : s.size ≤ maxLen) (hv : decide (s.size ≤ 600) = v) : Calls Try.prog 33 #[.string s] w fun e w' => e = .returned (.bool v) ∧ w' = w := by
  unfold maxLen at hs
  have hv2 : decide ((s.size : Int) ≤ 600) = v := by rw [← hv]; exact decide_eq_decide.2 (by omega)
  clear hv
  go_enter Try.func33, Try.ntmps33
  go_wp2
  go_ret
  exact ⟨rfl, rfl⟩
set_option maxRecDepth 100000 in
theorem mayBeName_val (s : ByteArray) (v : Bool) (w : World) (hs : s.size ≤ maxLen) (hv : nmOk s = v) : Calls Try.prog 50 #[.string s] w fun e w' => e = .returned (.bool v) ∧ w' = w := by
  unfold maxLen at hs
  unfold nmOk at hv
  obtain ⟨z, hz⟩ : ∃ z : Int, (s.size : Int) = z := ⟨_, rfl⟩
  have e1 : decide (1 ≤ s.size) = decide (1 ≤ z) := decide_eq_decide.2 (by omega)
  have e2 : decide (s.size ≤ 16) = decide (z ≤ 16) := decide_eq_decide.2 (by omega)
  rw [e1, e2] at hv
  subst hv
  by_cases h : 1 ≤ z
  · have h1 : decide (1 ≤ z) = true := decide_eq_true h
    rw [h1, Bool.true_and]
    go_enter Try.func50, Try.ntmps50
    go_wp2
    go_ret
    exact ⟨by first | rfl | (simp; omega), rfl⟩
  · have h1 : decide (1 ≤ z) = false := decide_eq_false h
    rw [h1, Bool.false_and]
    go_enter Try.func50, Try.ntmps50
    go_wp2
    go_ret
    exact ⟨by first | rfl | (simp; omega), rfl⟩
set_option maxRecDepth 100000 in
theorem sealed_val (s : ByteArray) (w : World) (hs : s.size ≤ 4000) : Calls Try.prog 26 #[.string s] w fun e w' => e = .returned (.string (sealB s)) ∧ Below w.heap.size w w' := by
  go_enter Try.func26, Try.ntmps26
  go_wp2_with fail
  refine (seal_yes s _ hs).mono ?_
  rintro e w1 ⟨rfl, b1⟩
  go_wp2
  go_ret
  exact ⟨rfl, b1⟩
theorem kb1 {w w' : World} (h : Below w.drew.heap.size w.drew w') : Below w.heap.size w w' := ⟨h.os, h.tape, h.output, h.size, h.block⟩
theorem kb2 {w w' : World} (h : Below w.heap.size w w') : Below w.heap.size w w' := h
theorem kb3 {w w1 w' : World} (h : Below w.heap.size w w1) (k : Below w1.drew.heap.size w1.drew w') : Below w.heap.size w w' := bel_tr h (kb1 k)
theorem cells2 (w : World) (u v : Value) (t : TypeId) : (w.alloc (.cells #[u, v] t)).cell? ⟨w.heap.size, 0, none⟩ = some u ∧ (w.alloc (.cells #[u, v] t)).cell? ⟨w.heap.size, 1, none⟩ = some v ∧ (w.alloc (.cells #[u, v] t)).frozen? ⟨w.heap.size, 0, none⟩ = false ∧ (w.alloc (.cells #[u, v] t)).frozen? ⟨w.heap.size, 1, none⟩ = false :=
  ⟨World.cell?_alloc_new w _ _ 0, World.cell?_alloc_new w _ _ 1, World.frozen?_alloc_new w _ _ 0, World.frozen?_alloc_new w _ _ 1⟩

set_option maxRecDepth 100000 in
theorem entryBytes_val (x : En) (w : World) (h0 : -9223372036854775808 ≤ x.tx) (h1 : x.tx ≤ 9223372036854775807) (hd : x.d.size ≤ 600) : Calls Try.prog 28 #[.agg #[.int .i64 x.tx, .string x.d]] w fun e w' => e = .returned (.string (encE x)) ∧ Below w.heap.size w w' := by
  have hz := numT_size h0 h1
  obtain ⟨tx, d⟩ := x
  simp only at h0 h1 hd hz ⊢
  have ha := fun (w : World) => run_string_add_sum (P := Try.prog) w (numT tx) d (by omega)
  have hm : (numT tx ++ d).size ≤ 4000 := by rw [Wir.app_size]; omega
  have HS : Hid (∀ W, Calls Try.prog 26 #[.string (numT tx ++ d)] W fun e w' => e = .returned (.string (encE ⟨tx, d⟩)) ∧ Below W.heap.size W w') := fun W => sealed_val _ W hm
  have HN : Hid (∀ W, Calls Try.prog 27 #[.int .i64 tx] W fun e w' => e = .returned (.string (numT tx)) ∧ Below W.heap.size W w') := fun W => num_val tx _ W h0 h1 rfl
  clear hm hz h0 h1 hd
  obtain ⟨q0, q1, _, _⟩ := cells2 w (.int .i64 tx) (.string d) 49
  have B0 : Hid (Below w.heap.size w (w.alloc (.cells #[.int .i64 tx, .string d] 49))) := bel_al _ _
  obtain ⟨R, hR⟩ : ∃ R, w.heap.size = R := ⟨_, rfl⟩
  rw [hR] at q0 q1
  have HR : Hid (w.heap.size = R) := hR
  go_enter Try.func28, Try.ntmps28
  go_wp2_with fail
  clear hR
  generalize w.alloc (.cells #[.int .i64 tx, .string d] 49) = W1 at *
  go_region_held3 (fun w' => w'.cell? ⟨R, 0, none⟩ = some (.int .i64 tx) ∧ w'.cell? ⟨R, 1, none⟩ = some (.string d))
    (first | (refine ⟨bel_cell KB.out q0, bel_cell KB.out q1⟩; done) | go_keep)
    (first
      | (go_at_call 27; refine (HN.out _).mono ?_; rintro x w1 ⟨rfl, b1⟩; have KB : Hid (Below W1.heap.size W1 w1) := (by first | exact b1 | exact kb1 b1); clear b1)
      | (go_at_call 26; refine (HS.out _).mono ?_; rintro x w2 ⟨rfl, b2⟩; replace KB : Hid (Below W1.heap.size W1 w2) := (by first | exact bel_tr KB.out b2 | exact kb3 KB.out b2); clear b2))
  all_goals
    go_wp2
    go_ret
    exact ⟨rfl, bel_tr B0.out KB.out⟩

/-- A part that can't be read. -/
abbrev leftV : Ending := .panicked [{ v := .iface 26 (.int .i64 2), recovered := false }]
set_option maxRecDepth 100000 in
theorem need_yes (w : World) : Calls Try.prog 66 #[.bool true] w fun e w' => e = .returned (.tuple #[]) ∧ w' = w := by
  go_enter Try.func66, Try.ntmps66
  go_wp2
  first | go_end0 | refine bodyPost_ret (results_none rfl _ _ _) rfl ?_
  exact ⟨rfl, rfl⟩
set_option maxRecDepth 100000 in
theorem need_no (w : World) : Calls Try.prog 66 #[.bool false] w fun e w' => e = leftV ∧ w' = w := by
  go_enter Try.func66, Try.ntmps66
  go_wp2
  exact ⟨rfl, rfl, rfl⟩

end Go.Proofs.Ytokldcifhjkmnaa.Lgg
