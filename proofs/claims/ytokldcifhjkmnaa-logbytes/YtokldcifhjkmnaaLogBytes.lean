/- LogBytes: for every log: the statement's function returns true; nothing that was there is changed. No condition. -/
import Derived.Test.YtokldcifhjkmnaaLogX
import Derived.Test.YtokldcifhjkmnaaLogN
import Derived.Test.YtokldcifhjkmnaaLogW
import Derived.Deep.Cut
import Derived.Deep.RegionHeld3
namespace Go.Proofs.Ytokldcifhjkmnaa.logBytes
open Go.ChangeShapes Go.WideShapes Go.ChangeAt Go.RowKit Go.Proofs.Ytokldcifhjkmnaa Go.Proofs.Ytokldcifhjkmnaa.Lgg
set_option linter.unusedVariables false

theorem bel_drew (w : World) : Below w.heap.size w w.drew := (Below.refl _ w).drew
theorem own : ownKnob Try.prog.godebug = none := by kernel_rfl

/-- A call of a function with one argument, as one step of a region that draws. -/
theorem step_call {P : Program} {ops : Array Oper} {o : Oper} {a : Act} {w : World} {K : Act → World → Prop} {Q : Exit → Act → World → Prop} {E : Prop}
    (hw : Region.wanted o (yielded ops a.tmps) = true) (F : FuncId) (x : Operand) (t : TypeId) (ho : o.op = .call { callee := .value (.func F), args := #[x], argTypes := #[t] }) (arg : Value) (hx : a.eval x = arg) (eg : ∀ w, (callFunc F #[arg]).run P w = .ok (.enter F #[arg]) w)
    {R : Ending → World → Prop} (hc : Calls P F #[arg] w R) (v : Value) (hK : ∀ w', R (.returned v) w' → K (a.put o.dst v) w') (hno : ∀ e w', R e w' → e = .returned v) :
    if Region.wanted o (yielded ops a.tmps) = true then Oper.wp P o a w K Q else E := by
  rw [if_pos hw]
  have hf : a.eval (.func F) = .func (.func F) #[] #[] := rfl
  unfold Oper.wp
  simp [execOp, ho, resolve, invoke, hx, hf, Deferred.ofValue, eg, Oper.upon_enter]
  refine hc.mono fun e w' h => ?_
  have := hno e w' h
  subst this
  exact hK w' h

set_option maxRecDepth 100000 in
set_option maxHeartbeats 8000000 in
theorem core (ep : Int) (a : Option Addr) (c n : Nat) (es : List En) (w : World) (hn : es.length = n) (h : LgIn w a es) :
    Calls Try.prog 3 #[.agg #[.int .i64 ep, .slice a n c]] w fun e w' => e = .returned (.bool true) ∧ Below w.heap.size w w' := by
  obtain ⟨v, hv⟩ : ∃ v : Bool, v = true ↔ RtL ⟨ep, es⟩ := by classical exact ⟨decide (RtL ⟨ep, es⟩), decide_eq_true_iff⟩
  have CR : Hid (∀ W, Below w.heap.size w W → Calls Try.prog 11 #[.agg #[.int .i64 ep, .slice a n c]] W fun e w' => e = .returned (.bool v) ∧ Below W.heap.size W w') := fun W hb => right_val (h.row.below hb) h.small ep n c hn v hv
  have CQ : Hid (∀ W, Below w.heap.size w W → Calls Try.prog 12 #[.agg #[.int .i64 ep, .slice a n c]] W fun e w' => e = .returned (.bool v) ∧ Below W.heap.size W w') := fun W hb => refRight_val (h.row.below hb) h.small ep n c hn v hv
  have CB : ∃ (J : ByteArray) (er : Int), ((v = true ∧ er = 0) ∨ (v = false ∧ er = 1)) ∧ (∀ W, Below w.heap.size w W → Calls Try.prog 9 #[.agg #[.int .i64 ep, .slice a n c]] W fun e w' => e = .returned (.tuple #[.string J, .int .i64 er]) ∧ Below W.heap.size W w') ∧ (∀ W, Below w.heap.size w W → Calls Try.prog 10 #[.agg #[.int .i64 ep, .slice a n c]] W fun e w' => e = .returned (.tuple #[.string J, .bool v]) ∧ Below W.heap.size W w') := by
    cases v with
    | true => exact ⟨encL ⟨ep, es⟩, 0, .inl ⟨rfl, rfl⟩, fun W hb => bytes_yes (h.row.below hb) ep n c hn (hv.1 rfl) _ rfl, fun W hb => refBytes_yes (h.row.below hb) ep n c hn (hv.1 rfl) _ rfl⟩
    | false =>
      have hno : ¬ RtL ⟨ep, es⟩ := fun e => by cases hv.2 e
      exact ⟨⟨#[]⟩, 1, .inr ⟨rfl, rfl⟩, fun W hb => bytes_no (h.row.below hb) h.small ep n c hn hno, fun W hb => refBytes_no (h.row.below hb) h.small ep n c hn hno⟩
  obtain ⟨J, er, hcs, hb1, hb2⟩ := CB
  have CB1 : Hid (∀ W, Below w.heap.size w W → Calls Try.prog 9 #[.agg #[.int .i64 ep, .slice a n c]] W fun e w' => e = .returned (.tuple #[.string J, .int .i64 er]) ∧ Below W.heap.size W w') := hb1
  have CB2 : Hid (∀ W, Below w.heap.size w W → Calls Try.prog 10 #[.agg #[.int .i64 ep, .slice a n c]] W fun e w' => e = .returned (.tuple #[.string J, .bool v]) ∧ Below W.heap.size W w') := hb2
  have HCS : Hid ((v = true ∧ er = 0) ∨ (v = false ∧ er = 1)) := hcs
  have E1 : Hid (∀ w, (callFunc 11 #[.agg #[.int .i64 ep, .slice a n c]]).run Try.prog w = .ok (.enter 11 #[.agg #[.int .i64 ep, .slice a n c]]) w) := fun w => enters_of Try.func11 (by kernel_rfl) rfl _ w
  have E2 : Hid (∀ w, (callFunc 12 #[.agg #[.int .i64 ep, .slice a n c]]).run Try.prog w = .ok (.enter 12 #[.agg #[.int .i64 ep, .slice a n c]]) w) := fun w => enters_of Try.func12 (by kernel_rfl) rfl _ w
  clear hb1 hb2 hcs hn h hv
  go_enter Try.func3, Try.ntmps3
  go_wp2_with fail
  refine (examples14_val _).mono ?_
  rintro e w1 ⟨rfl, b1⟩
  have x0 := bel_cell b1 (World.cell?_alloc_new w _ _ 0)
  have x1 := bel_cell b1 (World.cell?_alloc_new w _ _ 1)
  have H1 : Hid (w1.cell? ⟨w.heap.size, 0, none⟩ = some (.int .i64 ep) ∧ w1.cell? ⟨w.heap.size, 1, none⟩ = some (.slice a n c) ∧ Below w.heap.size w w1) := ⟨x0, x1, bel_tr (bel_al _ _) b1⟩
  clear b1
  go_wp2_with fail
  refine (CB1.out _ H1.out.2.2).mono ?_
  rintro e w2 ⟨rfl, b2⟩
  have H2 : Hid (w2.cell? ⟨w.heap.size, 0, none⟩ = some (.int .i64 ep) ∧ w2.cell? ⟨w.heap.size, 1, none⟩ = some (.slice a n c) ∧ Below w.heap.size w w2) := ⟨bel_cell b2 x0, bel_cell b2 x1, bel_tr H1.out.2.2 b2⟩
  clear x0 x1 b2 H1 CB1
  have x0 := H2.out.1
  have x1 := H2.out.2.1
  go_wp2_with fail
  refine (CB2.out _ H2.out.2.2).mono ?_
  rintro e w3 ⟨rfl, b3⟩
  have H3 : Hid (w3.cell? ⟨w.heap.size, 0, none⟩ = some (.int .i64 ep) ∧ w3.cell? ⟨w.heap.size, 1, none⟩ = some (.slice a n c) ∧ Below w.heap.size w w3) := ⟨bel_cell b3 x0, bel_cell b3 x1, bel_tr H2.out.2.2 b3⟩
  clear x0 x1 b3 H2 CB2
  have q0 := H3.out.1
  have q1 := H3.out.2.1
  rcases HCS.out with ⟨rfl, rfl⟩ | ⟨rfl, rfl⟩
  · go_upto_region 4 with fail
    refine wp_region_held_drew (S := fun W => Below w3.heap.size w3 W) (by kernel_rfl) (bel_drew w3) (fun hS0 => ?_)
    refine wpAnyH_take (i := 0) (v := ?_) rfl (by kernel_rfl) (by kernel_rfl) (by kernel_rfl) (fun _ _ _ h => h) (Or.inl ⟨by kernel_rfl, ?_⟩) hS0 ?_
    rotate_left
    · intro W9 hSw; go_simp; first | done | with_reducible rfl
    refine wpAnyH_take (i := 1) (v := ?_) rfl (by kernel_rfl) (by kernel_rfl) (by kernel_rfl) (fun _ _ _ h => h) (Or.inl ⟨by kernel_rfl, ?_⟩) hS0 ?_
    rotate_left
    · intro W9 hSw; go_simp; first | done | with_reducible rfl
    refine wpAnyH_take (i := 2) (v := ?_) rfl (by kernel_rfl) (by kernel_rfl) (by kernel_rfl) (fun _ _ _ h => h) (Or.inl ⟨by kernel_rfl, ?_⟩) hS0 ?_
    rotate_left
    · intro W9 hSw; go_simp; first | done | with_reducible rfl
    refine wpAnyH_take (i := 3) (v := ?_) rfl (by kernel_rfl) (by kernel_rfl) (by kernel_rfl) (fun _ _ _ h => h) (Or.inl ⟨by kernel_rfl, ?_⟩) hS0 ?_
    rotate_left
    · intro W9 hSw; go_simp; first | done | with_reducible rfl
    refine wpAnyH_take (i := 4) (v := ?_) rfl (by kernel_rfl) (by kernel_rfl) (by kernel_rfl) (fun _ _ _ h => h) (Or.inl ⟨by kernel_rfl, ?_⟩) hS0 ?_
    rotate_left
    · intro W9 hSw; go_simp; first | done | with_reducible rfl
    refine wpAnyH_take (i := 5) (v := ?_) rfl (by kernel_rfl) (by kernel_rfl) (by kernel_rfl) (fun _ _ _ h => h) (Or.inl ⟨by kernel_rfl, ?_⟩) hS0 ?_
    rotate_left
    · intro W9 hSw; go_simp; first | done | with_reducible rfl
    refine wpAnyH_take (i := 6) (v := ?_) rfl (by kernel_rfl) (by kernel_rfl) (by kernel_rfl) (fun _ _ _ h => h) (Or.inl ⟨by kernel_rfl, ?_⟩) hS0 ?_
    rotate_left
    · intro W9 hSw; go_simp; first | done | with_reducible rfl
    refine wpAnyH_take (i := 7) (v := ?_) rfl (by kernel_rfl) (by kernel_rfl) (by kernel_rfl) (fun _ _ _ h => h) (Or.inl ⟨by kernel_rfl, ?_⟩) hS0 ?_
    rotate_left
    · intro W9 hSw; go_simp; first | done | with_reducible rfl
    refine wpAnyH_take (i := 8) (v := ?_) rfl (by kernel_rfl) (by kernel_rfl) (by kernel_rfl) (fun _ _ _ h => h) (Or.inl ⟨by kernel_rfl, ?_⟩) hS0 ?_
    rotate_left
    · intro W9 hSw; go_simp; first | done | with_reducible rfl
    refine wpAnyH_take (i := 9) (v := ?_) rfl (by kernel_rfl) (by kernel_rfl) (by kernel_rfl) (fun _ _ _ h => h) (Or.inl ⟨by kernel_rfl, ?_⟩) hS0 ?_
    rotate_left
    · intro W9 hSw; go_simp; first | done | with_reducible rfl
    refine wpAnyH_take (i := 10) (v := ?_) rfl (by kernel_rfl) (by kernel_rfl) (by kernel_rfl) (fun _ _ _ h => h) (Or.inl ⟨by kernel_rfl, ?_⟩) hS0 ?_
    rotate_left
    · intro W9 hSw; go_simp; first | done | with_reducible rfl
    refine wpAnyH_take (i := 11) (v := ?_) rfl (by kernel_rfl) (by kernel_rfl) (by kernel_rfl) (fun _ _ _ h => h) (Or.inl ⟨by kernel_rfl, ?_⟩) hS0 ?_
    rotate_left
    · intro W9 hSw; go_simp; first | done | with_reducible rfl
    refine wpAnyH_take (i := 12) (v := ?_) rfl (by kernel_rfl) (by kernel_rfl) (by kernel_rfl) (fun _ _ _ h => h) (Or.inl ⟨by kernel_rfl, ?_⟩) hS0 ?_
    rotate_left
    · intro W9 hSw; go_simp; first | done | with_reducible rfl
    refine wpAnyH_take (i := 13) (v := undef) rfl (by kernel_rfl) (by kernel_rfl) (by kernel_rfl) (fun _ _ _ h => h) (Or.inr ⟨by kernel_rfl, rfl⟩) hS0 ?_
    refine wpAnyH_take (i := 14) (v := undef) rfl (by kernel_rfl) (by kernel_rfl) (by kernel_rfl) (fun _ _ _ h => h) (Or.inr ⟨by kernel_rfl, rfl⟩) hS0 ?_
    refine wpAnyH_take (i := 15) (v := undef) rfl (by kernel_rfl) (by kernel_rfl) (by kernel_rfl) (fun _ _ _ h => h) (Or.inr ⟨by kernel_rfl, rfl⟩) hS0 ?_
    refine wpAnyH_take (i := 16) (v := undef) rfl (by kernel_rfl) (by kernel_rfl) (by kernel_rfl) (fun _ _ _ h => h) (Or.inr ⟨by kernel_rfl, rfl⟩) hS0 ?_
    refine wpAnyH_take (i := 17) (v := undef) rfl (by kernel_rfl) (by kernel_rfl) (by kernel_rfl) (fun _ _ _ h => h) (Or.inr ⟨by kernel_rfl, rfl⟩) hS0 ?_
    refine wpAnyH_take (i := 18) (v := undef) rfl (by kernel_rfl) (by kernel_rfl) (by kernel_rfl) (fun _ _ _ h => h) (Or.inr ⟨by kernel_rfl, rfl⟩) hS0 ?_
    refine wpAnyH_take (i := 19) (v := ?_) rfl (by kernel_rfl) (by kernel_rfl) (by kernel_rfl) (fun _ _ _ h => h) (Or.inl ⟨by kernel_rfl, ?_⟩) hS0 ?_
    rotate_left
    · intro W9 hSw; go_simp; first | done | with_reducible rfl
    refine wpAnyH_take (i := 20) (v := ?_) rfl (by kernel_rfl) (by kernel_rfl) (by kernel_rfl) (fun _ _ _ h => h) (Or.inl ⟨by kernel_rfl, ?_⟩) hS0 ?_
    rotate_left
    · intro W9 hSw; go_simp; first | done | with_reducible rfl
    refine wpAnyH_take (i := 21) (v := ?_) rfl (by kernel_rfl) (by kernel_rfl) (by kernel_rfl) (fun _ _ _ h => h) (Or.inl ⟨by kernel_rfl, ?_⟩) hS0 ?_
    rotate_left
    · intro W9 hSw; go_simp; first | done | with_reducible rfl
    refine wpAnyH_take (i := 22) (v := ?_) rfl (by kernel_rfl) (by kernel_rfl) (by kernel_rfl) (fun _ _ _ h => h) (Or.inl ⟨by kernel_rfl, ?_⟩) hS0 ?_
    rotate_left
    · intro W9 hSw; have d0 := bel_cell hSw q0; have d1 := bel_cell hSw q1; go_simp; first | done | with_reducible rfl
    refine wpAnyH_take (i := 24) (v := ?_) rfl (by kernel_rfl) (by kernel_rfl) (by kernel_rfl) (fun _ _ _ h => h) (Or.inl ⟨by kernel_rfl, ?_⟩) hS0 ?_
    rotate_left
    · intro W9 hSw; have d0 := bel_cell hSw q0; have d1 := bel_cell hSw q1; go_simp; first | done | with_reducible rfl
    refine wpAnyH_ready (rs := [23]) (by kernel_rfl) (by simp) ?_
    refine AllReadyH.cons rfl (fun K hK => ?_) ?_
    · go_simp
      refine (CR.out _ (bel_tr H3.out.2.2 hS0)).mono ?_
      rintro e w4 ⟨rfl, cN⟩
      try go_simp
      refine hK.out _ _ (bel_tr hS0 cN) (fun hS1 => ?_)
      clear hK K cN
      refine wpAnyH_ready (rs := [25]) (by kernel_rfl) (by simp) ?_
      refine AllReadyH.cons rfl (fun K hK => ?_) ?_
      · go_simp
        refine (CQ.out _ (bel_tr H3.out.2.2 hS1)).mono ?_
        rintro e w5 ⟨rfl, cN⟩
        try go_simp
        refine hK.out _ _ (bel_tr hS1 cN) (fun hS2 => ?_)
        clear hK K cN
        refine wpAnyH_take (i := 26) (v := ?_) rfl (by kernel_rfl) (by kernel_rfl) (by kernel_rfl) (fun _ _ _ h => h) (Or.inl ⟨by kernel_rfl, ?_⟩) hS2 ?_
        rotate_left
        · intro W9 hSw; go_simp; first | done | with_reducible rfl
        refine wpAnyH_take (i := 27) (v := ?_) rfl (by kernel_rfl) (by kernel_rfl) (by kernel_rfl) (fun _ _ _ h => h) (Or.inl ⟨by kernel_rfl, ?_⟩) hS2 ?_
        rotate_left
        · intro W9 hSw; go_simp; first | done | with_reducible rfl
        refine wpAnyH_take (i := 28) (v := ?_) rfl (by kernel_rfl) (by kernel_rfl) (by kernel_rfl) (fun _ _ _ h => h) (Or.inl ⟨by kernel_rfl, ?_⟩) hS2 ?_
        rotate_left
        · intro W9 hSw; go_simp; first | done | with_reducible rfl
        refine wpAnyH_done (by kernel_rfl) ?_ _
        go_wp2
        go_ret
        exact ⟨by first | rfl | simp, bel_tr H3.out.2.2 hS2⟩
      exact AllReadyH.nil
    exact AllReadyH.nil
  · go_upto_region 4 with fail
    refine wp_region_held_drew (S := fun W => Below w3.heap.size w3 W) (by kernel_rfl) (bel_drew w3) (fun hS0 => ?_)
    refine wpAnyH_take (i := 0) (v := ?_) rfl (by kernel_rfl) (by kernel_rfl) (by kernel_rfl) (fun _ _ _ h => h) (Or.inl ⟨by kernel_rfl, ?_⟩) hS0 ?_
    rotate_left
    · intro W9 hSw; go_simp; first | done | with_reducible rfl
    refine wpAnyH_take (i := 1) (v := ?_) rfl (by kernel_rfl) (by kernel_rfl) (by kernel_rfl) (fun _ _ _ h => h) (Or.inl ⟨by kernel_rfl, ?_⟩) hS0 ?_
    rotate_left
    · intro W9 hSw; go_simp; first | done | with_reducible rfl
    refine wpAnyH_take (i := 2) (v := ?_) rfl (by kernel_rfl) (by kernel_rfl) (by kernel_rfl) (fun _ _ _ h => h) (Or.inl ⟨by kernel_rfl, ?_⟩) hS0 ?_
    rotate_left
    · intro W9 hSw; go_simp; first | done | with_reducible rfl
    refine wpAnyH_take (i := 3) (v := ?_) rfl (by kernel_rfl) (by kernel_rfl) (by kernel_rfl) (fun _ _ _ h => h) (Or.inl ⟨by kernel_rfl, ?_⟩) hS0 ?_
    rotate_left
    · intro W9 hSw; go_simp; first | done | with_reducible rfl
    refine wpAnyH_take (i := 4) (v := ?_) rfl (by kernel_rfl) (by kernel_rfl) (by kernel_rfl) (fun _ _ _ h => h) (Or.inl ⟨by kernel_rfl, ?_⟩) hS0 ?_
    rotate_left
    · intro W9 hSw; go_simp; first | done | with_reducible rfl
    refine wpAnyH_take (i := 5) (v := ?_) rfl (by kernel_rfl) (by kernel_rfl) (by kernel_rfl) (fun _ _ _ h => h) (Or.inl ⟨by kernel_rfl, ?_⟩) hS0 ?_
    rotate_left
    · intro W9 hSw; go_simp; first | done | with_reducible rfl
    refine wpAnyH_take (i := 6) (v := ?_) rfl (by kernel_rfl) (by kernel_rfl) (by kernel_rfl) (fun _ _ _ h => h) (Or.inl ⟨by kernel_rfl, ?_⟩) hS0 ?_
    rotate_left
    · intro W9 hSw; go_simp; first | done | with_reducible rfl
    refine wpAnyH_take (i := 7) (v := ?_) rfl (by kernel_rfl) (by kernel_rfl) (by kernel_rfl) (fun _ _ _ h => h) (Or.inl ⟨by kernel_rfl, ?_⟩) hS0 ?_
    rotate_left
    · intro W9 hSw; go_simp; first | done | with_reducible rfl
    refine wpAnyH_take (i := 8) (v := ?_) rfl (by kernel_rfl) (by kernel_rfl) (by kernel_rfl) (fun _ _ _ h => h) (Or.inl ⟨by kernel_rfl, ?_⟩) hS0 ?_
    rotate_left
    · intro W9 hSw; go_simp; first | done | with_reducible rfl
    refine wpAnyH_take (i := 9) (v := undef) rfl (by kernel_rfl) (by kernel_rfl) (by kernel_rfl) (fun _ _ _ h => h) (Or.inr ⟨by kernel_rfl, rfl⟩) hS0 ?_
    refine wpAnyH_take (i := 10) (v := undef) rfl (by kernel_rfl) (by kernel_rfl) (by kernel_rfl) (fun _ _ _ h => h) (Or.inr ⟨by kernel_rfl, rfl⟩) hS0 ?_
    refine wpAnyH_take (i := 11) (v := ?_) rfl (by kernel_rfl) (by kernel_rfl) (by kernel_rfl) (fun _ _ _ h => h) (Or.inl ⟨by kernel_rfl, ?_⟩) hS0 ?_
    rotate_left
    · intro W9 hSw; go_simp; first | done | with_reducible rfl
    refine wpAnyH_take (i := 12) (v := ?_) rfl (by kernel_rfl) (by kernel_rfl) (by kernel_rfl) (fun _ _ _ h => h) (Or.inl ⟨by kernel_rfl, ?_⟩) hS0 ?_
    rotate_left
    · intro W9 hSw; go_simp; first | done | with_reducible rfl
    refine wpAnyH_take (i := 13) (v := ?_) rfl (by kernel_rfl) (by kernel_rfl) (by kernel_rfl) (fun _ _ _ h => h) (Or.inl ⟨by kernel_rfl, ?_⟩) hS0 ?_
    rotate_left
    · intro W9 hSw; go_simp; first | done | with_reducible rfl
    refine wpAnyH_take (i := 14) (v := ?_) rfl (by kernel_rfl) (by kernel_rfl) (by kernel_rfl) (fun _ _ _ h => h) (Or.inl ⟨by kernel_rfl, ?_⟩) hS0 ?_
    rotate_left
    · intro W9 hSw; go_simp; first | done | with_reducible rfl
    refine wpAnyH_take (i := 15) (v := ?_) rfl (by kernel_rfl) (by kernel_rfl) (by kernel_rfl) (fun _ _ _ h => h) (Or.inl ⟨by kernel_rfl, ?_⟩) hS0 ?_
    rotate_left
    · intro W9 hSw; go_simp; first | done | with_reducible rfl
    refine wpAnyH_take (i := 16) (v := ?_) rfl (by kernel_rfl) (by kernel_rfl) (by kernel_rfl) (fun _ _ _ h => h) (Or.inl ⟨by kernel_rfl, ?_⟩) hS0 ?_
    rotate_left
    · intro W9 hSw; go_simp; first | done | with_reducible rfl
    refine wpAnyH_take (i := 17) (v := ?_) rfl (by kernel_rfl) (by kernel_rfl) (by kernel_rfl) (fun _ _ _ h => h) (Or.inl ⟨by kernel_rfl, ?_⟩) hS0 ?_
    rotate_left
    · intro W9 hSw; go_simp; first | done | with_reducible rfl
    refine wpAnyH_take (i := 18) (v := ?_) rfl (by kernel_rfl) (by kernel_rfl) (by kernel_rfl) (fun _ _ _ h => h) (Or.inl ⟨by kernel_rfl, ?_⟩) hS0 ?_
    rotate_left
    · intro W9 hSw; go_simp; first | done | with_reducible rfl
    refine wpAnyH_take (i := 19) (v := ?_) rfl (by kernel_rfl) (by kernel_rfl) (by kernel_rfl) (fun _ _ _ h => h) (Or.inl ⟨by kernel_rfl, ?_⟩) hS0 ?_
    rotate_left
    · intro W9 hSw; go_simp; first | done | with_reducible rfl
    refine wpAnyH_take (i := 20) (v := ?_) rfl (by kernel_rfl) (by kernel_rfl) (by kernel_rfl) (fun _ _ _ h => h) (Or.inl ⟨by kernel_rfl, ?_⟩) hS0 ?_
    rotate_left
    · intro W9 hSw; go_simp; first | done | with_reducible rfl
    refine wpAnyH_take (i := 21) (v := ?_) rfl (by kernel_rfl) (by kernel_rfl) (by kernel_rfl) (fun _ _ _ h => h) (Or.inl ⟨by kernel_rfl, ?_⟩) hS0 ?_
    rotate_left
    · intro W9 hSw; go_simp; first | done | with_reducible rfl
    refine wpAnyH_take (i := 22) (v := ?_) rfl (by kernel_rfl) (by kernel_rfl) (by kernel_rfl) (fun _ _ _ h => h) (Or.inl ⟨by kernel_rfl, ?_⟩) hS0 ?_
    rotate_left
    · intro W9 hSw; have d0 := bel_cell hSw q0; have d1 := bel_cell hSw q1; go_simp; first | done | with_reducible rfl
    refine wpAnyH_take (i := 24) (v := ?_) rfl (by kernel_rfl) (by kernel_rfl) (by kernel_rfl) (fun _ _ _ h => h) (Or.inl ⟨by kernel_rfl, ?_⟩) hS0 ?_
    rotate_left
    · intro W9 hSw; have d0 := bel_cell hSw q0; have d1 := bel_cell hSw q1; go_simp; first | done | with_reducible rfl
    refine wpAnyH_ready (rs := [23]) (by kernel_rfl) (by simp) ?_
    refine AllReadyH.cons rfl (fun K hK => ?_) ?_
    · go_simp
      refine (CR.out _ (bel_tr H3.out.2.2 hS0)).mono ?_
      rintro e w4 ⟨rfl, cN⟩
      try go_simp
      refine hK.out _ _ (bel_tr hS0 cN) (fun hS1 => ?_)
      clear hK K cN
      refine wpAnyH_ready (rs := [25]) (by kernel_rfl) (by simp) ?_
      refine AllReadyH.cons rfl (fun K hK => ?_) ?_
      · go_simp
        refine (CQ.out _ (bel_tr H3.out.2.2 hS1)).mono ?_
        rintro e w5 ⟨rfl, cN⟩
        try go_simp
        refine hK.out _ _ (bel_tr hS1 cN) (fun hS2 => ?_)
        clear hK K cN
        refine wpAnyH_take (i := 26) (v := ?_) rfl (by kernel_rfl) (by kernel_rfl) (by kernel_rfl) (fun _ _ _ h => h) (Or.inl ⟨by kernel_rfl, ?_⟩) hS2 ?_
        rotate_left
        · intro W9 hSw; go_simp; first | done | with_reducible rfl
        refine wpAnyH_take (i := 27) (v := ?_) rfl (by kernel_rfl) (by kernel_rfl) (by kernel_rfl) (fun _ _ _ h => h) (Or.inl ⟨by kernel_rfl, ?_⟩) hS2 ?_
        rotate_left
        · intro W9 hSw; go_simp; first | done | with_reducible rfl
        refine wpAnyH_take (i := 28) (v := ?_) rfl (by kernel_rfl) (by kernel_rfl) (by kernel_rfl) (fun _ _ _ h => h) (Or.inl ⟨by kernel_rfl, ?_⟩) hS2 ?_
        rotate_left
        · intro W9 hSw; go_simp; first | done | with_reducible rfl
        refine wpAnyH_done (by kernel_rfl) ?_ _
        go_wp2
        go_ret
        exact ⟨by first | rfl | simp, bel_tr H3.out.2.2 hS2⟩
      exact AllReadyH.nil
    exact AllReadyH.nil

theorem walk (e0 : Int) (a0 : Option Addr) (m0 : Nat) (c0 : List En) (W : World) (w0 : LgIn W a0 c0) :
    Calls Try.prog 3 #[.agg #[.int .i64 e0, .slice a0 c0.length m0]] W fun e w' => e = .returned (.bool true) ∧ Below W.heap.size W w' := core e0 a0 m0 c0.length c0 W rfl w0

set_option maxRecDepth 100000 in
theorem lifted (os : Os) (started : os.Started) (H : Type) (enc : TypeId × Value → H) :
    ReturnsInHanded {} Try.checked os 3 .any (Rows.logBytesSpec.pre6 enc Try.prog Try.f3 Rows.logBytesRow.domain false) (Rows.logBytesSpec.post enc Try.prog Try.f3 false true false false) := by
  refine returnsInHanded_of_change (C := Try.checked) own started (by kernel_rfl) Try.func3
    (ChangeSpec.witness6 (enc := enc) (C := Try.checked) false ⟨#[], #[.agg #[.int .i64 0, .slice none 0 0]], []⟩ 8 (by kernel_rfl) (by kernel_rfl) (by kernel_rfl) (by kernel_rfl)) ?_
  intro W base args ds gs before hval0 hW hcnd _
  have hval : ∀ (j : Nat) t v, Try.f3.params[j]? = some t → args[j]? = some v → Value.okWide Try.prog W .any base t v := hval0
  have hW' := hW
  obtain ⟨p, q, hA0, hV, rfl, hfz, hnd⟩ := hW
  have hA : DataW.TrodAll enc Try.prog W 0 (fun _ => true) true Try.f3.params.toList args.toList ds p := hA0
  rw [Try.params3] at hA hval
  obtain ⟨v0, vs0, d0, ds0, p0, q0, hargs, rfl, rfl, h0, r0⟩ := trodAll_cons hA
  obtain ⟨rfl, rfl, rfl⟩ := trodAll_nil r0
  obtain rfl : args = #[v0] := by cases args; simp_all
  obtain ⟨rfl, rfl⟩ := trodVars_none hV
  have k0 := h0
  have lt0 : ∀ x ∈ p0, x.block < W.heap.size := by obtain ⟨m, hm⟩ := k0; exact DataW.trod_lt m _ _ _ hm
  obtain ⟨e0, a0, m0, c0, rfl, w0⟩ := Lgg.open_log (hval 0 24 v0 rfl rfl) h0
  clear hA0 hval0
  refine (walk e0 a0 m0 c0 W w0).mono fun e W' ⟨he, bel⟩ => ?_
  subst he
  exact ⟨_, rfl, _, _, _, [], _, [], hW', trodAll_mk1 (shut_bool Try.underlying4 _), (trodAll_cons_mk (Below.trod laidOut (by kernel_rfl) (of_decide_eq_true (by kernel_rfl)) k0 bel lt0) trodAll_mk0), rfl, bel.frame _, fun h => by cases h⟩

theorem over : Rows.logBytesRow.holds Try.pinned (OpenSpec.ofChange Rows.logBytesSpec) :=
  OpenClaim.holds_of_wide 3 Try.f3 rfl rfl rfl rfl rfl rfl rfl ⟨rfl, rfl, rfl, rfl, rfl⟩ rfl rfl rfl rfl rfl (by kernel_rfl) Try.func3 (by kernel_rfl)
    (of_decide_eq_true (by kernel_rfl)) (by unfold Func.isWrapper; first | (rw [if_pos (by decide +kernel)]; kernel_rfl) | (rw [if_neg (by decide +kernel)]; exact ⟨rfl, rfl⟩))
    (fun os started H enc _ => lifted os started H enc)
end Go.Proofs.Ytokldcifhjkmnaa.logBytes

namespace Go.Proofs.Ytokldcifhjkmnaa
/-- The statement. -/
theorem logBytes_holds : Rows.LogBytesSaid := logBytes.over
#print axioms logBytes_holds
end Go.Proofs.Ytokldcifhjkmnaa
